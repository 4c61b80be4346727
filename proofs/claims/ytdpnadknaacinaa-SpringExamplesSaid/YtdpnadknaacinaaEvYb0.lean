/-
  A piece of a closed run, reckoned by the kernel.
  Conditions: none.
-/
import Derived.Test.YtdpnadknaacinaaEvYa
namespace Go.Proofs.Ytdpnadknaacinaa
open Go.Ev
set_option linter.unusedVariables false
set_option maxRecDepth 1000000

theorem al_p0 : Go.Ev.step Try.prog [] 40 54 st0 al5 = true := by kernel_rfl
end Go.Proofs.Ytdpnadknaacinaa
