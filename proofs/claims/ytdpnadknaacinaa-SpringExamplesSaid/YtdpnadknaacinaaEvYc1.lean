/-
  A piece of a closed run, reckoned by the kernel.
  Conditions: none.
-/
import Derived.Test.YtdpnadknaacinaaEvYa
namespace Go.Proofs.Ytdpnadknaacinaa
open Go.Ev
set_option linter.unusedVariables false
set_option maxRecDepth 1000000

theorem ex_p1 : Go.Ev.step Try.prog tab 40 7 ex12 ex24 = true := by kernel_rfl
end Go.Proofs.Ytdpnadknaacinaa
