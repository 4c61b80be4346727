/-
  SpringExamples: the law returns true, in whatever world.
  Conditions: none.
-/
import Derived.Test.YtdpnadknaacinaaEvYb0
import Derived.Test.YtdpnadknaacinaaEvYb1
import Derived.Test.YtdpnadknaacinaaEvYb2
import Derived.Test.YtdpnadknaacinaaEvYb3
import Derived.Test.YtdpnadknaacinaaEvYb4
import Derived.Test.YtdpnadknaacinaaEvYc0
import Derived.Test.YtdpnadknaacinaaEvYc1
import Derived.Test.YtdpnadknaacinaaEvYc2
import Derived.Test.YtdpnadknaacinaaRows
import Derived.Test.YtdpnadknaacinaaChecked
import Derived.ProofKit
import Derived.Deep.Slices
namespace Go.Proofs.Ytdpnadknaacinaa
open Go.Ev Go.ChangeShapes Go.WideShapes Go.ChangeAt Go.RowKit
set_option linter.unusedVariables false
set_option maxRecDepth 1000000

theorem tabNil : Go.Ev.TabOk Try.prog [] := fun x hx => absurd hx (by simp)
theorem alive_at : Go.Ev.At Try.prog 54 st0 (.bool true) := (Go.Ev.At.step rfl tabNil (by kernel_rfl) (by kernel_rfl) al_p0 (Go.Ev.At.step rfl tabNil (by kernel_rfl) (by kernel_rfl) al_p1 (Go.Ev.At.step rfl tabNil (by kernel_rfl) (by kernel_rfl) al_p2 (Go.Ev.At.step rfl tabNil (by kernel_rfl) (by kernel_rfl) al_p3 (Go.Ev.At.fin rfl tabNil (by kernel_rfl) al_p4 rfl)))))
theorem alive_closed : Go.Ev.Closed Try.prog 54 [] (.bool true) := Go.Ev.At.closed (by kernel_rfl) (by kernel_rfl) rfl alive_at
theorem tabOne : Go.Ev.TabOk Try.prog tab := by
  intro x hx
  have e : x = (54, [], .bool true) := by simpa [tab] using hx
  subst e
  exact ⟨alive_closed, rfl, rfl⟩
theorem examples_at : Go.Ev.At Try.prog 7 st0 (.bool true) := (Go.Ev.At.step rfl tabOne (by kernel_rfl) (by kernel_rfl) ex_p0 (Go.Ev.At.step rfl tabOne (by kernel_rfl) (by kernel_rfl) ex_p1 (Go.Ev.At.fin rfl tabOne (by kernel_rfl) ex_p2 rfl)))
theorem examples_closed : Go.Ev.Closed Try.prog 7 [] (.bool true) := Go.Ev.At.closed (by kernel_rfl) (by kernel_rfl) rfl examples_at

theorem Try.own : ownKnob Try.prog.godebug = none := by kernel_rfl

theorem examples_lifted (os : Os) (started : os.Started) (H : Type) (enc : TypeId × Value → H) :
    ReturnsInHanded {} Try.checked os 7 .any (Rows.springExamplesSpec.pre6 enc Try.prog Try.f7 Rows.springExamplesRow.domain false) (Rows.springExamplesSpec.post enc Try.prog Try.f7 false true false false) := by
  refine returnsInHanded_of_change (C := Try.checked) Try.own started (by kernel_rfl) Try.func7
    (ChangeSpec.witness6 (enc := enc) (C := Try.checked) false ⟨#[], #[], []⟩ 8 (by kernel_rfl) (by kernel_rfl) (by kernel_rfl) (by kernel_rfl)) ?_
  intro W base args ds gs before hval0 hW hcnd _
  have hW' := hW
  obtain ⟨p, q, hA0, hV, rfl, hfz, hnd⟩ := hW
  have hA : DataW.TrodAll enc Try.prog W 0 (fun _ => true) true Try.f7.params.toList args.toList ds p := hA0
  rw [Try.params7] at hA
  obtain ⟨rfl, rfl, rfl⟩ := trodAll_none hA
  obtain ⟨rfl, rfl⟩ := trodVars_none hV
  clear hA0 hval0
  simp only [List.append_nil] at hW'
  refine (examples_closed.2 W).mono fun e W' ⟨he, hb⟩ => ?_
  subst he
  refine ⟨_, rfl, _, _, _, [], [], [], hW', ?_, ?_, ?_, hb.frame _, fun h => by cases h⟩
  · exact trodAll_mk1 (shut_bool Try.underlying4 true)
  · exact trodAll_mk0
  · rfl

theorem springExamples_holds : Rows.SpringExamplesSaid :=
  OpenClaim.holds_of_wide 7 Try.f7 rfl rfl rfl rfl rfl rfl rfl ⟨rfl, rfl, rfl, rfl, rfl⟩ rfl rfl rfl rfl rfl (by kernel_rfl) Try.func7 (by kernel_rfl)
    (of_decide_eq_true (by kernel_rfl)) (by unfold Func.isWrapper; first | (rw [if_pos (by decide +kernel)]; kernel_rfl) | (rw [if_neg (by decide +kernel)]; exact ⟨rfl, rfl⟩))
    (fun os started H enc _ => examples_lifted os started H enc)

end Go.Proofs.Ytdpnadknaacinaa
