/-
  SpringExamples: the chapter's examples, limits and numbers hold of the program, whatever the world.
  Conditions: none.
-/
import Derived.Test.YtdpnadknaacinaaQb1
import Derived.Test.YtdpnadknaacinaaRows
import Derived.Test.YtdpnadknaacinaaChecked
import Derived.ProofKit
import Derived.Deep.Slices
namespace Go.Proofs.Ytdpnadknaacinaa
open Go.Ev Go.ChangeShapes Go.WideShapes Go.ChangeAt Go.RowKit
set_option linter.unusedVariables false
set_option linter.unusedSimpArgs false
set_option maxRecDepth 100000
set_option maxHeartbeats 4000000
noncomputable def cbT : Ev.St := [(77, F77), (80, F80), (81, F81), (83, F83), (84, F84), (90, F90), (99, F99), (110, F110), (118, F118), (119, F119), (126, F126), (128, F128), (130, F130), (132, F132), (134, F134)]
theorem cbT_ok : StOk Pr cbT := (StOk.cons o77 (StOk.cons o80 (StOk.cons o81 (StOk.cons o83 (StOk.cons o84 (StOk.cons o90 (StOk.cons o99 (StOk.cons o110 (StOk.cons o118 (StOk.cons o119 (StOk.cons o126 (StOk.cons o128 (StOk.cons o130 (StOk.cons o132 (StOk.cons o134 StOk.nil)))))))))))))))
noncomputable def cbR : Nat → Code → Code → Option Ev.Rs := fun _ _ _ => none
noncomputable def cb : CallF := cAll Pr (lookS cbT) cbR 40
theorem cb_ok : CallOk Pr cb := cAll_ok hmix (fun f F h => cbT_ok _ (lookS_ok h)) (fun nt asg body F h => by cases h) 40

theorem a7 : isT (s7 cb .nil 0) = true := by kernel_rfl
theorem examples_closed (w : World) : Calls Try.prog 7 #[] w fun e w' => e = .returned (.bool true) ∧ Below w.heap.size w w' := by
  obtain ⟨h', N', hr⟩ := isT_some a7
  exact o7.closed cb_ok (v := .bool true) (h' := h') (N' := N') hr rfl w

theorem Try.own : ownKnob Try.prog.godebug = none := by kernel_rfl

theorem examples_lifted (os : Os) (started : os.Started) (H : Type) (enc : TypeId × Value → H) :
    ReturnsInHanded {} Try.checked os 7 .any (Rows.springExamplesSpec.pre6 enc Try.prog Try.f7 Rows.springExamplesRow.domain false) (Rows.springExamplesSpec.post enc Try.prog Try.f7 false true false false) := by
  refine returnsInHanded_of_change (C := Try.checked) Try.own started (by kernel_rfl) Try.func7
    (ChangeSpec.witness6 (enc := enc) (C := Try.checked) false ⟨#[], #[], []⟩ 8 (by kernel_rfl) (by kernel_rfl) (by kernel_rfl) (by kernel_rfl)) ?_
  intro W base args ds gs before hval0 hW hcnd _
  have hW' := hW
  obtain ⟨p, q, hA0, hV, rfl, hfz, hnd⟩ := hW
  have hA : DataW.TrodAll enc Try.prog W 0 (fun _ => true) true Try.f7.params.toList args.toList ds p := hA0
  rw [Try.params7] at hA
  obtain ⟨rfl, rfl, rfl⟩ := trodAll_none hA
  obtain ⟨rfl, rfl⟩ := trodVars_none hV
  clear hA0 hval0
  simp only [List.append_nil] at hW'
  refine (examples_closed W).mono fun e W' ⟨he, hb⟩ => ?_
  subst he
  refine ⟨_, rfl, _, _, _, [], [], [], hW', ?_, ?_, ?_, hb.frame _, fun h => by cases h⟩
  · exact trodAll_mk1 (shut_bool Try.underlying4 true)
  · exact trodAll_mk0
  · rfl

theorem springExamples_holds : Rows.SpringExamplesSaid :=
  OpenClaim.holds_of_wide 7 Try.f7 rfl rfl rfl rfl rfl rfl rfl ⟨rfl, rfl, rfl, rfl, rfl⟩ rfl rfl rfl rfl rfl (by kernel_rfl) Try.func7 (by kernel_rfl)
    (of_decide_eq_true (by kernel_rfl)) (by unfold Func.isWrapper; first | (rw [if_pos (by decide +kernel)]; kernel_rfl) | (rw [if_neg (by decide +kernel)]; exact ⟨rfl, rfl⟩))
    (fun os started H enc _ => examples_lifted os started H enc)


end Go.Proofs.Ytdpnadknaacinaa
