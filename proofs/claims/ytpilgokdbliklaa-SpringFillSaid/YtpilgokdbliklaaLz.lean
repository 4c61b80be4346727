/-
  SpringFill: a bucket takes as long as is told; a larger one takes no less, and two weeks later no less.
  Conditions: none.
-/
import Derived.Test.YtpilgokdbliklaaLc
import Derived.Carry

namespace Go.Proofs.Ytpilgokdbliklaa
open Go.Ev Go.RowKit
set_option linter.unusedVariables false
set_option linter.unusedSimpArgs false
set_option linter.unusedSectionVars false
set_option maxRecDepth 100000
set_option maxHeartbeats 4000000
open Go.Sx Go.ChangeShapes Go.WideShapes Go.ChangeAt
theorem law_any (W : World) (s : Sp) (b r : Value) (p q t : Int) (h1 : In W b s.book) (h2 : In W r s.reads) (hp : 0 ≤ p ∧ p < 256) (hq : 0 ≤ q ∧ q < 256) (ht : 0 ≤ t ∧ t < 256) :
    Calls Try.prog 9 #[.agg ⟨[iS s.weeks, iS s.most, iS s.fall, iS s.slo, iS s.shi, iS s.wlo, iS s.whi, b, r]⟩, .int .u8 p, .int .u8 q, .int .u8 t] W fun e W' => e = .returned (.bool true) ∧ Below W.heap.size W W' := by
  obtain ⟨σ, h, u1, u2, T, r1, r2, t1, t2, _, _⟩ := tell_spring h1 h2
  obtain ⟨v', h', N', hr, rfl⟩ := r_fill 8 (s := s) t1 t2 hp hq ht
  obtain ⟨hcal, e1, e2⟩ := o9 (cN 11) (cN_ok 11) [.agg ⟨[iS s.weeks, iS s.most, iS s.fall, iS s.slo, iS s.shi, iS s.wlo, iS s.whi, u1, u2]⟩, .int .u8 p, .int .u8 q, .int .u8 t] h 2 _ h' N' hr
  refine (e2 (.all W) σ W [.agg ⟨[iS s.weeks, iS s.most, iS s.fall, iS s.slo, iS s.shi, iS s.wlo, iS s.whi, b, r]⟩, .int .u8 p, .int .u8 q, .int .u8 t] T.hr ?_ (fun i hi _ => T.no i hi)).mono ?_
  · exact RlL.cons (rl_spring r1 r2) (RlL.cons (.sc rfl) (RlL.cons (.sc rfl) (RlL.cons (.sc rfl) (RlL.nil _))))
  · rintro e w' ⟨v', rfl, σ', _, H', hv'⟩
    exact ⟨by rw [hv'.scal_eq rfl], H'.bel.below⟩
theorem springFill_lifted (os : Os) (started : os.Started) (H : Type) (enc : TypeId × Value → H) :
    ReturnsInHanded {} Try.checked os 9 .any (Rows.springFillSpec.pre6 enc Try.prog Try.f9 Rows.springFillRow.domain false) (Rows.springFillSpec.post enc Try.prog Try.f9 false true false false) := by
  refine returnsInHanded_of_change (C := Try.checked) Try.own started (by kernel_rfl) Try.func9
    (ChangeSpec.witness6 (enc := enc) (C := Try.checked) false ⟨#[], #[.agg #[.int .i64 0, .int .i64 0, .int .i64 0, .int .i64 0, .int .i64 0, .int .i64 0, .int .i64 0, .slice none 0 0, .slice none 0 0], .int .u8 0, .int .u8 0, .int .u8 0], []⟩ 8 (by kernel_rfl) (by kernel_rfl) (by kernel_rfl) (by kernel_rfl)) ?_
  intro W base args ds gs before hval0 hW hcnd _
  have hval : ∀ (j : Nat) t v, Try.f9.params[j]? = some t → args[j]? = some v → Value.okWide Try.prog W .any base t v := hval0
  have hW' := hW
  obtain ⟨p, q, hA0, hV, rfl, hfz, hnd⟩ := hW
  have hA : DataW.TrodAll enc Try.prog W 0 (fun _ => true) true Try.f9.params.toList args.toList ds p := hA0
  rw [Try.params9] at hA hval
  obtain ⟨v0, v1, v2, v3, d0, d1, d2, d3, p0, p1, p2, p3, rfl, rfl, rfl, h0, h1, h2, h3⟩ := trodAll_four hA
  obtain ⟨rfl, rfl⟩ := trodVars_none hV
  obtain ⟨s, b, r, rfl, i1, i2, i3, i4⟩ := open_spring (hval 0 27 v0 rfl rfl) h0
  obtain ⟨z1, rfl, k1⟩ := ok_u8 (hval 1 5 v1 rfl rfl)
  obtain ⟨z2, rfl, k2⟩ := ok_u8 (hval 2 5 v2 rfl rfl)
  obtain ⟨z3, rfl, k3⟩ := ok_u8 (hval 3 5 v3 rfl rfl)
  clear hA0 hval0
  simp only [List.append_nil] at hW'
  refine (law_any W s b r z1 z2 z3 i1 i2 k1 k2 k3).mono fun e W' ⟨he, hb⟩ => ?_
  subst he
  have hlt : ∀ x ∈ p0 ++ (p1 ++ (p2 ++ p3)), x.block < W.heap.size := fun x hx => by simpa using hW'.lt x (by simpa using hx)
  have l0 : ∀ x ∈ p0, x.block < W.heap.size := fun x hx => hlt x (by simp [hx])
  have l1 : ∀ x ∈ p1, x.block < W.heap.size := fun x hx => hlt x (by simp [hx])
  have l2 : ∀ x ∈ p2, x.block < W.heap.size := fun x hx => hlt x (by simp [hx])
  have l3 : ∀ x ∈ p3, x.block < W.heap.size := fun x hx => hlt x (by simp [hx])
  refine ⟨_, rfl, _, _, _, [], p0 ++ (p1 ++ (p2 ++ p3)), [], hW', ?_, ?_, ?_, hb.frame _, fun h => by cases h⟩
  · exact trodAll_mk1 (shut_bool Try.underlying4 true)
  · exact trodAll_mk4 (Below.trod Try.laidOut (by kernel_rfl) (of_decide_eq_true (by kernel_rfl)) h0 hb l0) (Below.trod Try.laidOut (by kernel_rfl) (of_decide_eq_true (by kernel_rfl)) h1 hb l1) (Below.trod Try.laidOut (by kernel_rfl) (of_decide_eq_true (by kernel_rfl)) h2 hb l2) (Below.trod Try.laidOut (by kernel_rfl) (of_decide_eq_true (by kernel_rfl)) h3 hb l3)
  · rfl
theorem springFill_holds : Rows.SpringFillSaid :=
  OpenClaim.holds_of_wide 9 Try.f9 rfl rfl rfl rfl rfl rfl rfl ⟨rfl, rfl, rfl, rfl, rfl⟩ rfl rfl rfl rfl rfl (by kernel_rfl) Try.func9 (by kernel_rfl)
    (of_decide_eq_true (by kernel_rfl)) (by unfold Func.isWrapper; first | (rw [if_pos (by decide +kernel)]; kernel_rfl) | (rw [if_neg (by decide +kernel)]; exact ⟨rfl, rfl⟩))
    (fun os started H enc _ => springFill_lifted os started H enc)
end Go.Proofs.Ytpilgokdbliklaa
