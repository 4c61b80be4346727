/-
  SpringMore: one reading more never widens what is known, nor does one line more.
  Conditions: none.
-/
import Derived.Test.YtpilgokdbliklaaLc
import Derived.Carry

namespace Go.Proofs.Ytpilgokdbliklaa
open Go.Ev Go.RowKit
set_option linter.unusedVariables false
set_option linter.unusedSimpArgs false
set_option linter.unusedSectionVars false
set_option maxRecDepth 100000
set_option maxHeartbeats 4000000
open Go.Sx Go.ChangeShapes Go.WideShapes Go.ChangeAt
theorem law_any (W : World) (s : Sp) (b r : Value) (z1 : Rd) (z2 : Ln) (z3 : Int) (z4 : Int) (h1 : In W b s.book) (h2 : In W r s.reads) (k3 : 0 ≤ z3 ∧ z3 < 256) :
    Calls Try.prog 6 #[.agg ⟨[iS s.weeks, iS s.most, iS s.fall, iS s.slo, iS s.shi, iS s.wlo, iS s.whi, b, r]⟩, .agg ⟨[iS z1.Number, iS z1.Week, iS z1.Bucket, iS z1.Songs_Lo, iS z1.Songs_Hi]⟩, .agg ⟨[iS z2.Rain_Lo, iS z2.Rain_Hi, iS z2.Week, iS z2.Gives_Lo, iS z2.Gives_Hi]⟩, .int .u8 z3, iS z4] W fun e W' => e = .returned (.bool true) ∧ Below W.heap.size W W' := by
  obtain ⟨σ, h, u1, u2, T, r1, r2, t1, t2, _, _⟩ := tell_spring h1 h2
  obtain ⟨v', h', N', hr, rfl⟩ := r_more 8 (s := s) (x := z1) (y := z2) t1 t2 k3
  obtain ⟨hcal, e1, e2⟩ := o6 (cN 11) (cN_ok 11) [.agg ⟨[iS s.weeks, iS s.most, iS s.fall, iS s.slo, iS s.shi, iS s.wlo, iS s.whi, u1, u2]⟩, .agg ⟨[iS z1.Number, iS z1.Week, iS z1.Bucket, iS z1.Songs_Lo, iS z1.Songs_Hi]⟩, .agg ⟨[iS z2.Rain_Lo, iS z2.Rain_Hi, iS z2.Week, iS z2.Gives_Lo, iS z2.Gives_Hi]⟩, .int .u8 z3, iS z4] h 2 _ h' N' hr
  refine (e2 (.all W) σ W [.agg ⟨[iS s.weeks, iS s.most, iS s.fall, iS s.slo, iS s.shi, iS s.wlo, iS s.whi, b, r]⟩, .agg ⟨[iS z1.Number, iS z1.Week, iS z1.Bucket, iS z1.Songs_Lo, iS z1.Songs_Hi]⟩, .agg ⟨[iS z2.Rain_Lo, iS z2.Rain_Hi, iS z2.Week, iS z2.Gives_Lo, iS z2.Gives_Hi]⟩, .int .u8 z3, iS z4] T.hr ?_ (fun i hi _ => T.no i hi)).mono ?_
  · exact RlL.cons (rl_spring r1 r2) (RlL.cons (RlL.agg (RlL.cons (.sc rfl) (RlL.cons (.sc rfl) (RlL.cons (.sc rfl) (RlL.cons (.sc rfl) (RlL.cons (.sc rfl) (RlL.nil _))))))) (RlL.cons (RlL.agg (RlL.cons (.sc rfl) (RlL.cons (.sc rfl) (RlL.cons (.sc rfl) (RlL.cons (.sc rfl) (RlL.cons (.sc rfl) (RlL.nil _))))))) (RlL.cons (.sc rfl) (RlL.cons (.sc rfl) (RlL.nil _)))))
  · rintro e w' ⟨v', rfl, σ', _, H', hv'⟩
    exact ⟨by rw [hv'.scal_eq rfl], H'.bel.below⟩
theorem springMore_lifted (os : Os) (started : os.Started) (H : Type) (enc : TypeId × Value → H) :
    ReturnsInHanded {} Try.checked os 6 .any (Rows.springMoreSpec.pre6 enc Try.prog Try.f6 Rows.springMoreRow.domain false) (Rows.springMoreSpec.post enc Try.prog Try.f6 false true false false) := by
  refine returnsInHanded_of_change (C := Try.checked) Try.own started (by kernel_rfl) Try.func6
    (ChangeSpec.witness6 (enc := enc) (C := Try.checked) false ⟨#[], #[.agg #[.int .i64 0, .int .i64 0, .int .i64 0, .int .i64 0, .int .i64 0, .int .i64 0, .int .i64 0, .slice none 0 0, .slice none 0 0], .agg #[.int .i64 0, .int .i64 0, .int .i64 0, .int .i64 0, .int .i64 0], .agg #[.int .i64 0, .int .i64 0, .int .i64 0, .int .i64 0, .int .i64 0], .int .u8 0, .int .i64 0], []⟩ 8 (by kernel_rfl) (by kernel_rfl) (by kernel_rfl) (by kernel_rfl)) ?_
  intro W base args ds gs before hval0 hW hcnd _
  have hval : ∀ (j : Nat) t v, Try.f6.params[j]? = some t → args[j]? = some v → Value.okWide Try.prog W .any base t v := hval0
  have hW' := hW
  obtain ⟨p, q, hA0, hV, rfl, hfz, hnd⟩ := hW
  have hA : DataW.TrodAll enc Try.prog W 0 (fun _ => true) true Try.f6.params.toList args.toList ds p := hA0
  rw [Try.params6] at hA hval
  obtain ⟨v0, v1, v2, v3, v4, d0, d1, d2, d3, d4, p0, p1, p2, p3, p4, rfl, rfl, rfl, h0, h1, h2, h3, h4⟩ := trodAll_five hA
  obtain ⟨rfl, rfl⟩ := trodVars_none hV
  obtain ⟨s, b, r, rfl, i1, i2, i3, i4⟩ := open_spring (hval 0 27 v0 rfl rfl) h0
  obtain ⟨z1, rfl⟩ := open_rd (hval 1 71 v1 rfl rfl) h1
  obtain ⟨z2, rfl⟩ := open_ln (hval 2 73 v2 rfl rfl) h2
  obtain ⟨z3, rfl, k3⟩ := ok_u8 (hval 3 5 v3 rfl rfl)
  obtain ⟨z4, rfl, _⟩ := open_int Try.underlying3 (hval 4 3 v4 rfl rfl) h4
  clear hA0 hval0
  simp only [List.append_nil] at hW'
  refine (law_any W s b r z1 z2 z3 z4 i1 i2 k3).mono fun e W' ⟨he, hb⟩ => ?_
  subst he
  have hlt : ∀ x ∈ p0 ++ (p1 ++ (p2 ++ (p3 ++ p4))), x.block < W.heap.size := fun x hx => by simpa using hW'.lt x (by simpa using hx)
  have l0 : ∀ x ∈ p0, x.block < W.heap.size := fun x hx => hlt x (by simp [hx])
  have l1 : ∀ x ∈ p1, x.block < W.heap.size := fun x hx => hlt x (by simp [hx])
  have l2 : ∀ x ∈ p2, x.block < W.heap.size := fun x hx => hlt x (by simp [hx])
  have l3 : ∀ x ∈ p3, x.block < W.heap.size := fun x hx => hlt x (by simp [hx])
  have l4 : ∀ x ∈ p4, x.block < W.heap.size := fun x hx => hlt x (by simp [hx])
  refine ⟨_, rfl, _, _, _, [], p0 ++ (p1 ++ (p2 ++ (p3 ++ p4))), [], hW', ?_, ?_, ?_, hb.frame _, fun h => by cases h⟩
  · exact trodAll_mk1 (shut_bool Try.underlying4 true)
  · exact trodAll_mk5 (Below.trod Try.laidOut (by kernel_rfl) (of_decide_eq_true (by kernel_rfl)) h0 hb l0) (Below.trod Try.laidOut (by kernel_rfl) (of_decide_eq_true (by kernel_rfl)) h1 hb l1) (Below.trod Try.laidOut (by kernel_rfl) (of_decide_eq_true (by kernel_rfl)) h2 hb l2) (Below.trod Try.laidOut (by kernel_rfl) (of_decide_eq_true (by kernel_rfl)) h3 hb l3) (Below.trod Try.laidOut (by kernel_rfl) (of_decide_eq_true (by kernel_rfl)) h4 hb l4)
  · rfl
theorem springMore_holds : Rows.SpringMoreSaid :=
  OpenClaim.holds_of_wide 6 Try.f6 rfl rfl rfl rfl rfl rfl rfl ⟨rfl, rfl, rfl, rfl, rfl⟩ rfl rfl rfl rfl rfl (by kernel_rfl) Try.func6 (by kernel_rfl)
    (of_decide_eq_true (by kernel_rfl)) (by unfold Func.isWrapper; first | (rw [if_pos (by decide +kernel)]; kernel_rfl) | (rw [if_neg (by decide +kernel)]; exact ⟨rfl, rfl⟩))
    (fun os started H enc _ => springMore_lifted os started H enc)
end Go.Proofs.Ytpilgokdbliklaa

