/-
  TallyChanges: what a notch and a joining leave: the tallies handed in read as before, and so do copies, whatever becomes of the results.
  Conditions: none.
-/
import Derived.Test.YtnbilohdnopkfaaLb
namespace Go.Proofs.Ytnbilohdnopkfaa
open Go.Ev Go.Sx Go.RowKit Go.ChangeShapes Go.WideShapes Go.ChangeAt
set_option linter.unusedVariables false
set_option linter.unusedSimpArgs false
set_option maxRecDepth 100000
set_option maxHeartbeats 4000000
theorem cells24 {w : World} {b0 : Nat} {v0 v1 v2 v3 : Value} (h : Value.okWide Try.prog w .any b0 24 (.agg #[v0, v1, v2, v3])) : Cell.okWide Try.prog w .any b0 22 v2 ∧ Cell.okWide Try.prog w .any b0 22 v3 := by
  simp only [Value.okWide, Try.underlying24] at h
  obtain ⟨cs, he, _, ts, hts, _, hc⟩ := h
  cases he
  have e : Try.prog.cellTypes Try.prog.depth 24 = some [3, 3, 22, 22] := by kernel_rfl
  rw [e] at hts
  cases hts
  obtain ⟨u2, g2, k2⟩ := hc 2 v2 rfl
  obtain ⟨u3, g3, k3⟩ := hc 3 v3 rfl
  cases g2; cases g3
  exact ⟨k2, k3⟩
theorem open_tally {H : Type} {enc : TypeId × Value → H} {w : World} {b0 : Nat} {spare : Nat → Bool} {held : Bool} {v : Value} {d : DataW H} {p : List MemPlace} (hv : Value.okWide Try.prog w .any b0 24 v) (h : DataW.Trod enc Try.prog w 0 spare held 24 v d p) :
    ∃ a b s f K1 K2, v = .agg #[iS a, iS b, s, f] ∧ In w s K1 ∧ In w f K2 := by
  obtain ⟨v0, v1, v2, v3, y0, y1, y2, y3, n, rfl, _, _, k0, k1, k2, k3⟩ := Go.Joins.open_agg4 Try.underlying24 (by kernel_rfl) (by kernel_rfl) hv h
  obtain ⟨i, e0, _⟩ := DataW.trod_int Try.underlying3 k0
  obtain ⟨j, e1, _⟩ := DataW.trod_int Try.underlying3 k1
  simp only [List.cons.injEq, and_true] at e0 e1
  subst e0; subst e1
  obtain ⟨c2, c3⟩ := cells24 hv
  obtain ⟨K1, i1⟩ := open_ints c2 k2
  obtain ⟨K2, i2⟩ := open_ints c3 k3
  exact ⟨i, j, v2, v3, K1, K2, rfl, i1, i2⟩
theorem tallyChanges_lifted (os : Os) (started : os.Started) (H : Type) (enc : TypeId × Value → H) :
    ReturnsInHanded {} Try.checked os 3 .any (Rows.tallyChangesSpec.pre6 enc Try.prog Try.f3 Rows.tallyChangesRow.domain false) (Rows.tallyChangesSpec.post enc Try.prog Try.f3 false true false false) := by
  refine returnsInHanded_of_change (C := Try.checked) Try.own started (by kernel_rfl) Try.func3
    (ChangeSpec.witness6 (enc := enc) (C := Try.checked) false ⟨#[], #[.agg #[.int .i64 0, .int .i64 0, .slice none 0 0, .slice none 0 0], .agg #[.int .i64 0, .int .i64 0, .slice none 0 0, .slice none 0 0], .int .i64 0], []⟩ 8 (by kernel_rfl) (by kernel_rfl) (by kernel_rfl) (by kernel_rfl)) ?_
  intro W base args ds gs before hval0 hW hcnd _
  have hval : ∀ (j : Nat) t v, Try.f3.params[j]? = some t → args[j]? = some v → Value.okWide Try.prog W .any base t v := hval0
  have hW' := hW
  obtain ⟨p, q, hA0, hV, rfl, hfz, hnd⟩ := hW
  have hA : DataW.TrodAll enc Try.prog W 0 (fun _ => true) true Try.f3.params.toList args.toList ds p := hA0
  rw [Try.params3] at hA hval
  obtain ⟨v0, v1, v2, d0, d1, d2, p0, p1, p2, rfl, rfl, rfl, h0, h1, h2⟩ := trodAll_three hA
  obtain ⟨rfl, rfl⟩ := trodVars_none hV
  obtain ⟨a, b, s, f, K1, K2, rfl, i1, i2⟩ := open_tally (hval 0 24 v0 rfl rfl) h0
  obtain ⟨c, d, s2, f2, K3, K4, rfl, i3, i4⟩ := open_tally (hval 1 24 v1 rfl rfl) h1
  obtain ⟨k, rfl, _⟩ := open_int Try.underlying3 (hval 2 3 v2 rfl rfl) h2
  clear hA0 hval0
  simp only [List.append_nil] at hW'
  refine (law_any W a b c d k s f s2 f2 K1 K2 K3 K4 i1 i2 i3 i4).mono fun e W' ⟨he, hb⟩ => ?_
  subst he
  have hlt : ∀ x ∈ p0 ++ (p1 ++ p2), x.block < W.heap.size := fun x hx => by simpa using hW'.lt x (by simpa using hx)
  have l0 : ∀ x ∈ p0, x.block < W.heap.size := fun x hx => hlt x (by simp [hx])
  have l1 : ∀ x ∈ p1, x.block < W.heap.size := fun x hx => hlt x (by simp [hx])
  have l2 : ∀ x ∈ p2, x.block < W.heap.size := fun x hx => hlt x (by simp [hx])
  refine ⟨_, rfl, _, _, _, [], p0 ++ (p1 ++ p2), [], hW', ?_, ?_, ?_, hb.frame _, fun h => by cases h⟩
  · exact trodAll_mk1 (shut_bool Try.underlying4 true)
  · exact trodAll_mk3 (Below.trod Try.laidOut (by kernel_rfl) (of_decide_eq_true (by kernel_rfl)) h0 hb l0) (Below.trod Try.laidOut (by kernel_rfl) (of_decide_eq_true (by kernel_rfl)) h1 hb l1) (Below.trod Try.laidOut (by kernel_rfl) (of_decide_eq_true (by kernel_rfl)) h2 hb l2)
  · rfl

theorem tallyChanges_holds : Rows.TallyChangesSaid :=
  OpenClaim.holds_of_wide 3 Try.f3 rfl rfl rfl rfl rfl rfl rfl ⟨rfl, rfl, rfl, rfl, rfl⟩ rfl rfl rfl rfl rfl (by kernel_rfl) Try.func3 (by kernel_rfl)
    (of_decide_eq_true (by kernel_rfl)) (by unfold Func.isWrapper; first | (rw [if_pos (by decide +kernel)]; kernel_rfl) | (rw [if_neg (by decide +kernel)]; exact ⟨rfl, rfl⟩))
    (fun os started H enc _ => tallyChanges_lifted os started H enc)
end Go.Proofs.Ytnbilohdnopkfaa
