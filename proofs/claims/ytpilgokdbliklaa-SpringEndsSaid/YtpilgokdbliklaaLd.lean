/-
  What the functions of the law return.
  Conditions: none.
-/
import Derived.Test.YtpilgokdbliklaaLc

section
namespace Go.Proofs.Ytpilgokdbliklaa
open Go.Ev Go.RowKit
set_option linter.unusedVariables false
set_option linter.unusedSimpArgs false
set_option linter.unusedSectionVars false
set_option maxRecDepth 100000
set_option maxHeartbeats 4000000
section
variable {s : Sp} {b r : Value}
end
end Go.Proofs.Ytpilgokdbliklaa
end

section
namespace Go.Proofs.Ytpilgokdbliklaa
open Go.Ev Go.RowKit
set_option linter.unusedVariables false
set_option linter.unusedSimpArgs false
set_option linter.unusedSectionVars false
set_option maxRecDepth 100000
set_option maxHeartbeats 4000000
theorem gv_rain {s : Sp} {rain : Int} (hr : rain ∈ rainsS s) (w : Nat) : (gvS s w).1 ≤ (leavesS s rain w).1 ∧ (leavesS s rain w).2 ≤ (gvS s w).2 :=
  ⟨(gvL_lo _ _).2 (.inr ⟨rain, hr, Int.le_refl _⟩), (gvL_hi _ _).2 (.inr ⟨rain, hr, Int.le_refl _⟩)⟩
end Go.Proofs.Ytpilgokdbliklaa
end

section
namespace Go.Proofs.Ytpilgokdbliklaa
open Go.Ev Go.RowKit
set_option linter.unusedVariables false
set_option linter.unusedSimpArgs false
set_option linter.unusedSectionVars false
set_option maxRecDepth 100000
set_option maxHeartbeats 4000000
/-- The least numbers of all weeks are a truth, and so are the greatest ones. -/
theorem end_flow {s : Sp} {rain : Int} {f : Int × Int → Int} (hs : OkS s) (hok : okN s (leavesS s rain) = true) (hf : (∀ v : Int × Int, f v = v.1) ∨ (∀ v : Int × Int, f v = v.2)) : Flow s rain (fun j => f (leavesS s rain j)) s.weeks.toNat := by
  have w1 := hs.ok.w1
  have f1 := hs.ok.f1
  have mid : ∀ j, j < s.weeks.toNat → (leavesS s rain j).1 ≤ f (leavesS s rain j) ∧ f (leavesS s rain j) ≤ (leavesS s rain j).2 := by
    intro j hj
    have hb := leaves_bd hok hj
    rcases hf with e | e <;> rw [e] <;> omega
  have pre : ∀ j, (preS s rain j).1 ≤ (leavesS s rain j).1 ∧ (leavesS s rain j).2 ≤ (preS s rain j).2 := fun j => nar_in s (preS s rain) j
  refine ⟨fun j hj => ?_, fun j hj x hx e1 e2 e3 => ?_, fun j hj => ?_, fun j hj => ?_⟩
  · have hb := leaves_bd hok hj
    have := mid j hj
    show 0 ≤ f (leavesS s rain j) ∧ f (leavesS s rain j) ≤ s.most
    omega
  · have := mid j hj
    have := pre j
    have hi : inS x.Rain_Lo x.Rain_Hi rain = true := by simp only [inS, Bool.and_eq_true, decide_eq_true_eq]; omega
    have g1 := ((pre_lo (s := s) rain j _).1 (Int.le_refl _)).2 x hx hi (by omega)
    have g2 := ((pre_hi (s := s) rain j _).1 (Int.le_refl _)).2 x hx hi (by omega)
    show x.Gives_Lo ≤ f (leavesS s rain j) ∧ f (leavesS s rain j) ≤ x.Gives_Hi
    omega
  · have := mid j hj
    have := pre j
    have g1 := ((pre_lo (s := s) rain j _).1 (Int.le_refl _)).1
    have g2 := ((pre_hi (s := s) rain j _).1 (Int.le_refl _)).1
    exact ((red_iff hs hj (n := f (leavesS s rain j))).1 (by omega)).2.2
  · have h := nar_step (s := s) f1 (preS s rain) hj
    have h' : (leavesS s rain (j + 1)).1 ≤ (leavesS s rain j).1 ∧ (leavesS s rain j).1 - s.fall ≤ (leavesS s rain (j + 1)).1 ∧ (leavesS s rain (j + 1)).2 ≤ (leavesS s rain j).2 ∧ (leavesS s rain j).2 - s.fall ≤ (leavesS s rain (j + 1)).2 := h
    show f (leavesS s rain (j + 1)) ≤ f (leavesS s rain j) ∧ f (leavesS s rain j) - s.fall ≤ f (leavesS s rain (j + 1))
    rcases hf with e | e <;> rw [e, e] <;> omega
/-- A spring with one rain, of which it is told what it gives in a week. -/
def onS (s : Sp) (rain w n : Int) : Sp := { s with wlo := rain, whi := rain, book := (s.book.filter fun x => inS x.Rain_Lo x.Rain_Hi rain) ++ [⟨rain, rain, w, n, n⟩] }
/-- A spring with one rain. -/
def oneS (s : Sp) (rain : Int) : Sp := { s with wlo := rain, whi := rain }
theorem can_mem {s : Sp} {r : Int} (h : r ∈ rainsS s) : canS s = true := by
  unfold canS
  cases hr : rainsS s with
  | nil => rw [hr] at h; cases h
  | cons => rfl
theorem can_ex {s : Sp} (h : canS s = true) : ∃ r, r ∈ rainsS s := by
  unfold canS at h
  cases hr : rainsS s with
  | nil => rw [hr] at h; cases h
  | cons x l => exact ⟨x, by simp⟩
theorem on_valid {s : Sp} {rain w n : Int} (hv : validB s = true) (hl : s.book.length < 8) (h1 : s.wlo ≤ rain ∧ rain ≤ s.whi) (h2 : 0 ≤ w ∧ w ≤ s.weeks - 1) (h3 : 0 ≤ n ∧ n ≤ s.most) : validB (onS s rain w n) = true := by
  have hs := ok_of_valid hv
  obtain ⟨w1, w2, m1, m2, f1, f2, a1, a2, a3, v1, v2, v3⟩ := hs.ok
  simp only [validB, Bool.and_eq_true] at hv ⊢
  obtain ⟨⟨q1, q2⟩, q3⟩ := hv
  refine ⟨⟨?_, ?_⟩, q3⟩
  · simp only [frameB, isSpanB, inS, Bool.and_eq_true, decide_eq_true_eq] at q1 ⊢
    refine ⟨q1.1, ?_⟩
    show rain ≤ rain ∧ (0 ≤ rain ∧ rain ≤ 20) ∧ 0 ≤ rain ∧ rain ≤ 20
    omega
  · simp only [bookB, Bool.and_eq_true, decide_eq_true_eq, List.all_eq_true] at q2 ⊢
    constructor
    · have := List.length_filter_le (fun x : Ln => inS x.Rain_Lo x.Rain_Hi rain) s.book
      show ((s.book.filter fun x : Ln => inS x.Rain_Lo x.Rain_Hi rain) ++ [(⟨rain, rain, w, n, n⟩ : Ln)]).length ≤ 8
      simp only [List.length_append, List.length_cons, List.length_nil]; omega
    · intro x hx
      rcases List.mem_append.1 hx with h | h
      · exact q2.2 x (List.mem_filter.1 h).1
      · rw [List.mem_singleton] at h
        subst h
        simp only [lineB, isSpanB, isWeekB, inS, Bool.and_eq_true, decide_eq_true_eq]
        show (((rain ≤ rain ∧ (0 ≤ rain ∧ rain ≤ 20) ∧ 0 ≤ rain ∧ rain ≤ 20) ∧ 0 ≤ w ∧ w ≤ s.weeks - 1) ∧ n ≤ n ∧ (0 ≤ n ∧ n ≤ 100) ∧ 0 ≤ n ∧ n ≤ 100)
        omega
theorem one_valid {s : Sp} {rain : Int} (hv : validB s = true) (h1 : s.wlo ≤ rain ∧ rain ≤ s.whi) : validB (oneS s rain) = true := by
  have hs := ok_of_valid hv
  obtain ⟨w1, w2, m1, m2, f1, f2, a1, a2, a3, v1, v2, v3⟩ := hs.ok
  simp only [validB, Bool.and_eq_true] at hv ⊢
  obtain ⟨⟨q1, q2⟩, q3⟩ := hv
  refine ⟨⟨?_, q2⟩, q3⟩
  simp only [frameB, isSpanB, inS, Bool.and_eq_true, decide_eq_true_eq] at q1 ⊢
  refine ⟨q1.1, ?_⟩
  show rain ≤ rain ∧ (0 ≤ rain ∧ rain ≤ 20) ∧ 0 ≤ rain ∧ rain ≤ 20
  omega
theorem one_can {s : Sp} {rain : Int} (hv : validB s = true) (h : rain ∈ rainsS s) : canS (oneS s rain) = true := by
  have hs := ok_of_valid hv
  obtain ⟨h1, h2, h3⟩ := rains_mem h
  have F := end_flow (f := fun v => v.1) hs h1 (.inl fun _ => rfl)
  have G : Flow (oneS s rain) rain (fun j => (leavesS s rain j).1) s.weeks.toNat := ⟨F.bd, F.ln, F.rd, F.st⟩
  exact can_mem (flow_rain (ok_of_valid (one_valid hv ⟨h2, h3⟩)) G (Int.le_refl _) (Int.le_refl _))
/-- What is a truth with one rain and a number is one. -/
theorem on_rain {s : Sp} {rain w n : Int} (hs : OkS s) (hv : validB (onS s rain w n) = true) (h1 : s.wlo ≤ rain) (h2 : rain ≤ s.whi) (hc : canS (onS s rain w n) = true) : rain ∈ rainsS s := by
  obtain ⟨r, hr⟩ := can_ex hc
  obtain ⟨g1, g2, g3⟩ := rains_mem hr
  have g2' : rain ≤ r := g2
  have g3' : r ≤ rain := g3
  obtain rfl : r = rain := by omega
  have F := end_flow (f := fun v => v.1) (ok_of_valid hv) g1 (.inl fun _ => rfl)
  have G : Flow s r (fun j => (leavesS (onS s r w n) r j).1) s.weeks.toNat := ⟨F.bd, fun j hj x hx e1 e2 e3 => F.ln j hj x (List.mem_append.2 (.inl (List.mem_filter.2 ⟨hx, by simp only [inS, Bool.and_eq_true, decide_eq_true_eq]; omega⟩))) e1 e2 e3, F.rd, F.st⟩
  exact flow_rain hs G h1 h2
/-- An end with its rain is a truth. -/
theorem on_can {s : Sp} {rain : Int} {w : Nat} {n : Int} {f : Int × Int → Int} (hs : OkS s) (hf : (∀ v : Int × Int, f v = v.1) ∨ (∀ v : Int × Int, f v = v.2)) (h : rain ∈ rainsS s) (hv : validB (onS s rain w n) = true) (hn : n = f (leavesS s rain w)) : canS (onS s rain w n) = true := by
  obtain ⟨h1, h2, h3⟩ := rains_mem h
  have F := end_flow hs h1 hf
  have G : Flow (onS s rain w n) rain (fun j => f (leavesS s rain j)) s.weeks.toNat := by
    refine ⟨F.bd, fun j hj x hx e1 e2 e3 => ?_, F.rd, F.st⟩
    rcases List.mem_append.1 hx with h | h
    · exact F.ln j hj x (List.mem_filter.1 h).1 e1 e2 e3
    · rw [List.mem_singleton] at h
      subst h
      have e1' : (w : Int) = (j : Int) := e1
      obtain rfl : w = j := by omega
      show n ≤ f (leavesS s rain w) ∧ f (leavesS s rain w) ≤ n
      omega
  exact can_mem (flow_rain (ok_of_valid hv) G (Int.le_refl _) (Int.le_refl _))
theorem gv_end {s : Sp} (hs : OkS s) (hc : canS s = true) {w : Nat} (hw : w < s.weeks.toNat) : (∃ r, r ∈ rainsS s ∧ (gvS s w).1 = (leavesS s r w).1) ∧ ∃ r, r ∈ rainsS s ∧ (gvS s w).2 = (leavesS s r w).2 := by
  obtain ⟨r0, hr0⟩ := can_ex hc
  have b0 := leaves_bd (rains_mem hr0).1 hw
  have g0 := gv_rain hr0 w
  constructor
  · rcases (gvL_lo (s := s) (w := w) (rainsS s) (s.most, 0)).1 (Int.le_refl (gvS s w).1) with h1 | ⟨r, hr, h1⟩
    · have h1' : s.most ≤ (gvS s w).1 := h1
      exact ⟨r0, hr0, by omega⟩
    · have := gv_rain hr w
      exact ⟨r, hr, by omega⟩
  · rcases (gvL_hi (s := s) (w := w) (rainsS s) (s.most, 0)).1 (Int.le_refl (gvS s w).2) with h1 | ⟨r, hr, h1⟩
    · have h1' : (gvS s w).2 ≤ 0 := h1
      exact ⟨r0, hr0, by omega⟩
    · have := gv_rain hr w
      exact ⟨r, hr, by omega⟩
/-- Rains stand in their order. -/
theorem rains_lt {s : Sp} : ∀ {i j : Nat} {x y : Int}, i < j → (rainsS s)[i]? = some x → (rainsS s)[j]? = some y → x < y := by
  have hp : (rainsS s).Pairwise (· < ·) := by
    unfold rainsS rainsN
    refine List.Pairwise.filter _ ?_
    rw [List.pairwise_map]
    exact List.pairwise_lt_range.imp fun h => by omega
  intro i j x y hij hx hy
  have li := lt_of_at hx
  have lj := lt_of_at hy
  have := List.pairwise_iff_getElem.1 hp i j li lj hij
  rw [List.getElem?_eq_getElem li] at hx
  rw [List.getElem?_eq_getElem lj] at hy
  cases hx; cases hy
  exact this
/-- A list that is a truth, told by its numbers. -/
theorem giL_at (f : Int × Int → Int) (g : Bd) : ∀ (n j : Nat), j < n → (giL f g n)[j]? = some (f (g j))
  | n + 1, j, h => by
    show (giL f g n ++ [f (g n)])[j]? = _
    rcases Nat.lt_or_ge j n with h' | h'
    · rw [List.getElem?_append_left (by rw [giL_len]; exact h')]; exact giL_at f g n j h'
    · obtain rfl : j = n := by omega
      rw [List.getElem?_append_right (by rw [giL_len]; omega), giL_len]; simp
end Go.Proofs.Ytpilgokdbliklaa
end

section
namespace Go.Proofs.Ytpilgokdbliklaa
open Go.Ev Go.RowKit
set_option linter.unusedVariables false
set_option linter.unusedSimpArgs false
set_option linter.unusedSectionVars false
set_option maxRecDepth 100000
set_option maxHeartbeats 4000000
section
variable {s : Sp}
end
/-- The greatest of 0 and so many numbers. -/
def mxN (g : Nat → Int) : Nat → Int
  | 0 => 0
  | k + 1 => max (mxN g k) (g k)
end Go.Proofs.Ytpilgokdbliklaa
end

section
namespace Go.Proofs.Ytpilgokdbliklaa
open Go.Ev Go.RowKit
set_option linter.unusedVariables false
set_option linter.unusedSimpArgs false
set_option linter.unusedSectionVars false
set_option maxRecDepth 100000
set_option maxHeartbeats 4000000
section
variable {s : Sp}
theorem rains_iff {r : Int} : r ∈ rainsS s ↔ (s.wlo ≤ r ∧ r ≤ s.whi) ∧ okN s (leavesS s r) = true := by
  constructor
  · intro h
    obtain ⟨a, c, d⟩ := rains_mem h
    exact ⟨⟨c, d⟩, a⟩
  · rintro ⟨⟨a, c⟩, d⟩
    unfold rainsS rainsN rainN
    exact List.mem_filter.2 ⟨List.mem_map.2 ⟨(r - s.wlo).toNat, List.mem_range.2 (by omega), by omega⟩, d⟩
end
end Go.Proofs.Ytpilgokdbliklaa
end

section
namespace Go.Proofs.Ytpilgokdbliklaa
open Go.Ev Go.RowKit
set_option linter.unusedVariables false
set_option linter.unusedSimpArgs false
set_option linter.unusedSectionVars false
set_option maxRecDepth 100000
set_option maxHeartbeats 4000000
theorem s1_Eb {p : Prop} (h : p := by (simp (disch := omega) only [obind_s, orun_s, ocond_t, fad_p, ld1_e, ldN_e, sto_e, cellO_c, wrO_c, Tr.get_same, Tr.get_other, nth_0, nth_s, drp_0, drp_s, drp_n, tak_0, tak_s, tak_n, over_n, over_c, lay_0, lay_s, lay_n, len_n, len_c, app_n, app_c, reps_0, reps_s, cel_agg, cel_int, cel_bool, cel_str, cel_sl, cel_ptr, cel_map, cel_func, cel_nilf, fil_n, fil_c, beq_r, ble_d, allF_n, allF_c, one_int, one_bool, one_str, one_sl, one_ptr, one_map, one_func, one_nilf, Bool.and_true, Bool.true_and, Bool.not_true, Bool.not_false, iadA_z, Int.reduceToNat, Int.toNat_zero, fl1_a, flN_a, extr_t, unot, not_d, Nat.add_eq, Nat.mul_eq, Nat.mul_one, Nat.one_mul, Nat.zero_mul, Nat.reduceMul, Nat.zero_add, Nat.add_zero, Nat.le_refl, decide_true, Nat.reduceAdd, Nat.reduceLeDiff, bsl_Sint, bsl_SReading, bsl_SLine, bs0_SLine, bs0_SReading, bld_Span, bld_Line, bld_spring_work, bld_spring_asked, enc_Line, enc_Reading, ocond_d, Int.toNat_natCast, *]); first | done | fail) : p := h
theorem s2_Eb {p : Prop} (h : p := by (simp (disch := omega) only [obind_s, orun_s, ocond_t, fad_p, ld1_e, ldN_e, sto_e, cellO_c, wrO_c, Tr.get_same, Tr.get_other, nth_0, nth_s, drp_0, drp_s, drp_n, tak_0, tak_s, tak_n, over_n, over_c, lay_0, lay_s, lay_n, len_n, len_c, app_n, app_c, reps_0, reps_s, cel_agg, cel_int, cel_bool, cel_str, cel_sl, cel_ptr, cel_map, cel_func, cel_nilf, fil_n, fil_c, beq_r, ble_d, allF_n, allF_c, one_int, one_bool, one_str, one_sl, one_ptr, one_map, one_func, one_nilf, Bool.and_true, Bool.true_and, Bool.not_true, Bool.not_false, iadA_z, Int.reduceToNat, Int.toNat_zero, fl1_a, flN_a, extr_t, unot, not_d, Nat.add_eq, Nat.mul_eq, Nat.mul_one, Nat.one_mul, Nat.zero_mul, Nat.reduceMul, Nat.zero_add, Nat.add_zero, Nat.le_refl, decide_true, Nat.reduceAdd, Nat.reduceLeDiff, bsl_Sint, bsl_SReading, bsl_SLine, bs0_SLine, bs0_SReading, bld_Span, bld_Line, bld_spring_work, bld_spring_asked, enc_Line, enc_Reading, ocond_d, Int.toNat_natCast, *]); rfl) : p := h
theorem sb_Eb {p : Prop} (h : p := by first | ((simp (disch := omega) only [obind_s, orun_s, ocond_t, fad_p, ld1_e, ldN_e, sto_e, cellO_c, wrO_c, Tr.get_same, Tr.get_other, nth_0, nth_s, drp_0, drp_s, drp_n, tak_0, tak_s, tak_n, over_n, over_c, lay_0, lay_s, lay_n, len_n, len_c, app_n, app_c, reps_0, reps_s, cel_agg, cel_int, cel_bool, cel_str, cel_sl, cel_ptr, cel_map, cel_func, cel_nilf, fil_n, fil_c, beq_r, ble_d, allF_n, allF_c, one_int, one_bool, one_str, one_sl, one_ptr, one_map, one_func, one_nilf, Bool.and_true, Bool.true_and, Bool.not_true, Bool.not_false, iadA_z, Int.reduceToNat, Int.toNat_zero, fl1_a, flN_a, extr_t, unot, not_d, Nat.add_eq, Nat.mul_eq, Nat.mul_one, Nat.one_mul, Nat.zero_mul, Nat.reduceMul, Nat.zero_add, Nat.add_zero, Nat.le_refl, decide_true, Nat.reduceAdd, Nat.reduceLeDiff, bsl_Sint, bsl_SReading, bsl_SLine, bs0_SLine, bs0_SReading, bld_Span, bld_Line, bld_spring_work, bld_spring_asked, enc_Line, enc_Reading, ocond_d, Int.toNat_natCast, Nat.succ_eq_add_one, Nat.add_assoc, *]); rfl) | ((simp (disch := omega) only [obind_s, orun_s, ocond_t, fad_p, ld1_e, ldN_e, sto_e, cellO_c, wrO_c, Tr.get_same, Tr.get_other, nth_0, nth_s, drp_0, drp_s, drp_n, tak_0, tak_s, tak_n, over_n, over_c, lay_0, lay_s, lay_n, len_n, len_c, app_n, app_c, reps_0, reps_s, cel_agg, cel_int, cel_bool, cel_str, cel_sl, cel_ptr, cel_map, cel_func, cel_nilf, fil_n, fil_c, beq_r, ble_d, allF_n, allF_c, one_int, one_bool, one_str, one_sl, one_ptr, one_map, one_func, one_nilf, Bool.and_true, Bool.true_and, Bool.not_true, Bool.not_false, iadA_z, Int.reduceToNat, Int.toNat_zero, fl1_a, flN_a, extr_t, unot, not_d, Nat.add_eq, Nat.mul_eq, Nat.mul_one, Nat.one_mul, Nat.zero_mul, Nat.reduceMul, Nat.zero_add, Nat.add_zero, Nat.le_refl, decide_true, Nat.reduceAdd, Nat.reduceLeDiff, bsl_Sint, bsl_SReading, bsl_SLine, bs0_SLine, bs0_SReading, bld_Span, bld_Line, bld_spring_work, bld_spring_asked, enc_Line, enc_Reading, ocond_d, Int.toNat_natCast, Nat.succ_eq_add_one, Nat.add_assoc, *]); done)) : p := h
theorem fr_Eb {p : Prop} (h : p := by first | assumption | exact Fr.refl _ _ | (simp (disch := omega) only [Fr_set, Fr_refl, *])) : p := h
theorem fl_Eb {p : Prop} (h : p := by first | with_unfolding_all rfl | exact Sl.flat (by assumption) | assumption) : p := h
theorem fll_Eb {p : Prop} (h : p := by first | with_unfolding_all rfl | ((repeat (refine flatL_k fl_Eb ?_)); with_unfolding_all rfl)) : p := h
theorem en_Eb {p : Prop} (h : p := by first | ((simp only [enc_int, enc_str, enc_u8, enc_bool, tak_s, tak_0, tak_n, drp_0, drp_s, drp_n, nth_s, nth_0, bsl_Sint, bsl_SReading, bsl_SLine, bs0_SLine, bs0_SReading, bld_Span, bld_Line, bld_spring_work, bld_spring_asked, enc_Line, enc_Reading, ocond_d, Int.toNat_natCast]); rfl) | ((simp only [enc_int, enc_str, enc_u8, enc_bool, tak_s, tak_0, tak_n, drp_0, drp_s, drp_n, nth_s, nth_0, bsl_Sint, bsl_SReading, bsl_SLine, bs0_SLine, bs0_SReading, bld_Span, bld_Line, bld_spring_work, bld_spring_asked, enc_Line, enc_Reading, ocond_d, Int.toNat_natCast]); done) | with_unfolding_all rfl) : p := h
theorem sM_Eb {p : Prop} (h : p := by (first | assumption | (simp (disch := omega) only [Tr.get_same, Tr.get_other, *]; rfl) | (simp (disch := omega) only [Tr.get_same, Tr.get_other, *]; done))) : p := h
theorem sS_Eb {p : Prop} (h : p := by first | assumption | exact s1_Eb) : p := h
theorem sR_Eb {p : Prop} (h : p := by first | assumption | exact s1_Eb | exact s2_Eb | with_unfolding_all rfl) : p := h
theorem op_Eb {p : Prop} (h : p := by first | with_reducible exact fad_p _ _ _ | with_reducible exact iop_lss _ _ | with_reducible exact iop_leq _ _ | with_reducible exact iop_gtr _ _ | with_reducible exact iop_geq _ _ | with_reducible exact iop_eql _ _ | with_reducible exact iop_neq _ _ | with_reducible exact Sl.len (by assumption) | with_reducible exact lenS_s _ _ _ | with_reducible exact Sl.iad (by assumption) (by with_unfolding_all rfl) (by first | assumption | omega) | with_reducible exact Sl.fad (by assumption) (by first | assumption | omega) | with_reducible exact Sl.ld1 (by assumption) fr_Eb (by with_unfolding_all rfl) (by assumption) en_Eb | with_reducible exact Sl.ldN (by assumption) fr_Eb (by with_unfolding_all rfl) (by assumption) (by with_unfolding_all rfl) en_Eb | with_reducible exact zadd1 (by omega) | with_reducible exact zsub1 (by omega) (by omega) | with_reducible exact zaddI (by omega) (by omega) | with_reducible exact zsubI (by omega) (by omega) | with_reducible exact min_z | with_reducible exact max_z | with_reducible exact zmulI (by assumption) | with_reducible exact zmulK (by omega) (by omega) | with_reducible exact quo_z (by omega) (by omega) (by omega) | with_reducible exact cv_u8 (by omega) | with_reducible exact rem_z (by omega) (by omega) (by omega) | with_reducible exact neq_bool (by kernel_rfl) | with_reducible exact eql_u8 | with_reducible exact wntT_t (by assumption) | with_reducible exact wntT_f (by assumption) | with_reducible exact wntF_t (by assumption) | with_reducible exact wntF_f (by assumption) | with_reducible exact wnt_tt | with_reducible exact wnt_tf | with_reducible exact wnt_ft | with_reducible exact wnt_ff | with_reducible exact wnt_u _ _ | with_reducible exact pck_t _ _ | with_reducible exact pck_f _ _ | with_reducible exact pckT (by assumption) | with_reducible exact pckF (by assumption) | with_reducible exact wntT_t (by decide) | with_reducible exact wntT_f (by decide) | with_reducible exact wntF_t (by decide) | with_reducible exact wntF_f (by decide) | with_reducible exact pckT (by decide) | with_reducible exact pckF (by decide) | with_reducible exact wntN_tt (by decide) | with_reducible exact wntN_tf (by decide) | with_reducible exact wntN_ft (by decide) | with_reducible exact wntN_ff (by decide) | with_reducible exact pckNT (by decide) | with_reducible exact pckNF (by decide) | with_reducible exact wntN_tt (by assumption) | with_reducible exact wntN_tf (by assumption) | with_reducible exact wntN_ft (by assumption) | with_reducible exact wntN_ff (by assumption) | with_reducible exact pckNT (by assumption) | with_reducible exact pckNF (by assumption) | with_reducible exact wntB_tt (by assumption) | with_reducible exact wntB_tf (by assumption) | with_reducible exact wntB_ft (by assumption) | with_reducible exact wntB_ff (by assumption) | with_reducible exact pckBT (by assumption) | with_reducible exact pckBF (by assumption) | exact s2_Eb | exact s1_Eb) : p := h
theorem co_Eb {p : Prop} (h : p := by first | (simp only [impB_1, impB_0, offB_1, offB_0]; done) | ((try simp only [impB_1, impB_0, offB_1, offB_0]); first | with_reducible exact Sl.ag1 (by assumption) fr_Eb (by with_unfolding_all rfl) (by assumption) en_Eb | with_reducible exact Sl.agN (by assumption) fr_Eb (by with_unfolding_all rfl) (by assumption) (by with_unfolding_all rfl) en_Eb | ((with_reducible refine agL1_e ?_ ?_); (· exact s1_Eb); (· exact fl_Eb)) | ((with_reducible refine agLN_e ?_ ?_); (· exact s1_Eb); (· exact fll_Eb)) | ((with_reducible apply ag_bs); (· exact sM_Eb); (· rfl); (· exact sb_Eb); (· exact fll_Eb)) | ((with_reducible apply ag_al); (· exact sM_Eb); (· rfl); (· exact fll_Eb)) | ((with_reducible apply ag_bx); (· exact sM_Eb); (· rfl); (· rfl); (· exact fll_Eb)) | ((with_reducible apply ag_bd); (· rfl); (· exact s1_Eb); (· exact fll_Eb)) | exact s1_Eb)) : p := h
theorem gs_Eb {r p : Prop} (k : r) (h : Go.Ev.Im r p := by (first | with_reducible apply Im.runS | ((with_reducible apply Im.num); · (simp only [Nat.succ_eq_add_one, Nat.add_assoc, Nat.reduceAdd]; rfl)) | (with_reducible apply Im.unm) | (with_reducible apply Im.selT) | (with_reducible apply Im.selF) | ((with_reducible apply Im.cndT); · assumption) | ((with_reducible apply Im.cndF); · assumption) | ((with_reducible apply Im.cndT); · decide) | ((with_reducible apply Im.cndF); · decide) | ((with_reducible apply Im.cndNT); · decide) | ((with_reducible apply Im.cndNF); · decide) | ((with_reducible apply Im.cndBT); · exact rfl) | ((with_reducible apply Im.cndBF); · exact rfl) | ((with_reducible apply Im.cndNT); · assumption) | ((with_reducible apply Im.cndNF); · assumption) | ((with_reducible apply Im.cndBT); · assumption) | ((with_reducible apply Im.cndBF); · assumption) | ((with_reducible apply Im.bind); · exact op_Eb) | ((with_reducible apply Im.cond); · exact co_Eb) | ((with_reducible apply Im.runB); · exact op_Eb) | ((with_reducible apply Im.runC); · exact co_Eb) | ((with_reducible apply Im.runN); · (simp only [Nat.succ_eq_add_one, Nat.add_assoc, Nat.reduceAdd]; rfl)) | with_reducible apply Im.runR | ((with_reducible apply Im.runE (x := evBuildSlice _ _ _ _ _ _)); · exact sb_Eb)); (repeat (first | with_reducible apply Im.runS | ((with_reducible apply Im.num); · (simp only [Nat.succ_eq_add_one, Nat.add_assoc, Nat.reduceAdd]; rfl)) | (with_reducible apply Im.unm) | (with_reducible apply Im.selT) | (with_reducible apply Im.selF) | ((with_reducible apply Im.cndT); · assumption) | ((with_reducible apply Im.cndF); · assumption) | ((with_reducible apply Im.cndT); · decide) | ((with_reducible apply Im.cndF); · decide) | ((with_reducible apply Im.cndNT); · decide) | ((with_reducible apply Im.cndNF); · decide) | ((with_reducible apply Im.cndBT); · exact rfl) | ((with_reducible apply Im.cndBF); · exact rfl) | ((with_reducible apply Im.cndNT); · assumption) | ((with_reducible apply Im.cndNF); · assumption) | ((with_reducible apply Im.cndBT); · assumption) | ((with_reducible apply Im.cndBF); · assumption) | ((with_reducible apply Im.bind); · exact op_Eb) | ((with_reducible apply Im.cond); · exact co_Eb) | ((with_reducible apply Im.runB); · exact op_Eb) | ((with_reducible apply Im.runC); · exact co_Eb) | ((with_reducible apply Im.runN); · (simp only [Nat.succ_eq_add_one, Nat.add_assoc, Nat.reduceAdd]; rfl)) | with_reducible apply Im.runR | ((with_reducible apply Im.runE (x := evBuildSlice _ _ _ _ _ _)); · exact sb_Eb))); exact Go.Ev.Im.id) : p := h k
section
variable {s : Sp} {b r : Value}
theorem c_rTwin (call : CallF) {h N} (nb : s.book.length < 1000) (nr : s.reads.length < 1000) (hb : Sl h N b s.book) (hr : Sl h N r s.reads) :
    Rn (s13 call (.agg ⟨[iS s.weeks, iS s.most, iS s.fall, iS s.slo, iS s.shi, iS s.wlo, iS s.whi, b, r]⟩) h N) fun v h' N' => (∃ b' r', v = .agg ⟨[iS s.weeks, iS s.most, iS s.fall, iS s.slo, iS s.shi, iS s.wlo, iS s.whi, b', r']⟩ ∧ OwR N N' h' 73 b' s.book ∧ OwR N N' h' 71 r' s.reads) ∧ Gw h N h' N' := by
  unfold s13
  have cb := hb.flat; have cr := hr.flat; have x1 := flatV_one cb; have y1 := cel_flat cb; have x2 := flatV_one cr; have y2 := cel_flat cr
  try refine gs_Eb ?_
  refine Rn.call (Ow.app (α := Ln) (L := []) (K := s.book) (i := N + 2) ap_SLine (.inr (.inl ⟨rfl, sM_Eb⟩)) (by omega) hb fr_Eb (by simp; omega)) ?_
  rintro p' h1 N1 ⟨i1, w1, e1, e2, f1, o1, l1⟩
  rw [List.nil_append] at w1
  have s1 := w1.sl (N := N1) e2
  have a1 := flatV_one s1.flat
  have c1 := cel_flat s1.flat
  try refine gs_Eb ?_
  refine Rn.call (Ow.app (α := Rd) (L := []) (K := s.reads) (i := N + 3) ap_SReading (.inr (.inl ⟨rfl, sM_Eb⟩)) (by omega) hr fr_Eb (by simp; omega)) ?_
  rintro l' h2 N2 ⟨i2, w2, e3, e4, f2, o2, l2⟩
  rw [List.nil_append] at w2
  have s2 := w2.sl (N := N2) e4
  have a2 := flatV_one s2.flat
  have c2 := cel_flat s2.flat
  try refine gs_Eb ?_
  refine Rn.ret ⟨⟨p', l', rfl, ?_, ?_⟩, (Gw.of fr_Eb (by omega))⟩
  · exact .inr ⟨i1, by omega, by omega, w1.keep sS_Eb⟩
  · exact .inr ⟨i2, by omega, by omega, w2.keep sS_Eb⟩
theorem c_lspan (call : CallF) {a c : Int} {h N} : Rn (s41 call (iS a) (iS c) h N) fun v h' N' => v = .agg ⟨[iS a, iS c]⟩ ∧ Gw h N h' N' := by
  unfold s41
  try refine gs_Eb ?_
  exact Rn.ret ⟨rfl, (Gw.of fr_Eb (by omega))⟩
theorem c_only (call : CallF) {rain w n : Int} {h N} (nb : s.book.length < 1000) (nr : s.reads.length < 1000) (hb : Sl h N b s.book) (hr : Sl h N r s.reads) :
    Rn (s39 call (.agg ⟨[iS s.weeks, iS s.most, iS s.fall, iS s.slo, iS s.shi, iS s.wlo, iS s.whi, b, r]⟩) (iS rain) (iS w) (iS n) h N) fun v h' N' => (∃ b' r', v = .agg ⟨[iS s.weeks, iS s.most, iS s.fall, iS s.slo, iS s.shi, iS rain, iS rain, b', r']⟩ ∧ Sl h' N' b' (onS s rain w n).book ∧ Sl h' N' r' s.reads) ∧ Gw h N h' N' := by
  unfold s39
  have cb := hb.flat; have cr := hr.flat; have x1 := flatV_one cb; have y1 := cel_flat cb; have x2 := flatV_one cr; have y2 := cel_flat cr
  try refine gs_Eb ?_
  refine Rn.call (c_rTwin _ nb nr (Sl.up (by assumption) fr_Eb (by omega)) (Sl.up (by assumption) fr_Eb (by omega))) ?_
  rintro _ h1 N1 ⟨⟨b1, r1, rfl, w1, w2⟩, f1, o1, l1⟩
  have s1 := w1.sl (Nat.le_refl _)
  have s2 := w2.sl (Nat.le_refl _)
  have a1 := flatV_one s1.flat
  have c1 := cel_flat s1.flat
  have a2 := flatV_one s2.flat
  have c2 := cel_flat s2.flat
  try refine gs_Eb ?_
  refine Rn.call (c_lspan _) ?_
  rintro _ h2 N2 ⟨rfl, f2, o2, l2⟩
  try refine gs_Eb ?_
  refine Rn.loop9 (fun m a1 a2 a3 a4 a5 a6 a7 a8 a9 g M => ∃ i : Nat, a1 = iS rain ∧ a2 = iS w ∧ a3 = iS n ∧ a4 = .pointer (some ⟨N + 1, 0, none⟩) ∧ a5 = .pointer (some ⟨N1, 0, none⟩) ∧ b1 = a7 ∧ a8 = nS s.book.length ∧ a9 = nS i ∧ i + m = s.book.length ∧ Fr h N g ∧ N2 ≤ M ∧ Fr h1 N1 g ∧ g.get N1 = some (.c [iS s.weeks, iS s.most, iS s.fall, iS s.slo, iS s.shi, iS rain, iS rain, b1, r1] 27) ∧ g.get (N + 1) = some (.c [iS 0, iS 0, iS 0, iS 0, iS 0, iS 0, iS 0, .slice none 0 0, .slice none 0 0] 27) ∧ OwZ g M 73 a6 ((s.book.take i).filter fun x => inS x.Rain_Lo x.Rain_Hi rain) (fun j => N2 ≤ j)) s.book.length (by omega)
    ⟨0, rfl, rfl, rfl, rfl, rfl, rfl, rfl, rfl, by omega, fr_Eb, by omega, fr_Eb, sR_Eb, sS_Eb, .inl ⟨rfl, rfl⟩⟩ ?_
  rintro m g ih _ _ _ _ _ lv _ _ _ h3 N3 ⟨i, rfl, rfl, rfl, rfl, rfl, q0, rfl, rfl, e3, f3, l3, k3, g3, g4, own⟩
  subst q0
  have cl := own.sl.flat
  have x3 := flatV_one cl
  have y3 := cel_flat cl
  have nf : ((s.book.take i).filter fun x => inS x.Rain_Lo x.Rain_Hi rain).length < 1000 := by
    have := List.length_filter_le (fun x : Ln => inS x.Rain_Lo x.Rain_Hi rain) (s.book.take i)
    rw [List.length_take] at this
    omega
  try refine gs_Eb ?_
  (first | with_reducible refine Rn.cnd (fun _ => ?_) (fun _ => ?_) | with_reducible refine Rn.cndN (fun _ => ?_) (fun _ => ?_) | with_reducible refine Rn.cndB (fun _ => ?_) (fun _ => ?_))
  · obtain ⟨x, hx⟩ := at_of (L := s.book) (k := i) (by omega)
    have hi : i < s.book.length := by omega
    have et : (s.book.take (i + 1)).filter (fun x => inS x.Rain_Lo x.Rain_Hi rain) = (s.book.take i).filter (fun x => inS x.Rain_Lo x.Rain_Hi rain) ++ (if inS x.Rain_Lo x.Rain_Hi rain then [x] else []) := by
      rw [List.take_add_one, hx]
      simp only [Option.toList_some, List.filter_append]
      congr 1
      cases hz : inS x.Rain_Lo x.Rain_Hi rain <;> simp [hz]
    have ww : ∃ q, N2 ≤ q ∧ q < N3 + 1 ∧ ∀ g' : Tr Ob, (∀ k, N2 ≤ k → k < N3 → g'.get k = h3.get k) → Ow g' 73 lv ((s.book.take i).filter fun x => inS x.Rain_Lo x.Rain_Hi rain) q := by
      rcases own with ⟨rfl, e⟩ | ⟨q, p, hq, o⟩
      · rw [e]; exact ⟨N3, by omega, by omega, fun g' _ => Ow.nil _ _ _⟩
      · exact ⟨q, p, by omega, fun g' hk => o.keep (hk q p hq)⟩
    try refine gs_Eb ?_
    refine Rn.call (c_inside _) ?_
    rintro _ h4 N4 ⟨rfl, f4, o4, l4⟩
    unfold jnR
    cases hin : inS x.Rain_Lo x.Rain_Hi rain with
    | true =>
      rw [hin, if_pos rfl] at et
      obtain ⟨q, z1, z2, ww⟩ := ww
      clear own
      try refine gs_Eb ?_
      refine Rn.call (Ow.app (α := Ln) (K := [x]) (i := q) ap_SLine (ww _ fun k g1 g2 => sS_Eb) (by omega) (Sl.lit [x] sM_Eb (by omega : N4 < N4 + 1) rfl rfl) (Fr.refl _ _) (by simp; omega)) ?_
      rintro v2 h5 N5 ⟨q', w5, e5, e5', f5, o5, l5⟩
      have cv2 := (w5.sl e5').flat
      have z7 := flatV_one cv2
      have z8 := cel_flat cv2
      try refine gs_Eb ?_
      exact ih (m - 1) (by omega) _ _ _ _ _ _ _ _ _ _ _ ⟨i + 1, rfl, rfl, rfl, rfl, rfl, rfl, rfl, rfl, by omega, fr_Eb, by omega, fr_Eb, sS_Eb, sS_Eb, by rw [et]; exact .inr ⟨q', by omega, e5', w5⟩⟩
    | false =>
      rw [hin, if_neg (by decide), List.append_nil] at et
      try refine gs_Eb ?_
      exact ih (m - 1) (by omega) _ _ _ _ _ _ _ _ _ _ _ ⟨i + 1, rfl, rfl, rfl, rfl, rfl, rfl, rfl, rfl, by omega, fr_Eb, by omega, fr_Eb, sS_Eb, sS_Eb, by rw [et]; exact own.keep (by omega) fun j j1 j2 => sS_Eb⟩
  · obtain rfl : i = s.book.length := by omega
    rw [List.take_length] at own nf
    clear ih
    have ww : ∃ q, N2 ≤ q ∧ q < N3 + 1 ∧ ∀ g' : Tr Ob, (∀ k, N2 ≤ k → k < N3 → g'.get k = h3.get k) → Ow g' 73 lv (s.book.filter fun x => inS x.Rain_Lo x.Rain_Hi rain) q := by
      rcases own with ⟨rfl, e⟩ | ⟨q, p, hq, o⟩
      · rw [e]; exact ⟨N3, by omega, by omega, fun g' _ => Ow.nil _ _ _⟩
      · exact ⟨q, p, by omega, fun g' hk => o.keep (hk q p hq)⟩
    obtain ⟨q, z1, z2, ww⟩ := ww
    clear own
    try refine gs_Eb ?_
    refine Rn.call (c_lspan _) ?_
    rintro _ h4 N4 ⟨rfl, f4, o4, l4⟩
    try refine gs_Eb ?_
    refine Rn.call (c_lspan _) ?_
    rintro _ h5 N5 ⟨rfl, f5, o5, l5⟩
    try refine gs_Eb ?_
    refine Rn.call (Ow.app (α := Ln) (K := [⟨rain, rain, w, n, n⟩]) (i := q) ap_SLine (ww _ fun k g1 g2 => sS_Eb) (by omega) (Sl.lit [(⟨rain, rain, w, n, n⟩ : Ln)] sM_Eb (by omega : N5 < N5 + 1) rfl rfl) (Fr.refl _ _) (by simp; omega)) ?_
    rintro v2 h6 N6 ⟨q', w6, e6, e6', f6, o6, l6⟩
    have cv2 := (w6.sl e6').flat
    have z7 := flatV_one cv2
    have z8 := cel_flat cv2
    try refine gs_Eb ?_
    exact Rn.ret ⟨⟨v2, r1, rfl, (w6.keep sS_Eb).sl (by omega), (w2.keep fun j j1 j2 => (show _ = h3.get j from sS_Eb).trans (k3 j j2)).sl (by omega)⟩, (Gw.of fr_Eb (by omega))⟩
end
end Go.Proofs.Ytpilgokdbliklaa
end

section
namespace Go.Proofs.Ytpilgokdbliklaa
open Go.Ev Go.RowKit
set_option linter.unusedVariables false
set_option linter.unusedSimpArgs false
set_option linter.unusedSectionVars false
set_option maxRecDepth 100000
set_option maxHeartbeats 4000000
theorem s1_Ec {p : Prop} (h : p := by (simp (disch := omega) only [obind_s, orun_s, ocond_t, fad_p, ld1_e, ldN_e, sto_e, cellO_c, wrO_c, Tr.get_same, Tr.get_other, nth_0, nth_s, drp_0, drp_s, drp_n, tak_0, tak_s, tak_n, over_n, over_c, lay_0, lay_s, lay_n, len_n, len_c, app_n, app_c, reps_0, reps_s, cel_agg, cel_int, cel_bool, cel_str, cel_sl, cel_ptr, cel_map, cel_func, cel_nilf, fil_n, fil_c, beq_r, ble_d, allF_n, allF_c, one_int, one_bool, one_str, one_sl, one_ptr, one_map, one_func, one_nilf, Bool.and_true, Bool.true_and, Bool.not_true, Bool.not_false, iadA_z, Int.reduceToNat, Int.toNat_zero, fl1_a, flN_a, extr_t, unot, not_d, Nat.add_eq, Nat.mul_eq, Nat.mul_one, Nat.one_mul, Nat.zero_mul, Nat.reduceMul, Nat.zero_add, Nat.add_zero, Nat.le_refl, decide_true, Nat.reduceAdd, Nat.reduceLeDiff, bsl_Sint, bld_Span, bld_spring_work, bld_spring_asked, enc_Line, enc_Reading, ocond_d, Int.toNat_natCast, *]); first | done | fail) : p := h
theorem s2_Ec {p : Prop} (h : p := by (simp (disch := omega) only [obind_s, orun_s, ocond_t, fad_p, ld1_e, ldN_e, sto_e, cellO_c, wrO_c, Tr.get_same, Tr.get_other, nth_0, nth_s, drp_0, drp_s, drp_n, tak_0, tak_s, tak_n, over_n, over_c, lay_0, lay_s, lay_n, len_n, len_c, app_n, app_c, reps_0, reps_s, cel_agg, cel_int, cel_bool, cel_str, cel_sl, cel_ptr, cel_map, cel_func, cel_nilf, fil_n, fil_c, beq_r, ble_d, allF_n, allF_c, one_int, one_bool, one_str, one_sl, one_ptr, one_map, one_func, one_nilf, Bool.and_true, Bool.true_and, Bool.not_true, Bool.not_false, iadA_z, Int.reduceToNat, Int.toNat_zero, fl1_a, flN_a, extr_t, unot, not_d, Nat.add_eq, Nat.mul_eq, Nat.mul_one, Nat.one_mul, Nat.zero_mul, Nat.reduceMul, Nat.zero_add, Nat.add_zero, Nat.le_refl, decide_true, Nat.reduceAdd, Nat.reduceLeDiff, bsl_Sint, bld_Span, bld_spring_work, bld_spring_asked, enc_Line, enc_Reading, ocond_d, Int.toNat_natCast, *]); rfl) : p := h
theorem sb_Ec {p : Prop} (h : p := by first | ((simp (disch := omega) only [obind_s, orun_s, ocond_t, fad_p, ld1_e, ldN_e, sto_e, cellO_c, wrO_c, Tr.get_same, Tr.get_other, nth_0, nth_s, drp_0, drp_s, drp_n, tak_0, tak_s, tak_n, over_n, over_c, lay_0, lay_s, lay_n, len_n, len_c, app_n, app_c, reps_0, reps_s, cel_agg, cel_int, cel_bool, cel_str, cel_sl, cel_ptr, cel_map, cel_func, cel_nilf, fil_n, fil_c, beq_r, ble_d, allF_n, allF_c, one_int, one_bool, one_str, one_sl, one_ptr, one_map, one_func, one_nilf, Bool.and_true, Bool.true_and, Bool.not_true, Bool.not_false, iadA_z, Int.reduceToNat, Int.toNat_zero, fl1_a, flN_a, extr_t, unot, not_d, Nat.add_eq, Nat.mul_eq, Nat.mul_one, Nat.one_mul, Nat.zero_mul, Nat.reduceMul, Nat.zero_add, Nat.add_zero, Nat.le_refl, decide_true, Nat.reduceAdd, Nat.reduceLeDiff, bsl_Sint, bld_Span, bld_spring_work, bld_spring_asked, enc_Line, enc_Reading, ocond_d, Int.toNat_natCast, Nat.succ_eq_add_one, Nat.add_assoc, *]); rfl) | ((simp (disch := omega) only [obind_s, orun_s, ocond_t, fad_p, ld1_e, ldN_e, sto_e, cellO_c, wrO_c, Tr.get_same, Tr.get_other, nth_0, nth_s, drp_0, drp_s, drp_n, tak_0, tak_s, tak_n, over_n, over_c, lay_0, lay_s, lay_n, len_n, len_c, app_n, app_c, reps_0, reps_s, cel_agg, cel_int, cel_bool, cel_str, cel_sl, cel_ptr, cel_map, cel_func, cel_nilf, fil_n, fil_c, beq_r, ble_d, allF_n, allF_c, one_int, one_bool, one_str, one_sl, one_ptr, one_map, one_func, one_nilf, Bool.and_true, Bool.true_and, Bool.not_true, Bool.not_false, iadA_z, Int.reduceToNat, Int.toNat_zero, fl1_a, flN_a, extr_t, unot, not_d, Nat.add_eq, Nat.mul_eq, Nat.mul_one, Nat.one_mul, Nat.zero_mul, Nat.reduceMul, Nat.zero_add, Nat.add_zero, Nat.le_refl, decide_true, Nat.reduceAdd, Nat.reduceLeDiff, bsl_Sint, bld_Span, bld_spring_work, bld_spring_asked, enc_Line, enc_Reading, ocond_d, Int.toNat_natCast, Nat.succ_eq_add_one, Nat.add_assoc, *]); done)) : p := h
theorem fr_Ec {p : Prop} (h : p := by first | assumption | exact Fr.refl _ _ | (simp (disch := omega) only [Fr_set, Fr_refl, *])) : p := h
theorem fl_Ec {p : Prop} (h : p := by first | with_unfolding_all rfl | exact Sl.flat (by assumption) | assumption) : p := h
theorem fll_Ec {p : Prop} (h : p := by first | with_unfolding_all rfl | ((repeat (refine flatL_k fl_Ec ?_)); with_unfolding_all rfl)) : p := h
theorem en_Ec {p : Prop} (h : p := by first | ((simp only [enc_int, enc_str, enc_u8, enc_bool, tak_s, tak_0, tak_n, drp_0, drp_s, drp_n, nth_s, nth_0, bsl_Sint, bld_Span, bld_spring_work, bld_spring_asked, enc_Line, enc_Reading, ocond_d, Int.toNat_natCast]); rfl) | ((simp only [enc_int, enc_str, enc_u8, enc_bool, tak_s, tak_0, tak_n, drp_0, drp_s, drp_n, nth_s, nth_0, bsl_Sint, bld_Span, bld_spring_work, bld_spring_asked, enc_Line, enc_Reading, ocond_d, Int.toNat_natCast]); done) | with_unfolding_all rfl) : p := h
theorem sM_Ec {p : Prop} (h : p := by (first | assumption | (simp (disch := omega) only [Tr.get_same, Tr.get_other, *]; rfl) | (simp (disch := omega) only [Tr.get_same, Tr.get_other, *]; done))) : p := h
theorem sS_Ec {p : Prop} (h : p := by first | assumption | exact s1_Ec) : p := h
theorem op_Ec {p : Prop} (h : p := by first | with_reducible exact fad_p _ _ _ | with_reducible exact iop_lss _ _ | with_reducible exact iop_leq _ _ | with_reducible exact iop_gtr _ _ | with_reducible exact iop_geq _ _ | with_reducible exact iop_eql _ _ | with_reducible exact iop_neq _ _ | with_reducible exact Sl.len (by assumption) | with_reducible exact lenS_s _ _ _ | with_reducible exact Sl.iad (by assumption) (by with_unfolding_all rfl) (by first | assumption | omega) | with_reducible exact Sl.fad (by assumption) (by first | assumption | omega) | with_reducible exact Sl.ld1 (by assumption) fr_Ec (by with_unfolding_all rfl) (by assumption) en_Ec | with_reducible exact Sl.ldN (by assumption) fr_Ec (by with_unfolding_all rfl) (by assumption) (by with_unfolding_all rfl) en_Ec | with_reducible exact zadd1 (by omega) | with_reducible exact zsub1 (by omega) (by omega) | with_reducible exact zaddI (by omega) (by omega) | with_reducible exact zsubI (by omega) (by omega) | with_reducible exact min_z | with_reducible exact max_z | with_reducible exact zmulI (by assumption) | with_reducible exact zmulK (by omega) (by omega) | with_reducible exact quo_z (by omega) (by omega) (by omega) | with_reducible exact cv_u8 (by omega) | with_reducible exact rem_z (by omega) (by omega) (by omega) | with_reducible exact neq_bool (by kernel_rfl) | with_reducible exact eql_u8 | with_reducible exact wntT_t (by assumption) | with_reducible exact wntT_f (by assumption) | with_reducible exact wntF_t (by assumption) | with_reducible exact wntF_f (by assumption) | with_reducible exact wnt_tt | with_reducible exact wnt_tf | with_reducible exact wnt_ft | with_reducible exact wnt_ff | with_reducible exact wnt_u _ _ | with_reducible exact pck_t _ _ | with_reducible exact pck_f _ _ | with_reducible exact pckT (by assumption) | with_reducible exact pckF (by assumption) | with_reducible exact wntT_t (by decide) | with_reducible exact wntT_f (by decide) | with_reducible exact wntF_t (by decide) | with_reducible exact wntF_f (by decide) | with_reducible exact pckT (by decide) | with_reducible exact pckF (by decide) | with_reducible exact wntN_tt (by decide) | with_reducible exact wntN_tf (by decide) | with_reducible exact wntN_ft (by decide) | with_reducible exact wntN_ff (by decide) | with_reducible exact pckNT (by decide) | with_reducible exact pckNF (by decide) | with_reducible exact wntN_tt (by assumption) | with_reducible exact wntN_tf (by assumption) | with_reducible exact wntN_ft (by assumption) | with_reducible exact wntN_ff (by assumption) | with_reducible exact pckNT (by assumption) | with_reducible exact pckNF (by assumption) | with_reducible exact wntB_tt (by assumption) | with_reducible exact wntB_tf (by assumption) | with_reducible exact wntB_ft (by assumption) | with_reducible exact wntB_ff (by assumption) | with_reducible exact pckBT (by assumption) | with_reducible exact pckBF (by assumption) | exact s2_Ec | exact s1_Ec) : p := h
theorem co_Ec {p : Prop} (h : p := by first | (simp only [impB_1, impB_0, offB_1, offB_0]; done) | ((try simp only [impB_1, impB_0, offB_1, offB_0]); first | with_reducible exact Sl.ag1 (by assumption) fr_Ec (by with_unfolding_all rfl) (by assumption) en_Ec | with_reducible exact Sl.agN (by assumption) fr_Ec (by with_unfolding_all rfl) (by assumption) (by with_unfolding_all rfl) en_Ec | ((with_reducible refine agL1_e ?_ ?_); (· exact s1_Ec); (· exact fl_Ec)) | ((with_reducible refine agLN_e ?_ ?_); (· exact s1_Ec); (· exact fll_Ec)) | ((with_reducible apply ag_bs); (· exact sM_Ec); (· rfl); (· exact sb_Ec); (· exact fll_Ec)) | ((with_reducible apply ag_al); (· exact sM_Ec); (· rfl); (· exact fll_Ec)) | ((with_reducible apply ag_bx); (· exact sM_Ec); (· rfl); (· rfl); (· exact fll_Ec)) | ((with_reducible apply ag_bd); (· rfl); (· exact s1_Ec); (· exact fll_Ec)) | exact s1_Ec)) : p := h
theorem gs_Ec {r p : Prop} (k : r) (h : Go.Ev.Im r p := by (first | with_reducible apply Im.runS | ((with_reducible apply Im.num); · (simp only [Nat.succ_eq_add_one, Nat.add_assoc, Nat.reduceAdd]; rfl)) | (with_reducible apply Im.unm) | (with_reducible apply Im.selT) | (with_reducible apply Im.selF) | ((with_reducible apply Im.cndT); · assumption) | ((with_reducible apply Im.cndF); · assumption) | ((with_reducible apply Im.cndT); · decide) | ((with_reducible apply Im.cndF); · decide) | ((with_reducible apply Im.cndNT); · decide) | ((with_reducible apply Im.cndNF); · decide) | ((with_reducible apply Im.cndBT); · exact rfl) | ((with_reducible apply Im.cndBF); · exact rfl) | ((with_reducible apply Im.cndNT); · assumption) | ((with_reducible apply Im.cndNF); · assumption) | ((with_reducible apply Im.cndBT); · assumption) | ((with_reducible apply Im.cndBF); · assumption) | ((with_reducible apply Im.bind); · exact op_Ec) | ((with_reducible apply Im.cond); · exact co_Ec) | ((with_reducible apply Im.runB); · exact op_Ec) | ((with_reducible apply Im.runC); · exact co_Ec) | ((with_reducible apply Im.runN); · (simp only [Nat.succ_eq_add_one, Nat.add_assoc, Nat.reduceAdd]; rfl)) | with_reducible apply Im.runR | ((with_reducible apply Im.runE (x := evBuildSlice _ _ _ _ _ _)); · exact sb_Ec)); (repeat (first | with_reducible apply Im.runS | ((with_reducible apply Im.num); · (simp only [Nat.succ_eq_add_one, Nat.add_assoc, Nat.reduceAdd]; rfl)) | (with_reducible apply Im.unm) | (with_reducible apply Im.selT) | (with_reducible apply Im.selF) | ((with_reducible apply Im.cndT); · assumption) | ((with_reducible apply Im.cndF); · assumption) | ((with_reducible apply Im.cndT); · decide) | ((with_reducible apply Im.cndF); · decide) | ((with_reducible apply Im.cndNT); · decide) | ((with_reducible apply Im.cndNF); · decide) | ((with_reducible apply Im.cndBT); · exact rfl) | ((with_reducible apply Im.cndBF); · exact rfl) | ((with_reducible apply Im.cndNT); · assumption) | ((with_reducible apply Im.cndNF); · assumption) | ((with_reducible apply Im.cndBT); · assumption) | ((with_reducible apply Im.cndBF); · assumption) | ((with_reducible apply Im.bind); · exact op_Ec) | ((with_reducible apply Im.cond); · exact co_Ec) | ((with_reducible apply Im.runB); · exact op_Ec) | ((with_reducible apply Im.runC); · exact co_Ec) | ((with_reducible apply Im.runN); · (simp only [Nat.succ_eq_add_one, Nat.add_assoc, Nat.reduceAdd]; rfl)) | with_reducible apply Im.runR | ((with_reducible apply Im.runE (x := evBuildSlice _ _ _ _ _ _)); · exact sb_Ec))); exact Go.Ev.Im.id) : p := h k
section
variable {s : Sp} {b r : Value}
theorem c_holds (call : CallF) {rain : Int} {l : Value} {L : List Int} {h N} (hs : OkS s) (hL : L.length = s.weeks.toNat) (F : Flow s rain (fun j => L.getD j 0) s.weeks.toNat) (h1 : s.wlo ≤ rain) (h2 : rain ≤ s.whi) (hb : Sl h N b s.book) (hr : Sl h N r s.reads) (hl : Sl h N l L) :
    Rn (s40 call (.agg ⟨[iS s.weeks, iS s.most, iS s.fall, iS s.slo, iS s.shi, iS s.wlo, iS s.whi, b, r]⟩) (iS rain) l h N) fun v h' N' => v = .bool true ∧ Gw h N h' N' := by
  unfold s40
  have cb := hb.flat; have cr := hr.flat; have x1 := flatV_one cb; have y1 := cel_flat cb; have x2 := flatV_one cr; have y2 := cel_flat cr
  have cl := hl.flat
  have x3 := flatV_one cl
  have y3 := cel_flat cl
  obtain ⟨w1, w2, k1, k2, p1, p2, a1, a2, a3, v1, v2, v3⟩ := hs.ok
  have nb := hs.nb
  have e0 : ¬ (L.length : Int) ≠ s.weeks := by omega
  have hin : inS s.wlo s.whi rain = true := by simp only [inS, Bool.and_eq_true, decide_eq_true_eq]; omega
  try refine gs_Ec ?_
  refine Rn.call (c_inside _) ?_
  rintro _ h3 N3 ⟨rfl, f3, o3, l3⟩
  rw [hin]
  try refine gs_Ec ?_
  refine Rn.loop6 (fun m a1 a2 a3 a4 a5 a6 g M => ∃ i : Nat, a1 = iS rain ∧ l = a2 ∧ a3 = .pointer (some ⟨N, 0, none⟩) ∧ l = a4 ∧ a5 = nS L.length ∧ a6 = nS i ∧ i + m = L.length ∧ Fr h N g ∧ N + 1 ≤ M ∧ g.get N = some (.c [iS s.weeks, iS s.most, iS s.fall, iS s.slo, iS s.shi, iS s.wlo, iS s.whi, b, r] 27)) L.length (by omega) ⟨0, rfl, rfl, rfl, rfl, rfl, rfl, by omega, fr_Ec, by omega, sS_Ec⟩ ?_
  rintro m g ih _ _ _ _ _ _ h4 N4 ⟨i, rfl, z0, rfl, z1, rfl, rfl, e4, f4, l4, g4⟩
  subst z0
  cases z1
  try refine gs_Ec ?_
  (first | with_reducible refine Rn.cnd (fun _ => ?_) (fun _ => ?_) | with_reducible refine Rn.cndN (fun _ => ?_) (fun _ => ?_) | with_reducible refine Rn.cndB (fun _ => ?_) (fun _ => ?_))
  · obtain ⟨n, hn⟩ := at_of (L := L) (k := i) (by omega)
    have hi : i < L.length := by omega
    have hnd : L.getD i 0 = n := by rw [List.getD_eq_getElem?_getD, hn]; rfl
    have hbd := F.bd i (by omega)
    have hln := F.ln i (by omega)
    have har := F.rd i (by omega)
    have hst := fun h => F.st (i - 1) h
    simp only [hnd] at hbd hln har
    have b1 : ¬ n < 0 := by omega
    have b2 : ¬ s.most < n := by omega
    by_cases hi0 : 0 < (i : Int)
    · obtain ⟨q, hq⟩ := at_of (L := L) (k := i - 1) (by omega)
      have hqd : L.getD (i - 1) 0 = q := by rw [List.getD_eq_getElem?_getD, hq]; rfl
      have hst := hst (by omega)
      simp only [show i - 1 + 1 = i by omega, hnd, hqd] at hst
      have b3 : ¬ q < n := by omega
      have b4 : ¬ n < q - s.fall := by omega
      have q1 : -1000 ≤ q ∧ q ≤ 1000 := by
        have := F.bd (i - 1) (by omega)
        simp only [hqd] at this
        omega
      try refine gs_Ec ?_
      refine Rn.call (c_fits _ (w := i) (n := n) hs ⟨by omega, by omega⟩ (Sl.up (by assumption) fr_Ec (by omega)) (Sl.up (by assumption) fr_Ec (by omega))) ?_
      rintro _ h9 N9 ⟨rfl, f9, o9, l9⟩
      rw [har]
      try refine gs_Ec ?_
      have m0 : h9.get N = some (.c [iS s.weeks, iS s.most, iS s.fall, iS s.slo, iS s.shi, iS s.wlo, iS s.whi, b, r] 27) := sS_Ec
      have t0 : Fr h N h9 := fr_Ec
      have t1 : N + 1 ≤ N9 := by omega
      refine Rn.loop11 (fun m' c1 c2 c3 c4 c5 c6 c7 c8 c9 c10 c11 g' M' => ∃ j : Nat, c1 = iS rain ∧ l = c2 ∧ c3 = .pointer (some ⟨N, 0, none⟩) ∧ c4 = nS i ∧ c5 = iS n ∧ l = c6 ∧ c7 = nS L.length ∧ c8 = nS i ∧ b = c9 ∧ c10 = nS s.book.length ∧ c11 = nS j ∧ j + m' = s.book.length ∧ Fr h9 N9 g' ∧ N9 ≤ M') s.book.length (by omega) ⟨0, rfl, rfl, rfl, rfl, rfl, rfl, rfl, rfl, rfl, rfl, rfl, by omega, fr_Ec, by omega⟩ ?_
      rintro m' g' ih' _ _ _ _ _ _ _ _ _ _ _ h10 N10 ⟨j, rfl, y0, rfl, rfl, rfl, y1, rfl, rfl, y2, rfl, rfl, e10, f10, l10⟩
      subst y0
      subst y2
      cases y1
      have k0 : Sl h10 N10 b s.book := (hb.up t0 (by omega)).up f10 (by omega)
      have n0 : h10.get N = some (.c [iS s.weeks, iS s.most, iS s.fall, iS s.slo, iS s.shi, iS s.wlo, iS s.whi, b, r] 27) := (f10 N (by omega)).trans m0
      try refine gs_Ec ?_
      (first | with_reducible refine Rn.cnd (fun _ => ?_) (fun _ => ?_) | with_reducible refine Rn.cndN (fun _ => ?_) (fun _ => ?_) | with_reducible refine Rn.cndB (fun _ => ?_) (fun _ => ?_))
      · obtain ⟨x, hx⟩ := at_of (L := s.book) (k := j) (by omega)
        have hj : j < s.book.length := by omega
        have hlx := hln x (List.mem_of_getElem? hx)
        try refine gs_Ec ?_
        by_cases c1 : x.Week = (i : Int)
        · try refine gs_Ec ?_
          refine Rn.call (c_inside _) ?_
          rintro _ h11 N11 ⟨rfl, f11, o11, l11⟩
          cases c2 : inS x.Rain_Lo x.Rain_Hi rain with
          | false =>
            try refine gs_Ec ?_
            exact ih' (m' - 1) (by omega) _ _ _ _ _ _ _ _ _ _ _ _ _ ⟨j + 1, rfl, rfl, rfl, rfl, rfl, rfl, rfl, rfl, rfl, rfl, rfl, by omega, fr_Ec, by omega⟩
          | true =>
            have c3 : inS x.Gives_Lo x.Gives_Hi n = true := by
              simp only [inS, Bool.and_eq_true, decide_eq_true_eq] at c2 ⊢
              exact hlx c1 c2.1 c2.2
            try refine gs_Ec ?_
            refine Rn.call (c_inside _) ?_
            rintro _ h12 N12 ⟨rfl, f12, o12, l12⟩
            rw [c3]
            try refine gs_Ec ?_
            exact ih' (m' - 1) (by omega) _ _ _ _ _ _ _ _ _ _ _ _ _ ⟨j + 1, rfl, rfl, rfl, rfl, rfl, rfl, rfl, rfl, rfl, rfl, rfl, by omega, fr_Ec, by omega⟩
        · try refine gs_Ec ?_
          exact ih' (m' - 1) (by omega) _ _ _ _ _ _ _ _ _ _ _ _ _ ⟨j + 1, rfl, rfl, rfl, rfl, rfl, rfl, rfl, rfl, rfl, rfl, rfl, by omega, fr_Ec, by omega⟩
      · clear ih'
        try refine gs_Ec ?_
        exact ih (m - 1) (by omega) _ _ _ _ _ _ _ _ ⟨i + 1, rfl, rfl, rfl, rfl, rfl, rfl, by omega, t0.trans f10 (by omega), by omega, n0⟩
    · try refine gs_Ec ?_
      refine Rn.call (c_fits _ (w := i) (n := n) hs ⟨by omega, by omega⟩ (Sl.up (by assumption) fr_Ec (by omega)) (Sl.up (by assumption) fr_Ec (by omega))) ?_
      rintro _ h9 N9 ⟨rfl, f9, o9, l9⟩
      rw [har]
      try refine gs_Ec ?_
      have m0 : h9.get N = some (.c [iS s.weeks, iS s.most, iS s.fall, iS s.slo, iS s.shi, iS s.wlo, iS s.whi, b, r] 27) := sS_Ec
      have t0 : Fr h N h9 := fr_Ec
      have t1 : N + 1 ≤ N9 := by omega
      refine Rn.loop11 (fun m' c1 c2 c3 c4 c5 c6 c7 c8 c9 c10 c11 g' M' => ∃ j : Nat, c1 = iS rain ∧ l = c2 ∧ c3 = .pointer (some ⟨N, 0, none⟩) ∧ c4 = nS i ∧ c5 = iS n ∧ l = c6 ∧ c7 = nS L.length ∧ c8 = nS i ∧ b = c9 ∧ c10 = nS s.book.length ∧ c11 = nS j ∧ j + m' = s.book.length ∧ Fr h9 N9 g' ∧ N9 ≤ M') s.book.length (by omega) ⟨0, rfl, rfl, rfl, rfl, rfl, rfl, rfl, rfl, rfl, rfl, rfl, by omega, fr_Ec, by omega⟩ ?_
      rintro m' g' ih' _ _ _ _ _ _ _ _ _ _ _ h10 N10 ⟨j, rfl, y0, rfl, rfl, rfl, y1, rfl, rfl, y2, rfl, rfl, e10, f10, l10⟩
      subst y0
      subst y2
      cases y1
      have k0 : Sl h10 N10 b s.book := (hb.up t0 (by omega)).up f10 (by omega)
      have n0 : h10.get N = some (.c [iS s.weeks, iS s.most, iS s.fall, iS s.slo, iS s.shi, iS s.wlo, iS s.whi, b, r] 27) := (f10 N (by omega)).trans m0
      try refine gs_Ec ?_
      (first | with_reducible refine Rn.cnd (fun _ => ?_) (fun _ => ?_) | with_reducible refine Rn.cndN (fun _ => ?_) (fun _ => ?_) | with_reducible refine Rn.cndB (fun _ => ?_) (fun _ => ?_))
      · obtain ⟨x, hx⟩ := at_of (L := s.book) (k := j) (by omega)
        have hj : j < s.book.length := by omega
        have hlx := hln x (List.mem_of_getElem? hx)
        try refine gs_Ec ?_
        by_cases c1 : x.Week = (i : Int)
        · try refine gs_Ec ?_
          refine Rn.call (c_inside _) ?_
          rintro _ h11 N11 ⟨rfl, f11, o11, l11⟩
          cases c2 : inS x.Rain_Lo x.Rain_Hi rain with
          | false =>
            try refine gs_Ec ?_
            exact ih' (m' - 1) (by omega) _ _ _ _ _ _ _ _ _ _ _ _ _ ⟨j + 1, rfl, rfl, rfl, rfl, rfl, rfl, rfl, rfl, rfl, rfl, rfl, by omega, fr_Ec, by omega⟩
          | true =>
            have c3 : inS x.Gives_Lo x.Gives_Hi n = true := by
              simp only [inS, Bool.and_eq_true, decide_eq_true_eq] at c2 ⊢
              exact hlx c1 c2.1 c2.2
            try refine gs_Ec ?_
            refine Rn.call (c_inside _) ?_
            rintro _ h12 N12 ⟨rfl, f12, o12, l12⟩
            rw [c3]
            try refine gs_Ec ?_
            exact ih' (m' - 1) (by omega) _ _ _ _ _ _ _ _ _ _ _ _ _ ⟨j + 1, rfl, rfl, rfl, rfl, rfl, rfl, rfl, rfl, rfl, rfl, rfl, by omega, fr_Ec, by omega⟩
        · try refine gs_Ec ?_
          exact ih' (m' - 1) (by omega) _ _ _ _ _ _ _ _ _ _ _ _ _ ⟨j + 1, rfl, rfl, rfl, rfl, rfl, rfl, rfl, rfl, rfl, rfl, rfl, by omega, fr_Ec, by omega⟩
      · clear ih'
        try refine gs_Ec ?_
        exact ih (m - 1) (by omega) _ _ _ _ _ _ _ _ ⟨i + 1, rfl, rfl, rfl, rfl, rfl, rfl, by omega, t0.trans f10 (by omega), by omega, n0⟩
  · try refine gs_Ec ?_
    exact Rn.ret ⟨rfl, (Gw.of fr_Ec (by omega))⟩
end
end Go.Proofs.Ytpilgokdbliklaa
end

section
namespace Go.Proofs.Ytpilgokdbliklaa
open Go.Ev Go.RowKit
set_option linter.unusedVariables false
set_option linter.unusedSimpArgs false
set_option linter.unusedSectionVars false
set_option maxRecDepth 100000
set_option maxHeartbeats 4000000
theorem s1_Ed {p : Prop} (h : p := by (simp (disch := omega) only [obind_s, orun_s, ocond_t, fad_p, ld1_e, ldN_e, sto_e, cellO_c, wrO_c, Tr.get_same, Tr.get_other, nth_0, nth_s, drp_0, drp_s, drp_n, tak_0, tak_s, tak_n, over_n, over_c, lay_0, lay_s, lay_n, len_n, len_c, app_n, app_c, reps_0, reps_s, cel_agg, cel_int, cel_bool, cel_str, cel_sl, cel_ptr, cel_map, cel_func, cel_nilf, fil_n, fil_c, beq_r, ble_d, allF_n, allF_c, one_int, one_bool, one_str, one_sl, one_ptr, one_map, one_func, one_nilf, Bool.and_true, Bool.true_and, Bool.not_true, Bool.not_false, iadA_z, Int.reduceToNat, Int.toNat_zero, fl1_a, flN_a, extr_t, unot, not_d, Nat.add_eq, Nat.mul_eq, Nat.mul_one, Nat.one_mul, Nat.zero_mul, Nat.reduceMul, Nat.zero_add, Nat.add_zero, Nat.le_refl, decide_true, Nat.reduceAdd, Nat.reduceLeDiff, bsl_Sint, bld_Span, bld_spring_work, bld_spring_asked, enc_Line, enc_Reading, ocond_d, Int.toNat_natCast, *]); first | done | fail) : p := h
theorem s2_Ed {p : Prop} (h : p := by (simp (disch := omega) only [obind_s, orun_s, ocond_t, fad_p, ld1_e, ldN_e, sto_e, cellO_c, wrO_c, Tr.get_same, Tr.get_other, nth_0, nth_s, drp_0, drp_s, drp_n, tak_0, tak_s, tak_n, over_n, over_c, lay_0, lay_s, lay_n, len_n, len_c, app_n, app_c, reps_0, reps_s, cel_agg, cel_int, cel_bool, cel_str, cel_sl, cel_ptr, cel_map, cel_func, cel_nilf, fil_n, fil_c, beq_r, ble_d, allF_n, allF_c, one_int, one_bool, one_str, one_sl, one_ptr, one_map, one_func, one_nilf, Bool.and_true, Bool.true_and, Bool.not_true, Bool.not_false, iadA_z, Int.reduceToNat, Int.toNat_zero, fl1_a, flN_a, extr_t, unot, not_d, Nat.add_eq, Nat.mul_eq, Nat.mul_one, Nat.one_mul, Nat.zero_mul, Nat.reduceMul, Nat.zero_add, Nat.add_zero, Nat.le_refl, decide_true, Nat.reduceAdd, Nat.reduceLeDiff, bsl_Sint, bld_Span, bld_spring_work, bld_spring_asked, enc_Line, enc_Reading, ocond_d, Int.toNat_natCast, *]); rfl) : p := h
theorem sb_Ed {p : Prop} (h : p := by first | ((simp (disch := omega) only [obind_s, orun_s, ocond_t, fad_p, ld1_e, ldN_e, sto_e, cellO_c, wrO_c, Tr.get_same, Tr.get_other, nth_0, nth_s, drp_0, drp_s, drp_n, tak_0, tak_s, tak_n, over_n, over_c, lay_0, lay_s, lay_n, len_n, len_c, app_n, app_c, reps_0, reps_s, cel_agg, cel_int, cel_bool, cel_str, cel_sl, cel_ptr, cel_map, cel_func, cel_nilf, fil_n, fil_c, beq_r, ble_d, allF_n, allF_c, one_int, one_bool, one_str, one_sl, one_ptr, one_map, one_func, one_nilf, Bool.and_true, Bool.true_and, Bool.not_true, Bool.not_false, iadA_z, Int.reduceToNat, Int.toNat_zero, fl1_a, flN_a, extr_t, unot, not_d, Nat.add_eq, Nat.mul_eq, Nat.mul_one, Nat.one_mul, Nat.zero_mul, Nat.reduceMul, Nat.zero_add, Nat.add_zero, Nat.le_refl, decide_true, Nat.reduceAdd, Nat.reduceLeDiff, bsl_Sint, bld_Span, bld_spring_work, bld_spring_asked, enc_Line, enc_Reading, ocond_d, Int.toNat_natCast, Nat.succ_eq_add_one, Nat.add_assoc, *]); rfl) | ((simp (disch := omega) only [obind_s, orun_s, ocond_t, fad_p, ld1_e, ldN_e, sto_e, cellO_c, wrO_c, Tr.get_same, Tr.get_other, nth_0, nth_s, drp_0, drp_s, drp_n, tak_0, tak_s, tak_n, over_n, over_c, lay_0, lay_s, lay_n, len_n, len_c, app_n, app_c, reps_0, reps_s, cel_agg, cel_int, cel_bool, cel_str, cel_sl, cel_ptr, cel_map, cel_func, cel_nilf, fil_n, fil_c, beq_r, ble_d, allF_n, allF_c, one_int, one_bool, one_str, one_sl, one_ptr, one_map, one_func, one_nilf, Bool.and_true, Bool.true_and, Bool.not_true, Bool.not_false, iadA_z, Int.reduceToNat, Int.toNat_zero, fl1_a, flN_a, extr_t, unot, not_d, Nat.add_eq, Nat.mul_eq, Nat.mul_one, Nat.one_mul, Nat.zero_mul, Nat.reduceMul, Nat.zero_add, Nat.add_zero, Nat.le_refl, decide_true, Nat.reduceAdd, Nat.reduceLeDiff, bsl_Sint, bld_Span, bld_spring_work, bld_spring_asked, enc_Line, enc_Reading, ocond_d, Int.toNat_natCast, Nat.succ_eq_add_one, Nat.add_assoc, *]); done)) : p := h
theorem fr_Ed {p : Prop} (h : p := by first | assumption | exact Fr.refl _ _ | (simp (disch := omega) only [Fr_set, Fr_refl, *])) : p := h
theorem fl_Ed {p : Prop} (h : p := by first | with_unfolding_all rfl | exact Sl.flat (by assumption) | assumption) : p := h
theorem fll_Ed {p : Prop} (h : p := by first | with_unfolding_all rfl | ((repeat (refine flatL_k fl_Ed ?_)); with_unfolding_all rfl)) : p := h
theorem en_Ed {p : Prop} (h : p := by first | ((simp only [enc_int, enc_str, enc_u8, enc_bool, tak_s, tak_0, tak_n, drp_0, drp_s, drp_n, nth_s, nth_0, bsl_Sint, bld_Span, bld_spring_work, bld_spring_asked, enc_Line, enc_Reading, ocond_d, Int.toNat_natCast]); rfl) | ((simp only [enc_int, enc_str, enc_u8, enc_bool, tak_s, tak_0, tak_n, drp_0, drp_s, drp_n, nth_s, nth_0, bsl_Sint, bld_Span, bld_spring_work, bld_spring_asked, enc_Line, enc_Reading, ocond_d, Int.toNat_natCast]); done) | with_unfolding_all rfl) : p := h
theorem sM_Ed {p : Prop} (h : p := by (first | assumption | (simp (disch := omega) only [Tr.get_same, Tr.get_other, *]; rfl) | (simp (disch := omega) only [Tr.get_same, Tr.get_other, *]; done))) : p := h
theorem sS_Ed {p : Prop} (h : p := by first | assumption | exact s1_Ed) : p := h
theorem op_Ed {p : Prop} (h : p := by first | with_reducible exact fad_p _ _ _ | with_reducible exact iop_lss _ _ | with_reducible exact iop_leq _ _ | with_reducible exact iop_gtr _ _ | with_reducible exact iop_geq _ _ | with_reducible exact iop_eql _ _ | with_reducible exact iop_neq _ _ | with_reducible exact Sl.len (by assumption) | with_reducible exact lenS_s _ _ _ | with_reducible exact Sl.iad (by assumption) (by with_unfolding_all rfl) (by first | assumption | omega) | with_reducible exact Sl.fad (by assumption) (by first | assumption | omega) | with_reducible exact Sl.ld1 (by assumption) fr_Ed (by with_unfolding_all rfl) (by assumption) en_Ed | with_reducible exact Sl.ldN (by assumption) fr_Ed (by with_unfolding_all rfl) (by assumption) (by with_unfolding_all rfl) en_Ed | with_reducible exact zadd1 (by omega) | with_reducible exact zsub1 (by omega) (by omega) | with_reducible exact zaddI (by omega) (by omega) | with_reducible exact zsubI (by omega) (by omega) | with_reducible exact min_z | with_reducible exact max_z | with_reducible exact zmulI (by assumption) | with_reducible exact zmulK (by omega) (by omega) | with_reducible exact quo_z (by omega) (by omega) (by omega) | with_reducible exact cv_u8 (by omega) | with_reducible exact rem_z (by omega) (by omega) (by omega) | with_reducible exact neq_bool (by kernel_rfl) | with_reducible exact eql_u8 | with_reducible exact wntT_t (by assumption) | with_reducible exact wntT_f (by assumption) | with_reducible exact wntF_t (by assumption) | with_reducible exact wntF_f (by assumption) | with_reducible exact wnt_tt | with_reducible exact wnt_tf | with_reducible exact wnt_ft | with_reducible exact wnt_ff | with_reducible exact wnt_u _ _ | with_reducible exact pck_t _ _ | with_reducible exact pck_f _ _ | with_reducible exact pckT (by assumption) | with_reducible exact pckF (by assumption) | with_reducible exact wntT_t (by decide) | with_reducible exact wntT_f (by decide) | with_reducible exact wntF_t (by decide) | with_reducible exact wntF_f (by decide) | with_reducible exact pckT (by decide) | with_reducible exact pckF (by decide) | with_reducible exact wntN_tt (by decide) | with_reducible exact wntN_tf (by decide) | with_reducible exact wntN_ft (by decide) | with_reducible exact wntN_ff (by decide) | with_reducible exact pckNT (by decide) | with_reducible exact pckNF (by decide) | with_reducible exact wntN_tt (by assumption) | with_reducible exact wntN_tf (by assumption) | with_reducible exact wntN_ft (by assumption) | with_reducible exact wntN_ff (by assumption) | with_reducible exact pckNT (by assumption) | with_reducible exact pckNF (by assumption) | with_reducible exact wntB_tt (by assumption) | with_reducible exact wntB_tf (by assumption) | with_reducible exact wntB_ft (by assumption) | with_reducible exact wntB_ff (by assumption) | with_reducible exact pckBT (by assumption) | with_reducible exact pckBF (by assumption) | exact s2_Ed | exact s1_Ed) : p := h
theorem co_Ed {p : Prop} (h : p := by first | (simp only [impB_1, impB_0, offB_1, offB_0]; done) | ((try simp only [impB_1, impB_0, offB_1, offB_0]); first | with_reducible exact Sl.ag1 (by assumption) fr_Ed (by with_unfolding_all rfl) (by assumption) en_Ed | with_reducible exact Sl.agN (by assumption) fr_Ed (by with_unfolding_all rfl) (by assumption) (by with_unfolding_all rfl) en_Ed | ((with_reducible refine agL1_e ?_ ?_); (· exact s1_Ed); (· exact fl_Ed)) | ((with_reducible refine agLN_e ?_ ?_); (· exact s1_Ed); (· exact fll_Ed)) | ((with_reducible apply ag_bs); (· exact sM_Ed); (· rfl); (· exact sb_Ed); (· exact fll_Ed)) | ((with_reducible apply ag_al); (· exact sM_Ed); (· rfl); (· exact fll_Ed)) | ((with_reducible apply ag_bx); (· exact sM_Ed); (· rfl); (· rfl); (· exact fll_Ed)) | ((with_reducible apply ag_bd); (· rfl); (· exact s1_Ed); (· exact fll_Ed)) | exact s1_Ed)) : p := h
theorem gs_Ed {r p : Prop} (k : r) (h : Go.Ev.Im r p := by (first | with_reducible apply Im.runS | ((with_reducible apply Im.num); · (simp only [Nat.succ_eq_add_one, Nat.add_assoc, Nat.reduceAdd]; rfl)) | (with_reducible apply Im.unm) | (with_reducible apply Im.selT) | (with_reducible apply Im.selF) | ((with_reducible apply Im.cndT); · assumption) | ((with_reducible apply Im.cndF); · assumption) | ((with_reducible apply Im.cndT); · decide) | ((with_reducible apply Im.cndF); · decide) | ((with_reducible apply Im.cndNT); · decide) | ((with_reducible apply Im.cndNF); · decide) | ((with_reducible apply Im.cndBT); · exact rfl) | ((with_reducible apply Im.cndBF); · exact rfl) | ((with_reducible apply Im.cndNT); · assumption) | ((with_reducible apply Im.cndNF); · assumption) | ((with_reducible apply Im.cndBT); · assumption) | ((with_reducible apply Im.cndBF); · assumption) | ((with_reducible apply Im.bind); · exact op_Ed) | ((with_reducible apply Im.cond); · exact co_Ed) | ((with_reducible apply Im.runB); · exact op_Ed) | ((with_reducible apply Im.runC); · exact co_Ed) | ((with_reducible apply Im.runN); · (simp only [Nat.succ_eq_add_one, Nat.add_assoc, Nat.reduceAdd]; rfl)) | with_reducible apply Im.runR | ((with_reducible apply Im.runE (x := evBuildSlice _ _ _ _ _ _)); · exact sb_Ed)); (repeat (first | with_reducible apply Im.runS | ((with_reducible apply Im.num); · (simp only [Nat.succ_eq_add_one, Nat.add_assoc, Nat.reduceAdd]; rfl)) | (with_reducible apply Im.unm) | (with_reducible apply Im.selT) | (with_reducible apply Im.selF) | ((with_reducible apply Im.cndT); · assumption) | ((with_reducible apply Im.cndF); · assumption) | ((with_reducible apply Im.cndT); · decide) | ((with_reducible apply Im.cndF); · decide) | ((with_reducible apply Im.cndNT); · decide) | ((with_reducible apply Im.cndNF); · decide) | ((with_reducible apply Im.cndBT); · exact rfl) | ((with_reducible apply Im.cndBF); · exact rfl) | ((with_reducible apply Im.cndNT); · assumption) | ((with_reducible apply Im.cndNF); · assumption) | ((with_reducible apply Im.cndBT); · assumption) | ((with_reducible apply Im.cndBF); · assumption) | ((with_reducible apply Im.bind); · exact op_Ed) | ((with_reducible apply Im.cond); · exact co_Ed) | ((with_reducible apply Im.runB); · exact op_Ed) | ((with_reducible apply Im.runC); · exact co_Ed) | ((with_reducible apply Im.runN); · (simp only [Nat.succ_eq_add_one, Nat.add_assoc, Nat.reduceAdd]; rfl)) | with_reducible apply Im.runR | ((with_reducible apply Im.runE (x := evBuildSlice _ _ _ _ _ _)); · exact sb_Ed))); exact Go.Ev.Im.id) : p := h k
section
variable {s : Sp} {b r : Value}
theorem er_bad {w : Int} (hv : validB s = true) (hc : canS s = false) (hw : 0 ≤ w ∧ w ≤ s.weeks - 1) : erS s w = 8 := by
  have : isWeekB s.weeks w = true := by simp only [isWeekB, inS, Bool.and_eq_true, decide_eq_true_eq]; exact hw
  rw [er_eq, hv, hc, this]; rfl
theorem onS_len (s : Sp) (rain w n : Int) (h : s.book.length < 900 := by omega) : (onS s rain w n).book.length < 1000 := by
  have := List.length_filter_le (fun x : Ln => inS x.Rain_Lo x.Rain_Hi rain) s.book
  show ((s.book.filter fun x : Ln => inS x.Rain_Lo x.Rain_Hi rain) ++ [(⟨rain, rain, w, n, n⟩ : Ln)]).length < 1000
  simp only [List.length_append, List.length_cons, List.length_nil]; omega
theorem gi_flow {s : Sp} {rain : Int} {f : Int × Int → Int} (hs : OkS s) (hok : okN s (leavesS s rain) = true) (hf : (∀ v : Int × Int, f v = v.1) ∨ (∀ v : Int × Int, f v = v.2)) : Flow s rain (fun j => (giL f (leavesS s rain) s.weeks.toNat).getD j 0) s.weeks.toNat := by
  have F := end_flow hs hok hf
  have e : ∀ j, j < s.weeks.toNat → (giL f (leavesS s rain) s.weeks.toNat).getD j 0 = f (leavesS s rain j) := fun j hj => by rw [List.getD_eq_getElem?_getD, giL_at f _ _ j hj]; rfl
  refine ⟨fun j hj => ?_, fun j hj => ?_, fun j hj => ?_, fun j hj => ?_⟩
  · simp only [e j hj]; exact F.bd j hj
  · simp only [e j hj]; exact F.ln j hj
  · simp only [e j hj]; exact F.rd j hj
  · simp only [e j (by omega), e (j + 1) hj]; exact F.st j hj
theorem ex_mem {s : Sp} {f : Int × Int → Int} {κ : Int → Int} {h : Tr Ob} {N : Nat} {r : Int} {p : Value} (E : ExOk f κ s h N r p) : r ∈ rainsS s := by
  obtain ⟨m, h1, _⟩ := E.at_
  exact List.mem_of_getElem? h1
theorem r_ends (d : Nat) {p : Int} {h N} (hb : Sl h N b s.book) (hr : Sl h N r s.reads) (hp : 0 ≤ p ∧ p < 256) :
    Rn (s5 (cN (d + 3)) (.agg ⟨[iS s.weeks, iS s.most, iS s.fall, iS s.slo, iS s.shi, iS s.wlo, iS s.whi, b, r]⟩) (.int .u8 p) h N) fun v h' N' => v = .bool true := by
  unfold s5
  have cb := hb.flat; have cr := hr.flat; have x1 := flatV_one cb; have y1 := cel_flat cb; have x2 := flatV_one cr; have y2 := cel_flat cr
  try refine gs_Ed ?_
  refine Rn.runE (show X28 _ [] _ _ = some (.bool true, _, _) from rfl) ?_
  try refine gs_Ed ?_
  refine Rn.call (c_ready _ (Sl.up (by assumption) fr_Ed (by omega)) (Sl.up (by assumption) fr_Ed (by omega))) ?_
  rintro _ h1 N1 ⟨rfl, f1, o1, l1⟩
  try refine gs_Ed ?_
  cases hrd : readyB s with
  | false =>
    try refine gs_Ed ?_
    exact Rn.ret rfl
  | true =>
  obtain ⟨hv, nb, nr⟩ := ready_ok hrd
  have hs := ok_of_valid hv
  by_cases hl8 : (8 : Int) ≤ (s.book.length : Int)
  · try refine gs_Ed ?_
    exact Rn.ret rfl
  have w1 := hs.ok.w1
  have w2 := hs.ok.w2
  have m2 := hs.ok.m2
  have u1 := Int.emod_nonneg p (b := s.weeks) (by omega)
  have u2 := Int.emod_lt_of_pos p (b := s.weeks) (by omega)
  have hw : 0 ≤ p % s.weeks ∧ p % s.weeks ≤ s.weeks - 1 := by omega
  try refine gs_Ed ?_
  generalize p % s.weeks = w at hw
  clear u1 u2 hp
  cases hc : canS s with
  | false =>
    have e1 := er_bad hv hc hw
    have e2 : rnE s = 8 := by unfold rnE; rw [beg_c, hv, hc]; rfl
    refine Rn.call (c_Gives d nb nr (Sl.up (by assumption) fr_Ed (by omega)) (Sl.up (by assumption) fr_Ed (by omega))) ?_
    rintro _ h2 N2 ⟨rfl, f2, o2, l2⟩
    rw [e1]
    try refine gs_Ed ?_
    refine Rn.call (c_Rains d nb nr (Sl.up (by assumption) fr_Ed (by omega)) (Sl.up (by assumption) fr_Ed (by omega))) ?_
    rintro _ h3 N3 ⟨⟨rl, rfl, hrl⟩, f3, o3, l3⟩
    have c6 := hrl.flat
    have x6 := flatV_one c6
    have y6 := cel_flat c6
    rw [e2]
    clear e1 e2
    try refine gs_Ed ?_
    refine Rn.call (c_rTrue _ hs (Sl.up (by assumption) fr_Ed (by omega)) (Sl.up (by assumption) fr_Ed (by omega))) ?_
    rintro _ h4 N4 ⟨rfl, f4, o4, l4⟩
    rw [hc]
    try refine gs_Ed ?_
    exact Rn.ret rfl
  | true =>
    have e1 := er_0 hv hc hw
    have e2 : rnE s = 0 := by unfold rnE; rw [beg_c, hv, hc]; rfl
    have e3 : gE s w = gvS s w.toNat := if_pos e1
    have e4 : rnL s = rainsS s := if_pos e2
    have q5 := rains_len hs
    have hgb := gv_bd hs (w := w.toNat) (by omega) hc
    refine Rn.call (c_Gives d nb nr (Sl.up (by assumption) fr_Ed (by omega)) (Sl.up (by assumption) fr_Ed (by omega))) ?_
    rintro _ h2 N2 ⟨rfl, f2, o2, l2⟩
    rw [e1, e3]
    try refine gs_Ed ?_
    refine Rn.call (c_Rains d nb nr (Sl.up (by assumption) fr_Ed (by omega)) (Sl.up (by assumption) fr_Ed (by omega))) ?_
    rintro _ h3 N3 ⟨⟨rl, rfl, hrl⟩, f3, o3, l3⟩
    have c6 := hrl.flat
    have x6 := flatV_one c6
    have y6 := cel_flat c6
    rw [e2]
    rw [e4] at hrl
    clear e1 e2 e3 e4
    try refine gs_Ed ?_
    refine Rn.call (c_rTrue _ hs (Sl.up (by assumption) fr_Ed (by omega)) (Sl.up (by assumption) fr_Ed (by omega))) ?_
    rintro _ h4 N4 ⟨rfl, f4, o4, l4⟩
    rw [hc]
    have b1 : ¬ (gvS s w.toNat).1 < 0 := by omega
    have b2 : ¬ (gvS s w.toNat).2 < (gvS s w.toNat).1 := by omega
    have b3 : ¬ s.most < (gvS s w.toNat).2 := by omega
    have b4 : ¬ (21 : Int) < ((rainsS s).length : Int) := by omega
    have hge := gv_end hs hc (w := w.toNat) (by omega)
    obtain ⟨⟨r1, hr1, g3⟩, r2, hr2, g4⟩ := hge
    have g1 := g3.symm
    have g2 := g4.symm
    clear g3 g4
    generalize gvS s w.toNat = G at *
    try refine gs_Ed ?_
    have m0 : h4.get N = some (.c [iS s.weeks, iS s.most, iS s.fall, iS s.slo, iS s.shi, iS s.wlo, iS s.whi, b, r] 27) := sS_Ed
    have m1 : h4.get N2 = some (.c [iS G.1, iS G.2] 23) := sS_Ed
    have s0 : Sl h4 N4 b s.book := (Sl.up (by assumption) fr_Ed (by omega))
    have s1 : Sl h4 N4 r s.reads := (Sl.up (by assumption) fr_Ed (by omega))
    have s2 : Sl h4 N4 rl (rainsS s) := (Sl.up (by assumption) fr_Ed (by omega))
    have lN : N < N4 := by omega
    have lN2 : N2 < N4 := by omega
    clear f1 o1 l1 f2 o2 l2 f3 o3 l3 f4 o4 l4 hb hr hrl
    have hr1b := rains_iff.1 hr1
    have hr2b := rains_iff.1 hr2
    have lv := hs.ok.v1
    have lv2 := hs.ok.v3
    have lv3 := hs.ok.v2
    refine Rn.loop8 (fun m a1 a2 a3 a4 a5 a6 a7 a8 g M => ∃ (i : Nat) (lo hi : Bool), a1 = .pointer (some ⟨N, 0, none⟩) ∧ a2 = .bool true ∧ a3 = iS w ∧ a4 = .pointer (some ⟨N2, 0, none⟩) ∧ rl = a5 ∧ a6 = .bool lo ∧ a7 = .bool hi ∧ a8 = iS (s.wlo + i) ∧ i + m = (s.whi + 1 - s.wlo).toNat ∧ Fr h4 N4 g ∧ N4 ≤ M ∧ (r1 < s.wlo + i → lo = true) ∧ (r2 < s.wlo + i → hi = true)) (s.whi + 1 - s.wlo).toNat (by omega)
      ⟨0, false, false, rfl, rfl, rfl, rfl, rfl, rfl, rfl, by simp, by omega, Fr.refl _ _, Nat.le_refl _, fun h => by omega, fun h => by omega⟩ ?_
    rintro m g ih _ _ _ _ _ _ _ _ h5 N5 ⟨i, lo, hi, rfl, rfl, rfl, rfl, z0, rfl, rfl, rfl, e5, f5, l5, q1, q2⟩
    subst z0
    have p0 := (f5 _ lN).trans m0
    have p1 := (f5 _ lN2).trans m1
    try refine gs_Ed ?_
    (first | with_reducible refine Rn.cnd (fun _ => ?_) (fun _ => ?_) | with_reducible refine Rn.cndN (fun _ => ?_) (fun _ => ?_) | with_reducible refine Rn.cndB (fun _ => ?_) (fun _ => ?_))
    · have onl := fun n => onS_len s (s.wlo + i) w n
      have vlo := on_valid (rain := s.wlo + i) (n := G.1) hv (by omega) (by omega) hw (by omega)
      have vhi := on_valid (rain := s.wlo + i) (n := G.2) hv (by omega) (by omega) hw (by omega)
      have rlo := on_rain (rain := s.wlo + i) (w := w) (n := G.1) hs vlo (by omega) (by omega)
      have rhi := on_rain (rain := s.wlo + i) (w := w) (n := G.2) hs vhi (by omega) (by omega)
      try refine gs_Ed ?_
      refine Rn.call (c_only _ (rain := s.wlo + i) (w := w) (n := G.1) nb nr (Sl.up (by assumption) fr_Ed (by omega)) (Sl.up (by assumption) fr_Ed (by omega))) ?_
      rintro _ h6 N6 ⟨⟨ba, ra, rfl, ta, tb⟩, f6, o6, l6⟩
      have za := ta.flat
      have zb := tb.flat
      have xa := flatV_one za
      have ya := cel_flat za
      have xb := flatV_one zb
      have yb := cel_flat zb
      try refine gs_Ed ?_
      refine Rn.call (c_Can d (s := onS s (s.wlo + i) w G.1) (onl _) nr (Sl.up (by assumption) fr_Ed (by omega)) (Sl.up (by assumption) fr_Ed (by omega))) ?_
      rintro _ h7 N7 ⟨rfl, f7, o7, l7⟩
      rw [vlo, if_pos rfl, Bool.true_and]
      try refine gs_Ed ?_
      refine Rn.call (c_only _ (rain := s.wlo + i) (w := w) (n := G.2) nb nr (Sl.up (by assumption) fr_Ed (by omega)) (Sl.up (by assumption) fr_Ed (by omega))) ?_
      rintro _ h8 N8 ⟨⟨bb, rb, rfl, tc, td⟩, f8, o8, l8⟩
      have zc := tc.flat
      have zd := td.flat
      have xc := flatV_one zc
      have yc := cel_flat zc
      have xd := flatV_one zd
      have yd := cel_flat zd
      try refine gs_Ed ?_
      refine Rn.call (c_Can d (s := onS s (s.wlo + i) w G.2) (onl _) nr (Sl.up (by assumption) fr_Ed (by omega)) (Sl.up (by assumption) fr_Ed (by omega))) ?_
      rintro _ h9 N9 ⟨rfl, f9, o9, l9⟩
      rw [vhi, if_pos rfl, Bool.true_and]
      have ew : ((w.toNat : Nat) : Int) = w := by omega
      have hA : s.wlo + (i : Int) = r1 → canS (onS s (s.wlo + i) w G.1) = true := fun e => by
        rw [e] at vlo ⊢
        rw [← ew] at vlo ⊢
        exact on_can (f := fun v => v.1) hs (.inl fun _ => rfl) hr1 vlo g1.symm
      have hB : s.wlo + (i : Int) = r2 → canS (onS s (s.wlo + i) w G.2) = true := fun e => by
        rw [e] at vhi ⊢
        rw [← ew] at vhi ⊢
        exact on_can (f := fun v => v.2) hs (.inr fun _ => rfl) hr2 vhi g2.symm
      clear vlo vhi ta tb tc td zc zd xc yc xd yd za zb xa ya xb yb
      generalize canS (onS s (s.wlo + i) w G.1) = A at *
      generalize canS (onS s (s.wlo + i) w G.2) = B at *
      have k1 : r1 < s.wlo + ((i + 1 : Nat) : Int) → (lo || A) = true := fun h => by
        by_cases e : s.wlo + (i : Int) = r1
        · rw [hA e, Bool.or_true]
        · rw [q1 (by omega), Bool.true_or]
      have k2 : r2 < s.wlo + ((i + 1 : Nat) : Int) → (hi || B) = true := fun h => by
        by_cases e : s.wlo + (i : Int) = r2
        · rw [hB e, Bool.or_true]
        · rw [q2 (by omega), Bool.true_or]
      have k3 : A = true ∨ B = true → s.wlo + (i : Int) ∈ rainsS s := fun h => h.elim rlo rhi
      clear hA hB rlo rhi q1 q2 ew
      cases A <;> cases B
      · cases lo <;> cases hi
        all_goals (try refine gs_Ed ?_; exact ih (m - 1) (by omega) _ _ _ _ _ _ _ _ _ _ ⟨i + 1, _, _, rfl, rfl, rfl, rfl, rfl, rfl, rfl, by rw [show s.wlo + ((i + 1 : Nat) : Int) = s.wlo + (i : Int) + 1 by omega], by omega, fr_Ed, by omega, fun h => k1 h, fun h => k2 h⟩)
      all_goals
        have k4 := k3 (by decide)
        try refine gs_Ed ?_
        refine Rn.call (c_has _ (L := rainsS s) (by omega) (Sl.up (by assumption) fr_Ed (by omega))) ?_
        rintro _ h10 N10 ⟨rfl, f10, o10, l10⟩
        rw [decide_eq_true k4]
        clear k3 k4
        cases lo <;> cases hi
        all_goals (try refine gs_Ed ?_; exact ih (m - 1) (by omega) _ _ _ _ _ _ _ _ _ _ ⟨i + 1, _, _, rfl, rfl, rfl, rfl, rfl, rfl, rfl, by rw [show s.wlo + ((i + 1 : Nat) : Int) = s.wlo + (i : Int) + 1 by omega], by omega, fr_Ed, by omega, fun h => k1 h, fun h => k2 h⟩)
    · clear ih
      have tl : lo = true := q1 (by omega)
      have th : hi = true := q2 (by omega)
      subst tl
      subst th
      clear q1 q2
      have hE : exE s = 0 := by unfold exE; rw [beg_c, hv, hc]; rfl
      try refine gs_Ed ?_
      refine Rn.call (c_Poor d nb nr (Sl.up (by assumption) fr_Ed (by omega)) (Sl.up (by assumption) fr_Ed (by omega))) ?_
      rintro _ h7 N7 ⟨⟨ra, pa, rfl, fp1, E1⟩, f7, o7, l7⟩
      have E1 := E1 hE
      rw [hE]
      have x7 := flatV_one fp1
      have y7 := cel_flat fp1
      try refine gs_Ed ?_
      refine Rn.call (c_Rich d nb nr (Sl.up (by assumption) fr_Ed (by omega)) (Sl.up (by assumption) fr_Ed (by omega))) ?_
      rintro _ h8 N8 ⟨⟨rb, pb, rfl, fp2, E2⟩, f8, o8, l8⟩
      have E2 := E2 hE
      rw [hE]
      have x8 := flatV_one fp2
      have y8 := cel_flat fp2
      have ma := rains_mem (ex_mem E1)
      have mb := rains_mem (ex_mem E2)
      have Fa := gi_flow hs ma.1 (f := fun v => v.1) (.inl fun _ => rfl)
      have Fb := gi_flow hs mb.1 (f := fun v => v.2) (.inr fun _ => rfl)
      have La := giL_len (fun v => v.1) (leavesS s ra) s.weeks.toNat
      have Lb := giL_len (fun v => v.2) (leavesS s rb) s.weeks.toNat
      have ta := E1.sl
      have tb := E2.sl
      clear E1 E2 hE
      try refine gs_Ed ?_
      refine Rn.call (c_holds _ hs La Fa ma.2.1 ma.2.2 (Sl.up (by assumption) fr_Ed (by omega)) (Sl.up (by assumption) fr_Ed (by omega)) (ta.up fr_Ed (by omega))) ?_
      rintro _ h9 N9 ⟨rfl, f9, o9, l9⟩
      try refine gs_Ed ?_
      refine Rn.call (c_holds _ hs Lb Fb mb.2.1 mb.2.2 (Sl.up (by assumption) fr_Ed (by omega)) (Sl.up (by assumption) fr_Ed (by omega)) (tb.up fr_Ed (by omega))) ?_
      rintro _ h10 N10 ⟨rfl, f10, o10, l10⟩
      clear Fa Fb La Lb ta tb
      try refine gs_Ed ?_
      have n0 : h10.get N = some (.c [iS s.weeks, iS s.most, iS s.fall, iS s.slo, iS s.shi, iS s.wlo, iS s.whi, b, r] 27) := sS_Ed
      have u0 : Sl h10 N10 b s.book := (Sl.up (by assumption) fr_Ed (by omega))
      have u1 : Sl h10 N10 r s.reads := (Sl.up (by assumption) fr_Ed (by omega))
      have u2 : Sl h10 N10 rl (rainsS s) := (Sl.up (by assumption) fr_Ed (by omega))
      have lN' : N < N10 := by omega
      clear f5 l5 f7 o7 l7 f8 o8 l8 f9 o9 l9 f10 o10 l10 p0 p1 s0 s1 s2 m0 m1
      refine Rn.loop8 (fun m a1 a2 a3 a4 a5 a6 a7 a8 g M => ∃ k : Nat, a1 = .pointer (some ⟨N, 0, none⟩) ∧ a2 = .bool true ∧ rl = a3 ∧ a4 = .bool true ∧ a5 = .bool true ∧ rl = a6 ∧ a7 = nS (rainsS s).length ∧ a8 = nS k ∧ k + m = (rainsS s).length ∧ Fr h10 N10 g ∧ N10 ≤ M) (rainsS s).length (by omega)
        ⟨0, rfl, rfl, rfl, rfl, rfl, rfl, rfl, rfl, by omega, Fr.refl _ _, Nat.le_refl _⟩ ?_
      rintro m g ih _ _ _ _ _ _ _ _ h11 N11 ⟨k, rfl, rfl, z0, rfl, rfl, z1, rfl, rfl, e11, f11, l11⟩
      subst z0
      cases z1
      have p0 := (f11 _ lN').trans n0
      try refine gs_Ed ?_
      (first | with_reducible refine Rn.cnd (fun _ => ?_) (fun _ => ?_) | with_reducible refine Rn.cndN (fun _ => ?_) (fun _ => ?_) | with_reducible refine Rn.cndB (fun _ => ?_) (fun _ => ?_))
      · obtain ⟨n, hn⟩ := at_of (L := rainsS s) (k := k) (by omega)
        have hk : k < (rainsS s).length := by omega
        have hmem := List.mem_of_getElem? hn
        have hrm := rains_mem hmem
        have ho := one_can hv hmem
        have hvo := one_valid hv hrm.2
        have hin : inS s.wlo s.whi n = true := by simp only [inS, Bool.and_eq_true, decide_eq_true_eq]; exact hrm.2
        try refine gs_Ed ?_
        refine Rn.call (c_rTwin _ nb nr (Sl.up (by assumption) fr_Ed (by omega)) (Sl.up (by assumption) fr_Ed (by omega))) ?_
        rintro _ h12 N12 ⟨⟨bt, rt, rfl, w1, w2⟩, f12, o12, l12⟩
        have s1 := w1.sl (Nat.le_refl _)
        have s2 := w2.sl (Nat.le_refl _)
        have a1 := flatV_one s1.flat
        have c1 := cel_flat s1.flat
        have a2 := flatV_one s2.flat
        have c2 := cel_flat s2.flat
        try refine gs_Ed ?_
        refine Rn.call (c_lspan _) ?_
        rintro _ h13 N13 ⟨rfl, f13, o13, l13⟩
        try refine gs_Ed ?_
        refine Rn.call (c_Can d (s := oneS s n) nb nr (Sl.up (by assumption) fr_Ed (by omega)) (Sl.up (by assumption) fr_Ed (by omega))) ?_
        rintro _ h14 N14 ⟨rfl, f14, o14, l14⟩
        rw [hvo, ho, if_pos rfl, Bool.true_and]
        try refine gs_Ed ?_
        refine Rn.call (c_inside _) ?_
        rintro _ h15 N15 ⟨rfl, f15, o15, l15⟩
        rw [hin]
        by_cases hk0 : 0 < (k : Int)
        · obtain ⟨y, hy⟩ := at_of (L := rainsS s) (k := k - 1) (by omega)
          have hlt := rains_lt (by omega : k - 1 < k) hy hn
          have hlt' : ¬ n ≤ y := by omega
          try refine gs_Ed ?_
          exact ih (m - 1) (by omega) _ _ _ _ _ _ _ _ _ _ ⟨k + 1, rfl, rfl, rfl, rfl, rfl, rfl, rfl, rfl, by omega, fr_Ed, by omega⟩
        · try refine gs_Ed ?_
          exact ih (m - 1) (by omega) _ _ _ _ _ _ _ _ _ _ ⟨k + 1, rfl, rfl, rfl, rfl, rfl, rfl, rfl, rfl, by omega, fr_Ed, by omega⟩
      · try refine gs_Ed ?_
        exact Rn.ret rfl
end
end Go.Proofs.Ytpilgokdbliklaa
end

