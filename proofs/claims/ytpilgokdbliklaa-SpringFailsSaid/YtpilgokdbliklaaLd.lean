/-
  What the functions of the law return.
  Conditions: none.
-/
import Derived.Test.YtpilgokdbliklaaLc

section
namespace Go.Proofs.Ytpilgokdbliklaa
open Go.Ev Go.RowKit
set_option linter.unusedVariables false
set_option linter.unusedSimpArgs false
set_option linter.unusedSectionVars false
set_option maxRecDepth 100000
set_option maxHeartbeats 4000000
theorem s1_Yb {p : Prop} (h : p := by (simp (disch := omega) only [obind_s, orun_s, ocond_t, fad_p, ld1_e, ldN_e, sto_e, cellO_c, wrO_c, Tr.get_same, Tr.get_other, nth_0, nth_s, drp_0, drp_s, drp_n, tak_0, tak_s, tak_n, over_n, over_c, lay_0, lay_s, lay_n, len_n, len_c, app_n, app_c, reps_0, reps_s, cel_agg, cel_int, cel_bool, cel_str, cel_sl, cel_ptr, cel_map, cel_func, cel_nilf, fil_n, fil_c, beq_r, ble_d, allF_n, allF_c, one_int, one_bool, one_str, one_sl, one_ptr, one_map, one_func, one_nilf, Bool.and_true, Bool.true_and, Bool.not_true, Bool.not_false, iadA_z, Int.reduceToNat, Int.toNat_zero, fl1_a, flN_a, extr_t, unot, not_d, Nat.add_eq, Nat.mul_eq, Nat.mul_one, Nat.one_mul, Nat.zero_mul, Nat.reduceMul, Nat.zero_add, Nat.add_zero, Nat.le_refl, decide_true, Nat.reduceAdd, Nat.reduceLeDiff, bsl_Sspring_truth, bld_spring_truth, enc_Tu, bsl_Sint, bld_Span, bld_spring_work, bld_spring_asked, enc_Line, enc_Reading, ocond_d, Int.toNat_natCast, *]); first | done | fail) : p := h
theorem s2_Yb {p : Prop} (h : p := by (simp (disch := omega) only [obind_s, orun_s, ocond_t, fad_p, ld1_e, ldN_e, sto_e, cellO_c, wrO_c, Tr.get_same, Tr.get_other, nth_0, nth_s, drp_0, drp_s, drp_n, tak_0, tak_s, tak_n, over_n, over_c, lay_0, lay_s, lay_n, len_n, len_c, app_n, app_c, reps_0, reps_s, cel_agg, cel_int, cel_bool, cel_str, cel_sl, cel_ptr, cel_map, cel_func, cel_nilf, fil_n, fil_c, beq_r, ble_d, allF_n, allF_c, one_int, one_bool, one_str, one_sl, one_ptr, one_map, one_func, one_nilf, Bool.and_true, Bool.true_and, Bool.not_true, Bool.not_false, iadA_z, Int.reduceToNat, Int.toNat_zero, fl1_a, flN_a, extr_t, unot, not_d, Nat.add_eq, Nat.mul_eq, Nat.mul_one, Nat.one_mul, Nat.zero_mul, Nat.reduceMul, Nat.zero_add, Nat.add_zero, Nat.le_refl, decide_true, Nat.reduceAdd, Nat.reduceLeDiff, bsl_Sspring_truth, bld_spring_truth, enc_Tu, bsl_Sint, bld_Span, bld_spring_work, bld_spring_asked, enc_Line, enc_Reading, ocond_d, Int.toNat_natCast, *]); rfl) : p := h
theorem sb_Yb {p : Prop} (h : p := by first | ((simp (disch := omega) only [obind_s, orun_s, ocond_t, fad_p, ld1_e, ldN_e, sto_e, cellO_c, wrO_c, Tr.get_same, Tr.get_other, nth_0, nth_s, drp_0, drp_s, drp_n, tak_0, tak_s, tak_n, over_n, over_c, lay_0, lay_s, lay_n, len_n, len_c, app_n, app_c, reps_0, reps_s, cel_agg, cel_int, cel_bool, cel_str, cel_sl, cel_ptr, cel_map, cel_func, cel_nilf, fil_n, fil_c, beq_r, ble_d, allF_n, allF_c, one_int, one_bool, one_str, one_sl, one_ptr, one_map, one_func, one_nilf, Bool.and_true, Bool.true_and, Bool.not_true, Bool.not_false, iadA_z, Int.reduceToNat, Int.toNat_zero, fl1_a, flN_a, extr_t, unot, not_d, Nat.add_eq, Nat.mul_eq, Nat.mul_one, Nat.one_mul, Nat.zero_mul, Nat.reduceMul, Nat.zero_add, Nat.add_zero, Nat.le_refl, decide_true, Nat.reduceAdd, Nat.reduceLeDiff, bsl_Sspring_truth, bld_spring_truth, enc_Tu, bsl_Sint, bld_Span, bld_spring_work, bld_spring_asked, enc_Line, enc_Reading, ocond_d, Int.toNat_natCast, Nat.succ_eq_add_one, Nat.add_assoc, *]); rfl) | ((simp (disch := omega) only [obind_s, orun_s, ocond_t, fad_p, ld1_e, ldN_e, sto_e, cellO_c, wrO_c, Tr.get_same, Tr.get_other, nth_0, nth_s, drp_0, drp_s, drp_n, tak_0, tak_s, tak_n, over_n, over_c, lay_0, lay_s, lay_n, len_n, len_c, app_n, app_c, reps_0, reps_s, cel_agg, cel_int, cel_bool, cel_str, cel_sl, cel_ptr, cel_map, cel_func, cel_nilf, fil_n, fil_c, beq_r, ble_d, allF_n, allF_c, one_int, one_bool, one_str, one_sl, one_ptr, one_map, one_func, one_nilf, Bool.and_true, Bool.true_and, Bool.not_true, Bool.not_false, iadA_z, Int.reduceToNat, Int.toNat_zero, fl1_a, flN_a, extr_t, unot, not_d, Nat.add_eq, Nat.mul_eq, Nat.mul_one, Nat.one_mul, Nat.zero_mul, Nat.reduceMul, Nat.zero_add, Nat.add_zero, Nat.le_refl, decide_true, Nat.reduceAdd, Nat.reduceLeDiff, bsl_Sspring_truth, bld_spring_truth, enc_Tu, bsl_Sint, bld_Span, bld_spring_work, bld_spring_asked, enc_Line, enc_Reading, ocond_d, Int.toNat_natCast, Nat.succ_eq_add_one, Nat.add_assoc, *]); done)) : p := h
theorem fr_Yb {p : Prop} (h : p := by first | assumption | exact Fr.refl _ _ | (simp (disch := omega) only [Fr_set, Fr_refl, *])) : p := h
theorem fl_Yb {p : Prop} (h : p := by first | with_unfolding_all rfl | exact Sl.flat (by assumption) | assumption) : p := h
theorem fll_Yb {p : Prop} (h : p := by first | with_unfolding_all rfl | ((repeat (refine flatL_k fl_Yb ?_)); with_unfolding_all rfl)) : p := h
theorem en_Yb {p : Prop} (h : p := by first | ((simp only [enc_int, enc_str, enc_u8, enc_bool, tak_s, tak_0, tak_n, drp_0, drp_s, drp_n, nth_s, nth_0, bsl_Sspring_truth, bld_spring_truth, enc_Tu, bsl_Sint, bld_Span, bld_spring_work, bld_spring_asked, enc_Line, enc_Reading, ocond_d, Int.toNat_natCast]); rfl) | ((simp only [enc_int, enc_str, enc_u8, enc_bool, tak_s, tak_0, tak_n, drp_0, drp_s, drp_n, nth_s, nth_0, bsl_Sspring_truth, bld_spring_truth, enc_Tu, bsl_Sint, bld_Span, bld_spring_work, bld_spring_asked, enc_Line, enc_Reading, ocond_d, Int.toNat_natCast]); done) | with_unfolding_all rfl) : p := h
theorem sM_Yb {p : Prop} (h : p := by (first | assumption | (simp (disch := omega) only [Tr.get_same, Tr.get_other, *]; rfl) | (simp (disch := omega) only [Tr.get_same, Tr.get_other, *]; done))) : p := h
theorem sS_Yb {p : Prop} (h : p := by first | assumption | exact s1_Yb) : p := h
theorem op_Yb {p : Prop} (h : p := by first | with_reducible exact fad_p _ _ _ | with_reducible exact iop_lss _ _ | with_reducible exact iop_leq _ _ | with_reducible exact iop_gtr _ _ | with_reducible exact iop_geq _ _ | with_reducible exact iop_eql _ _ | with_reducible exact iop_neq _ _ | with_reducible exact Sl.len (by assumption) | with_reducible exact lenS_s _ _ _ | with_reducible exact Sl.iad (by assumption) (by with_unfolding_all rfl) (by first | assumption | omega) | with_reducible exact Sl.fad (by assumption) (by first | assumption | omega) | with_reducible exact Sl.ld1 (by assumption) fr_Yb (by with_unfolding_all rfl) (by assumption) en_Yb | with_reducible exact Sl.ldN (by assumption) fr_Yb (by with_unfolding_all rfl) (by assumption) (by with_unfolding_all rfl) en_Yb | with_reducible exact zadd1 (by omega) | with_reducible exact zsub1 (by omega) (by omega) | with_reducible exact zaddI (by omega) (by omega) | with_reducible exact zsubI (by omega) (by omega) | with_reducible exact min_z | with_reducible exact max_z | with_reducible exact zmulI (by assumption) | with_reducible exact zmulK (by omega) (by omega) | with_reducible exact quo_z (by omega) (by omega) (by omega) | with_reducible exact cv_u8 (by omega) | with_reducible exact rem_z (by omega) (by omega) (by omega) | with_reducible exact neq_bool (by kernel_rfl) | with_reducible exact eql_u8 | with_reducible exact wntT_t (by assumption) | with_reducible exact wntT_f (by assumption) | with_reducible exact wntF_t (by assumption) | with_reducible exact wntF_f (by assumption) | with_reducible exact wnt_tt | with_reducible exact wnt_tf | with_reducible exact wnt_ft | with_reducible exact wnt_ff | with_reducible exact wnt_u _ _ | with_reducible exact pck_t _ _ | with_reducible exact pck_f _ _ | with_reducible exact pckT (by assumption) | with_reducible exact pckF (by assumption) | with_reducible exact wntT_t (by decide) | with_reducible exact wntT_f (by decide) | with_reducible exact wntF_t (by decide) | with_reducible exact wntF_f (by decide) | with_reducible exact pckT (by decide) | with_reducible exact pckF (by decide) | with_reducible exact wntN_tt (by decide) | with_reducible exact wntN_tf (by decide) | with_reducible exact wntN_ft (by decide) | with_reducible exact wntN_ff (by decide) | with_reducible exact pckNT (by decide) | with_reducible exact pckNF (by decide) | with_reducible exact wntN_tt (by assumption) | with_reducible exact wntN_tf (by assumption) | with_reducible exact wntN_ft (by assumption) | with_reducible exact wntN_ff (by assumption) | with_reducible exact pckNT (by assumption) | with_reducible exact pckNF (by assumption) | with_reducible exact wntB_tt (by assumption) | with_reducible exact wntB_tf (by assumption) | with_reducible exact wntB_ft (by assumption) | with_reducible exact wntB_ff (by assumption) | with_reducible exact pckBT (by assumption) | with_reducible exact pckBF (by assumption) | exact s2_Yb | exact s1_Yb) : p := h
theorem co_Yb {p : Prop} (h : p := by first | (simp only [impB_1, impB_0, offB_1, offB_0]; done) | ((try simp only [impB_1, impB_0, offB_1, offB_0]); first | with_reducible exact Sl.ag1 (by assumption) fr_Yb (by with_unfolding_all rfl) (by assumption) en_Yb | with_reducible exact Sl.agN (by assumption) fr_Yb (by with_unfolding_all rfl) (by assumption) (by with_unfolding_all rfl) en_Yb | ((with_reducible refine agL1_e ?_ ?_); (· exact s1_Yb); (· exact fl_Yb)) | ((with_reducible refine agLN_e ?_ ?_); (· exact s1_Yb); (· exact fll_Yb)) | ((with_reducible apply ag_bs); (· exact sM_Yb); (· rfl); (· exact sb_Yb); (· exact fll_Yb)) | ((with_reducible apply ag_al); (· exact sM_Yb); (· rfl); (· exact fll_Yb)) | ((with_reducible apply ag_bx); (· exact sM_Yb); (· rfl); (· rfl); (· exact fll_Yb)) | ((with_reducible apply ag_bd); (· rfl); (· exact s1_Yb); (· exact fll_Yb)) | exact s1_Yb)) : p := h
theorem gs_Yb {r p : Prop} (k : r) (h : Go.Ev.Im r p := by (first | with_reducible apply Im.runS | ((with_reducible apply Im.num); · (simp only [Nat.succ_eq_add_one, Nat.add_assoc, Nat.reduceAdd]; rfl)) | (with_reducible apply Im.unm) | (with_reducible apply Im.selT) | (with_reducible apply Im.selF) | ((with_reducible apply Im.cndT); · assumption) | ((with_reducible apply Im.cndF); · assumption) | ((with_reducible apply Im.cndT); · decide) | ((with_reducible apply Im.cndF); · decide) | ((with_reducible apply Im.cndNT); · decide) | ((with_reducible apply Im.cndNF); · decide) | ((with_reducible apply Im.cndBT); · exact rfl) | ((with_reducible apply Im.cndBF); · exact rfl) | ((with_reducible apply Im.cndNT); · assumption) | ((with_reducible apply Im.cndNF); · assumption) | ((with_reducible apply Im.cndBT); · assumption) | ((with_reducible apply Im.cndBF); · assumption) | ((with_reducible apply Im.bind); · exact op_Yb) | ((with_reducible apply Im.cond); · exact co_Yb) | ((with_reducible apply Im.runB); · exact op_Yb) | ((with_reducible apply Im.runC); · exact co_Yb) | ((with_reducible apply Im.runN); · (simp only [Nat.succ_eq_add_one, Nat.add_assoc, Nat.reduceAdd]; rfl)) | with_reducible apply Im.runR | ((with_reducible apply Im.runE (x := evBuildSlice _ _ _ _ _ _)); · exact sb_Yb)); (repeat (first | with_reducible apply Im.runS | ((with_reducible apply Im.num); · (simp only [Nat.succ_eq_add_one, Nat.add_assoc, Nat.reduceAdd]; rfl)) | (with_reducible apply Im.unm) | (with_reducible apply Im.selT) | (with_reducible apply Im.selF) | ((with_reducible apply Im.cndT); · assumption) | ((with_reducible apply Im.cndF); · assumption) | ((with_reducible apply Im.cndT); · decide) | ((with_reducible apply Im.cndF); · decide) | ((with_reducible apply Im.cndNT); · decide) | ((with_reducible apply Im.cndNF); · decide) | ((with_reducible apply Im.cndBT); · exact rfl) | ((with_reducible apply Im.cndBF); · exact rfl) | ((with_reducible apply Im.cndNT); · assumption) | ((with_reducible apply Im.cndNF); · assumption) | ((with_reducible apply Im.cndBT); · assumption) | ((with_reducible apply Im.cndBF); · assumption) | ((with_reducible apply Im.bind); · exact op_Yb) | ((with_reducible apply Im.cond); · exact co_Yb) | ((with_reducible apply Im.runB); · exact op_Yb) | ((with_reducible apply Im.runC); · exact co_Yb) | ((with_reducible apply Im.runN); · (simp only [Nat.succ_eq_add_one, Nat.add_assoc, Nat.reduceAdd]; rfl)) | with_reducible apply Im.runR | ((with_reducible apply Im.runE (x := evBuildSlice _ _ _ _ _ _)); · exact sb_Yb))); exact Go.Ev.Im.id) : p := h k
abbrev snil' : Value := .slice none 0 0
def bst (q : Tu → Tu → Bool) : Tu → List Tu → Tu
  | b, [] => b
  | b, y :: l => bst q (if q y b then y else b) l
theorem bst_spec (κ : Tu → Int) : ∀ (l P : List Tu) (b : Tu), (∃ m : Nat, P[m]? = some b ∧ (∀ (j : Nat) (y : Tu), P[j]? = some y → κ b ≤ κ y) ∧ ∀ (j : Nat) (y : Tu), j < m → P[j]? = some y → κ b < κ y) →
    ∃ m : Nat, (P ++ l)[m]? = some (bst (fun x y => decide (κ x < κ y)) b l) ∧ (∀ (j : Nat) (y : Tu), (P ++ l)[j]? = some y → κ (bst (fun x y => decide (κ x < κ y)) b l) ≤ κ y) ∧ ∀ (j : Nat) (y : Tu), j < m → (P ++ l)[j]? = some y → κ (bst (fun x y => decide (κ x < κ y)) b l) < κ y
  | [], P, b, h => by simpa [bst] using h
  | y :: l, P, b, ⟨m, h1, h2, h3⟩ => by
    have e : P ++ y :: l = (P ++ [y]) ++ l := by simp
    rw [e]
    have hm := lt_of_at h1
    simp only [bst]
    by_cases hlt : κ y < κ b
    · have e1 : (if decide (κ y < κ b) = true then y else b) = y := if_pos (decide_eq_true hlt)
      rw [e1]
      refine bst_spec κ l (P ++ [y]) y ⟨P.length, by simp, fun j z hz => ?_, fun j z hj hz => ?_⟩
      · rcases Nat.lt_or_ge j P.length with hj | hj
        · rw [List.getElem?_append_left hj] at hz
          have := h2 j z hz; omega
        · have hl := lt_of_at hz
          simp at hl
          rw [List.getElem?_append_right hj, show j - P.length = 0 by omega] at hz
          simp at hz; subst hz; exact Int.le_refl _
      · rw [List.getElem?_append_left hj] at hz
        have := h2 j z hz; omega
    · have e1 : (if decide (κ y < κ b) = true then y else b) = b := if_neg (by rw [decide_eq_false hlt]; simp)
      rw [e1]
      refine bst_spec κ l (P ++ [y]) b ⟨m, by rw [List.getElem?_append_left hm]; exact h1, fun j z hz => ?_, fun j z hj hz => ?_⟩
      · rcases Nat.lt_or_ge j P.length with hj | hj
        · rw [List.getElem?_append_left hj] at hz
          exact h2 j z hz
        · have hl := lt_of_at hz
          simp at hl
          rw [List.getElem?_append_right hj, show j - P.length = 0 by omega] at hz
          simp at hz; subst hz; omega
      · rw [List.getElem?_append_left (by omega)] at hz
        exact h3 j z hj hz
theorem c_first (call : CallF) {q : Tu → Tu → Bool} {fv l : Value} {x0 : Tu} {L : List Tu} {h N} (hn : L.length < 1000) (ff : flatV fv = true) (hl : Sl h N l (x0 :: L))
    (hq : ∀ (x y : Tu) h1 N1, Rn (callW [] call fv [.agg ⟨[iS x.rain, iS x.sum, x.v]⟩, .agg ⟨[iS y.rain, iS y.sum, y.v]⟩] h1 N1) fun v h' N' => v = .bool (q x y) ∧ Gw h1 N1 h' N') :
    Rn (s92 call l fv h N) fun v h' N' => v = .agg ⟨[iS (bst q x0 L).rain, iS (bst q x0 L).sum, (bst q x0 L).v]⟩ ∧ Gw h N h' N' := by
  unfold s92
  have x3 := flatV_one ff
  have y3 := cel_flat ff
  have cl := hl.flat
  have x4 := flatV_one cl
  have y4 := cel_flat cl
  try refine gs_Yb ?_
  refine Rn.loop6 (fun m a1 a2 a3 a4 a5 a6 g M => ∃ k : Nat, fv = a1 ∧ a2 = .pointer (some ⟨N, 0, none⟩) ∧ a3 = .pointer (some ⟨N + 1, 0, none⟩) ∧ l = a4 ∧ a5 = nS (x0 :: L).length ∧ a6 = nS k ∧ k + m = (x0 :: L).length ∧ Fr h N g ∧ N + 2 ≤ M ∧ g.get N = some (.c [iS 0, iS 0, .slice none 0 0] 100) ∧
    ((k = 0 ∧ g.get (N + 1) = some (.c [iS 0, iS 0, .slice none 0 0] 100)) ∨ (0 < k ∧ ∃ y : Tu, g.get (N + 1) = some (.c [iS y.rain, iS y.sum, y.v] 100) ∧ bst q y ((x0 :: L).drop k) = bst q x0 L))) (x0 :: L).length (by simp; omega)
    ⟨0, rfl, rfl, rfl, rfl, rfl, rfl, by omega, fr_Yb, by omega, sS_Yb, .inl ⟨rfl, sS_Yb⟩⟩ ?_
  rintro m g ih _ _ _ _ _ _ h2 N2 ⟨k, q1, rfl, rfl, q2, rfl, rfl, e2, f2, l2, g1, g2⟩
  subst q1; subst q2
  try refine gs_Yb ?_
  (first | with_reducible refine Rn.cnd (fun _ => ?_) (fun _ => ?_) | with_reducible refine Rn.cndN (fun _ => ?_) (fun _ => ?_) | with_reducible refine Rn.cndB (fun _ => ?_) (fun _ => ?_))
  · obtain ⟨x, hx⟩ := at_of (L := x0 :: L) (k := k) (by omega)
    have hk : k < (x0 :: L).length := by omega
    have hlen : (x0 :: L).length = L.length + 1 := rfl
    have c5 := x.fv
    have x5 := flatV_one c5
    have y5 := cel_flat c5
    rcases g2 with ⟨rfl, g2⟩ | ⟨k0, y, g2, q5⟩
    · have ex : x0 = x := by simpa using hx
      have hz : (((0 : Nat) : Int) = 0) := rfl
      subst ex
      unfold jnR
      try refine gs_Yb ?_
      exact ih (m - 1) (by omega) _ _ _ _ _ _ _ _ ⟨0 + 1, rfl, rfl, rfl, rfl, rfl, rfl, by omega, fr_Yb, by omega, sS_Yb, .inr ⟨by omega, x0, sS_Yb, rfl⟩⟩
    · have hz : ¬ ((k : Int) = 0) := by omega
      have c6 := y.fv
      have x6 := flatV_one c6
      have y6 := cel_flat c6
      rw [drop_at hx] at q5
      simp only [bst] at q5
      unfold jnR
      try refine gs_Yb ?_
      refine Rn.call (hq x y _ _) ?_
      rintro _ h3 N3 ⟨rfl, f3, o3, l3⟩
      cases hqq : q x y with
      | true =>
        rw [hqq] at q5
        try refine gs_Yb ?_
        exact ih (m - 1) (by omega) _ _ _ _ _ _ _ _ ⟨k + 1, rfl, rfl, rfl, rfl, rfl, rfl, by omega, fr_Yb, by omega, sS_Yb, .inr ⟨by omega, x, sS_Yb, q5⟩⟩
      | false =>
        rw [hqq] at q5
        try refine gs_Yb ?_
        exact ih (m - 1) (by omega) _ _ _ _ _ _ _ _ ⟨k + 1, rfl, rfl, rfl, rfl, rfl, rfl, by omega, fr_Yb, by omega, sS_Yb, .inr ⟨by omega, y, sS_Yb, q5⟩⟩
  · rcases g2 with ⟨rfl, g2⟩ | ⟨k0, y, g2, q5⟩
    · simp at e2; simp_all
    · rw [List.drop_eq_nil_of_le (by omega)] at q5
      have q5 : y = bst q x0 L := q5
      subst q5
      have c6 := (bst q x0 L).fv
      have x6 := flatV_one c6
      have y6 := cel_flat c6
      try refine gs_Yb ?_
      exact Rn.ret ⟨rfl, (Gw.of fr_Yb (by omega))⟩
theorem c_poor1 (call : CallF) (x y : Tu) {h N} : Rn (s59 call (.agg ⟨[iS x.rain, iS x.sum, x.v]⟩) (.agg ⟨[iS y.rain, iS y.sum, y.v]⟩) h N) fun v h' N' => v = .bool (decide (x.sum < y.sum)) ∧ Gw h N h' N' := by
  unfold s59
  have c5 := x.fv
  have x5 := flatV_one c5
  have y5 := cel_flat c5
  have c6 := y.fv
  have x6 := flatV_one c6
  have y6 := cel_flat c6
  try refine gs_Yb ?_
  exact Rn.ret ⟨rfl, (Gw.of fr_Yb (by omega))⟩
theorem c_rich1 (call : CallF) (x y : Tu) {h N} : Rn (s60 call (.agg ⟨[iS x.rain, iS x.sum, x.v]⟩) (.agg ⟨[iS y.rain, iS y.sum, y.v]⟩) h N) fun v h' N' => v = .bool (decide (-x.sum < -y.sum)) ∧ Gw h N h' N' := by
  unfold s60
  have c5 := x.fv
  have x5 := flatV_one c5
  have y5 := cel_flat c5
  have c6 := y.fv
  have x6 := flatV_one c6
  have y6 := cel_flat c6
  try refine gs_Yb ?_
  refine Rn.ret ⟨congrArg Value.bool ?_, (Gw.of fr_Yb (by omega))⟩
  rw [Bool.eq_iff_iff]; simp
/-- What Poor and Rich return. -/
def exE (s : Sp) : Int := beginS s (qw 0 0) [4]
structure ExOk (f : Int × Int → Int) (κ : Int → Int) (s : Sp) (h : Tr Ob) (N : Nat) (rain : Int) (p : Value) : Prop where
  at_ : ∃ m : Nat, (rainsS s)[m]? = some rain ∧ (∀ (j : Nat) (r : Int), (rainsS s)[j]? = some r → κ (suL f (leavesS s rain) s.weeks.toNat) ≤ κ (suL f (leavesS s r) s.weeks.toNat)) ∧ ∀ (j : Nat) (r : Int), j < m → (rainsS s)[j]? = some r → κ (suL f (leavesS s rain) s.weeks.toNat) < κ (suL f (leavesS s r) s.weeks.toNat)
  sl : Sl h N p (giL f (leavesS s rain) s.weeks.toNat)
theorem beg4_0 {s : Sp} (hv : validB s = true) (he : exE s = 0) : canS s = true := by
  unfold exE at he
  rw [beg_c, hv] at he
  cases hc : canS s with
  | true => rfl
  | false => rw [hc] at he; cases he
section
variable {s : Sp} {b r : Value}
theorem c_extreme (d : Nat) {f : Int × Int → Int} {κ : Int → Int} {fv bv : Value} {h N} (nb : s.book.length < 1000) (nr : s.reads.length < 1000) (hb : Sl h N b s.book) (hr : Sl h N r s.reads) (ff : flatV fv = true) (fb : flatV bv = true) (hfb : ∀ v : Int × Int, f v = v.1 ∨ f v = v.2)
    (hf : ∀ a c h1 N1, Rn (callW [(78, F78)] (cN (d + 1)) fv [.agg ⟨[iS a, iS c]⟩] h1 N1) fun v h' N' => v = iS (f (a, c)) ∧ Gw h1 N1 h' N')
    (hq : ∀ (x y : Tu) h1 N1, Rn (callW [] (cN (d + 3)) bv [.agg ⟨[iS x.rain, iS x.sum, x.v]⟩, .agg ⟨[iS y.rain, iS y.sum, y.v]⟩] h1 N1) fun v h' N' => v = .bool (decide (κ x.sum < κ y.sum)) ∧ Gw h1 N1 h' N') :
    Rn (s58 (cN (d + 3)) (.agg ⟨[iS s.weeks, iS s.most, iS s.fall, iS s.slo, iS s.shi, iS s.wlo, iS s.whi, b, r]⟩) fv bv h N) fun v h' N' => (∃ rain p, v = .tuple ⟨[iS rain, p, iS (exE s)]⟩ ∧ flatV p = true ∧ (exE s = 0 → ExOk f κ s h' N' rain p)) ∧ Gw h N h' N' := by
  unfold s58
  have cb := hb.flat; have cr := hr.flat; have x1 := flatV_one cb; have y1 := cel_flat cb; have x2 := flatV_one cr; have y2 := cel_flat cr
  try refine gs_Yb ?_
  refine Rn.call (c_begin d (q := qw 0 0) (L := [4]) nb nr (Sl.up (by assumption) fr_Yb (by omega)) (Sl.up (by assumption) fr_Yb (by omega)) (by simp) (Sl.lit _ sM_Yb (by omega) rfl rfl) (by simp)) ?_
  rintro _ h1 N1 ⟨⟨e0, hv, rfl⟩ | ⟨e0, rfl⟩, f1, o1, l1⟩
  · have hs := ok_of_valid hv
    have e1 : exE s = 0 := e0
    have hc := beg4_0 hv e1
    try refine gs_Yb ?_
    refine Rn.call (c_truths (d + 1) hs ff (Sl.up (by assumption) fr_Yb (by omega)) (Sl.up (by assumption) fr_Yb (by omega)) hfb hf) ?_
    rintro v h2 N2 ⟨t2, f2, o2, l2⟩
    have hrl := rains_len hs
    rcases t2 with ⟨_, e⟩ | ⟨L, i, i1, i2, own, hlen, ent⟩
    · unfold canS at hc
      cases hr0 : rainsS s with
      | nil => rw [hr0] at hc; cases hc
      | cons y l => rw [hr0] at e; cases e
    · cases L with
      | nil =>
        unfold canS at hc
        cases hr0 : rainsS s with
        | nil => rw [hr0] at hc; cases hc
        | cons y l => rw [hr0] at hlen; cases hlen
      | cons x0 L =>
        have sl2 := own.sl i2
        have c3 := sl2.flat
        have x3 := flatV_one c3
        have y3 := cel_flat c3
        have spec := bst_spec (fun x => κ x.sum) L [x0] x0 ⟨0, rfl, fun j y hy => ?_, fun j y hj _ => by omega⟩
        · try refine gs_Yb ?_
          refine Rn.call (c_first (cN (d + 3)) (q := fun x y => decide (κ x.sum < κ y.sum)) (by simp at hlen; omega) fb sl2 hq) ?_
          rintro _ h3 N3 ⟨rfl, f3, o3, l3⟩
          generalize bst (fun x y => decide (κ x.sum < κ y.sum)) x0 L = z at *
          have c4 := z.fv
          have x4 := flatV_one c4
          have y4 := cel_flat c4
          try refine gs_Yb ?_
          refine Rn.ret ⟨⟨z.rain, z.v, by rw [e1], z.fv, fun _ => ?_⟩, (Gw.of fr_Yb (by omega))⟩
          obtain ⟨m, s1, s2, s3⟩ := spec
          obtain ⟨r', t1, t2, t3, j, t4, t5, t6, t7⟩ := ent m z s1
          refine ⟨⟨m, by rw [t2]; exact t1, fun j' r hr' => ?_, fun j' r hj hr' => ?_⟩, ?_⟩
          · obtain ⟨y, hy⟩ := at_of (L := x0 :: L) (k := j') (by rw [hlen]; exact lt_of_at hr')
            obtain ⟨r2, u1, u2, u3, _⟩ := ent j' y hy
            rw [hr'] at u1
            cases u1
            have := s2 j' y hy
            rw [t3, u3] at this
            rw [t2]; exact this
          · obtain ⟨y, hy⟩ := at_of (L := x0 :: L) (k := j') (by rw [hlen]; exact lt_of_at hr')
            obtain ⟨r2, u1, u2, u3, _⟩ := ent j' y hy
            rw [hr'] at u1
            cases u1
            have := s3 j' y hj hy
            rw [t3, u3] at this
            rw [t2]; exact this
          · rw [t2]
            exact (t7.keep (show _ = h2.get j from sS_Yb)).sl (by omega)
        · have hl := lt_of_at hy
          simp at hl; subst hl
          simp at hy; subst hy; exact Int.le_refl _
  · have e1 : beginS s (qw 0 0) [4] = exE s := rfl
    rw [e1] at e0 ⊢
    try refine gs_Yb ?_
    exact Rn.ret ⟨⟨0, snil', rfl, rfl, fun h => absurd h e0⟩, (Gw.of fr_Yb (by omega))⟩
/-- The truth that gives least. -/
theorem c_Poor (d : Nat) {h N} (nb : s.book.length < 1000) (nr : s.reads.length < 1000) (hb : Sl h N b s.book) (hr : Sl h N r s.reads) : Rn (s18 (cN (d + 3)) (.agg ⟨[iS s.weeks, iS s.most, iS s.fall, iS s.slo, iS s.shi, iS s.wlo, iS s.whi, b, r]⟩) h N) fun v h' N' => (∃ rain p, v = .tuple ⟨[iS rain, p, iS (exE s)]⟩ ∧ flatV p = true ∧ (exE s = 0 → ExOk (fun v => v.1) (fun z => z) s h' N' rain p)) ∧ Gw h N h' N' := by
  unfold s18
  have cb := hb.flat; have cr := hr.flat; have x1 := flatV_one cb; have y1 := cel_flat cb; have x2 := flatV_one cr; have y2 := cel_flat cr
  try refine gs_Yb ?_
  refine Rn.call (c_extreme d (f := fun v => v.1) (κ := fun z => z) nb nr (Sl.up (by assumption) fr_Yb (by omega)) (Sl.up (by assumption) fr_Yb (by omega)) rfl rfl (fun v => .inl rfl) (fun a c h1 N1 => c_least (cN d)) (fun x y h1 N1 => c_poor1 (cN (d + 2)) x y)) ?_
  rintro _ h1 N1 ⟨⟨rain, p, rfl, fp, q⟩, f1, o1, l1⟩
  try refine gs_Yb ?_
  exact Rn.ret ⟨⟨rain, p, rfl, fp, q⟩, (Gw.of fr_Yb (by omega))⟩
/-- The truth that gives most. -/
theorem c_Rich (d : Nat) {h N} (nb : s.book.length < 1000) (nr : s.reads.length < 1000) (hb : Sl h N b s.book) (hr : Sl h N r s.reads) : Rn (s20 (cN (d + 3)) (.agg ⟨[iS s.weeks, iS s.most, iS s.fall, iS s.slo, iS s.shi, iS s.wlo, iS s.whi, b, r]⟩) h N) fun v h' N' => (∃ rain p, v = .tuple ⟨[iS rain, p, iS (exE s)]⟩ ∧ flatV p = true ∧ (exE s = 0 → ExOk (fun v => v.2) (fun z => -z) s h' N' rain p)) ∧ Gw h N h' N' := by
  unfold s20
  have cb := hb.flat; have cr := hr.flat; have x1 := flatV_one cb; have y1 := cel_flat cb; have x2 := flatV_one cr; have y2 := cel_flat cr
  try refine gs_Yb ?_
  refine Rn.call (c_extreme d (f := fun v => v.2) (κ := fun z => -z) nb nr (Sl.up (by assumption) fr_Yb (by omega)) (Sl.up (by assumption) fr_Yb (by omega)) rfl rfl (fun v => .inr rfl) (fun a c h1 N1 => c_most (cN d)) (fun x y h1 N1 => c_rich1 (cN (d + 2)) x y)) ?_
  rintro _ h1 N1 ⟨⟨rain, p, rfl, fp, q⟩, f1, o1, l1⟩
  try refine gs_Yb ?_
  exact Rn.ret ⟨⟨rain, p, rfl, fp, q⟩, (Gw.of fr_Yb (by omega))⟩
end
end Go.Proofs.Ytpilgokdbliklaa
end

section
namespace Go.Proofs.Ytpilgokdbliklaa
open Go.Ev Go.RowKit
set_option linter.unusedVariables false
set_option linter.unusedSimpArgs false
set_option linter.unusedSectionVars false
set_option maxRecDepth 100000
set_option maxHeartbeats 4000000
section
variable {s : Sp} {b r : Value}
end
end Go.Proofs.Ytpilgokdbliklaa
end

section
namespace Go.Proofs.Ytpilgokdbliklaa
open Go.Ev Go.RowKit
set_option linter.unusedVariables false
set_option linter.unusedSimpArgs false
set_option linter.unusedSectionVars false
set_option maxRecDepth 100000
set_option maxHeartbeats 4000000
section
variable {s : Sp} {b r : Value}
end
end Go.Proofs.Ytpilgokdbliklaa
end

section
namespace Go.Proofs.Ytpilgokdbliklaa
open Go.Ev Go.RowKit
set_option linter.unusedVariables false
set_option linter.unusedSimpArgs false
set_option linter.unusedSectionVars false
set_option maxRecDepth 100000
set_option maxHeartbeats 4000000
theorem fwd_keep {fall : Int} {f : Bd} {n : Nat → Int} {W : Nat} (h : ∀ j, j < W → (f j).1 ≤ n j ∧ n j ≤ (f j).2) (hst : ∀ j, j + 1 < W → n (j + 1) ≤ n j ∧ n j - fall ≤ n (j + 1)) :
    ∀ k, k < W → ∀ j, j < W → (fwdN fall k f j).1 ≤ n j ∧ n j ≤ (fwdN fall k f j).2
  | 0, _, j, hj => h j hj
  | k + 1, hk, j, hj => by
    have ih := fwd_keep h hst k (by omega)
    simp only [fwdN, up]
    split
    · rename_i e
      subst e
      have a := ih (k + 1) hk
      have c := ih k (by omega)
      have d := hst k hk
      constructor
      · show max _ _ ≤ _; omega
      · show _ ≤ min _ _; omega
    · exact ih j hj
theorem bwd_keep {fall : Int} {f : Bd} {n : Nat → Int} {W : Nat} (h : ∀ j, j < W → (f j).1 ≤ n j ∧ n j ≤ (f j).2) (hst : ∀ j, j + 1 < W → n (j + 1) ≤ n j ∧ n j - fall ≤ n (j + 1)) :
    ∀ k, k < W → ∀ j, j < W → (bwdN fall W k f j).1 ≤ n j ∧ n j ≤ (bwdN fall W k f j).2
  | 0, _, j, hj => h j hj
  | k + 1, hk, j, hj => by
    have ih := bwd_keep h hst k (by omega)
    simp only [bwdN, up]
    split
    · rename_i e
      subst e
      have a := ih (W - 2 - k) (by omega)
      have c := ih (W - 2 - k + 1) (by omega)
      have d := hst (W - 2 - k) (by omega)
      constructor
      · show max _ _ ≤ _; omega
      · show _ ≤ min _ _; omega
    · exact ih j hj
end Go.Proofs.Ytpilgokdbliklaa
end

section
namespace Go.Proofs.Ytpilgokdbliklaa
open Go.Ev Go.RowKit
set_option linter.unusedVariables false
set_option linter.unusedSimpArgs false
set_option linter.unusedSectionVars false
set_option maxRecDepth 100000
set_option maxHeartbeats 4000000
section
variable {s : Sp} {b r : Value}
end
end Go.Proofs.Ytpilgokdbliklaa
end

section
namespace Go.Proofs.Ytpilgokdbliklaa
open Go.Ev Go.RowKit
set_option linter.unusedVariables false
set_option linter.unusedSimpArgs false
set_option linter.unusedSectionVars false
set_option maxRecDepth 100000
set_option maxHeartbeats 4000000
end Go.Proofs.Ytpilgokdbliklaa
end

section
namespace Go.Proofs.Ytpilgokdbliklaa
open Go.Ev Go.RowKit
set_option linter.unusedVariables false
set_option linter.unusedSimpArgs false
set_option linter.unusedSectionVars false
set_option maxRecDepth 100000
set_option maxHeartbeats 4000000
theorem can_ex {s : Sp} (h : canS s = true) : ∃ r, r ∈ rainsS s := by
  unfold canS at h
  cases hr : rainsS s with
  | nil => rw [hr] at h; cases h
  | cons x l => exact ⟨x, by simp⟩
end Go.Proofs.Ytpilgokdbliklaa
end

section
namespace Go.Proofs.Ytpilgokdbliklaa
open Go.Ev Go.RowKit
set_option linter.unusedVariables false
set_option linter.unusedSimpArgs false
set_option linter.unusedSectionVars false
set_option maxRecDepth 100000
set_option maxHeartbeats 4000000
/-- A flow within bounds. -/
structure Fl (s : Sp) (f : Bd) (n : Nat → Int) : Prop where
  bd : ∀ j, j < s.weeks.toNat → (f j).1 ≤ n j ∧ n j ≤ (f j).2
  st : ∀ j, j + 1 < s.weeks.toNat → n (j + 1) ≤ n j ∧ n j - s.fall ≤ n (j + 1)
section
variable {s : Sp}
theorem fl_in (w1 : 1 ≤ s.weeks) {f : Bd} {n : Nat → Int} (F : Fl s f n) : ∀ j, j < s.weeks.toNat → (narS s f j).1 ≤ n j ∧ n j ≤ (narS s f j).2 := by
  unfold narS
  exact bwd_keep (fwd_keep F.bd F.st _ (by omega)) F.st _ (by omega)
theorem fl_nar (w1 : 1 ≤ s.weeks) {f : Bd} {n : Nat → Int} : Fl s (narS s f) n ↔ Fl s f n :=
  ⟨fun F => ⟨fun j hj => by have := F.bd j hj; have := nar_in s f j; omega, F.st⟩, fun F => ⟨fl_in w1 F, F.st⟩⟩
theorem fl_is (w1 : 1 ≤ s.weeks) {f : Bd} {n : Nat → Int} (F : Fl s f n) : okN s (narS s f) = true :=
  okN_of rfl fun j hj => by have := fl_in w1 F j hj; omega
theorem ok_fl (h0 : 0 ≤ s.fall) {f : Bd} {e : Int × Int → Int} (he : (∀ v : Int × Int, e v = v.1) ∨ (∀ v : Int × Int, e v = v.2)) (h : okN s (narS s f) = true) : Fl s f fun j => e (narS s f j) := by
  refine ⟨fun j hj => ?_, fun j hj => ?_⟩
  · have := okN_at h hj
    have := nar_in s f j
    show (f j).1 ≤ e (narS s f j) ∧ e (narS s f j) ≤ (f j).2
    rcases he with q | q <;> rw [q] <;> omega
  · have := nar_step h0 f hj
    show e (narS s f (j + 1)) ≤ e (narS s f j) ∧ e (narS s f j) - s.fall ≤ e (narS s f (j + 1))
    rcases he with q | q <;> rw [q, q] <;> omega
/-- Bounds with the same flows are narrowed alike. -/
theorem nar_eq (w1 : 1 ≤ s.weeks) (h0 : 0 ≤ s.fall) {f g : Bd} (h : ∀ n, Fl s f n ↔ Fl s g n) : okN s (narS s f) = okN s (narS s g) ∧ (okN s (narS s f) = true → ∀ j, j < s.weeks.toNat → narS s f j = narS s g j) := by
  have one : ∀ {f g : Bd}, (∀ n, Fl s f n → Fl s g n) → okN s (narS s f) = true → okN s (narS s g) = true ∧ ∀ j, j < s.weeks.toNat → (narS s g j).1 ≤ (narS s f j).1 ∧ (narS s f j).2 ≤ (narS s g j).2 := by
    intro f g h hok
    have a := ok_fl h0 (e := fun v => v.1) (.inl fun _ => rfl) hok
    have c := ok_fl h0 (e := fun v => v.2) (.inr fun _ => rfl) hok
    exact ⟨fl_is w1 (h _ a), fun j hj => ⟨(fl_in w1 (h _ a) j hj).1, (fl_in w1 (h _ c) j hj).2⟩⟩
  have e : okN s (narS s f) = okN s (narS s g) := by
    cases hf : okN s (narS s f) with
    | true => exact (one (fun n => (h n).1) hf).1.symm
    | false =>
      cases hg : okN s (narS s g) with
      | false => rfl
      | true => rw [(one (fun n => (h n).2) hg).1] at hf; cases hf
  refine ⟨e, fun hf j hj => ?_⟩
  have a := (one (fun n => (h n).1) hf).2 j hj
  have c := (one (fun n => (h n).2) (e ▸ hf)).2 j hj
  apply Prod.ext <;> omega
/-- Each number that is left comes about. -/
theorem fl_mid (w1 : 1 ≤ s.weeks) (h0 : 0 ≤ s.fall) {f : Bd} (hok : okN s (narS s f) = true) {w : Nat} (hw : w < s.weeks.toNat) {n : Int} (h1 : (narS s f w).1 ≤ n) (h2 : n ≤ (narS s f w).2) : ∃ m, Fl s f m ∧ m w = n := by
  have a := ok_fl h0 (e := fun v => v.1) (.inl fun _ => rfl) hok
  have c := ok_fl h0 (e := fun v => v.2) (.inr fun _ => rfl) hok
  refine ⟨fun j => min (narS s f j).2 ((narS s f j).1 + (n - (narS s f w).1)), ⟨fun j hj => ?_, fun j hj => ?_⟩, ?_⟩
  · have q1 := a.bd j hj
    have q2 := c.bd j hj
    have q3 := okN_at hok hj
    show (f j).1 ≤ min _ _ ∧ min _ _ ≤ (f j).2
    have q1' : (f j).1 ≤ (narS s f j).1 := q1.1
    have q2' : (narS s f j).2 ≤ (f j).2 := q2.2
    omega
  · have q1 := a.st j hj
    have q2 := c.st j hj
    have q1' : (narS s f (j + 1)).1 ≤ (narS s f j).1 ∧ (narS s f j).1 - s.fall ≤ (narS s f (j + 1)).1 := q1
    have q2' : (narS s f (j + 1)).2 ≤ (narS s f j).2 ∧ (narS s f j).2 - s.fall ≤ (narS s f (j + 1)).2 := q2
    show min _ _ ≤ min _ _ ∧ min _ _ - _ ≤ min _ _
    omega
  · show min _ _ = n
    omega
/-- What a rain leaves if a week gives a number. -/
def pgB (s : Sp) (w : Nat) (n : Int) (f : Bd) : Bd := narS s (up f w (n, n))
/-- The same, by the reference. -/
def rfB (s : Sp) (w : Nat) (n r : Int) : Bd := leavesF s (up (baseS s) w (n, n)) r
theorem red_ne (hs : OkS s) (hc : canS s = true) : ∀ j, j < s.weeks.toNat → (redS s j).1 ≤ (redS s j).2 := by
  intro j hj
  obtain ⟨r, hr⟩ := can_ex hc
  have h1 := leaves_bd (rains_mem hr).1 hj
  have h2 := nar_in s (preS s r) j
  have h3 := ((pre_lo (s := s) r j _).1 (Int.le_refl _)).1
  have h4 := ((pre_hi (s := s) r j _).1 (Int.le_refl _)).1
  unfold leavesS at h1
  omega
theorem base_at' (hs : OkS s) (hc : canS s = true) {j : Nat} (hj : j < s.weeks.toNat) : baseS s j = redS s j := by
  rw [base_red hs, if_pos hj, if_pos (red_ne hs hc j hj)]
theorem ref_fl (hs : OkS s) (hc : canS s = true) {w : Nat} (hw : w < s.weeks.toNat) {n r : Int} (h1 : (baseS s w).1 ≤ n) (h2 : n ≤ (baseS s w).2) (m : Nat → Int) : Fl s (s.book.foldl (addL r) (up (baseS s) w (n, n))) m ↔ Fl s (preS s r) m ∧ m w = n := by
  rw [base_at' hs hc hw] at h1 h2
  constructor
  · intro F
    have key : ∀ j, j < s.weeks.toNat → ((preS s r j).1 ≤ m j ∧ m j ≤ (preS s r j).2) ∧ (j = w → m j = n) := by
      intro j hj
      have q := F.bd j hj
      rw [addL_lo, addL_hi] at q
      obtain ⟨⟨q1, q2⟩, q3, q4⟩ := q
      rw [pre_lo, pre_hi]
      by_cases e : j = w
      · subst e
        rw [up_same] at q1 q3
        have q1' : n ≤ m j := q1
        have q3' : m j ≤ n := q3
        exact ⟨⟨⟨by omega, q2⟩, by omega, q4⟩, fun _ => by omega⟩
      · have e' : up (baseS s) w (n, n) j = redS s j := by simp only [up, if_neg e]; exact base_at' hs hc hj
        rw [e'] at q1 q3
        exact ⟨⟨⟨q1, q2⟩, q3, q4⟩, fun h => absurd h e⟩
    exact ⟨⟨fun j hj => (key j hj).1, F.st⟩, (key w hw).2 rfl⟩
  · rintro ⟨F, e0⟩
    refine ⟨fun j hj => ?_, F.st⟩
    have q := F.bd j hj
    rw [pre_lo, pre_hi] at q
    obtain ⟨⟨q1, q2⟩, q3, q4⟩ := q
    rw [addL_lo, addL_hi]
    by_cases e : j = w
    · subst e
      rw [up_same]
      exact ⟨⟨by show n ≤ m j; omega, q2⟩, by show m j ≤ n; omega, q4⟩
    · have e' : up (baseS s) w (n, n) j = redS s j := by simp only [up, if_neg e]; exact base_at' hs hc hj
      rw [e']
      exact ⟨⟨q1, q2⟩, q3, q4⟩
theorem prg_fl (w1 : 1 ≤ s.weeks) {f : Bd} {w : Nat} (hw : w < s.weeks.toNat) {n : Int} (h1 : (f w).1 ≤ n) (h2 : n ≤ (f w).2) (m : Nat → Int) : Fl s (up f w (n, n)) m ↔ Fl s f m ∧ m w = n := by
  constructor
  · intro F
    have q := F.bd w hw
    rw [up_same] at q
    have q' : n ≤ m w ∧ m w ≤ n := q
    refine ⟨⟨fun j hj => ?_, F.st⟩, by omega⟩
    by_cases e : j = w
    · subst e; omega
    · have := F.bd j hj
      simp only [up, if_neg e] at this
      exact this
  · rintro ⟨F, e0⟩
    refine ⟨fun j hj => ?_, F.st⟩
    by_cases e : j = w
    · subst e; rw [up_same]; exact ⟨by show n ≤ m j; omega, by show m j ≤ n; omega⟩
    · simp only [up, if_neg e]; exact F.bd j hj
/-- The reference leaves the same as the program. -/
theorem look_r (hs : OkS s) (hc : canS s = true) {w : Nat} (hw : w < s.weeks.toNat) {n : Int} (h1 : (baseS s w).1 ≤ n) (h2 : n ≤ (baseS s w).2) (r : Int) :
    (okN s (rfB s w n r) = true ↔ okN s (leavesS s r) = true ∧ inS (leavesS s r w).1 (leavesS s r w).2 n = true) ∧ (okN s (rfB s w n r) = true → ∀ j, j < s.weeks.toNat → rfB s w n r j = pgB s w n (leavesS s r) j) := by
  have w1 := hs.ok.w1
  have f1 := hs.ok.f1
  have R := ref_fl hs hc hw h1 h2 (r := r)
  have A : okN s (rfB s w n r) = true ↔ okN s (leavesS s r) = true ∧ inS (leavesS s r w).1 (leavesS s r w).2 n = true := by
    constructor
    · intro h
      have F := (R _).1 (ok_fl f1 (e := fun v => v.1) (.inl fun _ => rfl) h)
      refine ⟨fl_is w1 F.1, ?_⟩
      have q := fl_in w1 F.1 w hw
      rw [F.2] at q
      simp only [inS, Bool.and_eq_true, decide_eq_true_eq]
      exact q
    · rintro ⟨h, hi⟩
      simp only [inS, Bool.and_eq_true, decide_eq_true_eq] at hi
      obtain ⟨m, F, e⟩ := fl_mid w1 f1 h hw hi.1 hi.2
      exact fl_is w1 ((R m).2 ⟨F, e⟩)
  refine ⟨A, fun h => ?_⟩
  have hi := (A.1 h).2
  simp only [inS, Bool.and_eq_true, decide_eq_true_eq] at hi
  refine (nar_eq w1 f1 (fun m => ?_)).2 h
  rw [R, prg_fl w1 hw hi.1 hi.2]
  unfold leavesS
  rw [fl_nar w1]
/-- Numbers beyond what readings leave are in no rain's bounds. -/
theorem look_out (hs : OkS s) (hc : canS s = true) {w : Nat} (hw : w < s.weeks.toNat) {n r : Int} (hi : inS (leavesS s r w).1 (leavesS s r w).2 n = true) : (baseS s w).1 ≤ n ∧ n ≤ (baseS s w).2 := by
  simp only [inS, Bool.and_eq_true, decide_eq_true_eq] at hi
  rw [base_at' hs hc hw]
  have h2 := nar_in s (preS s r) w
  have h3 := ((pre_lo (s := s) r w _).1 (Int.le_refl _)).1
  have h4 := ((pre_hi (s := s) r w _).1 (Int.le_refl _)).1
  unfold leavesS at hi
  omega
end
/-- The hull of bounds. -/
def hlB (L : List Bd) (v : Int × Int) (j : Nat) : Int × Int := L.foldl (fun v f => arS v (f j)) v
theorem hlB_lo {j : Nat} {n : Int} : ∀ (L : List Bd) (v : Int × Int), (hlB L v j).1 ≤ n ↔ v.1 ≤ n ∨ ∃ f ∈ L, (f j).1 ≤ n
  | [], v => by simp [hlB]
  | f :: L, v => by
    show (hlB L (arS v (f j)) j).1 ≤ n ↔ _
    rw [hlB_lo L]
    have e : (arS v (f j)).1 ≤ n ↔ v.1 ≤ n ∨ (f j).1 ≤ n := by show min _ _ ≤ n ↔ _; omega
    rw [e]; simp [or_assoc]
theorem hlB_hi {j : Nat} {n : Int} : ∀ (L : List Bd) (v : Int × Int), n ≤ (hlB L v j).2 ↔ n ≤ v.2 ∨ ∃ f ∈ L, n ≤ (f j).2
  | [], v => by simp [hlB]
  | f :: L, v => by
    show n ≤ (hlB L (arS v (f j)) j).2 ↔ _
    rw [hlB_hi L]
    have e : n ≤ (arS v (f j)).2 ↔ n ≤ v.2 ∨ n ≤ (f j).2 := by show n ≤ max _ _ ↔ _; omega
    rw [e]; simp [or_assoc]
/-- How much bounds leave together, in so many weeks. -/
def smW (f : Nat → Int × Int) : Nat → Int
  | 0 => 0
  | k + 1 => smW f k + ((f k).2 - (f k).1)
theorem smW_congr {f g : Nat → Int × Int} : ∀ k, (∀ j, j < k → f j = g j) → smW f k = smW g k
  | 0, _ => rfl
  | k + 1, h => by
    show smW f k + _ = smW g k + _
    rw [smW_congr k fun j hj => h j (by omega), h k (by omega)]
/-- How much the hull of bounds leaves; a number if there are none. -/
def wdB (z : Int) (W : Nat) : List Bd → Int
  | [] => z
  | f :: L => smW (fun j => hlB (f :: L) (f j) j) W
theorem wdB_cons (z : Int) (W : Nat) (f : Bd) (L : List Bd) : wdB z W (f :: L) = smW (fun j => hlB (f :: L) (f j) j) W := rfl
/-- Two lists of the same bounds, whatever their order and repeats. -/
def SamB (W : Nat) (K L : List Bd) : Prop := (∀ f ∈ K, ∃ g ∈ L, ∀ j, j < W → f j = g j) ∧ ∀ g ∈ L, ∃ f ∈ K, ∀ j, j < W → f j = g j
theorem wdB_same {z : Int} {W : Nat} {K L : List Bd} (h : SamB W K L) : wdB z W K = wdB z W L := by
  obtain ⟨h1, h2⟩ := h
  cases K with
  | nil =>
    cases L with
    | nil => rfl
    | cons g L => obtain ⟨f, hf, _⟩ := h2 g (by simp); cases hf
  | cons f K =>
    cases L with
    | nil => obtain ⟨g, hg, _⟩ := h1 f (by simp); cases hg
    | cons g L =>
      rw [wdB_cons, wdB_cons]
      refine smW_congr _ fun j hj => ?_
      have lo : ∀ n, (hlB (f :: K) (f j) j).1 ≤ n ↔ (hlB (g :: L) (g j) j).1 ≤ n := by
        intro n
        rw [hlB_lo, hlB_lo]
        constructor
        · intro h
          have : ∃ x ∈ f :: K, (x j).1 ≤ n := h.elim (fun h => ⟨f, by simp, h⟩) id
          obtain ⟨x, hx, hn⟩ := this
          obtain ⟨y, hy, e⟩ := h1 x hx
          exact .inr ⟨y, hy, by rw [← e j hj]; exact hn⟩
        · intro h
          have : ∃ x ∈ g :: L, (x j).1 ≤ n := h.elim (fun h => ⟨g, by simp, h⟩) id
          obtain ⟨x, hx, hn⟩ := this
          obtain ⟨y, hy, e⟩ := h2 x hx
          exact .inr ⟨y, hy, by rw [e j hj]; exact hn⟩
      have hi : ∀ n, n ≤ (hlB (f :: K) (f j) j).2 ↔ n ≤ (hlB (g :: L) (g j) j).2 := by
        intro n
        rw [hlB_hi, hlB_hi]
        constructor
        · intro h
          have : ∃ x ∈ f :: K, n ≤ (x j).2 := h.elim (fun h => ⟨f, by simp, h⟩) id
          obtain ⟨x, hx, hn⟩ := this
          obtain ⟨y, hy, e⟩ := h1 x hx
          exact .inr ⟨y, hy, by rw [← e j hj]; exact hn⟩
        · intro h
          have : ∃ x ∈ g :: L, n ≤ (x j).2 := h.elim (fun h => ⟨g, by simp, h⟩) id
          obtain ⟨x, hx, hn⟩ := this
          obtain ⟨y, hy, e⟩ := h2 x hx
          exact .inr ⟨y, hy, by rw [e j hj]; exact hn⟩
      exact Prod.ext (int_ext lo) (int_ext' hi)
/-- The greatest of 0 and so many numbers. -/
def mxN (g : Nat → Int) : Nat → Int
  | 0 => 0
  | k + 1 => max (mxN g k) (g k)
theorem mxN_le {g : Nat → Int} {x : Int} : ∀ k : Nat, mxN g k ≤ x ↔ 0 ≤ x ∧ ∀ i, i < k → g i ≤ x
  | 0 => by simp [mxN]
  | k + 1 => by
    have ih := mxN_le (g := g) (x := x) k
    have e : mxN g (k + 1) ≤ x ↔ mxN g k ≤ x ∧ g k ≤ x := by show max _ _ ≤ x ↔ _; omega
    rw [e, ih]
    constructor
    · rintro ⟨⟨a, c⟩, d⟩
      refine ⟨a, fun i hi => ?_⟩
      rcases Nat.lt_or_ge i k with h | h
      · exact c i h
      · obtain rfl : i = k := by omega
        exact d
    · rintro ⟨a, c⟩
      exact ⟨⟨a, fun i hi => c i (by omega)⟩, c k (by omega)⟩
end Go.Proofs.Ytpilgokdbliklaa
end

section
namespace Go.Proofs.Ytpilgokdbliklaa
open Go.Ev Go.RowKit
set_option linter.unusedVariables false
set_option linter.unusedSimpArgs false
set_option linter.unusedSectionVars false
set_option maxRecDepth 100000
set_option maxHeartbeats 4000000
/-- Bounds that the rains leave, each told once at least. -/
def AllB (s : Sp) (A : List Bd) : Prop := (∀ f ∈ A, ∃ r ∈ rainsS s, f = leavesS s r) ∧ ∀ r ∈ rainsS s, ∃ f ∈ A, bdC f = bdC (leavesS s r)
theorem bdC_at {f g : Bd} (h : bdC f = bdC g) : ∀ j, j < 10 → f j = g j := by
  simp only [bdC, List.cons.injEq, Value.int.injEq, true_and] at h
  refine ten (p := fun j => f j = g j) ?_ ?_ ?_ ?_ ?_ ?_ ?_ ?_ ?_ ?_ <;> apply Prod.ext <;> simp [h]
/-- How much is left if a week gives a number, by the program. -/
def opB (s : Sp) (A : List Bd) (w : Nat) (n : Int) : Int := wdB 0 s.weeks.toNat ((A.filter fun f => inS (f w).1 (f w).2 n).map (pgB s w n))
/-- How much is left, by the reference. -/
def wiF (s : Sp) (f : Bd) : Int := wdB (-1) s.weeks.toNat ((rainsF s f).map (leavesF s f))
def wiB (s : Sp) (w : Nat) (n : Int) : Int := wiF s (up (baseS s) w (n, n))
def leftS (s : Sp) (w : Nat) : Int := mxN (fun i => wiB s w ((baseS s w).1 + i)) ((baseS s w).2 + 1 - (baseS s w).1).toNat
def leftP (s : Sp) (A : List Bd) (w : Nat) : Int := mxN (fun i => opB s A w i) (s.most + 1).toNat
section
variable {s : Sp}
theorem rains_iff {r : Int} : r ∈ rainsS s ↔ (s.wlo ≤ r ∧ r ≤ s.whi) ∧ okN s (leavesS s r) = true := by
  constructor
  · intro h
    obtain ⟨a, c, d⟩ := rains_mem h
    exact ⟨⟨c, d⟩, a⟩
  · rintro ⟨⟨a, c⟩, d⟩
    unfold rainsS rainsN rainN
    exact List.mem_filter.2 ⟨List.mem_map.2 ⟨(r - s.wlo).toNat, List.mem_range.2 (by omega), by omega⟩, d⟩
theorem rainsF_iff {f : Bd} {r : Int} : r ∈ rainsF s f ↔ (s.wlo ≤ r ∧ r ≤ s.whi) ∧ okN s (leavesF s f r) = true := by
  unfold rainsF rainsFN rainN
  constructor
  · intro h
    obtain ⟨h1, h2⟩ := List.mem_filter.1 h
    obtain ⟨i, hi, rfl⟩ := List.mem_map.1 h1
    have := List.mem_range.1 hi
    exact ⟨by omega, h2⟩
  · rintro ⟨⟨a, c⟩, d⟩
    exact List.mem_filter.2 ⟨List.mem_map.2 ⟨(r - s.wlo).toNat, List.mem_range.2 (by omega), by omega⟩, d⟩
theorem pg_ok (hs : OkS s) {r : Int} (h : okN s (leavesS s r) = true) {w : Nat} (hw : w < s.weeks.toNat) {n : Int} (hi : inS (leavesS s r w).1 (leavesS s r w).2 n = true) : okN s (pgB s w n (leavesS s r)) = true := by
  simp only [inS, Bool.and_eq_true, decide_eq_true_eq] at hi
  have w1 := hs.ok.w1
  obtain ⟨m, F, e⟩ := fl_mid w1 hs.ok.f1 h hw hi.1 hi.2
  have G : Fl s (leavesS s r) m := (fl_nar w1).2 F
  exact fl_is w1 ((prg_fl w1 hw hi.1 hi.2 m).2 ⟨G, e⟩)
theorem look_same (hs : OkS s) (hc : canS s = true) {A : List Bd} (hA : AllB s A) {w : Nat} (hw : w < s.weeks.toNat) {n : Int} (h1 : (baseS s w).1 ≤ n) (h2 : n ≤ (baseS s w).2) :
    SamB s.weeks.toNat ((A.filter fun f => inS (f w).1 (f w).2 n).map (pgB s w n)) ((rainsF s (up (baseS s) w (n, n))).map (rfB s w n)) := by
  have w1 := hs.ok.w1
  have w2 := hs.ok.w2
  have f1 := hs.ok.f1
  constructor
  · intro g hg
    obtain ⟨f, hf, rfl⟩ := List.mem_map.1 hg
    obtain ⟨hf, hi⟩ := List.mem_filter.1 hf
    obtain ⟨r, hr, rfl⟩ := hA.1 f hf
    obtain ⟨hr1, hr2⟩ := rains_iff.1 hr
    obtain ⟨L1, L2⟩ := look_r hs hc hw h1 h2 r
    have ok := L1.2 ⟨hr2, hi⟩
    exact ⟨_, List.mem_map.2 ⟨r, rainsF_iff.2 ⟨hr1, ok⟩, rfl⟩, fun j hj => (L2 ok j hj).symm⟩
  · intro g hg
    obtain ⟨r, hr, rfl⟩ := List.mem_map.1 hg
    obtain ⟨hr1, ok⟩ := rainsF_iff.1 hr
    obtain ⟨L1, L2⟩ := look_r hs hc hw h1 h2 r
    obtain ⟨hr2, hi⟩ := L1.1 ok
    obtain ⟨f, hf, e⟩ := hA.2 r (rains_iff.2 ⟨hr1, hr2⟩)
    have ee := bdC_at e
    have hfi : inS (f w).1 (f w).2 n = true := by rw [ee w (by omega)]; exact hi
    refine ⟨_, List.mem_map.2 ⟨f, List.mem_filter.2 ⟨hf, hfi⟩, rfl⟩, fun j hj => ?_⟩
    have L3 : rfB s w n r j = pgB s w n (leavesS s r) j := L2 ok j hj
    rw [L3]
    have po := pg_ok hs hr2 hw hi
    refine ((nar_eq w1 f1 (fun m => ?_)).2 po j hj).symm
    constructor
    · intro F
      refine ⟨fun k hk => ?_, F.st⟩
      have := F.bd k hk
      simp only [up] at this ⊢
      split
      · rename_i q; rw [if_pos q] at this; exact this
      · rename_i q; rw [if_neg q] at this; rw [ee k (by omega)]; exact this
    · intro F
      refine ⟨fun k hk => ?_, F.st⟩
      have := F.bd k hk
      simp only [up] at this ⊢
      split
      · rename_i q; rw [if_pos q] at this; exact this
      · rename_i q; rw [if_neg q] at this; rw [← ee k (by omega)]; exact this
theorem op_wi (hs : OkS s) (hc : canS s = true) {A : List Bd} (hA : AllB s A) {w : Nat} (hw : w < s.weeks.toNat) {n : Int} (h1 : (baseS s w).1 ≤ n) (h2 : n ≤ (baseS s w).2) {x : Int} (hx : 0 ≤ x) : opB s A w n ≤ x ↔ wiB s w n ≤ x := by
  have e := wdB_same (z := 0) (look_same hs hc hA hw h1 h2)
  unfold opB wiB wiF
  rw [e]
  have q : (rainsF s (up (baseS s) w (n, n))).map (rfB s w n) = (rainsF s (up (baseS s) w (n, n))).map (leavesF s (up (baseS s) w (n, n))) := rfl
  rw [q]
  cases (rainsF s (up (baseS s) w (n, n))).map (leavesF s (up (baseS s) w (n, n))) with
  | nil => show (0 : Int) ≤ x ↔ (-1 : Int) ≤ x; omega
  | cons f L => exact Iff.rfl
theorem left_eq (hs : OkS s) (hc : canS s = true) {A : List Bd} (hA : AllB s A) {w : Nat} (hw : w < s.weeks.toNat) : leftP s A w = leftS s w := by
  have hb := red_bd (s := s) hw
  have eb := base_at' hs hc hw
  have m1 := hs.ok.m1
  refine int_ext fun x => ?_
  unfold leftP leftS
  rw [mxN_le, mxN_le]
  constructor
  · rintro ⟨h0, h⟩
    refine ⟨h0, fun i hi => ?_⟩
    rw [← op_wi hs hc hA hw (by omega) (by omega) h0]
    have := h ((baseS s w).1 + i).toNat (by rw [eb] at hi ⊢; omega)
    rw [show (((((baseS s w).1 + (i : Int)).toNat : Nat)) : Int) = (baseS s w).1 + i by rw [eb]; omega] at this
    exact this
  · rintro ⟨h0, h⟩
    refine ⟨h0, fun i hi => ?_⟩
    by_cases hin : (baseS s w).1 ≤ i ∧ (i : Int) ≤ (baseS s w).2
    · rw [op_wi hs hc hA hw hin.1 hin.2 h0]
      have := h ((i : Int) - (baseS s w).1).toNat (by omega)
      rw [show (baseS s w).1 + (((((i : Int) - (baseS s w).1).toNat : Nat)) : Int) = i by omega] at this
      exact this
    · have : A.filter (fun f => inS (f w).1 (f w).2 i) = [] := by
        rw [List.filter_eq_nil_iff]
        intro f hf hq
        obtain ⟨r, hr, rfl⟩ := hA.1 f hf
        exact hin (look_out hs hc hw hq)
      unfold opB
      rw [this]
      exact h0
end
end Go.Proofs.Ytpilgokdbliklaa
end

section
namespace Go.Proofs.Ytpilgokdbliklaa
open Go.Ev Go.RowKit
set_option linter.unusedVariables false
set_option linter.unusedSimpArgs false
set_option linter.unusedSectionVars false
set_option maxRecDepth 100000
set_option maxHeartbeats 4000000
theorem s1_Kc {p : Prop} (h : p := by (simp (disch := omega) only [obind_s, orun_s, ocond_t, fad_p, ld1_e, ldN_e, sto_e, cellO_c, wrO_c, Tr.get_same, Tr.get_other, nth_0, nth_s, drp_0, drp_s, drp_n, tak_0, tak_s, tak_n, over_n, over_c, lay_0, lay_s, lay_n, len_n, len_c, app_n, app_c, reps_0, reps_s, cel_agg, cel_int, cel_bool, cel_str, cel_sl, cel_ptr, cel_map, cel_func, cel_nilf, fil_n, fil_c, beq_r, ble_d, allF_n, allF_c, one_int, one_bool, one_str, one_sl, one_ptr, one_map, one_func, one_nilf, Bool.and_true, Bool.true_and, Bool.not_true, Bool.not_false, iadA_z, Int.reduceToNat, Int.toNat_zero, fl1_a, flN_a, extr_t, unot, not_d, Nat.add_eq, Nat.mul_eq, Nat.mul_one, Nat.one_mul, Nat.zero_mul, Nat.reduceMul, Nat.zero_add, Nat.add_zero, Nat.le_refl, decide_true, Nat.reduceAdd, Nat.reduceLeDiff, bsl_Sspring_bounds, enc_Lb, bsl_Sint, bld_Span, bld_spring_work, bld_spring_asked, enc_Line, enc_Reading, ocond_d, Int.toNat_natCast, bd_drp0, bd_drp1, bd_lay, bd_len, bd_self, bd_tak, bd_over, qc_drp0, qc_drp1, setSt_e, stO_n, stO_s, isReady_r, anySt_t, unmark_e, unO_d, eql_Bd, *]); first | done | fail) : p := h
theorem s2_Kc {p : Prop} (h : p := by (simp (disch := omega) only [obind_s, orun_s, ocond_t, fad_p, ld1_e, ldN_e, sto_e, cellO_c, wrO_c, Tr.get_same, Tr.get_other, nth_0, nth_s, drp_0, drp_s, drp_n, tak_0, tak_s, tak_n, over_n, over_c, lay_0, lay_s, lay_n, len_n, len_c, app_n, app_c, reps_0, reps_s, cel_agg, cel_int, cel_bool, cel_str, cel_sl, cel_ptr, cel_map, cel_func, cel_nilf, fil_n, fil_c, beq_r, ble_d, allF_n, allF_c, one_int, one_bool, one_str, one_sl, one_ptr, one_map, one_func, one_nilf, Bool.and_true, Bool.true_and, Bool.not_true, Bool.not_false, iadA_z, Int.reduceToNat, Int.toNat_zero, fl1_a, flN_a, extr_t, unot, not_d, Nat.add_eq, Nat.mul_eq, Nat.mul_one, Nat.one_mul, Nat.zero_mul, Nat.reduceMul, Nat.zero_add, Nat.add_zero, Nat.le_refl, decide_true, Nat.reduceAdd, Nat.reduceLeDiff, bsl_Sspring_bounds, enc_Lb, bsl_Sint, bld_Span, bld_spring_work, bld_spring_asked, enc_Line, enc_Reading, ocond_d, Int.toNat_natCast, bd_drp0, bd_drp1, bd_lay, bd_len, bd_self, bd_tak, bd_over, qc_drp0, qc_drp1, setSt_e, stO_n, stO_s, isReady_r, anySt_t, unmark_e, unO_d, eql_Bd, *]); rfl) : p := h
theorem sb_Kc {p : Prop} (h : p := by first | ((simp (disch := omega) only [obind_s, orun_s, ocond_t, fad_p, ld1_e, ldN_e, sto_e, cellO_c, wrO_c, Tr.get_same, Tr.get_other, nth_0, nth_s, drp_0, drp_s, drp_n, tak_0, tak_s, tak_n, over_n, over_c, lay_0, lay_s, lay_n, len_n, len_c, app_n, app_c, reps_0, reps_s, cel_agg, cel_int, cel_bool, cel_str, cel_sl, cel_ptr, cel_map, cel_func, cel_nilf, fil_n, fil_c, beq_r, ble_d, allF_n, allF_c, one_int, one_bool, one_str, one_sl, one_ptr, one_map, one_func, one_nilf, Bool.and_true, Bool.true_and, Bool.not_true, Bool.not_false, iadA_z, Int.reduceToNat, Int.toNat_zero, fl1_a, flN_a, extr_t, unot, not_d, Nat.add_eq, Nat.mul_eq, Nat.mul_one, Nat.one_mul, Nat.zero_mul, Nat.reduceMul, Nat.zero_add, Nat.add_zero, Nat.le_refl, decide_true, Nat.reduceAdd, Nat.reduceLeDiff, bsl_Sspring_bounds, enc_Lb, bsl_Sint, bld_Span, bld_spring_work, bld_spring_asked, enc_Line, enc_Reading, ocond_d, Int.toNat_natCast, bd_drp0, bd_drp1, bd_lay, bd_len, bd_self, bd_tak, bd_over, qc_drp0, qc_drp1, setSt_e, stO_n, stO_s, isReady_r, anySt_t, unmark_e, unO_d, eql_Bd, Nat.succ_eq_add_one, Nat.add_assoc, *]); rfl) | ((simp (disch := omega) only [obind_s, orun_s, ocond_t, fad_p, ld1_e, ldN_e, sto_e, cellO_c, wrO_c, Tr.get_same, Tr.get_other, nth_0, nth_s, drp_0, drp_s, drp_n, tak_0, tak_s, tak_n, over_n, over_c, lay_0, lay_s, lay_n, len_n, len_c, app_n, app_c, reps_0, reps_s, cel_agg, cel_int, cel_bool, cel_str, cel_sl, cel_ptr, cel_map, cel_func, cel_nilf, fil_n, fil_c, beq_r, ble_d, allF_n, allF_c, one_int, one_bool, one_str, one_sl, one_ptr, one_map, one_func, one_nilf, Bool.and_true, Bool.true_and, Bool.not_true, Bool.not_false, iadA_z, Int.reduceToNat, Int.toNat_zero, fl1_a, flN_a, extr_t, unot, not_d, Nat.add_eq, Nat.mul_eq, Nat.mul_one, Nat.one_mul, Nat.zero_mul, Nat.reduceMul, Nat.zero_add, Nat.add_zero, Nat.le_refl, decide_true, Nat.reduceAdd, Nat.reduceLeDiff, bsl_Sspring_bounds, enc_Lb, bsl_Sint, bld_Span, bld_spring_work, bld_spring_asked, enc_Line, enc_Reading, ocond_d, Int.toNat_natCast, bd_drp0, bd_drp1, bd_lay, bd_len, bd_self, bd_tak, bd_over, qc_drp0, qc_drp1, setSt_e, stO_n, stO_s, isReady_r, anySt_t, unmark_e, unO_d, eql_Bd, Nat.succ_eq_add_one, Nat.add_assoc, *]); done)) : p := h
theorem fr_Kc {p : Prop} (h : p := by first | assumption | exact Fr.refl _ _ | (simp (disch := omega) only [Fr_set, Fr_refl, *])) : p := h
theorem fl_Kc {p : Prop} (h : p := by first | with_unfolding_all rfl | exact Sl.flat (by assumption) | assumption) : p := h
theorem fll_Kc {p : Prop} (h : p := by first | with_unfolding_all rfl | ((repeat (refine flatL_k fl_Kc ?_)); with_unfolding_all rfl)) : p := h
theorem en_Kc {p : Prop} (h : p := by first | ((simp only [enc_int, enc_str, enc_u8, enc_bool, tak_s, tak_0, tak_n, drp_0, drp_s, drp_n, nth_s, nth_0, bsl_Sspring_bounds, enc_Lb, bsl_Sint, bld_Span, bld_spring_work, bld_spring_asked, enc_Line, enc_Reading, ocond_d, Int.toNat_natCast, bd_drp0, bd_drp1, bd_lay, bd_len, bd_self, bd_tak, bd_over, qc_drp0, qc_drp1, setSt_e, stO_n, stO_s, isReady_r, anySt_t, unmark_e, unO_d, eql_Bd]); rfl) | ((simp only [enc_int, enc_str, enc_u8, enc_bool, tak_s, tak_0, tak_n, drp_0, drp_s, drp_n, nth_s, nth_0, bsl_Sspring_bounds, enc_Lb, bsl_Sint, bld_Span, bld_spring_work, bld_spring_asked, enc_Line, enc_Reading, ocond_d, Int.toNat_natCast, bd_drp0, bd_drp1, bd_lay, bd_len, bd_self, bd_tak, bd_over, qc_drp0, qc_drp1, setSt_e, stO_n, stO_s, isReady_r, anySt_t, unmark_e, unO_d, eql_Bd]); done) | with_unfolding_all rfl) : p := h
theorem sM_Kc {p : Prop} (h : p := by (first | assumption | (simp (disch := omega) only [Tr.get_same, Tr.get_other, *]; rfl) | (simp (disch := omega) only [Tr.get_same, Tr.get_other, *]; done))) : p := h
theorem sS_Kc {p : Prop} (h : p := by first | assumption | exact s1_Kc) : p := h
theorem sR_Kc {p : Prop} (h : p := by first | assumption | exact s1_Kc | exact s2_Kc | with_unfolding_all rfl) : p := h
theorem op_Kc {p : Prop} (h : p := by first | with_reducible exact fad_p _ _ _ | with_reducible exact iop_lss _ _ | with_reducible exact iop_leq _ _ | with_reducible exact iop_gtr _ _ | with_reducible exact iop_geq _ _ | with_reducible exact iop_eql _ _ | with_reducible exact iop_neq _ _ | with_reducible exact Sl.len (by assumption) | with_reducible exact lenS_s _ _ _ | with_reducible exact Sl.iad (by assumption) (by with_unfolding_all rfl) (by first | assumption | omega) | with_reducible exact Sl.fad (by assumption) (by first | assumption | omega) | with_reducible exact Sl.ld1 (by assumption) fr_Kc (by with_unfolding_all rfl) (by assumption) en_Kc | with_reducible exact Sl.ldN (by assumption) fr_Kc (by with_unfolding_all rfl) (by assumption) (by with_unfolding_all rfl) en_Kc | with_reducible exact zadd1 (by omega) | with_reducible exact zsub1 (by omega) (by omega) | with_reducible exact zaddI (by omega) (by omega) | with_reducible exact zsubI (by omega) (by omega) | with_reducible exact min_z | with_reducible exact max_z | with_reducible exact zmulI (by assumption) | with_reducible exact zmulK (by omega) (by omega) | with_reducible exact quo_z (by omega) (by omega) (by omega) | with_reducible exact cv_u8 (by omega) | with_reducible exact rem_z (by omega) (by omega) (by omega) | with_reducible exact neq_bool (by kernel_rfl) | with_reducible exact eql_u8 | with_reducible exact wntT_t (by assumption) | with_reducible exact wntT_f (by assumption) | with_reducible exact wntF_t (by assumption) | with_reducible exact wntF_f (by assumption) | with_reducible exact wnt_tt | with_reducible exact wnt_tf | with_reducible exact wnt_ft | with_reducible exact wnt_ff | with_reducible exact wnt_u _ _ | with_reducible exact pck_t _ _ | with_reducible exact pck_f _ _ | with_reducible exact pckT (by assumption) | with_reducible exact pckF (by assumption) | with_reducible exact wntT_t (by decide) | with_reducible exact wntT_f (by decide) | with_reducible exact wntF_t (by decide) | with_reducible exact wntF_f (by decide) | with_reducible exact pckT (by decide) | with_reducible exact pckF (by decide) | with_reducible exact wntN_tt (by decide) | with_reducible exact wntN_tf (by decide) | with_reducible exact wntN_ft (by decide) | with_reducible exact wntN_ff (by decide) | with_reducible exact pckNT (by decide) | with_reducible exact pckNF (by decide) | with_reducible exact wntN_tt (by assumption) | with_reducible exact wntN_tf (by assumption) | with_reducible exact wntN_ft (by assumption) | with_reducible exact wntN_ff (by assumption) | with_reducible exact pckNT (by assumption) | with_reducible exact pckNF (by assumption) | with_reducible exact wntB_tt (by assumption) | with_reducible exact wntB_tf (by assumption) | with_reducible exact wntB_ft (by assumption) | with_reducible exact wntB_ff (by assumption) | with_reducible exact pckBT (by assumption) | with_reducible exact pckBF (by assumption) | exact s2_Kc | exact s1_Kc) : p := h
theorem co_Kc {p : Prop} (h : p := by first | (simp only [impB_1, impB_0, offB_1, offB_0]; done) | ((try simp only [impB_1, impB_0, offB_1, offB_0]); first | with_reducible exact Sl.ag1 (by assumption) fr_Kc (by with_unfolding_all rfl) (by assumption) en_Kc | with_reducible exact Sl.agN (by assumption) fr_Kc (by with_unfolding_all rfl) (by assumption) (by with_unfolding_all rfl) en_Kc | ((with_reducible refine agL1_e ?_ ?_); (· exact s1_Kc); (· exact fl_Kc)) | ((with_reducible refine agLN_e ?_ ?_); (· exact s1_Kc); (· exact fll_Kc)) | ((with_reducible apply ag_bs); (· exact sM_Kc); (· rfl); (· exact sb_Kc); (· exact fll_Kc)) | ((with_reducible apply ag_al); (· exact sM_Kc); (· rfl); (· exact fll_Kc)) | ((with_reducible apply ag_bx); (· exact sM_Kc); (· rfl); (· rfl); (· exact fll_Kc)) | ((with_reducible apply ag_bd); (· rfl); (· exact s1_Kc); (· exact fll_Kc)) | exact s1_Kc)) : p := h
theorem gs_Kc {r p : Prop} (k : r) (h : Go.Ev.Im r p := by (first | with_reducible apply Im.runS | ((with_reducible apply Im.num); · (simp only [Nat.succ_eq_add_one, Nat.add_assoc, Nat.reduceAdd]; rfl)) | (with_reducible apply Im.unm) | (with_reducible apply Im.selT) | (with_reducible apply Im.selF) | ((with_reducible apply Im.cndT); · assumption) | ((with_reducible apply Im.cndF); · assumption) | ((with_reducible apply Im.cndT); · decide) | ((with_reducible apply Im.cndF); · decide) | ((with_reducible apply Im.cndNT); · decide) | ((with_reducible apply Im.cndNF); · decide) | ((with_reducible apply Im.cndBT); · exact rfl) | ((with_reducible apply Im.cndBF); · exact rfl) | ((with_reducible apply Im.cndNT); · assumption) | ((with_reducible apply Im.cndNF); · assumption) | ((with_reducible apply Im.cndBT); · assumption) | ((with_reducible apply Im.cndBF); · assumption) | ((with_reducible apply Im.bind); · exact op_Kc) | ((with_reducible apply Im.cond); · exact co_Kc) | ((with_reducible apply Im.runB); · exact op_Kc) | ((with_reducible apply Im.runC); · exact co_Kc) | ((with_reducible apply Im.runN); · (simp only [Nat.succ_eq_add_one, Nat.add_assoc, Nat.reduceAdd]; rfl)) | with_reducible apply Im.runR | ((with_reducible apply Im.runE (x := evBuildSlice _ _ _ _ _ _)); · exact sb_Kc)); (repeat (first | with_reducible apply Im.runS | ((with_reducible apply Im.num); · (simp only [Nat.succ_eq_add_one, Nat.add_assoc, Nat.reduceAdd]; rfl)) | (with_reducible apply Im.unm) | (with_reducible apply Im.selT) | (with_reducible apply Im.selF) | ((with_reducible apply Im.cndT); · assumption) | ((with_reducible apply Im.cndF); · assumption) | ((with_reducible apply Im.cndT); · decide) | ((with_reducible apply Im.cndF); · decide) | ((with_reducible apply Im.cndNT); · decide) | ((with_reducible apply Im.cndNF); · decide) | ((with_reducible apply Im.cndBT); · exact rfl) | ((with_reducible apply Im.cndBF); · exact rfl) | ((with_reducible apply Im.cndNT); · assumption) | ((with_reducible apply Im.cndNF); · assumption) | ((with_reducible apply Im.cndBT); · assumption) | ((with_reducible apply Im.cndBF); · assumption) | ((with_reducible apply Im.bind); · exact op_Kc) | ((with_reducible apply Im.cond); · exact co_Kc) | ((with_reducible apply Im.runB); · exact op_Kc) | ((with_reducible apply Im.runC); · exact co_Kc) | ((with_reducible apply Im.runN); · (simp only [Nat.succ_eq_add_one, Nat.add_assoc, Nat.reduceAdd]; rfl)) | with_reducible apply Im.runR | ((with_reducible apply Im.runE (x := evBuildSlice _ _ _ _ _ _)); · exact sb_Kc))); exact Go.Ev.Im.id) : p := h k
/-- Bounds, as the program keeps them. -/
structure Lb where
  f : Bd
instance : Rwc Lb := ⟨20, fun x => bdC x.f, fun _ => rfl, fun _ => rfl, by omega⟩
theorem enc_Lb (x : Lb) : Rwc.enc x = bdC x.f := rfl
def sameB (f g : Bd) : Bool := (List.range 10).all fun i => decide ((f i).1 = (g i).1) && decide ((f i).2 = (g i).2)
theorem sameB_iff {f g : Bd} : sameB f g = true ↔ bdC f = bdC g := by
  simp only [sameB, List.all_eq_true, List.mem_range, Bool.and_eq_true, decide_eq_true_eq]
  constructor
  · intro h
    have h' : ∀ i, i < 10 → f i = g i := fun i hi => Prod.ext (h i hi).1 (h i hi).2
    simp only [bdC, h' 0 (by decide), h' 1 (by decide), h' 2 (by decide), h' 3 (by decide), h' 4 (by decide), h' 5 (by decide), h' 6 (by decide), h' 7 (by decide), h' 8 (by decide), h' 9 (by decide)]
  · intro h i hi
    rw [bdC_at h i hi]
    exact ⟨rfl, rfl⟩
theorem seq_sp {d : Nat} (a c p q : Int) : still Pr (Op.equalIn (d + 2) 23 (.agg ⟨[iS a, iS c]⟩) (.agg ⟨[iS p, iS q]⟩)) = some (decide (a = p) && decide (c = q)) := by
  refine (still_struct (d := d + 1) (xs := [iS a, iS c]) (ys := [iS p, iS q]) (by rfl) (by kernel_rfl) [⟨⟨"Lo", 3, 0, false, "", "", 0⟩, .int .i64 a, .int .i64 p, decide (a = p)⟩,
    ⟨⟨"Hi", 3, 1, false, "", "", 8⟩, .int .i64 c, .int .i64 q, decide (c = q)⟩] (by rfl) ?_).trans (by simp only [List.all_cons, List.all_nil, Bool.and_true])
  intro z hz
  simp only [List.mem_cons, List.not_mem_nil, or_false] at hz
  rcases hz with rfl | rfl
  · refine ⟨by dsimp only; decide, rfl, rfl, ?_⟩
    exact still_int (by rfl)
  · refine ⟨by dsimp only; decide, rfl, rfl, ?_⟩
    exact still_int (by rfl)
theorem seq_bd (f g : Bd) : still Pr (Op.equalIn (9999 + 1) 152 (.agg ⟨bdC f⟩) (.agg ⟨bdC g⟩)) = some (sameB f g) := by
  have e := still_array (P := Pr) (T := 152) (el := 23) (n := 10) (w := 2) (d := 9999) (xs := bdC f) (ys := bdC g) (by rfl) (by rfl) (fun i => decide ((f i).1 = (g i).1) && decide ((f i).2 = (g i).2)) (fun i => .agg ⟨[iS (f i).1, iS (f i).2]⟩) (fun i => .agg ⟨[iS (g i).1, iS (g i).2]⟩)
    (ten (p := fun i => still Pr (part 23 ⟨bdC f⟩ (i * 2)) = some (.agg ⟨[iS (f i).1, iS (f i).2]⟩) ∧ still Pr (part 23 ⟨bdC g⟩ (i * 2)) = some (.agg ⟨[iS (g i).1, iS (g i).2]⟩) ∧ still Pr (Op.equalIn 9999 23 (.agg ⟨[iS (f i).1, iS (f i).2]⟩) (.agg ⟨[iS (g i).1, iS (g i).2]⟩)) = some (decide ((f i).1 = (g i).1) && decide ((f i).2 = (g i).2)))
      ⟨rfl, rfl, seq_sp _ _ _ _⟩ ⟨rfl, rfl, seq_sp _ _ _ _⟩ ⟨rfl, rfl, seq_sp _ _ _ _⟩ ⟨rfl, rfl, seq_sp _ _ _ _⟩ ⟨rfl, rfl, seq_sp _ _ _ _⟩ ⟨rfl, rfl, seq_sp _ _ _ _⟩ ⟨rfl, rfl, seq_sp _ _ _ _⟩ ⟨rfl, rfl, seq_sp _ _ _ _⟩ ⟨rfl, rfl, seq_sp _ _ _ _⟩ ⟨rfl, rfl, seq_sp _ _ _ _⟩)
  exact e
theorem eql_Bd (u v : Operand) (f g : Bd) : evBin Pr .eql 152 u v (.agg ⟨bdC f⟩) (.agg ⟨bdC g⟩) = some (.bool (sameB f g)) := eql_agg (by kernel_rfl) rfl rfl (seq_bd f g)
theorem c_idxB (call : CallF) {v : Value} {A : List Lb} {f : Bd} {h N} (hn : A.length < 1000) (hv : Sl h N v A) : Rn (s128 call v (.agg ⟨bdC f⟩) h N) fun u h' N' => (∃ z : Int, u = iS z ∧ (0 ≤ z ↔ A.any (fun x => sameB f x.f) = true)) ∧ Gw h N h' N' := by
  unfold s128
  have c1 := hv.flat
  have x1 := flatV_one c1
  have y1 := cel_flat c1
  try refine gs_Kc ?_
  refine Rn.loop4 (fun m a p q k g M => ∃ i : Nat, v = a ∧ p = .pointer (some ⟨N, 0, none⟩) ∧ q = nS A.length ∧ k = nS i ∧ i + m = A.length ∧ Fr h N g ∧ N + 1 ≤ M ∧ g.get N = some (.c (bdC f) 152) ∧ A.any (fun x => sameB f x.f) = (A.drop i).any (fun x => sameB f x.f)) A.length (by omega) ⟨0, rfl, rfl, rfl, rfl, by omega, fr_Kc, by omega, sR_Kc, rfl⟩ ?_
  rintro m g ih _ _ _ _ h2 N2 ⟨i, rfl, rfl, rfl, rfl, e2, f2, l2, g2, q2⟩
  try refine gs_Kc ?_
  (first | with_reducible refine Rn.cnd (fun _ => ?_) (fun _ => ?_) | with_reducible refine Rn.cndN (fun _ => ?_) (fun _ => ?_) | with_reducible refine Rn.cndB (fun _ => ?_) (fun _ => ?_))
  · obtain ⟨x, hx⟩ := at_of (L := A) (k := i) (by omega)
    have hi : i < A.length := by omega
    rw [drop_at hx] at q2
    simp only [List.any_cons] at q2
    cases hd : sameB f x.f with
    | true =>
      rw [hd, Bool.true_or] at q2
      clear ih
      try refine gs_Kc ?_
      exact Rn.ret ⟨⟨_, rfl, by rw [q2]; simp⟩, (Gw.of fr_Kc (by omega))⟩
    | false =>
      rw [hd, Bool.false_or] at q2
      try refine gs_Kc ?_
      exact ih (m - 1) (by omega) _ _ _ _ _ _ ⟨i + 1, rfl, rfl, rfl, rfl, by omega, fr_Kc, by omega, sS_Kc, q2⟩
  · rw [List.drop_eq_nil_of_le (by omega)] at q2
    try refine gs_Kc ?_
    exact Rn.ret ⟨⟨_, rfl, by rw [q2]; simp⟩, (Gw.of fr_Kc (by omega))⟩
theorem c_contB (call : CallF) {v : Value} {A : List Lb} {f : Bd} {h N} (hn : A.length < 1000) (hv : Sl h N v A) : Rn (s119 call v (.agg ⟨bdC f⟩) h N) fun u h' N' => u = .bool (A.any (fun x => sameB f x.f)) ∧ Gw h N h' N' := by
  unfold s119
  have c1 := hv.flat
  have x1 := flatV_one c1
  have y1 := cel_flat c1
  try refine gs_Kc ?_
  refine Rn.call (c_idxB call (A := A) (f := f) hn (Sl.up (by assumption) fr_Kc (by omega))) ?_
  rintro _ h2 N2 ⟨⟨z, rfl, hz⟩, f2, o2, l2⟩
  try refine gs_Kc ?_
  refine Rn.ret ⟨congrArg Value.bool ?_, (Gw.of fr_Kc (by omega))⟩
  rw [Bool.eq_iff_iff, ← hz]; simp
end Go.Proofs.Ytpilgokdbliklaa
end

section
namespace Go.Proofs.Ytpilgokdbliklaa
open Go.Ev Go.RowKit
set_option linter.unusedVariables false
set_option linter.unusedSimpArgs false
set_option linter.unusedSectionVars false
set_option maxRecDepth 100000
set_option maxHeartbeats 4000000
theorem s1_Kd {p : Prop} (h : p := by (simp (disch := omega) only [obind_s, orun_s, ocond_t, fad_p, ld1_e, ldN_e, sto_e, cellO_c, wrO_c, Tr.get_same, Tr.get_other, nth_0, nth_s, drp_0, drp_s, drp_n, tak_0, tak_s, tak_n, over_n, over_c, lay_0, lay_s, lay_n, len_n, len_c, app_n, app_c, reps_0, reps_s, cel_agg, cel_int, cel_bool, cel_str, cel_sl, cel_ptr, cel_map, cel_func, cel_nilf, fil_n, fil_c, beq_r, ble_d, allF_n, allF_c, one_int, one_bool, one_str, one_sl, one_ptr, one_map, one_func, one_nilf, Bool.and_true, Bool.true_and, Bool.not_true, Bool.not_false, iadA_z, Int.reduceToNat, Int.toNat_zero, fl1_a, flN_a, extr_t, unot, not_d, Nat.add_eq, Nat.mul_eq, Nat.mul_one, Nat.one_mul, Nat.zero_mul, Nat.reduceMul, Nat.zero_add, Nat.add_zero, Nat.le_refl, decide_true, Nat.reduceAdd, Nat.reduceLeDiff, bsl_Sspring_bounds, enc_Lb, bsl_Sint, bld_Span, bld_spring_work, bld_spring_asked, enc_Line, enc_Reading, ocond_d, Int.toNat_natCast, bd_drp0, bd_drp1, bd_lay, bd_len, bd_self, bd_tak, bd_over, qc_drp0, qc_drp1, setSt_e, stO_n, stO_s, isReady_r, anySt_t, unmark_e, unO_d, *]); first | done | fail) : p := h
theorem s2_Kd {p : Prop} (h : p := by (simp (disch := omega) only [obind_s, orun_s, ocond_t, fad_p, ld1_e, ldN_e, sto_e, cellO_c, wrO_c, Tr.get_same, Tr.get_other, nth_0, nth_s, drp_0, drp_s, drp_n, tak_0, tak_s, tak_n, over_n, over_c, lay_0, lay_s, lay_n, len_n, len_c, app_n, app_c, reps_0, reps_s, cel_agg, cel_int, cel_bool, cel_str, cel_sl, cel_ptr, cel_map, cel_func, cel_nilf, fil_n, fil_c, beq_r, ble_d, allF_n, allF_c, one_int, one_bool, one_str, one_sl, one_ptr, one_map, one_func, one_nilf, Bool.and_true, Bool.true_and, Bool.not_true, Bool.not_false, iadA_z, Int.reduceToNat, Int.toNat_zero, fl1_a, flN_a, extr_t, unot, not_d, Nat.add_eq, Nat.mul_eq, Nat.mul_one, Nat.one_mul, Nat.zero_mul, Nat.reduceMul, Nat.zero_add, Nat.add_zero, Nat.le_refl, decide_true, Nat.reduceAdd, Nat.reduceLeDiff, bsl_Sspring_bounds, enc_Lb, bsl_Sint, bld_Span, bld_spring_work, bld_spring_asked, enc_Line, enc_Reading, ocond_d, Int.toNat_natCast, bd_drp0, bd_drp1, bd_lay, bd_len, bd_self, bd_tak, bd_over, qc_drp0, qc_drp1, setSt_e, stO_n, stO_s, isReady_r, anySt_t, unmark_e, unO_d, *]); rfl) : p := h
theorem sb_Kd {p : Prop} (h : p := by first | ((simp (disch := omega) only [obind_s, orun_s, ocond_t, fad_p, ld1_e, ldN_e, sto_e, cellO_c, wrO_c, Tr.get_same, Tr.get_other, nth_0, nth_s, drp_0, drp_s, drp_n, tak_0, tak_s, tak_n, over_n, over_c, lay_0, lay_s, lay_n, len_n, len_c, app_n, app_c, reps_0, reps_s, cel_agg, cel_int, cel_bool, cel_str, cel_sl, cel_ptr, cel_map, cel_func, cel_nilf, fil_n, fil_c, beq_r, ble_d, allF_n, allF_c, one_int, one_bool, one_str, one_sl, one_ptr, one_map, one_func, one_nilf, Bool.and_true, Bool.true_and, Bool.not_true, Bool.not_false, iadA_z, Int.reduceToNat, Int.toNat_zero, fl1_a, flN_a, extr_t, unot, not_d, Nat.add_eq, Nat.mul_eq, Nat.mul_one, Nat.one_mul, Nat.zero_mul, Nat.reduceMul, Nat.zero_add, Nat.add_zero, Nat.le_refl, decide_true, Nat.reduceAdd, Nat.reduceLeDiff, bsl_Sspring_bounds, enc_Lb, bsl_Sint, bld_Span, bld_spring_work, bld_spring_asked, enc_Line, enc_Reading, ocond_d, Int.toNat_natCast, bd_drp0, bd_drp1, bd_lay, bd_len, bd_self, bd_tak, bd_over, qc_drp0, qc_drp1, setSt_e, stO_n, stO_s, isReady_r, anySt_t, unmark_e, unO_d, Nat.succ_eq_add_one, Nat.add_assoc, *]); rfl) | ((simp (disch := omega) only [obind_s, orun_s, ocond_t, fad_p, ld1_e, ldN_e, sto_e, cellO_c, wrO_c, Tr.get_same, Tr.get_other, nth_0, nth_s, drp_0, drp_s, drp_n, tak_0, tak_s, tak_n, over_n, over_c, lay_0, lay_s, lay_n, len_n, len_c, app_n, app_c, reps_0, reps_s, cel_agg, cel_int, cel_bool, cel_str, cel_sl, cel_ptr, cel_map, cel_func, cel_nilf, fil_n, fil_c, beq_r, ble_d, allF_n, allF_c, one_int, one_bool, one_str, one_sl, one_ptr, one_map, one_func, one_nilf, Bool.and_true, Bool.true_and, Bool.not_true, Bool.not_false, iadA_z, Int.reduceToNat, Int.toNat_zero, fl1_a, flN_a, extr_t, unot, not_d, Nat.add_eq, Nat.mul_eq, Nat.mul_one, Nat.one_mul, Nat.zero_mul, Nat.reduceMul, Nat.zero_add, Nat.add_zero, Nat.le_refl, decide_true, Nat.reduceAdd, Nat.reduceLeDiff, bsl_Sspring_bounds, enc_Lb, bsl_Sint, bld_Span, bld_spring_work, bld_spring_asked, enc_Line, enc_Reading, ocond_d, Int.toNat_natCast, bd_drp0, bd_drp1, bd_lay, bd_len, bd_self, bd_tak, bd_over, qc_drp0, qc_drp1, setSt_e, stO_n, stO_s, isReady_r, anySt_t, unmark_e, unO_d, Nat.succ_eq_add_one, Nat.add_assoc, *]); done)) : p := h
theorem fr_Kd {p : Prop} (h : p := by first | assumption | exact Fr.refl _ _ | (simp (disch := omega) only [Fr_set, Fr_refl, *])) : p := h
theorem fl_Kd {p : Prop} (h : p := by first | with_unfolding_all rfl | exact Sl.flat (by assumption) | assumption) : p := h
theorem fll_Kd {p : Prop} (h : p := by first | with_unfolding_all rfl | ((repeat (refine flatL_k fl_Kd ?_)); with_unfolding_all rfl)) : p := h
theorem en_Kd {p : Prop} (h : p := by first | ((simp only [enc_int, enc_str, enc_u8, enc_bool, tak_s, tak_0, tak_n, drp_0, drp_s, drp_n, nth_s, nth_0, bsl_Sspring_bounds, enc_Lb, bsl_Sint, bld_Span, bld_spring_work, bld_spring_asked, enc_Line, enc_Reading, ocond_d, Int.toNat_natCast, bd_drp0, bd_drp1, bd_lay, bd_len, bd_self, bd_tak, bd_over, qc_drp0, qc_drp1, setSt_e, stO_n, stO_s, isReady_r, anySt_t, unmark_e, unO_d]); rfl) | ((simp only [enc_int, enc_str, enc_u8, enc_bool, tak_s, tak_0, tak_n, drp_0, drp_s, drp_n, nth_s, nth_0, bsl_Sspring_bounds, enc_Lb, bsl_Sint, bld_Span, bld_spring_work, bld_spring_asked, enc_Line, enc_Reading, ocond_d, Int.toNat_natCast, bd_drp0, bd_drp1, bd_lay, bd_len, bd_self, bd_tak, bd_over, qc_drp0, qc_drp1, setSt_e, stO_n, stO_s, isReady_r, anySt_t, unmark_e, unO_d]); done) | with_unfolding_all rfl) : p := h
theorem sM_Kd {p : Prop} (h : p := by (first | assumption | (simp (disch := omega) only [Tr.get_same, Tr.get_other, *]; rfl) | (simp (disch := omega) only [Tr.get_same, Tr.get_other, *]; done))) : p := h
theorem sS_Kd {p : Prop} (h : p := by first | assumption | exact s1_Kd) : p := h
theorem sR_Kd {p : Prop} (h : p := by first | assumption | exact s1_Kd | exact s2_Kd | with_unfolding_all rfl) : p := h
theorem op_Kd {p : Prop} (h : p := by first | with_reducible exact fad_p _ _ _ | with_reducible exact iop_lss _ _ | with_reducible exact iop_leq _ _ | with_reducible exact iop_gtr _ _ | with_reducible exact iop_geq _ _ | with_reducible exact iop_eql _ _ | with_reducible exact iop_neq _ _ | with_reducible exact Sl.len (by assumption) | with_reducible exact lenS_s _ _ _ | with_reducible exact Sl.iad (by assumption) (by with_unfolding_all rfl) (by first | assumption | omega) | with_reducible exact Sl.fad (by assumption) (by first | assumption | omega) | with_reducible exact Sl.ld1 (by assumption) fr_Kd (by with_unfolding_all rfl) (by assumption) en_Kd | with_reducible exact Sl.ldN (by assumption) fr_Kd (by with_unfolding_all rfl) (by assumption) (by with_unfolding_all rfl) en_Kd | with_reducible exact zadd1 (by omega) | with_reducible exact zsub1 (by omega) (by omega) | with_reducible exact zaddI (by omega) (by omega) | with_reducible exact zsubI (by omega) (by omega) | with_reducible exact min_z | with_reducible exact max_z | with_reducible exact zmulI (by assumption) | with_reducible exact zmulK (by omega) (by omega) | with_reducible exact quo_z (by omega) (by omega) (by omega) | with_reducible exact cv_u8 (by omega) | with_reducible exact rem_z (by omega) (by omega) (by omega) | with_reducible exact neq_bool (by kernel_rfl) | with_reducible exact eql_u8 | with_reducible exact wntT_t (by assumption) | with_reducible exact wntT_f (by assumption) | with_reducible exact wntF_t (by assumption) | with_reducible exact wntF_f (by assumption) | with_reducible exact wnt_tt | with_reducible exact wnt_tf | with_reducible exact wnt_ft | with_reducible exact wnt_ff | with_reducible exact wnt_u _ _ | with_reducible exact pck_t _ _ | with_reducible exact pck_f _ _ | with_reducible exact pckT (by assumption) | with_reducible exact pckF (by assumption) | with_reducible exact wntT_t (by decide) | with_reducible exact wntT_f (by decide) | with_reducible exact wntF_t (by decide) | with_reducible exact wntF_f (by decide) | with_reducible exact pckT (by decide) | with_reducible exact pckF (by decide) | with_reducible exact wntN_tt (by decide) | with_reducible exact wntN_tf (by decide) | with_reducible exact wntN_ft (by decide) | with_reducible exact wntN_ff (by decide) | with_reducible exact pckNT (by decide) | with_reducible exact pckNF (by decide) | with_reducible exact wntN_tt (by assumption) | with_reducible exact wntN_tf (by assumption) | with_reducible exact wntN_ft (by assumption) | with_reducible exact wntN_ff (by assumption) | with_reducible exact pckNT (by assumption) | with_reducible exact pckNF (by assumption) | with_reducible exact wntB_tt (by assumption) | with_reducible exact wntB_tf (by assumption) | with_reducible exact wntB_ft (by assumption) | with_reducible exact wntB_ff (by assumption) | with_reducible exact pckBT (by assumption) | with_reducible exact pckBF (by assumption) | exact s2_Kd | exact s1_Kd) : p := h
theorem co_Kd {p : Prop} (h : p := by first | (simp only [impB_1, impB_0, offB_1, offB_0]; done) | ((try simp only [impB_1, impB_0, offB_1, offB_0]); first | with_reducible exact Sl.ag1 (by assumption) fr_Kd (by with_unfolding_all rfl) (by assumption) en_Kd | with_reducible exact Sl.agN (by assumption) fr_Kd (by with_unfolding_all rfl) (by assumption) (by with_unfolding_all rfl) en_Kd | ((with_reducible refine agL1_e ?_ ?_); (· exact s1_Kd); (· exact fl_Kd)) | ((with_reducible refine agLN_e ?_ ?_); (· exact s1_Kd); (· exact fll_Kd)) | ((with_reducible apply ag_bs); (· exact sM_Kd); (· rfl); (· exact sb_Kd); (· exact fll_Kd)) | ((with_reducible apply ag_al); (· exact sM_Kd); (· rfl); (· exact fll_Kd)) | ((with_reducible apply ag_bx); (· exact sM_Kd); (· rfl); (· rfl); (· exact fll_Kd)) | ((with_reducible apply ag_bd); (· rfl); (· exact s1_Kd); (· exact fll_Kd)) | exact s1_Kd)) : p := h
theorem gs_Kd {r p : Prop} (k : r) (h : Go.Ev.Im r p := by (first | with_reducible apply Im.runS | ((with_reducible apply Im.num); · (simp only [Nat.succ_eq_add_one, Nat.add_assoc, Nat.reduceAdd]; rfl)) | (with_reducible apply Im.unm) | (with_reducible apply Im.selT) | (with_reducible apply Im.selF) | ((with_reducible apply Im.cndT); · assumption) | ((with_reducible apply Im.cndF); · assumption) | ((with_reducible apply Im.cndT); · decide) | ((with_reducible apply Im.cndF); · decide) | ((with_reducible apply Im.cndNT); · decide) | ((with_reducible apply Im.cndNF); · decide) | ((with_reducible apply Im.cndBT); · exact rfl) | ((with_reducible apply Im.cndBF); · exact rfl) | ((with_reducible apply Im.cndNT); · assumption) | ((with_reducible apply Im.cndNF); · assumption) | ((with_reducible apply Im.cndBT); · assumption) | ((with_reducible apply Im.cndBF); · assumption) | ((with_reducible apply Im.bind); · exact op_Kd) | ((with_reducible apply Im.cond); · exact co_Kd) | ((with_reducible apply Im.runB); · exact op_Kd) | ((with_reducible apply Im.runC); · exact co_Kd) | ((with_reducible apply Im.runN); · (simp only [Nat.succ_eq_add_one, Nat.add_assoc, Nat.reduceAdd]; rfl)) | with_reducible apply Im.runR | ((with_reducible apply Im.runE (x := evBuildSlice _ _ _ _ _ _)); · exact sb_Kd)); (repeat (first | with_reducible apply Im.runS | ((with_reducible apply Im.num); · (simp only [Nat.succ_eq_add_one, Nat.add_assoc, Nat.reduceAdd]; rfl)) | (with_reducible apply Im.unm) | (with_reducible apply Im.selT) | (with_reducible apply Im.selF) | ((with_reducible apply Im.cndT); · assumption) | ((with_reducible apply Im.cndF); · assumption) | ((with_reducible apply Im.cndT); · decide) | ((with_reducible apply Im.cndF); · decide) | ((with_reducible apply Im.cndNT); · decide) | ((with_reducible apply Im.cndNF); · decide) | ((with_reducible apply Im.cndBT); · exact rfl) | ((with_reducible apply Im.cndBF); · exact rfl) | ((with_reducible apply Im.cndNT); · assumption) | ((with_reducible apply Im.cndNF); · assumption) | ((with_reducible apply Im.cndBT); · assumption) | ((with_reducible apply Im.cndBF); · assumption) | ((with_reducible apply Im.bind); · exact op_Kd) | ((with_reducible apply Im.cond); · exact co_Kd) | ((with_reducible apply Im.runB); · exact op_Kd) | ((with_reducible apply Im.runC); · exact co_Kd) | ((with_reducible apply Im.runN); · (simp only [Nat.succ_eq_add_one, Nat.add_assoc, Nat.reduceAdd]; rfl)) | with_reducible apply Im.runR | ((with_reducible apply Im.runE (x := evBuildSlice _ _ _ _ _ _)); · exact sb_Kd))); exact Go.Ev.Im.id) : p := h k
/-- So many rains' bounds are told. -/
def AbP (s : Sp) (L : List Lb) (k : Nat) : Prop := L.length ≤ k ∧ (∀ x ∈ L, ∃ r ∈ rainsS s, x.f = leavesS s r) ∧ ∀ j, j < k → ∀ r, (rainsS s)[j]? = some r → ∃ x ∈ L, bdC x.f = bdC (leavesS s r)
theorem AbP.all {s : Sp} {L : List Lb} (h : AbP s L (rainsS s).length) : AllB s (L.map (·.f)) := by
  obtain ⟨_, h2, h3⟩ := h
  constructor
  · intro f hf
    obtain ⟨x, hx, rfl⟩ := List.mem_map.1 hf
    exact h2 x hx
  · intro r hr
    obtain ⟨j, hj⟩ := List.getElem?_of_mem hr
    obtain ⟨x, hx, e⟩ := h3 j (lt_of_at hj) r hj
    exact ⟨x.f, List.mem_map.2 ⟨x, hx, rfl⟩, e⟩
section
variable {s : Sp} {b r : Value}
theorem c_allBounds (d : Nat) {h N} (hs : OkS s) (hb : Sl h N b s.book) (hr : Sl h N r s.reads) :
    Rn (s96 (cN (d + 2)) (.agg ⟨[iS s.weeks, iS s.most, iS s.fall, iS s.slo, iS s.shi, iS s.wlo, iS s.whi, b, r]⟩) h N) fun v h' N' => (∃ A : List Lb, Sl h' N' v A ∧ AbP s A (rainsS s).length) ∧ Gw h N h' N' := by
  unfold s96 s78
  have cb := hb.flat; have cr := hr.flat; have x1 := flatV_one cb; have y1 := cel_flat cb; have x2 := flatV_one cr; have y2 := cel_flat cr
  have hrl := rains_len hs
  try refine gs_Kd ?_
  unfold jnR
  refine Rn.cond rfl ?_
  try refine gs_Kd ?_
  rw [dyn_rains _ _ rfl]
  refine Rn.call (c_rains1 (s := s) (b := b) (r := r) (d + 1) hs
    (fun k g M => Fr h N g ∧ N + 5 ≤ M ∧ g.get (N + 2) = some (.c [iS s.weeks, iS s.most, iS s.fall, iS s.slo, iS s.shi, iS s.wlo, iS s.whi, b, r] 106) ∧ g.get (N + 3) = some .d ∧ g.get (N + 4) = some (.l .ready .n 19 (Tr.set (.e 32) (some (.pointer (some ⟨N + 1, 0, none⟩))) 3) [8, 9] (rgA Pr 96 0) (rgB Pr 96 0) (N + 3)) ∧ ∃ v L, g.get (N + 1) = some (.c [v] 154) ∧ OwZ g M 152 v L (fun i => N + 5 ≤ i) ∧ AbP s L k)
    (fun g M => False)
    ?_ (by omega) ?_ ?_ ?_) ?_
  · rintro k g M ⟨f2, l2, g1, g2, g3, v, L, g4, g5, g6⟩
    exact ⟨hb.up f2 (by omega), hr.up f2 (by omega), g1⟩
  · rintro k g M g' M' ⟨f2, l2, g1, g2, g3, v, L, g4, g5, g6⟩ f3 l3
    exact ⟨f2.trans f3 (by omega), by omega, by rw [f3 _ (by omega), g1], by rw [f3 _ (by omega), g2], by rw [f3 _ (by omega), g3], v, L, by rw [f3 _ (by omega), g4], g5.keep l3 (fun i _ hi => f3 i hi), g6⟩
  · rintro k x hx g M ⟨f2, l2, g1, g2, g3, v, L, g4, g5, ⟨g6, g7, g8⟩⟩ l3
    have hk := lt_of_at hx
    have cv := g5.sl.flat
    have z1 := flatV_one cv
    have z2 := cel_flat cv
    rw [show cN (d + 1) = cAll Pr (lookS dynT) rdS (d + 1) from rfl, yld g3 rd_allBounds rfl rfl]
    unfold r96_0
    simp only [putAll_c, putAll_n]
    generalize hF : leavesS s x = F
    try refine gs_Kd ?_
    refine Rn.call (c_contB _ (A := L) (f := F) (by omega) (g5.keep (M' := M + 1) (by omega) fun i p hi => sS_Kd).sl) ?_
    rintro _ h3 N3 ⟨rfl, f3, o3, l4⟩
    have old : ∀ j, j < M → j ≠ N + 4 → h3.get j = g.get j := fun j hj hn => sS_Kd
    have st : h3.get (N + 4) = some (.l .busy .n 19 (Tr.set (.e 32) (some (.pointer (some ⟨N + 1, 0, none⟩))) 3) [8, 9] (rgA Pr 96 0) (rgB Pr 96 0) (N + 3)) := sR_Kd
    have bl : h3.get M = some (.c (bdC F) 152) := sR_Kd
    have p1 := (old (N + 1) (by omega) (by omega)).trans g4
    have p2 := (old (N + 2) (by omega) (by omega)).trans g1
    have p3 := (old (N + 3) (by omega) (by omega)).trans g2
    unfold jnR
    cases hq : L.any (fun y => sameB F y.f) with
    | true =>
      obtain ⟨y, hy, e⟩ := List.any_eq_true.1 hq
      try refine gs_Kd ?_
      refine Rn.ret ⟨by omega, .inl ⟨rfl, fun j hj => (show _ = h3.get j from sS_Kd).trans ((old j (by omega) (by omega)).trans (f2 j hj)), by omega, sS_Kd, sS_Kd, sR_Kd, v, L, sS_Kd, ?_, by omega, g7, fun j hj r' hr' => ?_⟩⟩
      · exact g5.keep (by omega) fun i p hi => (show _ = h3.get i from sS_Kd).trans (old i hi (by omega))
      · rcases Nat.lt_or_ge j k with h | h
        · exact g8 j h r' hr'
        · obtain rfl : j = k := by omega
          rw [hx] at hr'
          cases hr'
          exact ⟨y, hy, by rw [hF]; exact (sameB_iff.1 e).symm⟩
    | false =>
      have g9 : ∃ i, N + 5 ≤ i ∧ i < N3 + 1 ∧ (i < M ∨ i = N3) ∧ ∀ h' : Tr Ob, (∀ j, N + 5 ≤ j → j < M → h'.get j = g.get j) → Ow h' 152 v L i := by
        rcases g5 with ⟨rfl, e⟩ | ⟨i, p, hi, o⟩
        · rw [e]; exact ⟨N3, by omega, by omega, .inr rfl, fun h' _ => Ow.nil _ _ _⟩
        · exact ⟨i, p, by omega, .inl hi, fun h' hk => o.keep (hk i p hi)⟩
      obtain ⟨i, i1, i2, i3, o⟩ := g9
      clear g5
      try refine gs_Kd ?_
      refine Rn.call (Ow.app (α := Lb) (K := [⟨F⟩]) (i := i) ap_Sspring_bounds (o _ (fun j j1 j2 => (show _ = h3.get j from sS_Kd).trans (old j j2 (by omega)))) (by omega) (Sl.lit [(⟨F⟩ : Lb)] sM_Kd (by omega : N3 < N3 + 1) rfl rfl) (Fr.refl _ _) (by simp; omega)) ?_
      rintro r1 h4 N4 ⟨i4, w4, e4, e4', f4, o4, l5⟩
      have cv2 := (w4.sl e4').flat
      have z3 := flatV_one cv2
      have z4 := cel_flat cv2
      try refine gs_Kd ?_
      refine Rn.ret ⟨by omega, .inl ⟨rfl, fun j hj => (show _ = h3.get j from sS_Kd).trans ((old j (by omega) (by omega)).trans (f2 j hj)), by omega, (show _ = h3.get (N + 2) from sS_Kd).trans p2, (show _ = h3.get (N + 3) from sS_Kd).trans p3, sR_Kd, r1, L ++ [⟨F⟩], sS_Kd, .inr ⟨i4, by omega, e4', w4.keep sS_Kd⟩, by simp; omega, fun y hy => ?_, fun j hj r' hr' => ?_⟩⟩
      · rcases List.mem_append.1 hy with h | h
        · exact g7 y h
        · rw [List.mem_singleton] at h
          subst h
          exact ⟨x, List.mem_of_getElem? hx, hF.symm⟩
      · rcases Nat.lt_or_ge j k with h | h
        · obtain ⟨y, hy, e⟩ := g8 j h r' hr'
          exact ⟨y, List.mem_append.2 (.inl hy), e⟩
        · obtain rfl : j = k := by omega
          rw [hx] at hr'
          cases hr'
          exact ⟨⟨F⟩, by simp, by rw [hF]⟩
  · exact ⟨fr_Kd, by omega, sS_Kd, sS_Kd, sR_Kd, .slice none 0 0, [], sS_Kd, .inl ⟨rfl, rfl⟩, Nat.le_refl _, ⟨fun x hx => (nomatch hx), fun j hj => absurd hj (by omega)⟩⟩
  · rintro v g M ⟨l2, ⟨f2, l3, g1, g2, g3, v', L, g4, g5, g6⟩ | h0⟩
    · refine Rn.eq (rEnd_n g3) ?_
      have g7 := g5.sl
      try refine gs_Kd ?_
      exact Rn.ret ⟨⟨L, (g5.keep (Nat.le_refl _) (fun i p hi => sS_Kd)).sl, g6⟩, (Gw.of fr_Kd (by omega))⟩
    · exact h0.elim
end
end Go.Proofs.Ytpilgokdbliklaa
end

section
namespace Go.Proofs.Ytpilgokdbliklaa
open Go.Ev Go.RowKit
set_option linter.unusedVariables false
set_option linter.unusedSimpArgs false
set_option linter.unusedSectionVars false
set_option maxRecDepth 100000
set_option maxHeartbeats 4000000
theorem s1_Ke {p : Prop} (h : p := by (simp (disch := omega) only [obind_s, orun_s, ocond_t, fad_p, ld1_e, ldN_e, sto_e, cellO_c, wrO_c, Tr.get_same, Tr.get_other, nth_0, nth_s, drp_0, drp_s, drp_n, tak_0, tak_s, tak_n, over_n, over_c, lay_0, lay_s, lay_n, len_n, len_c, app_n, app_c, reps_0, reps_s, cel_agg, cel_int, cel_bool, cel_str, cel_sl, cel_ptr, cel_map, cel_func, cel_nilf, fil_n, fil_c, beq_r, ble_d, allF_n, allF_c, one_int, one_bool, one_str, one_sl, one_ptr, one_map, one_func, one_nilf, Bool.and_true, Bool.true_and, Bool.not_true, Bool.not_false, iadA_z, Int.reduceToNat, Int.toNat_zero, fl1_a, flN_a, extr_t, unot, not_d, Nat.add_eq, Nat.mul_eq, Nat.mul_one, Nat.one_mul, Nat.zero_mul, Nat.reduceMul, Nat.zero_add, Nat.add_zero, Nat.le_refl, decide_true, Nat.reduceAdd, Nat.reduceLeDiff, bsl_Sspring_bounds, enc_Lb, bsl_Sint, bld_Span, bld_spring_work, bld_spring_asked, enc_Line, enc_Reading, ocond_d, Int.toNat_natCast, bd_drp0, bd_drp1, bd_lay, bd_len, bd_self, bd_tak, bd_over, *]); first | done | fail) : p := h
theorem s2_Ke {p : Prop} (h : p := by (simp (disch := omega) only [obind_s, orun_s, ocond_t, fad_p, ld1_e, ldN_e, sto_e, cellO_c, wrO_c, Tr.get_same, Tr.get_other, nth_0, nth_s, drp_0, drp_s, drp_n, tak_0, tak_s, tak_n, over_n, over_c, lay_0, lay_s, lay_n, len_n, len_c, app_n, app_c, reps_0, reps_s, cel_agg, cel_int, cel_bool, cel_str, cel_sl, cel_ptr, cel_map, cel_func, cel_nilf, fil_n, fil_c, beq_r, ble_d, allF_n, allF_c, one_int, one_bool, one_str, one_sl, one_ptr, one_map, one_func, one_nilf, Bool.and_true, Bool.true_and, Bool.not_true, Bool.not_false, iadA_z, Int.reduceToNat, Int.toNat_zero, fl1_a, flN_a, extr_t, unot, not_d, Nat.add_eq, Nat.mul_eq, Nat.mul_one, Nat.one_mul, Nat.zero_mul, Nat.reduceMul, Nat.zero_add, Nat.add_zero, Nat.le_refl, decide_true, Nat.reduceAdd, Nat.reduceLeDiff, bsl_Sspring_bounds, enc_Lb, bsl_Sint, bld_Span, bld_spring_work, bld_spring_asked, enc_Line, enc_Reading, ocond_d, Int.toNat_natCast, bd_drp0, bd_drp1, bd_lay, bd_len, bd_self, bd_tak, bd_over, *]); rfl) : p := h
theorem sb_Ke {p : Prop} (h : p := by first | ((simp (disch := omega) only [obind_s, orun_s, ocond_t, fad_p, ld1_e, ldN_e, sto_e, cellO_c, wrO_c, Tr.get_same, Tr.get_other, nth_0, nth_s, drp_0, drp_s, drp_n, tak_0, tak_s, tak_n, over_n, over_c, lay_0, lay_s, lay_n, len_n, len_c, app_n, app_c, reps_0, reps_s, cel_agg, cel_int, cel_bool, cel_str, cel_sl, cel_ptr, cel_map, cel_func, cel_nilf, fil_n, fil_c, beq_r, ble_d, allF_n, allF_c, one_int, one_bool, one_str, one_sl, one_ptr, one_map, one_func, one_nilf, Bool.and_true, Bool.true_and, Bool.not_true, Bool.not_false, iadA_z, Int.reduceToNat, Int.toNat_zero, fl1_a, flN_a, extr_t, unot, not_d, Nat.add_eq, Nat.mul_eq, Nat.mul_one, Nat.one_mul, Nat.zero_mul, Nat.reduceMul, Nat.zero_add, Nat.add_zero, Nat.le_refl, decide_true, Nat.reduceAdd, Nat.reduceLeDiff, bsl_Sspring_bounds, enc_Lb, bsl_Sint, bld_Span, bld_spring_work, bld_spring_asked, enc_Line, enc_Reading, ocond_d, Int.toNat_natCast, bd_drp0, bd_drp1, bd_lay, bd_len, bd_self, bd_tak, bd_over, Nat.succ_eq_add_one, Nat.add_assoc, *]); rfl) | ((simp (disch := omega) only [obind_s, orun_s, ocond_t, fad_p, ld1_e, ldN_e, sto_e, cellO_c, wrO_c, Tr.get_same, Tr.get_other, nth_0, nth_s, drp_0, drp_s, drp_n, tak_0, tak_s, tak_n, over_n, over_c, lay_0, lay_s, lay_n, len_n, len_c, app_n, app_c, reps_0, reps_s, cel_agg, cel_int, cel_bool, cel_str, cel_sl, cel_ptr, cel_map, cel_func, cel_nilf, fil_n, fil_c, beq_r, ble_d, allF_n, allF_c, one_int, one_bool, one_str, one_sl, one_ptr, one_map, one_func, one_nilf, Bool.and_true, Bool.true_and, Bool.not_true, Bool.not_false, iadA_z, Int.reduceToNat, Int.toNat_zero, fl1_a, flN_a, extr_t, unot, not_d, Nat.add_eq, Nat.mul_eq, Nat.mul_one, Nat.one_mul, Nat.zero_mul, Nat.reduceMul, Nat.zero_add, Nat.add_zero, Nat.le_refl, decide_true, Nat.reduceAdd, Nat.reduceLeDiff, bsl_Sspring_bounds, enc_Lb, bsl_Sint, bld_Span, bld_spring_work, bld_spring_asked, enc_Line, enc_Reading, ocond_d, Int.toNat_natCast, bd_drp0, bd_drp1, bd_lay, bd_len, bd_self, bd_tak, bd_over, Nat.succ_eq_add_one, Nat.add_assoc, *]); done)) : p := h
theorem fr_Ke {p : Prop} (h : p := by first | assumption | exact Fr.refl _ _ | (simp (disch := omega) only [Fr_set, Fr_refl, *])) : p := h
theorem fl_Ke {p : Prop} (h : p := by first | with_unfolding_all rfl | exact Sl.flat (by assumption) | assumption) : p := h
theorem fll_Ke {p : Prop} (h : p := by first | with_unfolding_all rfl | ((repeat (refine flatL_k fl_Ke ?_)); with_unfolding_all rfl)) : p := h
theorem en_Ke {p : Prop} (h : p := by first | ((simp only [enc_int, enc_str, enc_u8, enc_bool, tak_s, tak_0, tak_n, drp_0, drp_s, drp_n, nth_s, nth_0, bsl_Sspring_bounds, enc_Lb, bsl_Sint, bld_Span, bld_spring_work, bld_spring_asked, enc_Line, enc_Reading, ocond_d, Int.toNat_natCast, bd_drp0, bd_drp1, bd_lay, bd_len, bd_self, bd_tak, bd_over]); rfl) | ((simp only [enc_int, enc_str, enc_u8, enc_bool, tak_s, tak_0, tak_n, drp_0, drp_s, drp_n, nth_s, nth_0, bsl_Sspring_bounds, enc_Lb, bsl_Sint, bld_Span, bld_spring_work, bld_spring_asked, enc_Line, enc_Reading, ocond_d, Int.toNat_natCast, bd_drp0, bd_drp1, bd_lay, bd_len, bd_self, bd_tak, bd_over]); done) | with_unfolding_all rfl) : p := h
theorem sM_Ke {p : Prop} (h : p := by (first | assumption | (simp (disch := omega) only [Tr.get_same, Tr.get_other, *]; rfl) | (simp (disch := omega) only [Tr.get_same, Tr.get_other, *]; done))) : p := h
theorem sS_Ke {p : Prop} (h : p := by first | assumption | exact s1_Ke) : p := h
theorem sR_Ke {p : Prop} (h : p := by first | assumption | exact s1_Ke | exact s2_Ke | with_unfolding_all rfl) : p := h
theorem op_Ke {p : Prop} (h : p := by first | with_reducible exact fad_p _ _ _ | with_reducible exact iop_lss _ _ | with_reducible exact iop_leq _ _ | with_reducible exact iop_gtr _ _ | with_reducible exact iop_geq _ _ | with_reducible exact iop_eql _ _ | with_reducible exact iop_neq _ _ | with_reducible exact Sl.len (by assumption) | with_reducible exact lenS_s _ _ _ | with_reducible exact Sl.iad (by assumption) (by with_unfolding_all rfl) (by first | assumption | omega) | with_reducible exact Sl.fad (by assumption) (by first | assumption | omega) | with_reducible exact Sl.ld1 (by assumption) fr_Ke (by with_unfolding_all rfl) (by assumption) en_Ke | with_reducible exact Sl.ldN (by assumption) fr_Ke (by with_unfolding_all rfl) (by assumption) (by with_unfolding_all rfl) en_Ke | with_reducible exact zadd1 (by omega) | with_reducible exact zsub1 (by omega) (by omega) | with_reducible exact zaddI (by omega) (by omega) | with_reducible exact zsubI (by omega) (by omega) | with_reducible exact min_z | with_reducible exact max_z | with_reducible exact zmulI (by assumption) | with_reducible exact zmulK (by omega) (by omega) | with_reducible exact quo_z (by omega) (by omega) (by omega) | with_reducible exact cv_u8 (by omega) | with_reducible exact rem_z (by omega) (by omega) (by omega) | with_reducible exact neq_bool (by kernel_rfl) | with_reducible exact eql_u8 | with_reducible exact wntT_t (by assumption) | with_reducible exact wntT_f (by assumption) | with_reducible exact wntF_t (by assumption) | with_reducible exact wntF_f (by assumption) | with_reducible exact wnt_tt | with_reducible exact wnt_tf | with_reducible exact wnt_ft | with_reducible exact wnt_ff | with_reducible exact wnt_u _ _ | with_reducible exact pck_t _ _ | with_reducible exact pck_f _ _ | with_reducible exact pckT (by assumption) | with_reducible exact pckF (by assumption) | with_reducible exact wntT_t (by decide) | with_reducible exact wntT_f (by decide) | with_reducible exact wntF_t (by decide) | with_reducible exact wntF_f (by decide) | with_reducible exact pckT (by decide) | with_reducible exact pckF (by decide) | with_reducible exact wntN_tt (by decide) | with_reducible exact wntN_tf (by decide) | with_reducible exact wntN_ft (by decide) | with_reducible exact wntN_ff (by decide) | with_reducible exact pckNT (by decide) | with_reducible exact pckNF (by decide) | with_reducible exact wntN_tt (by assumption) | with_reducible exact wntN_tf (by assumption) | with_reducible exact wntN_ft (by assumption) | with_reducible exact wntN_ff (by assumption) | with_reducible exact pckNT (by assumption) | with_reducible exact pckNF (by assumption) | with_reducible exact wntB_tt (by assumption) | with_reducible exact wntB_tf (by assumption) | with_reducible exact wntB_ft (by assumption) | with_reducible exact wntB_ff (by assumption) | with_reducible exact pckBT (by assumption) | with_reducible exact pckBF (by assumption) | exact s2_Ke | exact s1_Ke) : p := h
theorem co_Ke {p : Prop} (h : p := by first | (simp only [impB_1, impB_0, offB_1, offB_0]; done) | ((try simp only [impB_1, impB_0, offB_1, offB_0]); first | with_reducible exact Sl.ag1 (by assumption) fr_Ke (by with_unfolding_all rfl) (by assumption) en_Ke | with_reducible exact Sl.agN (by assumption) fr_Ke (by with_unfolding_all rfl) (by assumption) (by with_unfolding_all rfl) en_Ke | ((with_reducible refine agL1_e ?_ ?_); (· exact s1_Ke); (· exact fl_Ke)) | ((with_reducible refine agLN_e ?_ ?_); (· exact s1_Ke); (· exact fll_Ke)) | ((with_reducible apply ag_bs); (· exact sM_Ke); (· rfl); (· exact sb_Ke); (· exact fll_Ke)) | ((with_reducible apply ag_al); (· exact sM_Ke); (· rfl); (· exact fll_Ke)) | ((with_reducible apply ag_bx); (· exact sM_Ke); (· rfl); (· rfl); (· exact fll_Ke)) | ((with_reducible apply ag_bd); (· rfl); (· exact s1_Ke); (· exact fll_Ke)) | exact s1_Ke)) : p := h
theorem gs_Ke {r p : Prop} (k : r) (h : Go.Ev.Im r p := by (first | with_reducible apply Im.runS | ((with_reducible apply Im.num); · (simp only [Nat.succ_eq_add_one, Nat.add_assoc, Nat.reduceAdd]; rfl)) | (with_reducible apply Im.unm) | (with_reducible apply Im.selT) | (with_reducible apply Im.selF) | ((with_reducible apply Im.cndT); · assumption) | ((with_reducible apply Im.cndF); · assumption) | ((with_reducible apply Im.cndT); · decide) | ((with_reducible apply Im.cndF); · decide) | ((with_reducible apply Im.cndNT); · decide) | ((with_reducible apply Im.cndNF); · decide) | ((with_reducible apply Im.cndBT); · exact rfl) | ((with_reducible apply Im.cndBF); · exact rfl) | ((with_reducible apply Im.cndNT); · assumption) | ((with_reducible apply Im.cndNF); · assumption) | ((with_reducible apply Im.cndBT); · assumption) | ((with_reducible apply Im.cndBF); · assumption) | ((with_reducible apply Im.bind); · exact op_Ke) | ((with_reducible apply Im.cond); · exact co_Ke) | ((with_reducible apply Im.runB); · exact op_Ke) | ((with_reducible apply Im.runC); · exact co_Ke) | ((with_reducible apply Im.runN); · (simp only [Nat.succ_eq_add_one, Nat.add_assoc, Nat.reduceAdd]; rfl)) | with_reducible apply Im.runR | ((with_reducible apply Im.runE (x := evBuildSlice _ _ _ _ _ _)); · exact sb_Ke)); (repeat (first | with_reducible apply Im.runS | ((with_reducible apply Im.num); · (simp only [Nat.succ_eq_add_one, Nat.add_assoc, Nat.reduceAdd]; rfl)) | (with_reducible apply Im.unm) | (with_reducible apply Im.selT) | (with_reducible apply Im.selF) | ((with_reducible apply Im.cndT); · assumption) | ((with_reducible apply Im.cndF); · assumption) | ((with_reducible apply Im.cndT); · decide) | ((with_reducible apply Im.cndF); · decide) | ((with_reducible apply Im.cndNT); · decide) | ((with_reducible apply Im.cndNF); · decide) | ((with_reducible apply Im.cndBT); · exact rfl) | ((with_reducible apply Im.cndBF); · exact rfl) | ((with_reducible apply Im.cndNT); · assumption) | ((with_reducible apply Im.cndNF); · assumption) | ((with_reducible apply Im.cndBT); · assumption) | ((with_reducible apply Im.cndBF); · assumption) | ((with_reducible apply Im.bind); · exact op_Ke) | ((with_reducible apply Im.cond); · exact co_Ke) | ((with_reducible apply Im.runB); · exact op_Ke) | ((with_reducible apply Im.runC); · exact co_Ke) | ((with_reducible apply Im.runN); · (simp only [Nat.succ_eq_add_one, Nat.add_assoc, Nat.reduceAdd]; rfl)) | with_reducible apply Im.runR | ((with_reducible apply Im.runE (x := evBuildSlice _ _ _ _ _ _)); · exact sb_Ke))); exact Go.Ev.Im.id) : p := h k
def arN (f g : Bd) : Nat → Bd
  | 0 => f
  | k + 1 => up (arN f g k) k (min (arN f g k k).1 (g k).1, max (arN f g k k).2 (g k).2)
theorem arN_at (f g : Bd) : ∀ k j : Nat, arN f g k j = if j < k then arS (f j) (g j) else f j
  | 0, j => by simp [arN]
  | k + 1, j => by
    simp only [arN, up]
    by_cases e : j = k
    · subst e
      rw [if_pos rfl, if_pos (by omega), arN_at f g j j, if_neg (by omega)]; rfl
    · rw [if_neg e, arN_at f g k j]
      by_cases h : j < k
      · rw [if_pos h, if_pos (by omega)]
      · rw [if_neg h, if_neg (by omega)]
theorem arN_ok {f g : Bd} (hf : BdOk f) (hg : BdOk g) (k : Nat) : BdOk (arN f g k) := by
  intro j
  have a := hf j
  have c := hg j
  rw [arN_at]
  split
  · unfold arS; simp only []; omega
  · exact a
/-- What the known bounds are, when some bounds were looked at. -/
def KnP (W : Nat) (L : List Bd) (fd : Bool) (K : Bd) : Prop := (fd = false ∧ L = [] ∧ K = bz) ∨ (fd = true ∧ ∃ f M, L = f :: M ∧ ∀ j, j < W → K j = hlB (f :: M) (f j) j)
theorem hlB_snoc (L : List Bd) (g : Bd) (v : Int × Int) (j : Nat) : hlB (L ++ [g]) v j = arS (hlB L v j) (g j) := by simp [hlB]
theorem KnP.first {W : Nat} {G : Bd} : KnP W [G] true (arN G G W) := .inr ⟨rfl, G, [], rfl, fun j hj => by
  rw [arN_at, if_pos hj]; rfl⟩
theorem KnP.next {W : Nat} {L : List Bd} {K G : Bd} (h : KnP W L true K) : KnP W (L ++ [G]) true (arN K G W) := by
  rcases h with ⟨e, _⟩ | ⟨_, f, M, rfl, h⟩
  · cases e
  · refine .inr ⟨rfl, f, M ++ [G], rfl, fun j hj => ?_⟩
    rw [arN_at, if_pos hj, h j hj, show f :: (M ++ [G]) = (f :: M) ++ [G] from rfl, hlB_snoc]
theorem KnP.sum {W : Nat} {L : List Bd} {fd : Bool} {K : Bd} (h : KnP W L fd K) : smW K W = wdB 0 W L := by
  rcases h with ⟨_, rfl, rfl⟩ | ⟨_, f, M, rfl, h⟩
  · have : ∀ k, smW bz k = 0 := by
      intro k
      induction k with
      | zero => rfl
      | succ k ih => show smW bz k + (0 - 0) = 0; omega
    exact this W
  · rw [wdB_cons]
    exact smW_congr W h
theorem smW_ok {K : Bd} (h : BdOk K) : ∀ k : Nat, -2000000 * (k : Int) ≤ smW K k ∧ smW K k ≤ 2000000 * (k : Int)
  | 0 => by simp [smW]
  | k + 1 => by
    have a := smW_ok h k
    have c := h k
    show _ ≤ smW K k + _ ∧ smW K k + _ ≤ _
    omega
theorem pg_bd {s : Sp} (ho : Ok s) {F : Bd} (hF : BdOk F) {w : Nat} {n : Int} (hn : 0 ≤ n ∧ n ≤ 100) : BdOk (pgB s w n F) := nar_ok ho (hF.up w (by omega) (by omega))
section
variable {s : Sp} {b r : Value}
theorem c_open (call : CallF) {v : Value} {A : List Lb} {w : Nat} {n : Int} {h N} (hs : OkS s) (hA : ∀ x ∈ A, BdOk x.f) (nA : A.length < 100) (hw : w < s.weeks.toNat) (hn : 0 ≤ n ∧ n ≤ 100) (hb : Sl h N b s.book) (hr : Sl h N r s.reads) (hv : Sl h N v A) :
    Rn (s97 call (.agg ⟨[iS s.weeks, iS s.most, iS s.fall, iS s.slo, iS s.shi, iS s.wlo, iS s.whi, b, r]⟩) v (nS w) (iS n) h N) fun v h' N' => v = iS (opB s (A.map (·.f)) w n) ∧ Gw h N h' N' := by
  unfold s97
  have cb := hb.flat; have cr := hr.flat; have x1 := flatV_one cb; have y1 := cel_flat cb; have x2 := flatV_one cr; have y2 := cel_flat cr
  have ho := hs.ok
  have ho2 := ho
  obtain ⟨w1, w2, m1, m2, p1, p2, a1, a2, a3, v1, v2, v3⟩ := ho2
  have cv := hv.flat
  have x3 := flatV_one cv
  have y3 := cel_flat cv
  try refine gs_Ke ?_
  refine Rn.loop8 (fun m a1 a2 a3 a4 a5 a6 a7 a8 g M => ∃ (i : Nat) (fd : Bool) (K : Bd), a1 = nS w ∧ a2 = iS n ∧ a3 = .pointer (some ⟨N, 0, none⟩) ∧ a4 = .pointer (some ⟨N + 1, 0, none⟩) ∧ a5 = .bool fd ∧ v = a6 ∧ a7 = nS A.length ∧ a8 = nS i ∧ i + m = A.length ∧ Fr h N g ∧ N + 2 ≤ M ∧ g.get N = some (.c [iS s.weeks, iS s.most, iS s.fall, iS s.slo, iS s.shi, iS s.wlo, iS s.whi, b, r] 106) ∧ g.get (N + 1) = some (.c (bdC K) 152) ∧ BdOk K ∧ KnP s.weeks.toNat ((((A.map (·.f)).take i).filter fun f => inS (f w).1 (f w).2 n).map (pgB s w n)) fd K) A.length (by omega)
    ⟨0, false, bz, rfl, rfl, rfl, rfl, rfl, rfl, rfl, rfl, by omega, fr_Ke, by omega, sS_Ke, sR_Ke, fun j => by simp [bz], .inl ⟨rfl, rfl, rfl⟩⟩ ?_
  rintro m g ih _ _ _ _ _ _ _ _ h2 N2 ⟨i, fd, K, rfl, rfl, rfl, rfl, rfl, q0, rfl, rfl, e2, f2, l2, g1, g2, hK, hk⟩
  subst q0
  try refine gs_Ke ?_
  (first | with_reducible refine Rn.cnd (fun _ => ?_) (fun _ => ?_) | with_reducible refine Rn.cndN (fun _ => ?_) (fun _ => ?_) | with_reducible refine Rn.cndB (fun _ => ?_) (fun _ => ?_))
  · obtain ⟨x, hx⟩ := at_of (L := A) (k := i) (by omega)
    have hi : i < A.length := by omega
    have hxo := hA x (List.mem_of_getElem? hx)
    have hw10 : w < 10 := by omega
    have hxm : (A.map (·.f))[i]? = some x.f := by rw [List.getElem?_map, hx]; rfl
    have et : (((A.map (·.f)).take (i + 1)).filter fun f => inS (f w).1 (f w).2 n).map (pgB s w n) = (((A.map (·.f)).take i).filter fun f => inS (f w).1 (f w).2 n).map (pgB s w n) ++ (if inS (x.f w).1 (x.f w).2 n then [pgB s w n x.f] else []) := by
      rw [List.take_add_one, hxm]
      simp only [Option.toList_some, List.filter_append, List.map_append]
      congr 1
      cases hz : inS (x.f w).1 (x.f w).2 n <;> simp [hz]
    generalize (((A.map (·.f)).take i).filter fun f => inS (f w).1 (f w).2 n).map (pgB s w n) = L at hk et
    unfold jnR
    try refine gs_Ke ?_
    refine Rn.call (c_within1 call (x := n) (Sl.lit _ sM_Ke (by omega) rfl rfl)) ?_
    rintro _ h3 N3 ⟨rfl, f3, o3, l3⟩
    cases hin : inS (x.f w).1 (x.f w).2 n with
    | false =>
      rw [hin, if_neg (by decide), List.append_nil] at et
      try refine gs_Ke ?_
      exact ih (m - 1) (by omega) _ _ _ _ _ _ _ _ _ _ ⟨i + 1, fd, K, rfl, rfl, rfl, rfl, rfl, rfl, rfl, rfl, by omega, fr_Ke, by omega, sS_Ke, sS_Ke, hK, by rw [et]; exact hk⟩
    | true =>
      rw [hin, if_pos rfl] at et
      try refine gs_Ke ?_
      refine Rn.call (c_span _) ?_
      rintro _ h4 N4 ⟨rfl, f4, o4, l4⟩
      try refine gs_Ke ?_
      refine Rn.call (c_narrow call (f := up x.f w (n, n)) ho (hxo.up w (by omega) (by omega)) cb cr) ?_
      rintro _ h5 N5 ⟨rfl, f5, o5, l5⟩
      have hG : BdOk (pgB s w n x.f) := pg_bd ho hxo hn
      have eG : narS s (up x.f w (n, n)) = pgB s w n x.f := rfl
      rw [eG]
      clear eG hxo hin
      generalize pgB s w n x.f = G at *
      cases fd with
      | false =>
        obtain ⟨rfl, _⟩ : L = [] ∧ K = bz := by
          rcases hk with ⟨_, a, c⟩ | ⟨e, _⟩
          · exact ⟨a, c⟩
          · cases e
        have hst : KnP s.weeks.toNat ([] ++ [G]) true (arN G G s.weeks.toNat) := KnP.first
        clear hk
        try refine gs_Ke ?_
        refine Rn.loop11 (fun m' c1 c2 c3 c4 c5 c6 c7 c8 c9 c10 c11 g' M' => ∃ j : Nat, c1 = nS w ∧ c2 = iS n ∧ c3 = .pointer (some ⟨N, 0, none⟩) ∧ c4 = .pointer (some ⟨N + 1, 0, none⟩) ∧ c5 = .bool true ∧ c6 = .pointer (some ⟨N2, 0, none⟩) ∧ v = c7 ∧ c8 = nS A.length ∧ c9 = nS i ∧ c10 = iS s.weeks ∧ c11 = nS j ∧ (j : Int) + m' = s.weeks ∧ Fr h N g' ∧ N5 ≤ M' ∧ g'.get N = some (.c [iS s.weeks, iS s.most, iS s.fall, iS s.slo, iS s.shi, iS s.wlo, iS s.whi, b, r] 106) ∧ g'.get (N + 1) = some (.c (bdC (arN G G j)) 152) ∧ g'.get N2 = some (.c (bdC G) 152)) s.weeks.toNat (by omega)
          ⟨0, rfl, rfl, rfl, rfl, rfl, rfl, rfl, rfl, rfl, rfl, rfl, by omega, fr_Ke, by omega, sS_Ke, sR_Ke, sS_Ke⟩ ?_
        rintro m' g' ih' _ _ _ _ _ _ _ _ _ _ _ h10 N10 ⟨j, rfl, rfl, rfl, rfl, rfl, rfl, y0, rfl, rfl, rfl, rfl, e10, f10, l10, j1, j2, j3⟩
        subst y0
        try refine gs_Ke ?_
        (first | with_reducible refine Rn.cnd (fun _ => ?_) (fun _ => ?_) | with_reducible refine Rn.cndN (fun _ => ?_) (fun _ => ?_) | with_reducible refine Rn.cndB (fun _ => ?_) (fun _ => ?_))
        · have hj : j < 10 := by omega
          have ea : arN G G (j + 1) = up (arN G G j) j (min (arN G G j j).1 (G j).1, max (arN G G j j).2 (G j).2) := rfl
          generalize arN G G j = Q at j2 ea
          try refine gs_Ke ?_
          refine Rn.call (c_around _) ?_
          rintro _ h11 N11 ⟨rfl, f11, o11, l11⟩
          try refine gs_Ke ?_
          exact ih' (m' - 1) (by omega) _ _ _ _ _ _ _ _ _ _ _ _ _ ⟨j + 1, rfl, rfl, rfl, rfl, rfl, rfl, rfl, rfl, rfl, rfl, rfl, by omega, fr_Ke, by omega, sS_Ke, by rw [ea]; exact sR_Ke, sS_Ke⟩
        · obtain rfl : j = s.weeks.toNat := by omega
          clear ih'
          try refine gs_Ke ?_
          refine ih (m - 1) (by omega) _ _ _ _ _ _ _ _ _ _ ⟨i + 1, true, arN G G s.weeks.toNat, rfl, rfl, rfl, rfl, rfl, rfl, rfl, rfl, by omega, f10, by omega, j1, j2, arN_ok hG hG _, ?_⟩
          rw [et]
          exact hst
      | true =>
        have hst := hk.next (G := G)
        clear hk
        try refine gs_Ke ?_
        refine Rn.loop11 (fun m' c1 c2 c3 c4 c5 c6 c7 c8 c9 c10 c11 g' M' => ∃ j : Nat, c1 = nS w ∧ c2 = iS n ∧ c3 = .pointer (some ⟨N, 0, none⟩) ∧ c4 = .pointer (some ⟨N + 1, 0, none⟩) ∧ c5 = .bool true ∧ c6 = .pointer (some ⟨N2, 0, none⟩) ∧ v = c7 ∧ c8 = nS A.length ∧ c9 = nS i ∧ c10 = iS s.weeks ∧ c11 = nS j ∧ (j : Int) + m' = s.weeks ∧ Fr h N g' ∧ N5 ≤ M' ∧ g'.get N = some (.c [iS s.weeks, iS s.most, iS s.fall, iS s.slo, iS s.shi, iS s.wlo, iS s.whi, b, r] 106) ∧ g'.get (N + 1) = some (.c (bdC (arN K G j)) 152) ∧ g'.get N2 = some (.c (bdC G) 152)) s.weeks.toNat (by omega)
          ⟨0, rfl, rfl, rfl, rfl, rfl, rfl, rfl, rfl, rfl, rfl, rfl, by omega, fr_Ke, by omega, sS_Ke, sR_Ke, sS_Ke⟩ ?_
        rintro m' g' ih' _ _ _ _ _ _ _ _ _ _ _ h10 N10 ⟨j, rfl, rfl, rfl, rfl, rfl, rfl, y0, rfl, rfl, rfl, rfl, e10, f10, l10, j1, j2, j3⟩
        subst y0
        try refine gs_Ke ?_
        (first | with_reducible refine Rn.cnd (fun _ => ?_) (fun _ => ?_) | with_reducible refine Rn.cndN (fun _ => ?_) (fun _ => ?_) | with_reducible refine Rn.cndB (fun _ => ?_) (fun _ => ?_))
        · have hj : j < 10 := by omega
          have ea : arN K G (j + 1) = up (arN K G j) j (min (arN K G j j).1 (G j).1, max (arN K G j j).2 (G j).2) := rfl
          generalize arN K G j = Q at j2 ea
          try refine gs_Ke ?_
          refine Rn.call (c_around _) ?_
          rintro _ h11 N11 ⟨rfl, f11, o11, l11⟩
          try refine gs_Ke ?_
          exact ih' (m' - 1) (by omega) _ _ _ _ _ _ _ _ _ _ _ _ _ ⟨j + 1, rfl, rfl, rfl, rfl, rfl, rfl, rfl, rfl, rfl, rfl, rfl, by omega, fr_Ke, by omega, sS_Ke, by rw [ea]; exact sR_Ke, sS_Ke⟩
        · obtain rfl : j = s.weeks.toNat := by omega
          clear ih'
          try refine gs_Ke ?_
          refine ih (m - 1) (by omega) _ _ _ _ _ _ _ _ _ _ ⟨i + 1, true, arN K G s.weeks.toNat, rfl, rfl, rfl, rfl, rfl, rfl, rfl, rfl, by omega, f10, by omega, j1, j2, arN_ok hK hG _, ?_⟩
          rw [et]
          exact hst
  · obtain rfl : i = A.length := by omega
    have eL : (A.map (·.f)).take A.length = A.map (·.f) := List.take_of_length_le (by simp)
    rw [eL] at hk
    have hsum := hk.sum
    clear ih
    have hbd := smW_ok hK
    try refine gs_Ke ?_
    refine Rn.loop4 (fun m a1 a2 a3 a4 g M => ∃ j : Nat, a1 = .pointer (some ⟨N + 1, 0, none⟩) ∧ a2 = iS (smW K j) ∧ a3 = iS s.weeks ∧ a4 = nS j ∧ (j : Int) + m = s.weeks ∧ Fr h N g ∧ N + 2 ≤ M ∧ g.get (N + 1) = some (.c (bdC K) 152)) s.weeks.toNat (by omega)
      ⟨0, rfl, rfl, rfl, rfl, by omega, fr_Ke, by omega, sS_Ke⟩ ?_
    rintro m g ih _ _ _ _ h3 N3 ⟨j, rfl, rfl, rfl, rfl, e3, f3, l3, g3⟩
    try refine gs_Ke ?_
    (first | with_reducible refine Rn.cnd (fun _ => ?_) (fun _ => ?_) | with_reducible refine Rn.cndN (fun _ => ?_) (fun _ => ?_) | with_reducible refine Rn.cndB (fun _ => ?_) (fun _ => ?_))
    · have hj : j < 10 := by omega
      have b1 := hbd j
      have b2 := hK j
      have es : smW K (j + 1) = smW K j + ((K j).2 - (K j).1) := rfl
      try refine gs_Ke ?_
      exact ih (m - 1) (by omega) _ _ _ _ _ _ ⟨j + 1, rfl, by rw [es], rfl, rfl, by omega, fr_Ke, by omega, sS_Ke⟩
    · obtain rfl : j = s.weeks.toNat := by omega
      rw [hsum]
      try refine gs_Ke ?_
      exact Rn.ret ⟨rfl, (Gw.of fr_Ke (by omega))⟩
end
end Go.Proofs.Ytpilgokdbliklaa
end

section
namespace Go.Proofs.Ytpilgokdbliklaa
open Go.Ev Go.RowKit
set_option linter.unusedVariables false
set_option linter.unusedSimpArgs false
set_option linter.unusedSectionVars false
set_option maxRecDepth 100000
set_option maxHeartbeats 4000000
theorem s1_Kf {p : Prop} (h : p := by (simp (disch := omega) only [obind_s, orun_s, ocond_t, fad_p, ld1_e, ldN_e, sto_e, cellO_c, wrO_c, Tr.get_same, Tr.get_other, nth_0, nth_s, drp_0, drp_s, drp_n, tak_0, tak_s, tak_n, over_n, over_c, lay_0, lay_s, lay_n, len_n, len_c, app_n, app_c, reps_0, reps_s, cel_agg, cel_int, cel_bool, cel_str, cel_sl, cel_ptr, cel_map, cel_func, cel_nilf, fil_n, fil_c, beq_r, ble_d, allF_n, allF_c, one_int, one_bool, one_str, one_sl, one_ptr, one_map, one_func, one_nilf, Bool.and_true, Bool.true_and, Bool.not_true, Bool.not_false, iadA_z, Int.reduceToNat, Int.toNat_zero, fl1_a, flN_a, extr_t, unot, not_d, Nat.add_eq, Nat.mul_eq, Nat.mul_one, Nat.one_mul, Nat.zero_mul, Nat.reduceMul, Nat.zero_add, Nat.add_zero, Nat.le_refl, decide_true, Nat.reduceAdd, Nat.reduceLeDiff, bsl_Sspring_choice, bld_spring_choice, enc_spring_choice, bsl_Sspring_bounds, enc_Lb, bsl_Sint, bld_Span, bld_spring_work, bld_spring_asked, enc_Line, enc_Reading, ocond_d, Int.toNat_natCast, *]); first | done | fail) : p := h
theorem s2_Kf {p : Prop} (h : p := by (simp (disch := omega) only [obind_s, orun_s, ocond_t, fad_p, ld1_e, ldN_e, sto_e, cellO_c, wrO_c, Tr.get_same, Tr.get_other, nth_0, nth_s, drp_0, drp_s, drp_n, tak_0, tak_s, tak_n, over_n, over_c, lay_0, lay_s, lay_n, len_n, len_c, app_n, app_c, reps_0, reps_s, cel_agg, cel_int, cel_bool, cel_str, cel_sl, cel_ptr, cel_map, cel_func, cel_nilf, fil_n, fil_c, beq_r, ble_d, allF_n, allF_c, one_int, one_bool, one_str, one_sl, one_ptr, one_map, one_func, one_nilf, Bool.and_true, Bool.true_and, Bool.not_true, Bool.not_false, iadA_z, Int.reduceToNat, Int.toNat_zero, fl1_a, flN_a, extr_t, unot, not_d, Nat.add_eq, Nat.mul_eq, Nat.mul_one, Nat.one_mul, Nat.zero_mul, Nat.reduceMul, Nat.zero_add, Nat.add_zero, Nat.le_refl, decide_true, Nat.reduceAdd, Nat.reduceLeDiff, bsl_Sspring_choice, bld_spring_choice, enc_spring_choice, bsl_Sspring_bounds, enc_Lb, bsl_Sint, bld_Span, bld_spring_work, bld_spring_asked, enc_Line, enc_Reading, ocond_d, Int.toNat_natCast, *]); rfl) : p := h
theorem sb_Kf {p : Prop} (h : p := by first | ((simp (disch := omega) only [obind_s, orun_s, ocond_t, fad_p, ld1_e, ldN_e, sto_e, cellO_c, wrO_c, Tr.get_same, Tr.get_other, nth_0, nth_s, drp_0, drp_s, drp_n, tak_0, tak_s, tak_n, over_n, over_c, lay_0, lay_s, lay_n, len_n, len_c, app_n, app_c, reps_0, reps_s, cel_agg, cel_int, cel_bool, cel_str, cel_sl, cel_ptr, cel_map, cel_func, cel_nilf, fil_n, fil_c, beq_r, ble_d, allF_n, allF_c, one_int, one_bool, one_str, one_sl, one_ptr, one_map, one_func, one_nilf, Bool.and_true, Bool.true_and, Bool.not_true, Bool.not_false, iadA_z, Int.reduceToNat, Int.toNat_zero, fl1_a, flN_a, extr_t, unot, not_d, Nat.add_eq, Nat.mul_eq, Nat.mul_one, Nat.one_mul, Nat.zero_mul, Nat.reduceMul, Nat.zero_add, Nat.add_zero, Nat.le_refl, decide_true, Nat.reduceAdd, Nat.reduceLeDiff, bsl_Sspring_choice, bld_spring_choice, enc_spring_choice, bsl_Sspring_bounds, enc_Lb, bsl_Sint, bld_Span, bld_spring_work, bld_spring_asked, enc_Line, enc_Reading, ocond_d, Int.toNat_natCast, Nat.succ_eq_add_one, Nat.add_assoc, *]); rfl) | ((simp (disch := omega) only [obind_s, orun_s, ocond_t, fad_p, ld1_e, ldN_e, sto_e, cellO_c, wrO_c, Tr.get_same, Tr.get_other, nth_0, nth_s, drp_0, drp_s, drp_n, tak_0, tak_s, tak_n, over_n, over_c, lay_0, lay_s, lay_n, len_n, len_c, app_n, app_c, reps_0, reps_s, cel_agg, cel_int, cel_bool, cel_str, cel_sl, cel_ptr, cel_map, cel_func, cel_nilf, fil_n, fil_c, beq_r, ble_d, allF_n, allF_c, one_int, one_bool, one_str, one_sl, one_ptr, one_map, one_func, one_nilf, Bool.and_true, Bool.true_and, Bool.not_true, Bool.not_false, iadA_z, Int.reduceToNat, Int.toNat_zero, fl1_a, flN_a, extr_t, unot, not_d, Nat.add_eq, Nat.mul_eq, Nat.mul_one, Nat.one_mul, Nat.zero_mul, Nat.reduceMul, Nat.zero_add, Nat.add_zero, Nat.le_refl, decide_true, Nat.reduceAdd, Nat.reduceLeDiff, bsl_Sspring_choice, bld_spring_choice, enc_spring_choice, bsl_Sspring_bounds, enc_Lb, bsl_Sint, bld_Span, bld_spring_work, bld_spring_asked, enc_Line, enc_Reading, ocond_d, Int.toNat_natCast, Nat.succ_eq_add_one, Nat.add_assoc, *]); done)) : p := h
theorem fr_Kf {p : Prop} (h : p := by first | assumption | exact Fr.refl _ _ | (simp (disch := omega) only [Fr_set, Fr_refl, *])) : p := h
theorem fl_Kf {p : Prop} (h : p := by first | with_unfolding_all rfl | exact Sl.flat (by assumption) | assumption) : p := h
theorem fll_Kf {p : Prop} (h : p := by first | with_unfolding_all rfl | ((repeat (refine flatL_k fl_Kf ?_)); with_unfolding_all rfl)) : p := h
theorem en_Kf {p : Prop} (h : p := by first | ((simp only [enc_int, enc_str, enc_u8, enc_bool, tak_s, tak_0, tak_n, drp_0, drp_s, drp_n, nth_s, nth_0, bsl_Sspring_choice, bld_spring_choice, enc_spring_choice, bsl_Sspring_bounds, enc_Lb, bsl_Sint, bld_Span, bld_spring_work, bld_spring_asked, enc_Line, enc_Reading, ocond_d, Int.toNat_natCast]); rfl) | ((simp only [enc_int, enc_str, enc_u8, enc_bool, tak_s, tak_0, tak_n, drp_0, drp_s, drp_n, nth_s, nth_0, bsl_Sspring_choice, bld_spring_choice, enc_spring_choice, bsl_Sspring_bounds, enc_Lb, bsl_Sint, bld_Span, bld_spring_work, bld_spring_asked, enc_Line, enc_Reading, ocond_d, Int.toNat_natCast]); done) | with_unfolding_all rfl) : p := h
theorem sM_Kf {p : Prop} (h : p := by (first | assumption | (simp (disch := omega) only [Tr.get_same, Tr.get_other, *]; rfl) | (simp (disch := omega) only [Tr.get_same, Tr.get_other, *]; done))) : p := h
theorem sS_Kf {p : Prop} (h : p := by first | assumption | exact s1_Kf) : p := h
theorem sR_Kf {p : Prop} (h : p := by first | assumption | exact s1_Kf | exact s2_Kf | with_unfolding_all rfl) : p := h
theorem op_Kf {p : Prop} (h : p := by first | with_reducible exact fad_p _ _ _ | with_reducible exact iop_lss _ _ | with_reducible exact iop_leq _ _ | with_reducible exact iop_gtr _ _ | with_reducible exact iop_geq _ _ | with_reducible exact iop_eql _ _ | with_reducible exact iop_neq _ _ | with_reducible exact Sl.len (by assumption) | with_reducible exact lenS_s _ _ _ | with_reducible exact Sl.iad (by assumption) (by with_unfolding_all rfl) (by first | assumption | omega) | with_reducible exact Sl.fad (by assumption) (by first | assumption | omega) | with_reducible exact Sl.ld1 (by assumption) fr_Kf (by with_unfolding_all rfl) (by assumption) en_Kf | with_reducible exact Sl.ldN (by assumption) fr_Kf (by with_unfolding_all rfl) (by assumption) (by with_unfolding_all rfl) en_Kf | with_reducible exact zadd1 (by omega) | with_reducible exact zsub1 (by omega) (by omega) | with_reducible exact zaddI (by omega) (by omega) | with_reducible exact zsubI (by omega) (by omega) | with_reducible exact min_z | with_reducible exact max_z | with_reducible exact zmulI (by assumption) | with_reducible exact zmulK (by omega) (by omega) | with_reducible exact quo_z (by omega) (by omega) (by omega) | with_reducible exact cv_u8 (by omega) | with_reducible exact rem_z (by omega) (by omega) (by omega) | with_reducible exact neq_bool (by kernel_rfl) | with_reducible exact eql_u8 | with_reducible exact wntT_t (by assumption) | with_reducible exact wntT_f (by assumption) | with_reducible exact wntF_t (by assumption) | with_reducible exact wntF_f (by assumption) | with_reducible exact wnt_tt | with_reducible exact wnt_tf | with_reducible exact wnt_ft | with_reducible exact wnt_ff | with_reducible exact wnt_u _ _ | with_reducible exact pck_t _ _ | with_reducible exact pck_f _ _ | with_reducible exact pckT (by assumption) | with_reducible exact pckF (by assumption) | with_reducible exact wntT_t (by decide) | with_reducible exact wntT_f (by decide) | with_reducible exact wntF_t (by decide) | with_reducible exact wntF_f (by decide) | with_reducible exact pckT (by decide) | with_reducible exact pckF (by decide) | with_reducible exact wntN_tt (by decide) | with_reducible exact wntN_tf (by decide) | with_reducible exact wntN_ft (by decide) | with_reducible exact wntN_ff (by decide) | with_reducible exact pckNT (by decide) | with_reducible exact pckNF (by decide) | with_reducible exact wntN_tt (by assumption) | with_reducible exact wntN_tf (by assumption) | with_reducible exact wntN_ft (by assumption) | with_reducible exact wntN_ff (by assumption) | with_reducible exact pckNT (by assumption) | with_reducible exact pckNF (by assumption) | with_reducible exact wntB_tt (by assumption) | with_reducible exact wntB_tf (by assumption) | with_reducible exact wntB_ft (by assumption) | with_reducible exact wntB_ff (by assumption) | with_reducible exact pckBT (by assumption) | with_reducible exact pckBF (by assumption) | exact s2_Kf | exact s1_Kf) : p := h
theorem co_Kf {p : Prop} (h : p := by first | (simp only [impB_1, impB_0, offB_1, offB_0]; done) | ((try simp only [impB_1, impB_0, offB_1, offB_0]); first | with_reducible exact Sl.ag1 (by assumption) fr_Kf (by with_unfolding_all rfl) (by assumption) en_Kf | with_reducible exact Sl.agN (by assumption) fr_Kf (by with_unfolding_all rfl) (by assumption) (by with_unfolding_all rfl) en_Kf | ((with_reducible refine agL1_e ?_ ?_); (· exact s1_Kf); (· exact fl_Kf)) | ((with_reducible refine agLN_e ?_ ?_); (· exact s1_Kf); (· exact fll_Kf)) | ((with_reducible apply ag_bs); (· exact sM_Kf); (· rfl); (· exact sb_Kf); (· exact fll_Kf)) | ((with_reducible apply ag_al); (· exact sM_Kf); (· rfl); (· exact fll_Kf)) | ((with_reducible apply ag_bx); (· exact sM_Kf); (· rfl); (· rfl); (· exact fll_Kf)) | ((with_reducible apply ag_bd); (· rfl); (· exact s1_Kf); (· exact fll_Kf)) | exact s1_Kf)) : p := h
theorem gs_Kf {r p : Prop} (k : r) (h : Go.Ev.Im r p := by (first | with_reducible apply Im.runS | ((with_reducible apply Im.num); · (simp only [Nat.succ_eq_add_one, Nat.add_assoc, Nat.reduceAdd]; rfl)) | (with_reducible apply Im.unm) | (with_reducible apply Im.selT) | (with_reducible apply Im.selF) | ((with_reducible apply Im.cndT); · assumption) | ((with_reducible apply Im.cndF); · assumption) | ((with_reducible apply Im.cndT); · decide) | ((with_reducible apply Im.cndF); · decide) | ((with_reducible apply Im.cndNT); · decide) | ((with_reducible apply Im.cndNF); · decide) | ((with_reducible apply Im.cndBT); · exact rfl) | ((with_reducible apply Im.cndBF); · exact rfl) | ((with_reducible apply Im.cndNT); · assumption) | ((with_reducible apply Im.cndNF); · assumption) | ((with_reducible apply Im.cndBT); · assumption) | ((with_reducible apply Im.cndBF); · assumption) | ((with_reducible apply Im.bind); · exact op_Kf) | ((with_reducible apply Im.cond); · exact co_Kf) | ((with_reducible apply Im.runB); · exact op_Kf) | ((with_reducible apply Im.runC); · exact co_Kf) | ((with_reducible apply Im.runN); · (simp only [Nat.succ_eq_add_one, Nat.add_assoc, Nat.reduceAdd]; rfl)) | with_reducible apply Im.runR | ((with_reducible apply Im.runE (x := evBuildSlice _ _ _ _ _ _)); · exact sb_Kf)); (repeat (first | with_reducible apply Im.runS | ((with_reducible apply Im.num); · (simp only [Nat.succ_eq_add_one, Nat.add_assoc, Nat.reduceAdd]; rfl)) | (with_reducible apply Im.unm) | (with_reducible apply Im.selT) | (with_reducible apply Im.selF) | ((with_reducible apply Im.cndT); · assumption) | ((with_reducible apply Im.cndF); · assumption) | ((with_reducible apply Im.cndT); · decide) | ((with_reducible apply Im.cndF); · decide) | ((with_reducible apply Im.cndNT); · decide) | ((with_reducible apply Im.cndNF); · decide) | ((with_reducible apply Im.cndBT); · exact rfl) | ((with_reducible apply Im.cndBF); · exact rfl) | ((with_reducible apply Im.cndNT); · assumption) | ((with_reducible apply Im.cndNF); · assumption) | ((with_reducible apply Im.cndBT); · assumption) | ((with_reducible apply Im.cndBF); · assumption) | ((with_reducible apply Im.bind); · exact op_Kf) | ((with_reducible apply Im.cond); · exact co_Kf) | ((with_reducible apply Im.runB); · exact op_Kf) | ((with_reducible apply Im.runC); · exact co_Kf) | ((with_reducible apply Im.runN); · (simp only [Nat.succ_eq_add_one, Nat.add_assoc, Nat.reduceAdd]; rfl)) | with_reducible apply Im.runR | ((with_reducible apply Im.runE (x := evBuildSlice _ _ _ _ _ _)); · exact sb_Kf))); exact Go.Ev.Im.id) : p := h k
abbrev Ch := Yspring_choice
/-- The first of the least. -/
def bsG {α : Type} (q : α → α → Bool) : α → List α → α
  | b, [] => b
  | b, y :: l => bsG q (if q y b then y else b) l
theorem bsG_spec {α : Type} [Rwc α] (κ : α → Int) : ∀ (l P : List α) (b : α), (∃ m : Nat, P[m]? = some b ∧ (∀ (j : Nat) (y : α), P[j]? = some y → κ b ≤ κ y) ∧ ∀ (j : Nat) (y : α), j < m → P[j]? = some y → κ b < κ y) →
    ∃ m : Nat, (P ++ l)[m]? = some (bsG (fun x y => decide (κ x < κ y)) b l) ∧ (∀ (j : Nat) (y : α), (P ++ l)[j]? = some y → κ (bsG (fun x y => decide (κ x < κ y)) b l) ≤ κ y) ∧ ∀ (j : Nat) (y : α), j < m → (P ++ l)[j]? = some y → κ (bsG (fun x y => decide (κ x < κ y)) b l) < κ y
  | [], P, b, h => by simpa [bsG] using h
  | y :: l, P, b, ⟨m, h1, h2, h3⟩ => by
    have e : P ++ y :: l = (P ++ [y]) ++ l := by simp
    rw [e]
    have hm := lt_of_at h1
    simp only [bsG]
    by_cases hlt : κ y < κ b
    · have e1 : (if decide (κ y < κ b) = true then y else b) = y := if_pos (decide_eq_true hlt)
      rw [e1]
      refine bsG_spec κ l (P ++ [y]) y ⟨P.length, by simp, fun j z hz => ?_, fun j z hj hz => ?_⟩
      · rcases Nat.lt_or_ge j P.length with hj | hj
        · rw [List.getElem?_append_left hj] at hz
          have := h2 j z hz; omega
        · have hl := lt_of_at hz
          simp at hl
          rw [List.getElem?_append_right hj, show j - P.length = 0 by omega] at hz
          simp at hz; subst hz; exact Int.le_refl _
      · rw [List.getElem?_append_left hj] at hz
        have := h2 j z hz; omega
    · have e1 : (if decide (κ y < κ b) = true then y else b) = b := if_neg (by rw [decide_eq_false hlt]; simp)
      rw [e1]
      refine bsG_spec κ l (P ++ [y]) b ⟨m, by rw [List.getElem?_append_left hm]; exact h1, fun j z hz => ?_, fun j z hj hz => ?_⟩
      · rcases Nat.lt_or_ge j P.length with hj | hj
        · rw [List.getElem?_append_left hj] at hz
          exact h2 j z hz
        · have hl := lt_of_at hz
          simp at hl
          rw [List.getElem?_append_right hj, show j - P.length = 0 by omega] at hz
          simp at hz; subst hz; omega
      · rw [List.getElem?_append_left (by omega)] at hz
        exact h3 j z hj hz
theorem c_firstC (call : CallF) {q : Ch → Ch → Bool} {fv l : Value} {x0 : Ch} {L : List Ch} {h N} (hn : L.length < 1000) (ff : flatV fv = true) (hl : Sl h N l (x0 :: L))
    (hq : ∀ (x y : Ch) h1 N1, Rn (callW [] call fv [.agg ⟨[iS x.week, iS x.left]⟩, .agg ⟨[iS y.week, iS y.left]⟩] h1 N1) fun v h' N' => v = .bool (q x y) ∧ Gw h1 N1 h' N') :
    Rn (s68 call l fv h N) fun v h' N' => v = .agg ⟨[iS (bsG q x0 L).week, iS (bsG q x0 L).left]⟩ ∧ Gw h N h' N' := by
  unfold s68
  have x3 := flatV_one ff
  have y3 := cel_flat ff
  have cl := hl.flat
  have x4 := flatV_one cl
  have y4 := cel_flat cl
  try refine gs_Kf ?_
  refine Rn.loop6 (fun m a1 a2 a3 a4 a5 a6 g M => ∃ k : Nat, fv = a1 ∧ a2 = .pointer (some ⟨N, 0, none⟩) ∧ a3 = .pointer (some ⟨N + 1, 0, none⟩) ∧ l = a4 ∧ a5 = nS (x0 :: L).length ∧ a6 = nS k ∧ k + m = (x0 :: L).length ∧ Fr h N g ∧ N + 2 ≤ M ∧ g.get N = some (.c [iS 0, iS 0] 116) ∧
    ((k = 0 ∧ g.get (N + 1) = some (.c [iS 0, iS 0] 116)) ∨ (0 < k ∧ ∃ y : Ch, g.get (N + 1) = some (.c [iS y.week, iS y.left] 116) ∧ bsG q y ((x0 :: L).drop k) = bsG q x0 L))) (x0 :: L).length (by simp; omega)
    ⟨0, rfl, rfl, rfl, rfl, rfl, rfl, by omega, fr_Kf, by omega, sS_Kf, .inl ⟨rfl, sS_Kf⟩⟩ ?_
  rintro m g ih _ _ _ _ _ _ h2 N2 ⟨k, q1, rfl, rfl, q2, rfl, rfl, e2, f2, l2, g1, g2⟩
  subst q1; subst q2
  try refine gs_Kf ?_
  (first | with_reducible refine Rn.cnd (fun _ => ?_) (fun _ => ?_) | with_reducible refine Rn.cndN (fun _ => ?_) (fun _ => ?_) | with_reducible refine Rn.cndB (fun _ => ?_) (fun _ => ?_))
  · obtain ⟨x, hx⟩ := at_of (L := x0 :: L) (k := k) (by omega)
    have hk : k < (x0 :: L).length := by omega
    have hlen : (x0 :: L).length = L.length + 1 := rfl
    rcases g2 with ⟨rfl, g2⟩ | ⟨k0, y, g2, q5⟩
    · have ex : x0 = x := by simpa using hx
      have hz : (((0 : Nat) : Int) = 0) := rfl
      subst ex
      unfold jnR
      try refine gs_Kf ?_
      exact ih (m - 1) (by omega) _ _ _ _ _ _ _ _ ⟨0 + 1, rfl, rfl, rfl, rfl, rfl, rfl, by omega, fr_Kf, by omega, sS_Kf, .inr ⟨by omega, x0, sS_Kf, rfl⟩⟩
    · have hz : ¬ ((k : Int) = 0) := by omega
      rw [drop_at hx] at q5
      simp only [bsG] at q5
      unfold jnR
      try refine gs_Kf ?_
      refine Rn.call (hq x y _ _) ?_
      rintro _ h3 N3 ⟨rfl, f3, o3, l3⟩
      cases hqq : q x y with
      | true =>
        rw [hqq] at q5
        try refine gs_Kf ?_
        exact ih (m - 1) (by omega) _ _ _ _ _ _ _ _ ⟨k + 1, rfl, rfl, rfl, rfl, rfl, rfl, by omega, fr_Kf, by omega, sS_Kf, .inr ⟨by omega, x, sS_Kf, q5⟩⟩
      | false =>
        rw [hqq] at q5
        try refine gs_Kf ?_
        exact ih (m - 1) (by omega) _ _ _ _ _ _ _ _ ⟨k + 1, rfl, rfl, rfl, rfl, rfl, rfl, by omega, fr_Kf, by omega, sS_Kf, .inr ⟨by omega, y, sS_Kf, q5⟩⟩
  · rcases g2 with ⟨rfl, g2⟩ | ⟨k0, y, g2, q5⟩
    · simp at e2; simp_all
    · rw [List.drop_eq_nil_of_le (by omega)] at q5
      have q5 : y = bsG q x0 L := q5
      subst q5
      try refine gs_Kf ?_
      exact Rn.ret ⟨rfl, (Gw.of fr_Kf (by omega))⟩
theorem c_look1 (call : CallF) (x y : Ch) {h N} : Rn (s70 call (.agg ⟨[iS x.week, iS x.left]⟩) (.agg ⟨[iS y.week, iS y.left]⟩) h N) fun v h' N' => v = .bool (decide (x.left < y.left)) ∧ Gw h N h' N' := by
  unfold s70
  try refine gs_Kf ?_
  exact Rn.ret ⟨rfl, (Gw.of fr_Kf (by omega))⟩
def chL (s : Sp) (A : List Bd) (k : Nat) : List Ch := (List.range k).map fun (i : Nat) => ⟨(i : Int), leftP s A i⟩
theorem chL_succ (s : Sp) (A : List Bd) (k : Nat) : chL s A (k + 1) = chL s A k ++ [⟨(k : Int), leftP s A k⟩] := by simp [chL, List.range_succ]
theorem ab_ok {s : Sp} {A : List Lb} {k : Nat} (hs : OkS s) (h : AbP s A k) : ∀ x ∈ A, BdOk x.f := by
  intro x hx
  obtain ⟨r, _, e⟩ := h.2.1 x hx
  rw [e]
  exact leaves_ok hs r
section
variable {s : Sp} {b r : Value}
theorem c_choices (d : Nat) {h N} (hs : OkS s) (hb : Sl h N b s.book) (hr : Sl h N r s.reads) :
    Rn (s69 (cN (d + 2)) (.agg ⟨[iS s.weeks, iS s.most, iS s.fall, iS s.slo, iS s.shi, iS s.wlo, iS s.whi, b, r]⟩) h N) fun v h' N' => (∃ A : List Lb, AbP s A (rainsS s).length ∧ Sl h' N' v (chL s (A.map (·.f)) s.weeks.toNat)) ∧ Gw h N h' N' := by
  unfold s69
  have cb := hb.flat; have cr := hr.flat; have x1 := flatV_one cb; have y1 := cel_flat cb; have x2 := flatV_one cr; have y2 := cel_flat cr
  obtain ⟨w1, w2, k1, k2, p1, p2, a1, a2, a3, v1, v2, v3⟩ := hs.ok
  have hrl := rains_len hs
  try refine gs_Kf ?_
  refine Rn.call (c_allBounds d hs (Sl.up (by assumption) fr_Kf (by omega)) (Sl.up (by assumption) fr_Kf (by omega))) ?_
  rintro va h1 N1 ⟨⟨A, sA, pA⟩, f1, o1, l1⟩
  have okA := ab_ok hs pA
  have nA : A.length < 100 := by have := pA.1; omega
  have ca := sA.flat
  have x3 := flatV_one ca
  have y3 := cel_flat ca
  have m0 : h1.get N = some (.c [iS s.weeks, iS s.most, iS s.fall, iS s.slo, iS s.shi, iS s.wlo, iS s.whi, b, r] 106) := sS_Kf
  have lN : N < N1 := by omega
  try refine gs_Kf ?_
  refine Rn.loop5 (fun m a1 a2 a3 a4 a5 g M => ∃ i : Nat, a1 = .pointer (some ⟨N, 0, none⟩) ∧ va = a2 ∧ a4 = iS s.weeks ∧ a5 = nS i ∧ (i : Int) + m = s.weeks ∧ Fr h1 N1 g ∧ N1 ≤ M ∧ OwZ g M 116 a3 (chL s (A.map (·.f)) i) (fun j => N1 ≤ j)) s.weeks.toNat (by omega)
    ⟨0, rfl, rfl, rfl, rfl, by omega, Fr.refl _ _, Nat.le_refl _, .inl ⟨rfl, rfl⟩⟩ ?_
  rintro m g ih _ _ lv _ _ h2 N2 ⟨i, rfl, q0, rfl, rfl, e2, f2, l2, own⟩
  subst q0
  have p0 := (f2 _ lN).trans m0
  have cl := own.sl.flat
  have x4 := flatV_one cl
  have y4 := cel_flat cl
  try refine gs_Kf ?_
  (first | with_reducible refine Rn.cnd (fun _ => ?_) (fun _ => ?_) | with_reducible refine Rn.cndN (fun _ => ?_) (fun _ => ?_) | with_reducible refine Rn.cndB (fun _ => ?_) (fun _ => ?_))
  · have hi : i < s.weeks.toNat := by omega
    try refine gs_Kf ?_
    refine Rn.loop9 (fun m' c1 c2 c3 c4 c5 c6 c7 c8 c9 g' M' => ∃ j : Nat, c1 = .pointer (some ⟨N, 0, none⟩) ∧ va = c2 ∧ lv = c3 ∧ c4 = nS i ∧ c5 = .pointer (some ⟨N2, 0, none⟩) ∧ c6 = iS s.weeks ∧ c7 = nS i ∧ c8 = iS (s.most + 1) ∧ c9 = nS j ∧ (j : Int) + m' = s.most + 1 ∧ Fr h2 N2 g' ∧ N2 + 1 ≤ M' ∧ g'.get N2 = some (.c [nS i, iS (mxN (fun z => opB s (A.map (·.f)) i z) j)] 116)) (s.most + 1).toNat (by omega)
      ⟨0, rfl, rfl, rfl, rfl, rfl, rfl, rfl, rfl, rfl, by omega, fr_Kf, by omega, sR_Kf⟩ ?_
    rintro m' g' ih' _ _ _ _ _ _ _ _ _ h3 N3 ⟨j, rfl, q1, q2, rfl, rfl, rfl, rfl, rfl, rfl, e3, f3, l3, g3⟩
    subst q1; subst q2
    have p1 := (f3 _ (by omega)).trans p0
    try refine gs_Kf ?_
    (first | with_reducible refine Rn.cnd (fun _ => ?_) (fun _ => ?_) | with_reducible refine Rn.cndN (fun _ => ?_) (fun _ => ?_) | with_reducible refine Rn.cndB (fun _ => ?_) (fun _ => ?_))
    · have em : mxN (fun z => opB s (A.map (·.f)) i z) (j + 1) = max (mxN (fun z => opB s (A.map (·.f)) i z) j) (opB s (A.map (·.f)) i j) := rfl
      generalize mxN (fun z => opB s (A.map (·.f)) i z) j = X at g3 em
      try refine gs_Kf ?_
      have s0 : Sl h3 N3 b s.book := (hb.up (N' := N1) (h' := h1) fr_Kf (by omega)).up (h' := h3) (fun z hz => (f3 z (by omega)).trans (f2 z hz)) (by omega)
      have s1 : Sl h3 N3 r s.reads := (hr.up (N' := N1) (h' := h1) fr_Kf (by omega)).up (h' := h3) (fun z hz => (f3 z (by omega)).trans (f2 z hz)) (by omega)
      refine Rn.call (c_open _ (A := A) (w := i) (n := (j : Int)) hs okA nA hi ⟨by omega, by omega⟩ s0 s1 (sA.up (fun z hz => (f3 z (by omega)).trans (f2 z hz)) (by omega))) ?_
      rintro _ h4 N4 ⟨rfl, f4, o4, l4⟩
      try refine gs_Kf ?_
      exact ih' (m' - 1) (by omega) _ _ _ _ _ _ _ _ _ _ _ ⟨j + 1, rfl, rfl, rfl, rfl, rfl, rfl, rfl, rfl, rfl, by omega, fr_Kf, by omega, by rw [em]; exact sR_Kf⟩
    · obtain rfl : j = (s.most + 1).toNat := by omega
      clear ih'
      have ec : chL s (A.map (·.f)) (i + 1) = chL s (A.map (·.f)) i ++ [⟨(i : Int), mxN (fun z => opB s (A.map (·.f)) i z) (s.most + 1).toNat⟩] := chL_succ s _ i
      generalize mxN (fun z => opB s (A.map (·.f)) i z) (s.most + 1).toNat = X at g3 ec
      have w : ∃ q, N1 ≤ q ∧ q < N3 + 1 ∧ ∀ g' : Tr Ob, (∀ k, N1 ≤ k → k < N2 → g'.get k = h2.get k) → Ow g' 116 lv (chL s (A.map (·.f)) i) q := by
        rcases own with ⟨rfl, e⟩ | ⟨q, p, hq, o⟩
        · rw [e]; exact ⟨N3, by omega, by omega, fun g' _ => Ow.nil _ _ _⟩
        · exact ⟨q, p, by omega, fun g' hk => o.keep (hk q p hq)⟩
      obtain ⟨q, z1, z2, w⟩ := w
      clear own
      have nl : (chL s (A.map (·.f)) i).length = i := by simp [chL]
      try refine gs_Kf ?_
      refine Rn.call (Ow.app (α := Ch) (K := [⟨(i : Int), X⟩]) (i := q) ap_Sspring_choice (w _ fun k g1 g2 => (show _ = h3.get k from sS_Kf).trans (f3 k g2)) (by omega) (Sl.lit [(⟨(i : Int), X⟩ : Ch)] sM_Kf (by omega : N3 < N3 + 1) rfl rfl) (Fr.refl _ _) (by simp [nl]; omega)) ?_
      rintro v2 h5 N5 ⟨q', w5, e5, e5', f5, o5, l5⟩
      have cv2 := (w5.sl e5').flat
      have z7 := flatV_one cv2
      have z8 := cel_flat cv2
      try refine gs_Kf ?_
      exact ih (m - 1) (by omega) _ _ _ _ _ _ _ ⟨i + 1, rfl, rfl, rfl, rfl, by omega, fun k hk => (show _ = h3.get k from sS_Kf).trans ((f3 k (by omega)).trans (f2 k hk)), by omega, by rw [ec]; exact .inr ⟨q', by omega, e5', w5⟩⟩
  · obtain rfl : i = s.weeks.toNat := by omega
    clear ih
    try refine gs_Kf ?_
    exact Rn.ret ⟨⟨A, pA, own.sl⟩, Gw.of (fun k hk => (f2 k (by omega)).trans (show h1.get k = h.get k from sS_Kf)) (by omega)⟩
theorem beg4 {s : Sp} (hv : validB s = true) (he : exE s = 0) : canS s = true := by
  unfold exE at he
  rw [beg_c, hv] at he
  cases hc : canS s with
  | true => rfl
  | false => rw [hc] at he; cases he
/-- The first week of which is left least. -/
structure LkOk (s : Sp) (w l : Int) : Prop where
  at_ : ∃ k : Nat, w = (k : Int) ∧ k < s.weeks.toNat ∧ l = leftS s k ∧ (∀ j, j < s.weeks.toNat → leftS s k ≤ leftS s j) ∧ ∀ j, j < k → leftS s k < leftS s j
theorem c_Look (d : Nat) {h N} (nb : s.book.length < 1000) (nr : s.reads.length < 1000) (hb : Sl h N b s.book) (hr : Sl h N r s.reads) : Rn (s24 (cN (d + 3)) (.agg ⟨[iS s.weeks, iS s.most, iS s.fall, iS s.slo, iS s.shi, iS s.wlo, iS s.whi, b, r]⟩) h N) fun v h' N' => (∃ w l : Int, v = .tuple ⟨[iS w, iS l, iS (exE s)]⟩ ∧ (exE s = 0 → LkOk s w l) ∧ (exE s ≠ 0 → w = 0 ∧ l = 0)) ∧ Gw h N h' N' := by
  unfold s24
  have cb := hb.flat; have cr := hr.flat; have x1 := flatV_one cb; have y1 := cel_flat cb; have x2 := flatV_one cr; have y2 := cel_flat cr
  try refine gs_Kf ?_
  refine Rn.call (c_begin d (q := qw 0 0) (L := [4]) nb nr (Sl.up (by assumption) fr_Kf (by omega)) (Sl.up (by assumption) fr_Kf (by omega)) (by simp) (Sl.lit _ sM_Kf (by omega) rfl rfl) (by simp)) ?_
  rintro _ h1 N1 ⟨⟨e0, hv, rfl⟩ | ⟨e0, rfl⟩, f1, o1, l1⟩
  · have hs := ok_of_valid hv
    have e1 : exE s = 0 := e0
    have hc := beg4 hv e1
    have w1 := hs.ok.w1
    have w2 := hs.ok.w2
    try refine gs_Kf ?_
    refine Rn.call (c_choices (d + 1) hs (Sl.up (by assumption) fr_Kf (by omega)) (Sl.up (by assumption) fr_Kf (by omega))) ?_
    rintro v h2 N2 ⟨⟨A, pA, sl2⟩, f2, o2, l2⟩
    have c3 := sl2.flat
    have x3 := flatV_one c3
    have y3 := cel_flat c3
    have hat : ∀ j x, (chL s (A.map (·.f)) s.weeks.toNat)[j]? = some x → j < s.weeks.toNat ∧ x.week = (j : Int) ∧ x.left = leftS s j := by
      intro j x hx
      have hj := lt_of_at hx
      have hj' : j < s.weeks.toNat := by simpa [chL] using hj
      unfold chL at hx
      rw [List.getElem?_map, List.getElem?_range hj'] at hx
      cases hx
      exact ⟨hj', rfl, left_eq hs hc pA.all hj'⟩
    have hall : ∀ j, j < s.weeks.toNat → ∃ x, (chL s (A.map (·.f)) s.weeks.toNat)[j]? = some x := by
      intro j hj
      exact at_of (by simpa [chL] using hj)
    have hlen : (chL s (A.map (·.f)) s.weeks.toNat).length = s.weeks.toNat := by simp [chL]
    generalize chL s (A.map (·.f)) s.weeks.toNat = C at *
    cases C with
    | nil => simp at hlen; omega
    | cons x0 C =>
      have spec := bsG_spec (fun x : Ch => x.left) C [x0] x0 ⟨0, rfl, fun j y hy => ?_, fun j y hj _ => by omega⟩
      · try refine gs_Kf ?_
        refine Rn.call (c_firstC (cN (d + 3)) (q := fun x y => decide (x.left < y.left)) (by simp at hlen; omega) rfl sl2 (fun x y h1 N1 => c_look1 (cN (d + 2)) x y)) ?_
        rintro _ h3 N3 ⟨rfl, f3, o3, l3⟩
        generalize bsG (fun x y : Ch => decide (x.left < y.left)) x0 C = z at *
        try refine gs_Kf ?_
        refine Rn.ret ⟨⟨z.week, z.left, by rw [e1], fun _ => ?_, fun h => absurd e1 h⟩, (Gw.of fr_Kf (by omega))⟩
        obtain ⟨m, t1, t2, t3⟩ := spec
        obtain ⟨u1, u2, u3⟩ := hat m z t1
        refine ⟨m, u2, u1, u3, fun j hj => ?_, fun j hj => ?_⟩
        · obtain ⟨y, hy⟩ := hall j hj
          have := t2 j y hy
          rw [u3, (hat j y hy).2.2] at this
          exact this
        · obtain ⟨y, hy⟩ := hall j (by omega)
          have := t3 j y hj hy
          rw [u3, (hat j y hy).2.2] at this
          exact this
      · have hl := lt_of_at hy
        simp at hl; subst hl
        simp at hy; subst hy; exact Int.le_refl _
  · have e1 : beginS s (qw 0 0) [4] = exE s := rfl
    rw [e1] at e0 ⊢
    try refine gs_Kf ?_
    exact Rn.ret ⟨⟨0, 0, rfl, fun h => absurd h e0, fun _ => ⟨rfl, rfl⟩⟩, (Gw.of fr_Kf (by omega))⟩
end
end Go.Proofs.Ytpilgokdbliklaa
end

section
namespace Go.Proofs.Ytpilgokdbliklaa
open Go.Ev Go.RowKit
set_option linter.unusedVariables false
set_option linter.unusedSimpArgs false
set_option linter.unusedSectionVars false
set_option maxRecDepth 100000
set_option maxHeartbeats 4000000
theorem s1_Kg {p : Prop} (h : p := by (simp (disch := omega) only [obind_s, orun_s, ocond_t, fad_p, ld1_e, ldN_e, sto_e, cellO_c, wrO_c, Tr.get_same, Tr.get_other, nth_0, nth_s, drp_0, drp_s, drp_n, tak_0, tak_s, tak_n, over_n, over_c, lay_0, lay_s, lay_n, len_n, len_c, app_n, app_c, reps_0, reps_s, cel_agg, cel_int, cel_bool, cel_str, cel_sl, cel_ptr, cel_map, cel_func, cel_nilf, fil_n, fil_c, beq_r, ble_d, allF_n, allF_c, one_int, one_bool, one_str, one_sl, one_ptr, one_map, one_func, one_nilf, Bool.and_true, Bool.true_and, Bool.not_true, Bool.not_false, iadA_z, Int.reduceToNat, Int.toNat_zero, fl1_a, flN_a, extr_t, unot, not_d, Nat.add_eq, Nat.mul_eq, Nat.mul_one, Nat.one_mul, Nat.zero_mul, Nat.reduceMul, Nat.zero_add, Nat.add_zero, Nat.le_refl, decide_true, Nat.reduceAdd, Nat.reduceLeDiff, bsl_Sint, bld_Span, bld_spring_work, bld_spring_asked, enc_Line, enc_Reading, ocond_d, Int.toNat_natCast, bsl_Saguadorref01_left, enc_Lf, le_lo, le_hi, le_laylo, le_layhi, le_len, le_self, le_tak, le_over, up_same, up_up, Nat.add_sub_cancel, *]); first | done | fail) : p := h
theorem s2_Kg {p : Prop} (h : p := by (simp (disch := omega) only [obind_s, orun_s, ocond_t, fad_p, ld1_e, ldN_e, sto_e, cellO_c, wrO_c, Tr.get_same, Tr.get_other, nth_0, nth_s, drp_0, drp_s, drp_n, tak_0, tak_s, tak_n, over_n, over_c, lay_0, lay_s, lay_n, len_n, len_c, app_n, app_c, reps_0, reps_s, cel_agg, cel_int, cel_bool, cel_str, cel_sl, cel_ptr, cel_map, cel_func, cel_nilf, fil_n, fil_c, beq_r, ble_d, allF_n, allF_c, one_int, one_bool, one_str, one_sl, one_ptr, one_map, one_func, one_nilf, Bool.and_true, Bool.true_and, Bool.not_true, Bool.not_false, iadA_z, Int.reduceToNat, Int.toNat_zero, fl1_a, flN_a, extr_t, unot, not_d, Nat.add_eq, Nat.mul_eq, Nat.mul_one, Nat.one_mul, Nat.zero_mul, Nat.reduceMul, Nat.zero_add, Nat.add_zero, Nat.le_refl, decide_true, Nat.reduceAdd, Nat.reduceLeDiff, bsl_Sint, bld_Span, bld_spring_work, bld_spring_asked, enc_Line, enc_Reading, ocond_d, Int.toNat_natCast, bsl_Saguadorref01_left, enc_Lf, le_lo, le_hi, le_laylo, le_layhi, le_len, le_self, le_tak, le_over, up_same, up_up, Nat.add_sub_cancel, *]); rfl) : p := h
theorem sb_Kg {p : Prop} (h : p := by first | ((simp (disch := omega) only [obind_s, orun_s, ocond_t, fad_p, ld1_e, ldN_e, sto_e, cellO_c, wrO_c, Tr.get_same, Tr.get_other, nth_0, nth_s, drp_0, drp_s, drp_n, tak_0, tak_s, tak_n, over_n, over_c, lay_0, lay_s, lay_n, len_n, len_c, app_n, app_c, reps_0, reps_s, cel_agg, cel_int, cel_bool, cel_str, cel_sl, cel_ptr, cel_map, cel_func, cel_nilf, fil_n, fil_c, beq_r, ble_d, allF_n, allF_c, one_int, one_bool, one_str, one_sl, one_ptr, one_map, one_func, one_nilf, Bool.and_true, Bool.true_and, Bool.not_true, Bool.not_false, iadA_z, Int.reduceToNat, Int.toNat_zero, fl1_a, flN_a, extr_t, unot, not_d, Nat.add_eq, Nat.mul_eq, Nat.mul_one, Nat.one_mul, Nat.zero_mul, Nat.reduceMul, Nat.zero_add, Nat.add_zero, Nat.le_refl, decide_true, Nat.reduceAdd, Nat.reduceLeDiff, bsl_Sint, bld_Span, bld_spring_work, bld_spring_asked, enc_Line, enc_Reading, ocond_d, Int.toNat_natCast, bsl_Saguadorref01_left, enc_Lf, le_lo, le_hi, le_laylo, le_layhi, le_len, le_self, le_tak, le_over, up_same, up_up, Nat.add_sub_cancel, Nat.succ_eq_add_one, Nat.add_assoc, *]); rfl) | ((simp (disch := omega) only [obind_s, orun_s, ocond_t, fad_p, ld1_e, ldN_e, sto_e, cellO_c, wrO_c, Tr.get_same, Tr.get_other, nth_0, nth_s, drp_0, drp_s, drp_n, tak_0, tak_s, tak_n, over_n, over_c, lay_0, lay_s, lay_n, len_n, len_c, app_n, app_c, reps_0, reps_s, cel_agg, cel_int, cel_bool, cel_str, cel_sl, cel_ptr, cel_map, cel_func, cel_nilf, fil_n, fil_c, beq_r, ble_d, allF_n, allF_c, one_int, one_bool, one_str, one_sl, one_ptr, one_map, one_func, one_nilf, Bool.and_true, Bool.true_and, Bool.not_true, Bool.not_false, iadA_z, Int.reduceToNat, Int.toNat_zero, fl1_a, flN_a, extr_t, unot, not_d, Nat.add_eq, Nat.mul_eq, Nat.mul_one, Nat.one_mul, Nat.zero_mul, Nat.reduceMul, Nat.zero_add, Nat.add_zero, Nat.le_refl, decide_true, Nat.reduceAdd, Nat.reduceLeDiff, bsl_Sint, bld_Span, bld_spring_work, bld_spring_asked, enc_Line, enc_Reading, ocond_d, Int.toNat_natCast, bsl_Saguadorref01_left, enc_Lf, le_lo, le_hi, le_laylo, le_layhi, le_len, le_self, le_tak, le_over, up_same, up_up, Nat.add_sub_cancel, Nat.succ_eq_add_one, Nat.add_assoc, *]); done)) : p := h
theorem fr_Kg {p : Prop} (h : p := by first | assumption | exact Fr.refl _ _ | (simp (disch := omega) only [Fr_set, Fr_refl, *])) : p := h
theorem fl_Kg {p : Prop} (h : p := by first | with_unfolding_all rfl | exact Sl.flat (by assumption) | assumption) : p := h
theorem fll_Kg {p : Prop} (h : p := by first | with_unfolding_all rfl | ((repeat (refine flatL_k fl_Kg ?_)); with_unfolding_all rfl)) : p := h
theorem en_Kg {p : Prop} (h : p := by first | ((simp only [enc_int, enc_str, enc_u8, enc_bool, tak_s, tak_0, tak_n, drp_0, drp_s, drp_n, nth_s, nth_0, bsl_Sint, bld_Span, bld_spring_work, bld_spring_asked, enc_Line, enc_Reading, ocond_d, Int.toNat_natCast, bsl_Saguadorref01_left, enc_Lf, le_lo, le_hi, le_laylo, le_layhi, le_len, le_self, le_tak, le_over, up_same, up_up, Nat.add_sub_cancel]); rfl) | ((simp only [enc_int, enc_str, enc_u8, enc_bool, tak_s, tak_0, tak_n, drp_0, drp_s, drp_n, nth_s, nth_0, bsl_Sint, bld_Span, bld_spring_work, bld_spring_asked, enc_Line, enc_Reading, ocond_d, Int.toNat_natCast, bsl_Saguadorref01_left, enc_Lf, le_lo, le_hi, le_laylo, le_layhi, le_len, le_self, le_tak, le_over, up_same, up_up, Nat.add_sub_cancel]); done) | with_unfolding_all rfl) : p := h
theorem sM_Kg {p : Prop} (h : p := by (first | assumption | (simp (disch := omega) only [Tr.get_same, Tr.get_other, *]; rfl) | (simp (disch := omega) only [Tr.get_same, Tr.get_other, *]; done))) : p := h
theorem sS_Kg {p : Prop} (h : p := by first | assumption | exact s1_Kg) : p := h
theorem sR_Kg {p : Prop} (h : p := by first | assumption | exact s1_Kg | exact s2_Kg | with_unfolding_all rfl) : p := h
theorem op_Kg {p : Prop} (h : p := by first | with_reducible exact fad_p _ _ _ | with_reducible exact iop_lss _ _ | with_reducible exact iop_leq _ _ | with_reducible exact iop_gtr _ _ | with_reducible exact iop_geq _ _ | with_reducible exact iop_eql _ _ | with_reducible exact iop_neq _ _ | with_reducible exact Sl.len (by assumption) | with_reducible exact lenS_s _ _ _ | with_reducible exact Sl.iad (by assumption) (by with_unfolding_all rfl) (by first | assumption | omega) | with_reducible exact Sl.fad (by assumption) (by first | assumption | omega) | with_reducible exact Sl.ld1 (by assumption) fr_Kg (by with_unfolding_all rfl) (by assumption) en_Kg | with_reducible exact Sl.ldN (by assumption) fr_Kg (by with_unfolding_all rfl) (by assumption) (by with_unfolding_all rfl) en_Kg | with_reducible exact zadd1 (by omega) | with_reducible exact zsub1 (by omega) (by omega) | with_reducible exact zaddI (by omega) (by omega) | with_reducible exact zsubI (by omega) (by omega) | with_reducible exact min_z | with_reducible exact max_z | with_reducible exact zmulI (by assumption) | with_reducible exact zmulK (by omega) (by omega) | with_reducible exact quo_z (by omega) (by omega) (by omega) | with_reducible exact cv_u8 (by omega) | with_reducible exact rem_z (by omega) (by omega) (by omega) | with_reducible exact neq_bool (by kernel_rfl) | with_reducible exact eql_u8 | with_reducible exact wntT_t (by assumption) | with_reducible exact wntT_f (by assumption) | with_reducible exact wntF_t (by assumption) | with_reducible exact wntF_f (by assumption) | with_reducible exact wnt_tt | with_reducible exact wnt_tf | with_reducible exact wnt_ft | with_reducible exact wnt_ff | with_reducible exact wnt_u _ _ | with_reducible exact pck_t _ _ | with_reducible exact pck_f _ _ | with_reducible exact pckT (by assumption) | with_reducible exact pckF (by assumption) | with_reducible exact wntT_t (by decide) | with_reducible exact wntT_f (by decide) | with_reducible exact wntF_t (by decide) | with_reducible exact wntF_f (by decide) | with_reducible exact pckT (by decide) | with_reducible exact pckF (by decide) | with_reducible exact wntN_tt (by decide) | with_reducible exact wntN_tf (by decide) | with_reducible exact wntN_ft (by decide) | with_reducible exact wntN_ff (by decide) | with_reducible exact pckNT (by decide) | with_reducible exact pckNF (by decide) | with_reducible exact wntN_tt (by assumption) | with_reducible exact wntN_tf (by assumption) | with_reducible exact wntN_ft (by assumption) | with_reducible exact wntN_ff (by assumption) | with_reducible exact pckNT (by assumption) | with_reducible exact pckNF (by assumption) | with_reducible exact wntB_tt (by assumption) | with_reducible exact wntB_tf (by assumption) | with_reducible exact wntB_ft (by assumption) | with_reducible exact wntB_ff (by assumption) | with_reducible exact pckBT (by assumption) | with_reducible exact pckBF (by assumption) | exact s2_Kg | exact s1_Kg) : p := h
theorem co_Kg {p : Prop} (h : p := by first | (simp only [impB_1, impB_0, offB_1, offB_0]; done) | ((try simp only [impB_1, impB_0, offB_1, offB_0]); first | with_reducible exact Sl.ag1 (by assumption) fr_Kg (by with_unfolding_all rfl) (by assumption) en_Kg | with_reducible exact Sl.agN (by assumption) fr_Kg (by with_unfolding_all rfl) (by assumption) (by with_unfolding_all rfl) en_Kg | ((with_reducible refine agL1_e ?_ ?_); (· exact s1_Kg); (· exact fl_Kg)) | ((with_reducible refine agLN_e ?_ ?_); (· exact s1_Kg); (· exact fll_Kg)) | ((with_reducible apply ag_bs); (· exact sM_Kg); (· rfl); (· exact sb_Kg); (· exact fll_Kg)) | ((with_reducible apply ag_al); (· exact sM_Kg); (· rfl); (· exact fll_Kg)) | ((with_reducible apply ag_bx); (· exact sM_Kg); (· rfl); (· rfl); (· exact fll_Kg)) | ((with_reducible apply ag_bd); (· rfl); (· exact s1_Kg); (· exact fll_Kg)) | exact s1_Kg)) : p := h
theorem gs_Kg {r p : Prop} (k : r) (h : Go.Ev.Im r p := by (first | with_reducible apply Im.runS | ((with_reducible apply Im.num); · (simp only [Nat.succ_eq_add_one, Nat.add_assoc, Nat.reduceAdd]; rfl)) | (with_reducible apply Im.unm) | (with_reducible apply Im.selT) | (with_reducible apply Im.selF) | ((with_reducible apply Im.cndT); · assumption) | ((with_reducible apply Im.cndF); · assumption) | ((with_reducible apply Im.cndT); · decide) | ((with_reducible apply Im.cndF); · decide) | ((with_reducible apply Im.cndNT); · decide) | ((with_reducible apply Im.cndNF); · decide) | ((with_reducible apply Im.cndBT); · exact rfl) | ((with_reducible apply Im.cndBF); · exact rfl) | ((with_reducible apply Im.cndNT); · assumption) | ((with_reducible apply Im.cndNF); · assumption) | ((with_reducible apply Im.cndBT); · assumption) | ((with_reducible apply Im.cndBF); · assumption) | ((with_reducible apply Im.bind); · exact op_Kg) | ((with_reducible apply Im.cond); · exact co_Kg) | ((with_reducible apply Im.runB); · exact op_Kg) | ((with_reducible apply Im.runC); · exact co_Kg) | ((with_reducible apply Im.runN); · (simp only [Nat.succ_eq_add_one, Nat.add_assoc, Nat.reduceAdd]; rfl)) | with_reducible apply Im.runR | ((with_reducible apply Im.runE (x := evBuildSlice _ _ _ _ _ _)); · exact sb_Kg)); (repeat (first | with_reducible apply Im.runS | ((with_reducible apply Im.num); · (simp only [Nat.succ_eq_add_one, Nat.add_assoc, Nat.reduceAdd]; rfl)) | (with_reducible apply Im.unm) | (with_reducible apply Im.selT) | (with_reducible apply Im.selF) | ((with_reducible apply Im.cndT); · assumption) | ((with_reducible apply Im.cndF); · assumption) | ((with_reducible apply Im.cndT); · decide) | ((with_reducible apply Im.cndF); · decide) | ((with_reducible apply Im.cndNT); · decide) | ((with_reducible apply Im.cndNF); · decide) | ((with_reducible apply Im.cndBT); · exact rfl) | ((with_reducible apply Im.cndBF); · exact rfl) | ((with_reducible apply Im.cndNT); · assumption) | ((with_reducible apply Im.cndNF); · assumption) | ((with_reducible apply Im.cndBT); · assumption) | ((with_reducible apply Im.cndBF); · assumption) | ((with_reducible apply Im.bind); · exact op_Kg) | ((with_reducible apply Im.cond); · exact co_Kg) | ((with_reducible apply Im.runB); · exact op_Kg) | ((with_reducible apply Im.runC); · exact co_Kg) | ((with_reducible apply Im.runN); · (simp only [Nat.succ_eq_add_one, Nat.add_assoc, Nat.reduceAdd]; rfl)) | with_reducible apply Im.runR | ((with_reducible apply Im.runE (x := evBuildSlice _ _ _ _ _ _)); · exact sb_Kg))); exact Go.Ev.Im.id) : p := h k
theorem hlB_ok {j : Nat} : ∀ (L : List Bd) (v : Int × Int), (∀ f ∈ L, BdOk f) → (-1000000 ≤ v.1 ∧ v.1 ≤ 1000000 ∧ -1000000 ≤ v.2 ∧ v.2 ≤ 1000000) → -1000000 ≤ (hlB L v j).1 ∧ (hlB L v j).1 ≤ 1000000 ∧ -1000000 ≤ (hlB L v j).2 ∧ (hlB L v j).2 ≤ 1000000
  | [], v, _, h => h
  | f :: L, v, hL, h => by
    have hf := hL f (by simp) j
    refine hlB_ok L (arS v (f j)) (fun g hg => hL g (List.mem_cons_of_mem _ hg)) ?_
    unfold arS
    simp only []
    omega
theorem sl_iadA {α : Type} [Rwc α] {h : Tr Ob} {N w k e n m : Nat} {z : Int} {v : Value} {L : List α} (s : Sl h N v L) (hk : k < L.length) (h0 : 0 ≤ z) (h1 : z < n) : iadA n m (ptr w v k e) (.int .i64 z) = some (ptr w v k (e + z.toNat * m)) := by
  obtain ⟨p, c, rfl, hh⟩ := Shows.at_ s.sh
  rcases hh with hh | ⟨i, off, sp, ys, rfl, k2, k3, k4⟩
  · omega
  · show iadA n m (.pointer (some ⟨i, off + k * w + e, none⟩)) (.int .i64 z) = some (.pointer (some ⟨i, off + k * w + (e + z.toNat * m), none⟩))
    rw [iadA_z h0 h1, Nat.add_assoc]
theorem le_nlo (f : Bd) {k : Nat} (hk : k < 10) : nth (Rwc.enc (⟨f⟩ : Lf)) (0 + 0 + (k : Int).toNat * 1) = some (iS (f k).1) :=
  ten (p := fun k => nth (Rwc.enc (⟨f⟩ : Lf)) (0 + 0 + (k : Int).toNat * 1) = some (iS (f k).1)) rfl rfl rfl rfl rfl rfl rfl rfl rfl rfl k hk
theorem le_nhi (f : Bd) {k : Nat} (hk : k < 10) : nth (Rwc.enc (⟨f⟩ : Lf)) (0 + 10 + (k : Int).toNat * 1) = some (iS (f k).2) :=
  ten (p := fun k => nth (Rwc.enc (⟨f⟩ : Lf)) (0 + 10 + (k : Int).toNat * 1) = some (iS (f k).2)) rfl rfl rfl rfl rfl rfl rfl rfl rfl rfl k hk
theorem c_hull (call : CallF) {v : Value} {f0 : Lf} {L : List Lf} {w : Nat} {h N} (hn : L.length < 100) (hw : w < 10) (hv : Sl h N v (f0 :: L)) :
    Rn (s56 call v (nS w) h N) fun v h' N' => v = .agg ⟨[iS (hlB ((f0 :: L).map (·.f)) (f0.f w) w).1, iS (hlB ((f0 :: L).map (·.f)) (f0.f w) w).2]⟩ ∧ Gw h N h' N' := by
  unfold s56
  have cv := hv.flat
  have x1 := flatV_one cv
  have y1 := cel_flat cv
  have hlen : (f0 :: L).length = L.length + 1 := rfl
  have h0 : (f0 :: L)[0]? = some f0 := rfl
  have hz : iadS 20 v (.int .i64 0) = some (ptr 20 v 0 0) := hv.iad (k := 0) rfl (by omega)
  try refine gs_Kg ?_
  refine Rn.bind (sl_iadA hv (by omega) (by omega) (by omega)) ?_
  refine Rn.bind (hv.ld1 fr_Kg rfl h0 (le_nlo f0.f hw)) ?_
  try refine gs_Kg ?_
  refine Rn.bind (sl_iadA hv (by omega) (by omega) (by omega)) ?_
  refine Rn.bind (hv.ld1 fr_Kg rfl h0 (le_nhi f0.f hw)) ?_
  try refine gs_Kg ?_
  refine Rn.cond (hv.ag1 fr_Kg rfl h0 (le_nhi f0.f hw)) ?_
  refine Rn.cond (hv.ag1 fr_Kg rfl h0 (le_nlo f0.f hw)) ?_
  try refine gs_Kg ?_
  have hini : (min (f0.f w).1 (f0.f w).1, max (f0.f w).2 (f0.f w).2) = f0.f w := by apply Prod.ext <;> simp
  refine Rn.loop6 (fun m a1 a2 a3 a4 a5 a6 g M => ∃ i : Nat, a1 = nS w ∧ a2 = .pointer (some ⟨N, 0, none⟩) ∧ a3 = .pointer (some ⟨N + 1, 0, none⟩) ∧ v = a4 ∧ a5 = nS (f0 :: L).length ∧ a6 = nS i ∧ i + m = (f0 :: L).length ∧ Fr h N g ∧ N + 2 ≤ M ∧ g.get N = some (.c [iS 0, iS 0] 23) ∧ g.get (N + 1) = some (.c [iS (hlB (((f0 :: L).map (·.f)).take i) (f0.f w) w).1, iS (hlB (((f0 :: L).map (·.f)).take i) (f0.f w) w).2] 23)) (f0 :: L).length (by omega)
    ⟨0, rfl, rfl, rfl, rfl, rfl, rfl, by omega, fr_Kg, by omega, sR_Kg, sR_Kg⟩ ?_
  rintro m g ih _ _ _ _ _ _ h2 N2 ⟨i, rfl, rfl, rfl, q0, rfl, rfl, e2, f2, l2, g1, g2⟩
  subst q0
  try refine gs_Kg ?_
  (first | with_reducible refine Rn.cnd (fun _ => ?_) (fun _ => ?_) | with_reducible refine Rn.cndN (fun _ => ?_) (fun _ => ?_) | with_reducible refine Rn.cndB (fun _ => ?_) (fun _ => ?_))
  · obtain ⟨x, hx⟩ := at_of (L := f0 :: L) (k := i) (by omega)
    have hi : i < (f0 :: L).length := by omega
    have et : hlB (((f0 :: L).map (·.f)).take (i + 1)) (f0.f w) w = (min (hlB (((f0 :: L).map (·.f)).take i) (f0.f w) w).1 (x.f w).1, max (hlB (((f0 :: L).map (·.f)).take i) (f0.f w) w).2 (x.f w).2) := by
      rw [List.take_add_one, List.getElem?_map, hx]
      simp only [Option.map_some, Option.toList_some, hlB_snoc]
      rfl
    generalize hlB (((f0 :: L).map (·.f)).take i) (f0.f w) w = V at g2 et
    try refine gs_Kg ?_
    exact ih (m - 1) (by omega) _ _ _ _ _ _ _ _ ⟨i + 1, rfl, rfl, rfl, rfl, rfl, rfl, by omega, fr_Kg, by omega, sS_Kg, by rw [et]; exact sR_Kg⟩
  · obtain rfl : i = (f0 :: L).length := by omega
    rw [List.take_of_length_le (by simp)] at g2
    try refine gs_Kg ?_
    exact Rn.ret ⟨rfl, (Gw.of fr_Kg (by omega))⟩
theorem lfs_map (s : Sp) (f : Bd) (L : List Int) : (lfs s f L).map (·.f) = L.map (leavesF s f) := by simp [lfs]
theorem leavesF_ok {s : Sp} {f : Bd} (hs : OkS s) (hf : BdOk f) (r : Int) : BdOk (leavesF s f r) := nar_ok hs.ok (fold_ok (fun f x hx h => addL_ok h (hs.book x hx)) hf)
section
variable {s : Sp} {b r : Value}
theorem c_wide (call : CallF) {f : Bd} {h N} (hs : OkS s) (hf : BdOk f) (hb : Sl h N b s.book) (hr : Sl h N r s.reads) :
    Rn (s91 call (.agg ⟨[iS s.weeks, iS s.most, iS s.fall, iS s.slo, iS s.shi, iS s.wlo, iS s.whi, b, r]⟩) (.agg ⟨leC f⟩) h N) fun v h' N' => v = iS (wiF s f) ∧ Gw h N h' N' := by
  unfold s91
  have cb := hb.flat; have cr := hr.flat; have x1 := flatV_one cb; have y1 := cel_flat cb; have x2 := flatV_one cr; have y2 := cel_flat cr
  obtain ⟨w1, w2, m1, m2, p1, p2, a1, a2, a3, v1, v2, v3⟩ := hs.ok
  try refine gs_Kg ?_
  refine Rn.call (c_rained call hs hf (Sl.up (by assumption) fr_Kg (by omega)) cr) ?_
  rintro _ h1 N1 ⟨⟨p, q, rfl, k1, k2⟩, f1, o1, l1⟩
  have hlen : (rainsF s f).length ≤ 21 := by
    have := rainsFN_len s f (rainN s)
    unfold rainN at this
    unfold rainsF rainN
    omega
  have hmap := lfs_map s f (rainsF s f)
  have hbd : ∀ g ∈ (lfs s f (rainsF s f)).map (·.f), BdOk g := by
    intro g hg
    rw [hmap] at hg
    obtain ⟨r, _, rfl⟩ := List.mem_map.1 hg
    exact leavesF_ok hs hf r
  have hll : (lfs s f (rainsF s f)).length = (rainsF s f).length := by simp [lfs]
  have ew : wiF s f = wdB (-1) s.weeks.toNat ((lfs s f (rainsF s f)).map (·.f)) := by rw [hmap]; rfl
  rw [ew]
  clear ew hmap
  rw [← hll] at hlen
  generalize lfs s f (rainsF s f) = K at *
  have c1 := k2.flat
  have x3 := flatV_one c1
  have y3 := cel_flat c1
  cases K with
  | nil =>
    have hz : ((([] : List Lf).length : Nat) : Int) = 0 := rfl
    try refine gs_Kg ?_
    exact Rn.ret ⟨rfl, (Gw.of fr_Kg (by omega))⟩
  | cons x0 L =>
    have hz : ¬ (((x0 :: L).length : Nat) : Int) = 0 := by simp; omega
    have hnl : L.length < 100 := by simp at hlen; omega
    rw [show ((x0 :: L).map (·.f)) = x0.f :: L.map (·.f) from rfl, wdB_cons]
    have hB : BdOk (fun j => hlB (x0.f :: L.map (·.f)) (x0.f j) j) := fun j => hlB_ok _ _ hbd (hbd x0.f (by simp) j)
    have hsm := smW_ok hB
    try refine gs_Kg ?_
    have m0 : h1.get N = some (.c [iS s.weeks, iS s.most, iS s.fall, iS s.slo, iS s.shi, iS s.wlo, iS s.whi, b, r] 27) := sS_Kg
    refine Rn.loop4 (fun m a1 a2 a3 a4 g M => ∃ j : Nat, a1 = .pointer (some ⟨N, 0, none⟩) ∧ q = a2 ∧ a3 = iS (smW (fun j => hlB (x0.f :: L.map (·.f)) (x0.f j) j) j) ∧ a4 = nS j ∧ (j : Int) + m = s.weeks ∧ Fr h1 N1 g ∧ N1 ≤ M) s.weeks.toNat (by omega)
      ⟨0, rfl, rfl, rfl, rfl, by omega, Fr.refl _ _, Nat.le_refl _⟩ ?_
    rintro m g ih _ _ _ _ h2 N2 ⟨j, rfl, q0, rfl, rfl, e2, f2, l2⟩
    subst q0
    have p0 := (f2 N (by omega)).trans m0
    try refine gs_Kg ?_
    (first | with_reducible refine Rn.cnd (fun _ => ?_) (fun _ => ?_) | with_reducible refine Rn.cndN (fun _ => ?_) (fun _ => ?_) | with_reducible refine Rn.cndB (fun _ => ?_) (fun _ => ?_))
    · have hj : j < 10 := by omega
      have es : smW (fun j => hlB (x0.f :: L.map (·.f)) (x0.f j) j) (j + 1) = smW (fun j => hlB (x0.f :: L.map (·.f)) (x0.f j) j) j + ((hlB (x0.f :: L.map (·.f)) (x0.f j) j).2 - (hlB (x0.f :: L.map (·.f)) (x0.f j) j).1) := rfl
      have b1 := hsm j
      have b2 : -1000000 ≤ (hlB (x0.f :: L.map (·.f)) (x0.f j) j).1 ∧ (hlB (x0.f :: L.map (·.f)) (x0.f j) j).1 ≤ 1000000 ∧ -1000000 ≤ (hlB (x0.f :: L.map (·.f)) (x0.f j) j).2 ∧ (hlB (x0.f :: L.map (·.f)) (x0.f j) j).2 ≤ 1000000 := hB j
      try refine gs_Kg ?_
      refine Rn.call (c_hull call (f0 := x0) (L := L) hnl hj (Sl.up (by assumption) fr_Kg (by omega))) ?_
      rintro _ h3 N3 ⟨rfl, f3, o3, l3⟩
      rw [show ((x0 :: L).map (·.f)) = x0.f :: L.map (·.f) from rfl]
      generalize hlB (x0.f :: L.map (·.f)) (x0.f j) j = V at *
      generalize smW (fun j => hlB (x0.f :: L.map (·.f)) (x0.f j) j) j = X at *
      try refine gs_Kg ?_
      exact ih (m - 1) (by omega) _ _ _ _ _ _ ⟨j + 1, rfl, rfl, by rw [es], rfl, by omega, fr_Kg, by omega⟩
    · obtain rfl : j = s.weeks.toNat := by omega
      try refine gs_Kg ?_
      exact Rn.ret ⟨rfl, Gw.of (fun k hk => (f2 k (by omega)).trans (show h1.get k = h.get k from sS_Kg)) (by omega)⟩
theorem c_Left (call : CallF) {w : Nat} {h N} (hs : OkS s) (hw : w < s.weeks.toNat) (hb : Sl h N b s.book) (hr : Sl h N r s.reads) :
    Rn (s51 call (.agg ⟨[iS s.weeks, iS s.most, iS s.fall, iS s.slo, iS s.shi, iS s.wlo, iS s.whi, b, r]⟩) (nS w) h N) fun v h' N' => v = iS (leftS s w) ∧ Gw h N h' N' := by
  unfold s51
  have cb := hb.flat; have cr := hr.flat; have x1 := flatV_one cb; have y1 := cel_flat cb; have x2 := flatV_one cr; have y2 := cel_flat cr
  have hbo := base_ok hs
  obtain ⟨w1, w2, m1, m2, p1, p2, a1, a2, a3, v1, v2, v3⟩ := hs.ok
  have hw10 : w < 10 := by omega
  have hbw := hbo w
  have hbx : 0 ≤ (baseS s w).1 ∧ (baseS s w).2 ≤ 100 := by
    have h := red_bd (s := s) hw
    rw [base_red hs, if_pos hw]
    split
    · omega
    · simp; omega
  try refine gs_Kg ?_
  refine Rn.call (c_base call hs (Sl.up (by assumption) fr_Kg (by omega)) cb) ?_
  rintro _ h1 N1 ⟨rfl, f1, o1, l1⟩
  have eL : leftS s w = mxN (fun i => wiB s w ((baseS s w).1 + i)) ((baseS s w).2 + 1 - (baseS s w).1).toNat := rfl
  have eW : ∀ i, wiB s w i = wiF s (up (baseS s) w (i, i)) := fun i => rfl
  rw [eL]
  clear eL
  simp only [eW]
  clear eW
  generalize baseS s = B at *
  try refine gs_Kg ?_
  have m0 : h1.get N = some (.c [iS s.weeks, iS s.most, iS s.fall, iS s.slo, iS s.shi, iS s.wlo, iS s.whi, b, r] 27) := sS_Kg
  refine Rn.loop5 (fun m a1 a2 a3 a4 a5 g M => ∃ j : Nat, a1 = nS w ∧ a2 = .pointer (some ⟨N, 0, none⟩) ∧ a3 = .pointer (some ⟨N1, 0, none⟩) ∧ a4 = iS (mxN (fun i => wiF s (up B w ((B w).1 + i, (B w).1 + i))) j) ∧ a5 = iS ((B w).1 + j) ∧ j + m = ((B w).2 + 1 - (B w).1).toNat ∧ Fr h1 N1 g ∧ N1 + 1 ≤ M ∧ g.get N1 = some (.c (leC B) 104)) ((B w).2 + 1 - (B w).1).toNat (by omega)
    ⟨0, rfl, rfl, rfl, rfl, by simp, by omega, fr_Kg, by omega, sR_Kg⟩ ?_
  rintro m g ih _ _ _ _ _ h2 N2 ⟨j, rfl, rfl, rfl, rfl, rfl, e2, f2, l2, g2⟩
  have p0 := (f2 N (by omega)).trans m0
  try refine gs_Kg ?_
  (first | with_reducible refine Rn.cnd (fun _ => ?_) (fun _ => ?_) | with_reducible refine Rn.cndN (fun _ => ?_) (fun _ => ?_) | with_reducible refine Rn.cndB (fun _ => ?_) (fun _ => ?_))
  · have em : mxN (fun i => wiF s (up B w ((B w).1 + i, (B w).1 + i))) (j + 1) = max (mxN (fun i => wiF s (up B w ((B w).1 + i, (B w).1 + i))) j) (wiF s (up B w ((B w).1 + j, (B w).1 + j))) := rfl
    generalize mxN (fun i => wiF s (up B w ((B w).1 + i, (B w).1 + i))) j = X at *
    try refine gs_Kg ?_
    refine Rn.call (c_wide call (f := up B w ((B w).1 + j, (B w).1 + j)) hs (hbo.up w (by omega) (by omega)) ?_ ?_) ?_
    · exact (hb.up (N' := N1) (h' := h1) fr_Kg (by omega)).up (fun z hz => (show _ = h2.get z from sS_Kg).trans (f2 z hz)) (by omega)
    · exact (hr.up (N' := N1) (h' := h1) fr_Kg (by omega)).up (fun z hz => (show _ = h2.get z from sS_Kg).trans (f2 z hz)) (by omega)
    rintro _ h3 N3 ⟨rfl, f3, o3, l3⟩
    try refine gs_Kg ?_
    exact ih (m - 1) (by omega) _ _ _ _ _ _ _ ⟨j + 1, rfl, rfl, rfl, by rw [em], by rw [show (B w).1 + ((j + 1 : Nat) : Int) = (B w).1 + (j : Int) + 1 by omega], by omega, fr_Kg, by omega, sS_Kg⟩
  · have ej : ((B w).2 + 1 - (B w).1).toNat = j := by omega
    rw [ej]
    try refine gs_Kg ?_
    exact Rn.ret ⟨rfl, Gw.of (fun k hk => (f2 k (by omega)).trans (show h1.get k = h.get k from sS_Kg)) (by omega)⟩
end
end Go.Proofs.Ytpilgokdbliklaa
end

