/-
  What the functions of the law return.
  Conditions: none.
-/
import Derived.Test.YtkgjfpgccnonfaaLa

section
namespace Go.Proofs.Ytkgjfpgccnonfaa
open Go.Ev Go.RowKit
set_option linter.unusedVariables false
set_option linter.unusedSimpArgs false
set_option linter.unusedSectionVars false
set_option maxRecDepth 100000
set_option maxHeartbeats 4000000
theorem fr_Cg {p : Prop} (h : p := by first | assumption | exact Fr.refl _ _ | (simp (disch := omega) only [Fr_set, Fr_refl, *])) : p := h
theorem fl_Cg {p : Prop} (h : p := by first | with_unfolding_all rfl | exact Sl.flat (by assumption) | assumption) : p := h
theorem fll_Cg {p : Prop} (h : p := by first | with_unfolding_all rfl | ((repeat (refine flatL_k fl_Cg ?_)); with_unfolding_all rfl)) : p := h
theorem en_Cg {p : Prop} (h : p := by first | ((simp only [enc_int, enc_str, enc_u8, enc_bool, tak_s, tak_0, tak_n, drp_0, drp_s, drp_n, nth_s, nth_0, bsl_Sint, bsl_SLink, bld_Span, bld_Town, enc_Link]); rfl) | ((simp only [enc_int, enc_str, enc_u8, enc_bool, tak_s, tak_0, tak_n, drp_0, drp_s, drp_n, nth_s, nth_0, bsl_Sint, bsl_SLink, bld_Span, bld_Town, enc_Link]); done) | with_unfolding_all rfl) : p := h
theorem sM_Cg {p : Prop} (h : p := by (first | assumption | (simp (disch := omega) only [Tr.get_same, Tr.get_other, *]; rfl) | (simp (disch := omega) only [Tr.get_same, Tr.get_other, *]; done))) : p := h
theorem sS_Cg {p : Prop} (h : p := by first | assumption | (simp (disch := omega) only [obind_s, orun_s, ocond_t, fad_p, ld1_e, ldN_e, sto_e, cellO_c, wrO_c, Tr.get_same, Tr.get_other, nth_0, nth_s, drp_0, drp_s, drp_n, tak_0, tak_s, tak_n, over_n, over_c, lay_0, lay_s, lay_n, len_n, len_c, app_n, app_c, reps_0, reps_s, cel_agg, cel_int, cel_bool, cel_str, cel_sl, cel_ptr, cel_map, cel_func, cel_nilf, fil_n, fil_c, beq_r, ble_d, allF_n, allF_c, one_int, one_bool, one_str, one_sl, one_ptr, one_map, one_func, one_nilf, Bool.and_true, Bool.true_and, Bool.not_true, Bool.not_false, iadA_z, Int.reduceToNat, Int.toNat_zero, fl1_a, flN_a, extr_t, unot, not_d, Nat.add_eq, Nat.mul_eq, Nat.mul_one, Nat.one_mul, Nat.zero_mul, Nat.reduceMul, Nat.zero_add, Nat.add_zero, Nat.le_refl, decide_true, Nat.reduceAdd, Nat.reduceLeDiff, bsl_Sint, bsl_SLink, bld_Span, bld_Town, enc_Link, *])) : p := h
theorem op_Cg {p : Prop} (h : p := by first | with_reducible exact fad_p _ _ _ | with_reducible exact iop_lss _ _ | with_reducible exact iop_leq _ _ | with_reducible exact iop_gtr _ _ | with_reducible exact iop_geq _ _ | with_reducible exact iop_eql _ _ | with_reducible exact iop_neq _ _ | with_reducible exact Sl.len (by assumption) | with_reducible exact lenS_s _ _ _ | with_reducible exact Sl.iad (by assumption) (by with_unfolding_all rfl) (by first | assumption | omega) | with_reducible exact Sl.fad (by assumption) (by first | assumption | omega) | with_reducible exact Sl.ld1 (by assumption) fr_Cg (by with_unfolding_all rfl) (by assumption) en_Cg | with_reducible exact Sl.ldN (by assumption) fr_Cg (by with_unfolding_all rfl) (by assumption) (by with_unfolding_all rfl) en_Cg | with_reducible exact zadd1 (by omega) | with_reducible exact zsub1 (by omega) (by omega) | with_reducible exact zaddI (by omega) (by omega) | with_reducible exact zsubI (by omega) (by omega) | with_reducible exact wntT_t (by assumption) | with_reducible exact wntT_f (by assumption) | with_reducible exact wntF_t (by assumption) | with_reducible exact wntF_f (by assumption) | with_reducible exact wnt_tt | with_reducible exact wnt_tf | with_reducible exact wnt_ft | with_reducible exact wnt_ff | with_reducible exact wnt_u _ _ | with_reducible exact pck_t _ _ | with_reducible exact pck_f _ _ | with_reducible exact pckT (by assumption) | with_reducible exact pckF (by assumption) | with_reducible exact wntN_tt (by assumption) | with_reducible exact wntN_tf (by assumption) | with_reducible exact wntN_ft (by assumption) | with_reducible exact wntN_ff (by assumption) | with_reducible exact pckNT (by assumption) | with_reducible exact pckNF (by assumption) | with_reducible exact wntB_tt (by assumption) | with_reducible exact wntB_tf (by assumption) | with_reducible exact wntB_ft (by assumption) | with_reducible exact wntB_ff (by assumption) | with_reducible exact pckBT (by assumption) | with_reducible exact pckBF (by assumption) | (simp (disch := omega) only [obind_s, orun_s, ocond_t, fad_p, ld1_e, ldN_e, sto_e, cellO_c, wrO_c, Tr.get_same, Tr.get_other, nth_0, nth_s, drp_0, drp_s, drp_n, tak_0, tak_s, tak_n, over_n, over_c, lay_0, lay_s, lay_n, len_n, len_c, app_n, app_c, reps_0, reps_s, cel_agg, cel_int, cel_bool, cel_str, cel_sl, cel_ptr, cel_map, cel_func, cel_nilf, fil_n, fil_c, beq_r, ble_d, allF_n, allF_c, one_int, one_bool, one_str, one_sl, one_ptr, one_map, one_func, one_nilf, Bool.and_true, Bool.true_and, Bool.not_true, Bool.not_false, iadA_z, Int.reduceToNat, Int.toNat_zero, fl1_a, flN_a, extr_t, unot, not_d, Nat.add_eq, Nat.mul_eq, Nat.mul_one, Nat.one_mul, Nat.zero_mul, Nat.reduceMul, Nat.zero_add, Nat.add_zero, Nat.le_refl, decide_true, Nat.reduceAdd, Nat.reduceLeDiff, bsl_Sint, bsl_SLink, bld_Span, bld_Town, enc_Link, *]; rfl) | (simp (disch := omega) only [obind_s, orun_s, ocond_t, fad_p, ld1_e, ldN_e, sto_e, cellO_c, wrO_c, Tr.get_same, Tr.get_other, nth_0, nth_s, drp_0, drp_s, drp_n, tak_0, tak_s, tak_n, over_n, over_c, lay_0, lay_s, lay_n, len_n, len_c, app_n, app_c, reps_0, reps_s, cel_agg, cel_int, cel_bool, cel_str, cel_sl, cel_ptr, cel_map, cel_func, cel_nilf, fil_n, fil_c, beq_r, ble_d, allF_n, allF_c, one_int, one_bool, one_str, one_sl, one_ptr, one_map, one_func, one_nilf, Bool.and_true, Bool.true_and, Bool.not_true, Bool.not_false, iadA_z, Int.reduceToNat, Int.toNat_zero, fl1_a, flN_a, extr_t, unot, not_d, Nat.add_eq, Nat.mul_eq, Nat.mul_one, Nat.one_mul, Nat.zero_mul, Nat.reduceMul, Nat.zero_add, Nat.add_zero, Nat.le_refl, decide_true, Nat.reduceAdd, Nat.reduceLeDiff, bsl_Sint, bsl_SLink, bld_Span, bld_Town, enc_Link, *]; done)) : p := h
theorem co_Cg {p : Prop} (h : p := by first | (simp only [impB_1, impB_0, offB_1, offB_0]; done) | ((try simp only [impB_1, impB_0, offB_1, offB_0]); first | with_reducible exact Sl.ag1 (by assumption) fr_Cg (by with_unfolding_all rfl) (by assumption) en_Cg | with_reducible exact Sl.agN (by assumption) fr_Cg (by with_unfolding_all rfl) (by assumption) (by with_unfolding_all rfl) en_Cg | ((with_reducible refine agL1_e ?_ ?_); (· (simp (disch := omega) only [obind_s, orun_s, ocond_t, fad_p, ld1_e, ldN_e, sto_e, cellO_c, wrO_c, Tr.get_same, Tr.get_other, nth_0, nth_s, drp_0, drp_s, drp_n, tak_0, tak_s, tak_n, over_n, over_c, lay_0, lay_s, lay_n, len_n, len_c, app_n, app_c, reps_0, reps_s, cel_agg, cel_int, cel_bool, cel_str, cel_sl, cel_ptr, cel_map, cel_func, cel_nilf, fil_n, fil_c, beq_r, ble_d, allF_n, allF_c, one_int, one_bool, one_str, one_sl, one_ptr, one_map, one_func, one_nilf, Bool.and_true, Bool.true_and, Bool.not_true, Bool.not_false, iadA_z, Int.reduceToNat, Int.toNat_zero, fl1_a, flN_a, extr_t, unot, not_d, Nat.add_eq, Nat.mul_eq, Nat.mul_one, Nat.one_mul, Nat.zero_mul, Nat.reduceMul, Nat.zero_add, Nat.add_zero, Nat.le_refl, decide_true, Nat.reduceAdd, Nat.reduceLeDiff, bsl_Sint, bsl_SLink, bld_Span, bld_Town, enc_Link, *]; done)); (· exact fl_Cg)) | ((with_reducible refine agLN_e ?_ ?_); (· (simp (disch := omega) only [obind_s, orun_s, ocond_t, fad_p, ld1_e, ldN_e, sto_e, cellO_c, wrO_c, Tr.get_same, Tr.get_other, nth_0, nth_s, drp_0, drp_s, drp_n, tak_0, tak_s, tak_n, over_n, over_c, lay_0, lay_s, lay_n, len_n, len_c, app_n, app_c, reps_0, reps_s, cel_agg, cel_int, cel_bool, cel_str, cel_sl, cel_ptr, cel_map, cel_func, cel_nilf, fil_n, fil_c, beq_r, ble_d, allF_n, allF_c, one_int, one_bool, one_str, one_sl, one_ptr, one_map, one_func, one_nilf, Bool.and_true, Bool.true_and, Bool.not_true, Bool.not_false, iadA_z, Int.reduceToNat, Int.toNat_zero, fl1_a, flN_a, extr_t, unot, not_d, Nat.add_eq, Nat.mul_eq, Nat.mul_one, Nat.one_mul, Nat.zero_mul, Nat.reduceMul, Nat.zero_add, Nat.add_zero, Nat.le_refl, decide_true, Nat.reduceAdd, Nat.reduceLeDiff, bsl_Sint, bsl_SLink, bld_Span, bld_Town, enc_Link, *]; done)); (· exact fll_Cg)) | ((with_reducible apply ag_bs); (· exact sM_Cg); (· rfl); (· (simp (disch := omega) only [obind_s, orun_s, ocond_t, fad_p, ld1_e, ldN_e, sto_e, cellO_c, wrO_c, Tr.get_same, Tr.get_other, nth_0, nth_s, drp_0, drp_s, drp_n, tak_0, tak_s, tak_n, over_n, over_c, lay_0, lay_s, lay_n, len_n, len_c, app_n, app_c, reps_0, reps_s, cel_agg, cel_int, cel_bool, cel_str, cel_sl, cel_ptr, cel_map, cel_func, cel_nilf, fil_n, fil_c, beq_r, ble_d, allF_n, allF_c, one_int, one_bool, one_str, one_sl, one_ptr, one_map, one_func, one_nilf, Bool.and_true, Bool.true_and, Bool.not_true, Bool.not_false, iadA_z, Int.reduceToNat, Int.toNat_zero, fl1_a, flN_a, extr_t, unot, not_d, Nat.add_eq, Nat.mul_eq, Nat.mul_one, Nat.one_mul, Nat.zero_mul, Nat.reduceMul, Nat.zero_add, Nat.add_zero, Nat.le_refl, decide_true, Nat.reduceAdd, Nat.reduceLeDiff, bsl_Sint, bsl_SLink, bld_Span, bld_Town, enc_Link, Nat.succ_eq_add_one, Nat.add_assoc, *])); (· exact fll_Cg)) | ((with_reducible apply ag_al); (· exact sM_Cg); (· rfl); (· exact fll_Cg)) | ((with_reducible apply ag_bx); (· exact sM_Cg); (· rfl); (· rfl); (· exact fll_Cg)) | ((with_reducible apply ag_bd); (· rfl); (· (simp (disch := omega) only [obind_s, orun_s, ocond_t, fad_p, ld1_e, ldN_e, sto_e, cellO_c, wrO_c, Tr.get_same, Tr.get_other, nth_0, nth_s, drp_0, drp_s, drp_n, tak_0, tak_s, tak_n, over_n, over_c, lay_0, lay_s, lay_n, len_n, len_c, app_n, app_c, reps_0, reps_s, cel_agg, cel_int, cel_bool, cel_str, cel_sl, cel_ptr, cel_map, cel_func, cel_nilf, fil_n, fil_c, beq_r, ble_d, allF_n, allF_c, one_int, one_bool, one_str, one_sl, one_ptr, one_map, one_func, one_nilf, Bool.and_true, Bool.true_and, Bool.not_true, Bool.not_false, iadA_z, Int.reduceToNat, Int.toNat_zero, fl1_a, flN_a, extr_t, unot, not_d, Nat.add_eq, Nat.mul_eq, Nat.mul_one, Nat.one_mul, Nat.zero_mul, Nat.reduceMul, Nat.zero_add, Nat.add_zero, Nat.le_refl, decide_true, Nat.reduceAdd, Nat.reduceLeDiff, bsl_Sint, bsl_SLink, bld_Span, bld_Town, enc_Link, *])); (· exact fll_Cg)) | (simp (disch := omega) only [obind_s, orun_s, ocond_t, fad_p, ld1_e, ldN_e, sto_e, cellO_c, wrO_c, Tr.get_same, Tr.get_other, nth_0, nth_s, drp_0, drp_s, drp_n, tak_0, tak_s, tak_n, over_n, over_c, lay_0, lay_s, lay_n, len_n, len_c, app_n, app_c, reps_0, reps_s, cel_agg, cel_int, cel_bool, cel_str, cel_sl, cel_ptr, cel_map, cel_func, cel_nilf, fil_n, fil_c, beq_r, ble_d, allF_n, allF_c, one_int, one_bool, one_str, one_sl, one_ptr, one_map, one_func, one_nilf, Bool.and_true, Bool.true_and, Bool.not_true, Bool.not_false, iadA_z, Int.reduceToNat, Int.toNat_zero, fl1_a, flN_a, extr_t, unot, not_d, Nat.add_eq, Nat.mul_eq, Nat.mul_one, Nat.one_mul, Nat.zero_mul, Nat.reduceMul, Nat.zero_add, Nat.add_zero, Nat.le_refl, decide_true, Nat.reduceAdd, Nat.reduceLeDiff, bsl_Sint, bsl_SLink, bld_Span, bld_Town, enc_Link, *]; done))) : p := h
theorem gs_Cg {r p : Prop} (k : r) (h : Go.Ev.Im r p := by (first | with_reducible apply Im.runS | ((with_reducible apply Im.num); · (simp only [Nat.succ_eq_add_one, Nat.add_assoc, Nat.reduceAdd]; rfl)) | (with_reducible apply Im.unm) | (with_reducible apply Im.selT) | (with_reducible apply Im.selF) | ((with_reducible apply Im.cndT); · assumption) | ((with_reducible apply Im.cndF); · assumption) | ((with_reducible apply Im.cndBT); · exact rfl) | ((with_reducible apply Im.cndBF); · exact rfl) | ((with_reducible apply Im.cndNT); · assumption) | ((with_reducible apply Im.cndNF); · assumption) | ((with_reducible apply Im.cndBT); · assumption) | ((with_reducible apply Im.cndBF); · assumption) | ((with_reducible apply Im.bind); · exact op_Cg) | ((with_reducible apply Im.cond); · exact co_Cg) | ((with_reducible apply Im.runB); · exact op_Cg) | ((with_reducible apply Im.runC); · exact co_Cg) | ((with_reducible apply Im.runN); · (simp only [Nat.succ_eq_add_one, Nat.add_assoc, Nat.reduceAdd]; rfl)) | with_reducible apply Im.runR | ((with_reducible apply Im.runE (x := evBuildSlice _ _ _ _ _ _)); · (simp (disch := omega) only [obind_s, orun_s, ocond_t, fad_p, ld1_e, ldN_e, sto_e, cellO_c, wrO_c, Tr.get_same, Tr.get_other, nth_0, nth_s, drp_0, drp_s, drp_n, tak_0, tak_s, tak_n, over_n, over_c, lay_0, lay_s, lay_n, len_n, len_c, app_n, app_c, reps_0, reps_s, cel_agg, cel_int, cel_bool, cel_str, cel_sl, cel_ptr, cel_map, cel_func, cel_nilf, fil_n, fil_c, beq_r, ble_d, allF_n, allF_c, one_int, one_bool, one_str, one_sl, one_ptr, one_map, one_func, one_nilf, Bool.and_true, Bool.true_and, Bool.not_true, Bool.not_false, iadA_z, Int.reduceToNat, Int.toNat_zero, fl1_a, flN_a, extr_t, unot, not_d, Nat.add_eq, Nat.mul_eq, Nat.mul_one, Nat.one_mul, Nat.zero_mul, Nat.reduceMul, Nat.zero_add, Nat.add_zero, Nat.le_refl, decide_true, Nat.reduceAdd, Nat.reduceLeDiff, bsl_Sint, bsl_SLink, bld_Span, bld_Town, enc_Link, Nat.succ_eq_add_one, Nat.add_assoc, *]; rfl))); (repeat (first | with_reducible apply Im.runS | ((with_reducible apply Im.num); · (simp only [Nat.succ_eq_add_one, Nat.add_assoc, Nat.reduceAdd]; rfl)) | (with_reducible apply Im.unm) | (with_reducible apply Im.selT) | (with_reducible apply Im.selF) | ((with_reducible apply Im.cndT); · assumption) | ((with_reducible apply Im.cndF); · assumption) | ((with_reducible apply Im.cndBT); · exact rfl) | ((with_reducible apply Im.cndBF); · exact rfl) | ((with_reducible apply Im.cndNT); · assumption) | ((with_reducible apply Im.cndNF); · assumption) | ((with_reducible apply Im.cndBT); · assumption) | ((with_reducible apply Im.cndBF); · assumption) | ((with_reducible apply Im.bind); · exact op_Cg) | ((with_reducible apply Im.cond); · exact co_Cg) | ((with_reducible apply Im.runB); · exact op_Cg) | ((with_reducible apply Im.runC); · exact co_Cg) | ((with_reducible apply Im.runN); · (simp only [Nat.succ_eq_add_one, Nat.add_assoc, Nat.reduceAdd]; rfl)) | with_reducible apply Im.runR | ((with_reducible apply Im.runE (x := evBuildSlice _ _ _ _ _ _)); · (simp (disch := omega) only [obind_s, orun_s, ocond_t, fad_p, ld1_e, ldN_e, sto_e, cellO_c, wrO_c, Tr.get_same, Tr.get_other, nth_0, nth_s, drp_0, drp_s, drp_n, tak_0, tak_s, tak_n, over_n, over_c, lay_0, lay_s, lay_n, len_n, len_c, app_n, app_c, reps_0, reps_s, cel_agg, cel_int, cel_bool, cel_str, cel_sl, cel_ptr, cel_map, cel_func, cel_nilf, fil_n, fil_c, beq_r, ble_d, allF_n, allF_c, one_int, one_bool, one_str, one_sl, one_ptr, one_map, one_func, one_nilf, Bool.and_true, Bool.true_and, Bool.not_true, Bool.not_false, iadA_z, Int.reduceToNat, Int.toNat_zero, fl1_a, flN_a, extr_t, unot, not_d, Nat.add_eq, Nat.mul_eq, Nat.mul_one, Nat.one_mul, Nat.zero_mul, Nat.reduceMul, Nat.zero_add, Nat.add_zero, Nat.le_refl, decide_true, Nat.reduceAdd, Nat.reduceLeDiff, bsl_Sint, bsl_SLink, bld_Span, bld_Town, enc_Link, Nat.succ_eq_add_one, Nat.add_assoc, *]; rfl)))); exact Go.Ev.Im.id) : p := h k
def inB (n a b : Int) : Bool := decide (a ≤ n ∧ n ≤ b)
theorem r_within (call : CallF) {n a b : Int} {h N} : Rn (s27 call (iS n) (iS a) (iS b) h N) fun v h' N' => v = .bool (inB n a b) ∧ Gw h N h' N' := by
  unfold s27 inB
  repeat' (first | refine gs_Cg ?_ | (first | with_reducible refine Rn.part (fun _ => ?_) (fun _ => ?_) | with_reducible refine Rn.partN (fun _ => ?_) (fun _ => ?_) | with_reducible refine Rn.partB (fun _ => ?_) (fun _ => ?_)) | (first | with_reducible refine Rn.cnd (fun _ => ?_) (fun _ => ?_) | with_reducible refine Rn.cndN (fun _ => ?_) (fun _ => ?_) | with_reducible refine Rn.cndB (fun _ => ?_) (fun _ => ?_)))
  · exact Rn.ret ⟨congrArg Value.bool (decide_eq_decide.2 (by omega)), (Gw.of fr_Cg (by omega))⟩
  · exact Rn.ret ⟨congrArg Value.bool (decide_eq_false (by omega)).symm, (Gw.of fr_Cg (by omega))⟩
theorem r_place (call : CallF) {x : Int} {p l : Value} {P : List Int} {h N} (hl : P.length < 1000) (hp : Sl h N p P) (cl : flatV l = true) : Rn (s28 call (.agg ⟨[p, l]⟩) (iS x) h N) fun v h' N' => v = iS (idxI x P 0) ∧ Gw h N h' N' := by
  unfold s28
  try refine gs_Cg ?_
  refine Rn.loop3 (fun n y q k g M => ∃ i : Nat, y = iS x ∧ q = .pointer (some ⟨N, 0, none⟩) ∧ k = nS i ∧ i + n = P.length ∧ Fr h N g ∧ N + 1 ≤ M ∧ g.get N = some (.c [p, l] 25) ∧ idxI x (P.drop i) i = idxI x P 0) P.length (by omega) ⟨0, rfl, rfl, rfl, by omega, fr_Cg, by omega, sS_Cg, rfl⟩ ?_
  rintro n g ih _ _ _ h1 N1 ⟨i, rfl, rfl, rfl, e1, f1, l1, g1, q1⟩
  try refine gs_Cg ?_
  (first | with_reducible refine Rn.cnd (fun _ => ?_) (fun _ => ?_) | with_reducible refine Rn.cndN (fun _ => ?_) (fun _ => ?_) | with_reducible refine Rn.cndB (fun _ => ?_) (fun _ => ?_))
  · obtain ⟨y, hx⟩ := at_of (L := P) (k := i) (by omega)
    rw [drop_at hx] at q1
    simp only [idxI] at q1
    repeat' (first | refine gs_Cg ?_ | (first | with_reducible refine Rn.part (fun _ => ?_) (fun _ => ?_) | with_reducible refine Rn.partN (fun _ => ?_) (fun _ => ?_) | with_reducible refine Rn.partB (fun _ => ?_) (fun _ => ?_)) | (first | with_reducible refine Rn.cnd (fun _ => ?_) (fun _ => ?_) | with_reducible refine Rn.cndN (fun _ => ?_) (fun _ => ?_) | with_reducible refine Rn.cndB (fun _ => ?_) (fun _ => ?_)))
    · rw [if_pos (by omega)] at q1
      exact Rn.ret ⟨by rw [← q1], (Gw.of fr_Cg (by omega))⟩
    · rw [if_neg (by omega)] at q1
      exact ih (n - 1) (by omega) _ _ _ _ _ ⟨i + 1, rfl, rfl, rfl, by omega, fr_Cg, by omega, sS_Cg, q1⟩
  · try refine gs_Cg ?_
    rw [List.drop_eq_nil_of_le (by omega)] at q1
    exact Rn.ret ⟨by rw [← q1]; rfl, (Gw.of fr_Cg (by omega))⟩
theorem r_link (call : CallF) {x : Int} {p l : Value} {L : List Lk} {h N} (hl : L.length < 1000) (hk : Sl h N l L) (cp : flatV p = true) : Rn (s18 call (.agg ⟨[p, l]⟩) (iS x) h N) fun v h' N' => v = iS (idxP (fun y : Lk => decide (y.Id = x)) L 0) ∧ Gw h N h' N' := by
  unfold s18
  try refine gs_Cg ?_
  refine Rn.loop3 (fun n y q k g M => ∃ i : Nat, y = iS x ∧ q = .pointer (some ⟨N, 0, none⟩) ∧ k = nS i ∧ i + n = L.length ∧ Fr h N g ∧ N + 1 ≤ M ∧ g.get N = some (.c [p, l] 25) ∧ idxP (fun y : Lk => decide (y.Id = x)) (L.drop i) i = idxP (fun y : Lk => decide (y.Id = x)) L 0) L.length (by omega) ⟨0, rfl, rfl, rfl, by omega, fr_Cg, by omega, sS_Cg, rfl⟩ ?_
  rintro n g ih _ _ _ h1 N1 ⟨i, rfl, rfl, rfl, e1, f1, l1, g1, q1⟩
  try refine gs_Cg ?_
  (first | with_reducible refine Rn.cnd (fun _ => ?_) (fun _ => ?_) | with_reducible refine Rn.cndN (fun _ => ?_) (fun _ => ?_) | with_reducible refine Rn.cndB (fun _ => ?_) (fun _ => ?_))
  · obtain ⟨y, hx⟩ := at_of (L := L) (k := i) (by omega)
    rw [drop_at hx] at q1
    simp only [idxP] at q1
    repeat' (first | refine gs_Cg ?_ | (first | with_reducible refine Rn.part (fun _ => ?_) (fun _ => ?_) | with_reducible refine Rn.partN (fun _ => ?_) (fun _ => ?_) | with_reducible refine Rn.partB (fun _ => ?_) (fun _ => ?_)) | (first | with_reducible refine Rn.cnd (fun _ => ?_) (fun _ => ?_) | with_reducible refine Rn.cndN (fun _ => ?_) (fun _ => ?_) | with_reducible refine Rn.cndB (fun _ => ?_) (fun _ => ?_)))
    · rw [if_pos (by simpa using ‹y.Id = x›)] at q1
      exact Rn.ret ⟨by rw [← q1], (Gw.of fr_Cg (by omega))⟩
    · rw [if_neg (by simpa using ‹¬y.Id = x›)] at q1
      exact ih (n - 1) (by omega) _ _ _ _ _ ⟨i + 1, rfl, rfl, rfl, by omega, fr_Cg, by omega, sS_Cg, q1⟩
  · try refine gs_Cg ?_
    rw [List.drop_eq_nil_of_le (by omega)] at q1
    exact Rn.ret ⟨by rw [← q1]; rfl, (Gw.of fr_Cg (by omega))⟩
theorem lkB_iff (P : List Int) (b : Int) (x : Lk) : lkB P b x = true ↔ (b < x.Id ∧ x.Id ≤ 9999) ∧ 0 ≤ idxI x.From P 0 ∧ 0 ≤ idxI x.To P 0 ∧ x.From ≠ x.To ∧ (0 ≤ x.Steps ∧ x.Steps ≤ 500) ∧ (1 ≤ x.Paces ∧ x.Paces ≤ 2000) := by
  have e1 := idxI_has x.From P 0 (Int.le_refl _)
  have e2 := idxI_has x.To P 0 (Int.le_refl _)
  simp only [lkB, arP, inL, List.all_cons, List.all_nil, Bool.and_true, Bool.and_eq_true, decide_eq_true_eq, ← e1, ← e2]
  constructor
  · rintro ⟨a, ⟨b, c⟩, d, e, f⟩; exact ⟨a, b, c, d, e, f⟩
  · rintro ⟨a, b, c, d, e, f⟩; exact ⟨a, ⟨b, c⟩, d, e, f⟩
theorem r_town (call : CallF) {p l : Value} {P : List Int} {L : List Lk} {h N} (hlp : P.length < 1000) (hl : L.length < 1000) (hp : Sl h N p P) (hk : Sl h N l L) :
    Rn (s17 call (.agg ⟨[p, l]⟩) h N) fun v h' N' => v = .bool (okT P L) ∧ Gw h N h' N' := by
  unfold s17
  try refine gs_Cg ?_
  refine Rn.call (r_within call) ?_
  rintro _ h1 N1 ⟨rfl, f1, o1, l1⟩
  by_cases c1 : inB P.length 1 9 = false
  · have eo : okT P L = false := by
      simp only [inB, decide_eq_false_iff_not] at c1
      simp only [okT, okP]; rw [decide_eq_false (by omega)]; rfl
    rw [eo]
    repeat' (first | refine gs_Cg ?_ | (first | with_reducible refine Rn.part (fun _ => ?_) (fun _ => ?_) | with_reducible refine Rn.partN (fun _ => ?_) (fun _ => ?_) | with_reducible refine Rn.partB (fun _ => ?_) (fun _ => ?_)) | (first | with_reducible refine Rn.cnd (fun _ => ?_) (fun _ => ?_) | with_reducible refine Rn.cndN (fun _ => ?_) (fun _ => ?_) | with_reducible refine Rn.cndB (fun _ => ?_) (fun _ => ?_)))
    all_goals exact Rn.ret ⟨rfl, (Gw.of fr_Cg (by omega))⟩
  have c1 : inB P.length 1 9 = true := by simpa using c1
  by_cases c2 : 20 < (L.length : Int)
  · have eo : okT P L = false := by simp only [okT, okLk]; rw [decide_eq_false (by omega : ¬ L.length ≤ 20)]; simp
    rw [eo]
    repeat' (first | refine gs_Cg ?_ | (first | with_reducible refine Rn.part (fun _ => ?_) (fun _ => ?_) | with_reducible refine Rn.partN (fun _ => ?_) (fun _ => ?_) | with_reducible refine Rn.partB (fun _ => ?_) (fun _ => ?_)) | (first | with_reducible refine Rn.cnd (fun _ => ?_) (fun _ => ?_) | with_reducible refine Rn.cndN (fun _ => ?_) (fun _ => ?_) | with_reducible refine Rn.cndB (fun _ => ?_) (fun _ => ?_)))
    all_goals exact Rn.ret ⟨rfl, (Gw.of fr_Cg (by omega))⟩
  have eo : okT P L = (risI 9999 0 P && lksB P 0 L) := by
    simp only [inB, decide_eq_true_eq] at c1
    simp only [okT, okP, okLk]; rw [decide_eq_true (by omega : 1 ≤ P.length ∧ P.length ≤ 9), decide_eq_true (by omega : L.length ≤ 20)]; simp
  rw [eo]
  try refine gs_Cg ?_
  refine Rn.loop5 (fun n q b u k j g M => ∃ (i : Nat) (z : Int), q = .pointer (some ⟨N, 0, none⟩) ∧ b = iS z ∧ p = u ∧ k = nS P.length ∧ j = nS i ∧ i + n = P.length ∧ (-10 ≤ z ∧ z ≤ 10000) ∧ Fr h N g ∧ N + 1 ≤ M ∧ g.get N = some (.c [p, l] 25) ∧ risI 9999 z (P.drop i) = risI 9999 0 P) P.length (by omega) ⟨0, 0, rfl, rfl, rfl, rfl, rfl, by omega, by omega, fr_Cg, by omega, sS_Cg, rfl⟩ ?_
  rintro n g ih _ _ _ _ _ h2 N2 ⟨i, z, rfl, rfl, rfl, rfl, rfl, e2, e3, f2, l2, g2, q2⟩
  try refine gs_Cg ?_
  (first | with_reducible refine Rn.cnd (fun _ => ?_) (fun _ => ?_) | with_reducible refine Rn.cndN (fun _ => ?_) (fun _ => ?_) | with_reducible refine Rn.cndB (fun _ => ?_) (fun _ => ?_))
  · obtain ⟨x, hx⟩ := at_of (L := P) (k := i) (by omega)
    rw [drop_at hx] at q2
    simp only [risI] at q2
    try refine gs_Cg ?_
    refine Rn.call (r_within call) ?_
    rintro _ h3 N3 ⟨rfl, f3, o3, l3⟩
    repeat' (first | refine gs_Cg ?_ | (first | with_reducible refine Rn.part (fun _ => ?_) (fun _ => ?_) | with_reducible refine Rn.partN (fun _ => ?_) (fun _ => ?_) | with_reducible refine Rn.partB (fun _ => ?_) (fun _ => ?_)) | (first | with_reducible refine Rn.cnd (fun _ => ?_) (fun _ => ?_) | with_reducible refine Rn.cndN (fun _ => ?_) (fun _ => ?_) | with_reducible refine Rn.cndB (fun _ => ?_) (fun _ => ?_)))
    all_goals simp only [inB, decide_eq_true_eq, decide_eq_false_iff_not] at *
    · rw [show decide (z < x ∧ x ≤ 9999) = false from decide_eq_false (by omega)] at q2
      exact Rn.ret ⟨congrArg Value.bool (by rw [← q2]; simp), (Gw.of fr_Cg (by omega))⟩
    · rw [show decide (z < x ∧ x ≤ 9999) = true from decide_eq_true (by omega)] at q2
      exact ih (n - 1) (by omega) _ _ _ _ _ _ _ ⟨i + 1, x, rfl, rfl, rfl, rfl, rfl, by omega, by omega, fr_Cg, by omega, sS_Cg, q2⟩
  rw [List.drop_eq_nil_of_le (by omega)] at q2
  have er : (risI 9999 0 P && lksB P 0 L) = lksB P 0 L := by rw [← q2]; rfl
  rw [er]
  try refine gs_Cg ?_
  refine Rn.loop5 (fun n q b u k j g M => ∃ (i : Nat) (z : Int), q = .pointer (some ⟨N, 0, none⟩) ∧ b = iS z ∧ l = u ∧ k = nS L.length ∧ j = nS i ∧ i + n = L.length ∧ (-10 ≤ z ∧ z ≤ 10000) ∧ Fr h N g ∧ N + 1 ≤ M ∧ g.get N = some (.c [p, l] 25) ∧ lksB P z (L.drop i) = lksB P 0 L) L.length (by omega) ⟨0, 0, rfl, rfl, rfl, rfl, rfl, by omega, by omega, fr_Cg, by omega, sS_Cg, rfl⟩ ?_
  rintro n g ih _ _ _ _ _ h3 N3 ⟨i, z, rfl, rfl, rfl, rfl, rfl, e2, e3, f3, l3, g3, q1⟩
  try refine gs_Cg ?_
  (first | with_reducible refine Rn.cnd (fun _ => ?_) (fun _ => ?_) | with_reducible refine Rn.cndN (fun _ => ?_) (fun _ => ?_) | with_reducible refine Rn.cndB (fun _ => ?_) (fun _ => ?_))
  · obtain ⟨x, hx⟩ := at_of (L := L) (k := i) (by omega)
    rw [drop_at hx] at q1
    simp only [lksB] at q1
    try refine gs_Cg ?_
    refine Rn.call (r_within call) ?_
    rintro _ h4 N4 ⟨rfl, f4, o4, l4⟩
    repeat' (first | refine gs_Cg ?_ | (first | with_reducible refine Rn.part (fun _ => ?_) (fun _ => ?_) | with_reducible refine Rn.partN (fun _ => ?_) (fun _ => ?_) | with_reducible refine Rn.partB (fun _ => ?_) (fun _ => ?_)) | (first | with_reducible refine Rn.cnd (fun _ => ?_) (fun _ => ?_) | with_reducible refine Rn.cndN (fun _ => ?_) (fun _ => ?_) | with_reducible refine Rn.cndB (fun _ => ?_) (fun _ => ?_)))
    all_goals try (have hh := ‹inB x.Id (z + 1) 9999 = false›; simp only [inB, decide_eq_false_iff_not] at hh; rw [show lkB P z x = false from Bool.eq_false_iff.2 (fun hc => by have := (lkB_iff P z x).1 hc; omega)] at q1; exact Rn.ret ⟨congrArg Value.bool q1, (Gw.of fr_Cg (by omega))⟩)
    have h5 := ‹inB x.Id (z + 1) 9999 = true›
    have h6 : z + 1 ≤ x.Id ∧ x.Id ≤ 9999 := by simpa only [inB, decide_eq_true_eq] using h5
    refine Rn.call (r_place call hlp (Sl.up (by assumption) fr_Cg (by omega)) (Sl.flat hk)) ?_
    rintro _ h7 N7 ⟨rfl, f7, o7, l7⟩
    repeat' (first | refine gs_Cg ?_ | (first | with_reducible refine Rn.part (fun _ => ?_) (fun _ => ?_) | with_reducible refine Rn.partN (fun _ => ?_) (fun _ => ?_) | with_reducible refine Rn.partB (fun _ => ?_) (fun _ => ?_)) | (first | with_reducible refine Rn.cnd (fun _ => ?_) (fun _ => ?_) | with_reducible refine Rn.cndN (fun _ => ?_) (fun _ => ?_) | with_reducible refine Rn.cndB (fun _ => ?_) (fun _ => ?_)))
    all_goals try (have hh := ‹idxI x.From P 0 < 0›; rw [show lkB P z x = false from Bool.eq_false_iff.2 (fun hc => by have := (lkB_iff P z x).1 hc; omega)] at q1; exact Rn.ret ⟨congrArg Value.bool q1, (Gw.of fr_Cg (by omega))⟩)
    refine Rn.call (r_place call hlp (Sl.up (by assumption) fr_Cg (by omega)) (Sl.flat hk)) ?_
    rintro _ h8 N8 ⟨rfl, f8, o8, l8⟩
    repeat' (first | refine gs_Cg ?_ | (first | with_reducible refine Rn.part (fun _ => ?_) (fun _ => ?_) | with_reducible refine Rn.partN (fun _ => ?_) (fun _ => ?_) | with_reducible refine Rn.partB (fun _ => ?_) (fun _ => ?_)) | (first | with_reducible refine Rn.cnd (fun _ => ?_) (fun _ => ?_) | with_reducible refine Rn.cndN (fun _ => ?_) (fun _ => ?_) | with_reducible refine Rn.cndB (fun _ => ?_) (fun _ => ?_)))
    all_goals try (have hh := ‹idxI x.To P 0 < 0›; rw [show lkB P z x = false from Bool.eq_false_iff.2 (fun hc => by have := (lkB_iff P z x).1 hc; omega)] at q1; exact Rn.ret ⟨congrArg Value.bool q1, (Gw.of fr_Cg (by omega))⟩)
    all_goals try (have hh := ‹x.From = x.To›; rw [show lkB P z x = false from Bool.eq_false_iff.2 (fun hc => by have := (lkB_iff P z x).1 hc; omega)] at q1; exact Rn.ret ⟨congrArg Value.bool q1, (Gw.of fr_Cg (by omega))⟩)
    refine Rn.call (r_within call) ?_
    rintro _ h9 N9 ⟨rfl, f9, o9, l9⟩
    repeat' (first | refine gs_Cg ?_ | (first | with_reducible refine Rn.part (fun _ => ?_) (fun _ => ?_) | with_reducible refine Rn.partN (fun _ => ?_) (fun _ => ?_) | with_reducible refine Rn.partB (fun _ => ?_) (fun _ => ?_)) | (first | with_reducible refine Rn.cnd (fun _ => ?_) (fun _ => ?_) | with_reducible refine Rn.cndN (fun _ => ?_) (fun _ => ?_) | with_reducible refine Rn.cndB (fun _ => ?_) (fun _ => ?_)))
    all_goals try (have hh := ‹inB x.Steps 0 500 = false›; simp only [inB, decide_eq_false_iff_not] at hh; rw [show lkB P z x = false from Bool.eq_false_iff.2 (fun hc => by have := (lkB_iff P z x).1 hc; omega)] at q1; exact Rn.ret ⟨congrArg Value.bool q1, (Gw.of fr_Cg (by omega))⟩)
    have h10 : 0 ≤ x.Steps ∧ x.Steps ≤ 500 := by simpa only [inB, decide_eq_true_eq] using ‹inB x.Steps 0 500 = true›
    refine Rn.call (r_within call) ?_
    rintro _ h11 N11 ⟨rfl, f11, o11, l11⟩
    repeat' (first | refine gs_Cg ?_ | (first | with_reducible refine Rn.part (fun _ => ?_) (fun _ => ?_) | with_reducible refine Rn.partN (fun _ => ?_) (fun _ => ?_) | with_reducible refine Rn.partB (fun _ => ?_) (fun _ => ?_)) | (first | with_reducible refine Rn.cnd (fun _ => ?_) (fun _ => ?_) | with_reducible refine Rn.cndN (fun _ => ?_) (fun _ => ?_) | with_reducible refine Rn.cndB (fun _ => ?_) (fun _ => ?_)))
    all_goals try (have hh := ‹inB x.Paces 1 2000 = false›; simp only [inB, decide_eq_false_iff_not] at hh; rw [show lkB P z x = false from Bool.eq_false_iff.2 (fun hc => by have := (lkB_iff P z x).1 hc; omega)] at q1; exact Rn.ret ⟨congrArg Value.bool q1, (Gw.of fr_Cg (by omega))⟩)
    have h12 : 1 ≤ x.Paces ∧ x.Paces ≤ 2000 := by simpa only [inB, decide_eq_true_eq] using ‹inB x.Paces 1 2000 = true›
    rw [show lkB P z x = true from (lkB_iff P z x).2 (by omega)] at q1
    exact ih (n - 1) (by omega) _ _ _ _ _ _ _ ⟨i + 1, x.Id, rfl, rfl, rfl, rfl, rfl, by omega, by omega, fr_Cg, by omega, sS_Cg, q1⟩
  · try refine gs_Cg ?_
    rw [List.drop_eq_nil_of_le (by omega)] at q1
    exact Rn.ret ⟨congrArg Value.bool q1, (Gw.of fr_Cg (by omega))⟩

theorem sameI_step {A B : List Int} {i : Nat} {x y : Int} (hx : A[i]? = some x) (hy : B[i]? = some y) : decide (A.drop i = B.drop i) = (decide (x = y) && decide (A.drop (i + 1) = B.drop (i + 1))) := by
  rw [drop_at hx, drop_at hy, Bool.eq_iff_iff]; simp
theorem r_sameInts (call : CallF) {a b : Value} {A B : List Int} {h N} (ha : A.length < 100000) (hb : B.length < 100000) (hA : Sl h N a A) (hB : Sl h N b B) : Rn (s11 call a b h N) fun v h' N' => v = .bool (decide (A = B)) ∧ Gw h N h' N' := by
  unfold s11
  try refine gs_Cg ?_
  (first | with_reducible refine Rn.cnd (fun _ => ?_) (fun _ => ?_) | with_reducible refine Rn.cndN (fun _ => ?_) (fun _ => ?_) | with_reducible refine Rn.cndB (fun _ => ?_) (fun _ => ?_))
  · exact Rn.ret ⟨congrArg Value.bool (decide_eq_false (fun e => by subst e; omega)).symm, (Gw.of fr_Cg (by omega))⟩
  refine Rn.loop3 (fun n u w j g M => ∃ i : Nat, a = u ∧ b = w ∧ j = nS i ∧ i + n = A.length ∧ Fr h N g ∧ N ≤ M ∧ decide (A.drop i = B.drop i) = decide (A = B)) A.length (by omega) ⟨0, rfl, rfl, rfl, by omega, fr_Cg, by omega, rfl⟩ ?_
  rintro n g ih _ _ _ h1 N1 ⟨i, rfl, rfl, rfl, e1, f1, l1, q1⟩
  try refine gs_Cg ?_
  (first | with_reducible refine Rn.cnd (fun _ => ?_) (fun _ => ?_) | with_reducible refine Rn.cndN (fun _ => ?_) (fun _ => ?_) | with_reducible refine Rn.cndB (fun _ => ?_) (fun _ => ?_))
  · obtain ⟨x, hx⟩ := at_of (L := A) (k := i) (by omega)
    obtain ⟨y, hy⟩ := at_of (L := B) (k := i) (by omega)
    rw [sameI_step hx hy] at q1
    repeat' (first | refine gs_Cg ?_ | (first | with_reducible refine Rn.part (fun _ => ?_) (fun _ => ?_) | with_reducible refine Rn.partN (fun _ => ?_) (fun _ => ?_) | with_reducible refine Rn.partB (fun _ => ?_) (fun _ => ?_)) | (first | with_reducible refine Rn.cnd (fun _ => ?_) (fun _ => ?_) | with_reducible refine Rn.cndN (fun _ => ?_) (fun _ => ?_) | with_reducible refine Rn.cndB (fun _ => ?_) (fun _ => ?_)))
    · rw [decide_eq_false ‹x ≠ y›] at q1
      exact Rn.ret ⟨congrArg Value.bool q1, (Gw.of fr_Cg (by omega))⟩
    · rw [decide_eq_true (by omega : x = y)] at q1
      exact ih (n - 1) (by omega) _ _ _ _ _ ⟨i + 1, rfl, rfl, rfl, by omega, fr_Cg, by omega, q1⟩
  · try refine gs_Cg ?_
    rw [List.drop_eq_nil_of_le (by omega), List.drop_eq_nil_of_le (by omega)] at q1
    exact Rn.ret ⟨congrArg Value.bool q1, (Gw.of fr_Cg (by omega))⟩
end Go.Proofs.Ytkgjfpgccnonfaa
end

section
namespace Go.Proofs.Ytkgjfpgccnonfaa
open Go.Ev Go.RowKit
set_option linter.unusedVariables false
set_option linter.unusedSimpArgs false
set_option linter.unusedSectionVars false
set_option maxRecDepth 100000
set_option maxHeartbeats 4000000
theorem fr_Ch {p : Prop} (h : p := by first | assumption | exact Fr.refl _ _ | (simp (disch := omega) only [Fr_set, Fr_refl, *])) : p := h
theorem fl_Ch {p : Prop} (h : p := by first | with_unfolding_all rfl | exact Sl.flat (by assumption) | assumption) : p := h
theorem fll_Ch {p : Prop} (h : p := by first | with_unfolding_all rfl | ((repeat (refine flatL_k fl_Ch ?_)); with_unfolding_all rfl)) : p := h
theorem en_Ch {p : Prop} (h : p := by first | ((simp only [enc_int, enc_str, enc_u8, enc_bool, tak_s, tak_0, tak_n, drp_0, drp_s, drp_n, nth_s, nth_0, bsl_Sint, bsl_SLink, bs0_Sint, bs0_SLink, bld_Span, bld_Town, enc_Link, neqE_Link]); rfl) | ((simp only [enc_int, enc_str, enc_u8, enc_bool, tak_s, tak_0, tak_n, drp_0, drp_s, drp_n, nth_s, nth_0, bsl_Sint, bsl_SLink, bs0_Sint, bs0_SLink, bld_Span, bld_Town, enc_Link, neqE_Link]); done) | with_unfolding_all rfl) : p := h
theorem sM_Ch {p : Prop} (h : p := by (first | assumption | (simp (disch := omega) only [Tr.get_same, Tr.get_other, *]; rfl) | (simp (disch := omega) only [Tr.get_same, Tr.get_other, *]; done))) : p := h
theorem sS_Ch {p : Prop} (h : p := by first | assumption | (simp (disch := omega) only [obind_s, orun_s, ocond_t, fad_p, ld1_e, ldN_e, sto_e, cellO_c, wrO_c, Tr.get_same, Tr.get_other, nth_0, nth_s, drp_0, drp_s, drp_n, tak_0, tak_s, tak_n, over_n, over_c, lay_0, lay_s, lay_n, len_n, len_c, app_n, app_c, reps_0, reps_s, cel_agg, cel_int, cel_bool, cel_str, cel_sl, cel_ptr, cel_map, cel_func, cel_nilf, fil_n, fil_c, beq_r, ble_d, allF_n, allF_c, one_int, one_bool, one_str, one_sl, one_ptr, one_map, one_func, one_nilf, Bool.and_true, Bool.true_and, Bool.not_true, Bool.not_false, iadA_z, Int.reduceToNat, Int.toNat_zero, fl1_a, flN_a, extr_t, unot, not_d, Nat.add_eq, Nat.mul_eq, Nat.mul_one, Nat.one_mul, Nat.zero_mul, Nat.reduceMul, Nat.zero_add, Nat.add_zero, Nat.le_refl, decide_true, Nat.reduceAdd, Nat.reduceLeDiff, bsl_Sint, bsl_SLink, bs0_Sint, bs0_SLink, bld_Span, bld_Town, enc_Link, neqE_Link, *])) : p := h
theorem op_Ch {p : Prop} (h : p := by first | with_reducible exact fad_p _ _ _ | with_reducible exact iop_lss _ _ | with_reducible exact iop_leq _ _ | with_reducible exact iop_gtr _ _ | with_reducible exact iop_geq _ _ | with_reducible exact iop_eql _ _ | with_reducible exact iop_neq _ _ | with_reducible exact Sl.len (by assumption) | with_reducible exact lenS_s _ _ _ | with_reducible exact Sl.iad (by assumption) (by with_unfolding_all rfl) (by first | assumption | omega) | with_reducible exact Sl.fad (by assumption) (by first | assumption | omega) | with_reducible exact Sl.ld1 (by assumption) fr_Ch (by with_unfolding_all rfl) (by assumption) en_Ch | with_reducible exact Sl.ldN (by assumption) fr_Ch (by with_unfolding_all rfl) (by assumption) (by with_unfolding_all rfl) en_Ch | with_reducible exact zadd1 (by omega) | with_reducible exact zsub1 (by omega) (by omega) | with_reducible exact zaddI (by omega) (by omega) | with_reducible exact zsubI (by omega) (by omega) | with_reducible exact wntT_t (by assumption) | with_reducible exact wntT_f (by assumption) | with_reducible exact wntF_t (by assumption) | with_reducible exact wntF_f (by assumption) | with_reducible exact wnt_tt | with_reducible exact wnt_tf | with_reducible exact wnt_ft | with_reducible exact wnt_ff | with_reducible exact wnt_u _ _ | with_reducible exact pck_t _ _ | with_reducible exact pck_f _ _ | with_reducible exact pckT (by assumption) | with_reducible exact pckF (by assumption) | with_reducible exact wntN_tt (by assumption) | with_reducible exact wntN_tf (by assumption) | with_reducible exact wntN_ft (by assumption) | with_reducible exact wntN_ff (by assumption) | with_reducible exact pckNT (by assumption) | with_reducible exact pckNF (by assumption) | with_reducible exact wntB_tt (by assumption) | with_reducible exact wntB_tf (by assumption) | with_reducible exact wntB_ft (by assumption) | with_reducible exact wntB_ff (by assumption) | with_reducible exact pckBT (by assumption) | with_reducible exact pckBF (by assumption) | (simp (disch := omega) only [obind_s, orun_s, ocond_t, fad_p, ld1_e, ldN_e, sto_e, cellO_c, wrO_c, Tr.get_same, Tr.get_other, nth_0, nth_s, drp_0, drp_s, drp_n, tak_0, tak_s, tak_n, over_n, over_c, lay_0, lay_s, lay_n, len_n, len_c, app_n, app_c, reps_0, reps_s, cel_agg, cel_int, cel_bool, cel_str, cel_sl, cel_ptr, cel_map, cel_func, cel_nilf, fil_n, fil_c, beq_r, ble_d, allF_n, allF_c, one_int, one_bool, one_str, one_sl, one_ptr, one_map, one_func, one_nilf, Bool.and_true, Bool.true_and, Bool.not_true, Bool.not_false, iadA_z, Int.reduceToNat, Int.toNat_zero, fl1_a, flN_a, extr_t, unot, not_d, Nat.add_eq, Nat.mul_eq, Nat.mul_one, Nat.one_mul, Nat.zero_mul, Nat.reduceMul, Nat.zero_add, Nat.add_zero, Nat.le_refl, decide_true, Nat.reduceAdd, Nat.reduceLeDiff, bsl_Sint, bsl_SLink, bs0_Sint, bs0_SLink, bld_Span, bld_Town, enc_Link, neqE_Link, *]; rfl) | (simp (disch := omega) only [obind_s, orun_s, ocond_t, fad_p, ld1_e, ldN_e, sto_e, cellO_c, wrO_c, Tr.get_same, Tr.get_other, nth_0, nth_s, drp_0, drp_s, drp_n, tak_0, tak_s, tak_n, over_n, over_c, lay_0, lay_s, lay_n, len_n, len_c, app_n, app_c, reps_0, reps_s, cel_agg, cel_int, cel_bool, cel_str, cel_sl, cel_ptr, cel_map, cel_func, cel_nilf, fil_n, fil_c, beq_r, ble_d, allF_n, allF_c, one_int, one_bool, one_str, one_sl, one_ptr, one_map, one_func, one_nilf, Bool.and_true, Bool.true_and, Bool.not_true, Bool.not_false, iadA_z, Int.reduceToNat, Int.toNat_zero, fl1_a, flN_a, extr_t, unot, not_d, Nat.add_eq, Nat.mul_eq, Nat.mul_one, Nat.one_mul, Nat.zero_mul, Nat.reduceMul, Nat.zero_add, Nat.add_zero, Nat.le_refl, decide_true, Nat.reduceAdd, Nat.reduceLeDiff, bsl_Sint, bsl_SLink, bs0_Sint, bs0_SLink, bld_Span, bld_Town, enc_Link, neqE_Link, *]; done)) : p := h
theorem co_Ch {p : Prop} (h : p := by first | (simp only [impB_1, impB_0, offB_1, offB_0]; done) | ((try simp only [impB_1, impB_0, offB_1, offB_0]); first | with_reducible exact Sl.ag1 (by assumption) fr_Ch (by with_unfolding_all rfl) (by assumption) en_Ch | with_reducible exact Sl.agN (by assumption) fr_Ch (by with_unfolding_all rfl) (by assumption) (by with_unfolding_all rfl) en_Ch | ((with_reducible refine agL1_e ?_ ?_); (· (simp (disch := omega) only [obind_s, orun_s, ocond_t, fad_p, ld1_e, ldN_e, sto_e, cellO_c, wrO_c, Tr.get_same, Tr.get_other, nth_0, nth_s, drp_0, drp_s, drp_n, tak_0, tak_s, tak_n, over_n, over_c, lay_0, lay_s, lay_n, len_n, len_c, app_n, app_c, reps_0, reps_s, cel_agg, cel_int, cel_bool, cel_str, cel_sl, cel_ptr, cel_map, cel_func, cel_nilf, fil_n, fil_c, beq_r, ble_d, allF_n, allF_c, one_int, one_bool, one_str, one_sl, one_ptr, one_map, one_func, one_nilf, Bool.and_true, Bool.true_and, Bool.not_true, Bool.not_false, iadA_z, Int.reduceToNat, Int.toNat_zero, fl1_a, flN_a, extr_t, unot, not_d, Nat.add_eq, Nat.mul_eq, Nat.mul_one, Nat.one_mul, Nat.zero_mul, Nat.reduceMul, Nat.zero_add, Nat.add_zero, Nat.le_refl, decide_true, Nat.reduceAdd, Nat.reduceLeDiff, bsl_Sint, bsl_SLink, bs0_Sint, bs0_SLink, bld_Span, bld_Town, enc_Link, neqE_Link, *]; done)); (· exact fl_Ch)) | ((with_reducible refine agLN_e ?_ ?_); (· (simp (disch := omega) only [obind_s, orun_s, ocond_t, fad_p, ld1_e, ldN_e, sto_e, cellO_c, wrO_c, Tr.get_same, Tr.get_other, nth_0, nth_s, drp_0, drp_s, drp_n, tak_0, tak_s, tak_n, over_n, over_c, lay_0, lay_s, lay_n, len_n, len_c, app_n, app_c, reps_0, reps_s, cel_agg, cel_int, cel_bool, cel_str, cel_sl, cel_ptr, cel_map, cel_func, cel_nilf, fil_n, fil_c, beq_r, ble_d, allF_n, allF_c, one_int, one_bool, one_str, one_sl, one_ptr, one_map, one_func, one_nilf, Bool.and_true, Bool.true_and, Bool.not_true, Bool.not_false, iadA_z, Int.reduceToNat, Int.toNat_zero, fl1_a, flN_a, extr_t, unot, not_d, Nat.add_eq, Nat.mul_eq, Nat.mul_one, Nat.one_mul, Nat.zero_mul, Nat.reduceMul, Nat.zero_add, Nat.add_zero, Nat.le_refl, decide_true, Nat.reduceAdd, Nat.reduceLeDiff, bsl_Sint, bsl_SLink, bs0_Sint, bs0_SLink, bld_Span, bld_Town, enc_Link, neqE_Link, *]; done)); (· exact fll_Ch)) | ((with_reducible apply ag_bs); (· exact sM_Ch); (· rfl); (· (simp (disch := omega) only [obind_s, orun_s, ocond_t, fad_p, ld1_e, ldN_e, sto_e, cellO_c, wrO_c, Tr.get_same, Tr.get_other, nth_0, nth_s, drp_0, drp_s, drp_n, tak_0, tak_s, tak_n, over_n, over_c, lay_0, lay_s, lay_n, len_n, len_c, app_n, app_c, reps_0, reps_s, cel_agg, cel_int, cel_bool, cel_str, cel_sl, cel_ptr, cel_map, cel_func, cel_nilf, fil_n, fil_c, beq_r, ble_d, allF_n, allF_c, one_int, one_bool, one_str, one_sl, one_ptr, one_map, one_func, one_nilf, Bool.and_true, Bool.true_and, Bool.not_true, Bool.not_false, iadA_z, Int.reduceToNat, Int.toNat_zero, fl1_a, flN_a, extr_t, unot, not_d, Nat.add_eq, Nat.mul_eq, Nat.mul_one, Nat.one_mul, Nat.zero_mul, Nat.reduceMul, Nat.zero_add, Nat.add_zero, Nat.le_refl, decide_true, Nat.reduceAdd, Nat.reduceLeDiff, bsl_Sint, bsl_SLink, bs0_Sint, bs0_SLink, bld_Span, bld_Town, enc_Link, neqE_Link, Nat.succ_eq_add_one, Nat.add_assoc, *])); (· exact fll_Ch)) | ((with_reducible apply ag_al); (· exact sM_Ch); (· rfl); (· exact fll_Ch)) | ((with_reducible apply ag_bx); (· exact sM_Ch); (· rfl); (· rfl); (· exact fll_Ch)) | ((with_reducible apply ag_bd); (· rfl); (· (simp (disch := omega) only [obind_s, orun_s, ocond_t, fad_p, ld1_e, ldN_e, sto_e, cellO_c, wrO_c, Tr.get_same, Tr.get_other, nth_0, nth_s, drp_0, drp_s, drp_n, tak_0, tak_s, tak_n, over_n, over_c, lay_0, lay_s, lay_n, len_n, len_c, app_n, app_c, reps_0, reps_s, cel_agg, cel_int, cel_bool, cel_str, cel_sl, cel_ptr, cel_map, cel_func, cel_nilf, fil_n, fil_c, beq_r, ble_d, allF_n, allF_c, one_int, one_bool, one_str, one_sl, one_ptr, one_map, one_func, one_nilf, Bool.and_true, Bool.true_and, Bool.not_true, Bool.not_false, iadA_z, Int.reduceToNat, Int.toNat_zero, fl1_a, flN_a, extr_t, unot, not_d, Nat.add_eq, Nat.mul_eq, Nat.mul_one, Nat.one_mul, Nat.zero_mul, Nat.reduceMul, Nat.zero_add, Nat.add_zero, Nat.le_refl, decide_true, Nat.reduceAdd, Nat.reduceLeDiff, bsl_Sint, bsl_SLink, bs0_Sint, bs0_SLink, bld_Span, bld_Town, enc_Link, neqE_Link, *])); (· exact fll_Ch)) | (simp (disch := omega) only [obind_s, orun_s, ocond_t, fad_p, ld1_e, ldN_e, sto_e, cellO_c, wrO_c, Tr.get_same, Tr.get_other, nth_0, nth_s, drp_0, drp_s, drp_n, tak_0, tak_s, tak_n, over_n, over_c, lay_0, lay_s, lay_n, len_n, len_c, app_n, app_c, reps_0, reps_s, cel_agg, cel_int, cel_bool, cel_str, cel_sl, cel_ptr, cel_map, cel_func, cel_nilf, fil_n, fil_c, beq_r, ble_d, allF_n, allF_c, one_int, one_bool, one_str, one_sl, one_ptr, one_map, one_func, one_nilf, Bool.and_true, Bool.true_and, Bool.not_true, Bool.not_false, iadA_z, Int.reduceToNat, Int.toNat_zero, fl1_a, flN_a, extr_t, unot, not_d, Nat.add_eq, Nat.mul_eq, Nat.mul_one, Nat.one_mul, Nat.zero_mul, Nat.reduceMul, Nat.zero_add, Nat.add_zero, Nat.le_refl, decide_true, Nat.reduceAdd, Nat.reduceLeDiff, bsl_Sint, bsl_SLink, bs0_Sint, bs0_SLink, bld_Span, bld_Town, enc_Link, neqE_Link, *]; done))) : p := h
theorem gs_Ch {r p : Prop} (k : r) (h : Go.Ev.Im r p := by (first | with_reducible apply Im.runS | ((with_reducible apply Im.num); · (simp only [Nat.succ_eq_add_one, Nat.add_assoc, Nat.reduceAdd]; rfl)) | (with_reducible apply Im.unm) | (with_reducible apply Im.selT) | (with_reducible apply Im.selF) | ((with_reducible apply Im.cndT); · assumption) | ((with_reducible apply Im.cndF); · assumption) | ((with_reducible apply Im.cndBT); · exact rfl) | ((with_reducible apply Im.cndBF); · exact rfl) | ((with_reducible apply Im.cndNT); · assumption) | ((with_reducible apply Im.cndNF); · assumption) | ((with_reducible apply Im.cndBT); · assumption) | ((with_reducible apply Im.cndBF); · assumption) | ((with_reducible apply Im.bind); · exact op_Ch) | ((with_reducible apply Im.cond); · exact co_Ch) | ((with_reducible apply Im.runB); · exact op_Ch) | ((with_reducible apply Im.runC); · exact co_Ch) | ((with_reducible apply Im.runN); · (simp only [Nat.succ_eq_add_one, Nat.add_assoc, Nat.reduceAdd]; rfl)) | with_reducible apply Im.runR | ((with_reducible apply Im.runE (x := evBuildSlice _ _ _ _ _ _)); · (simp (disch := omega) only [obind_s, orun_s, ocond_t, fad_p, ld1_e, ldN_e, sto_e, cellO_c, wrO_c, Tr.get_same, Tr.get_other, nth_0, nth_s, drp_0, drp_s, drp_n, tak_0, tak_s, tak_n, over_n, over_c, lay_0, lay_s, lay_n, len_n, len_c, app_n, app_c, reps_0, reps_s, cel_agg, cel_int, cel_bool, cel_str, cel_sl, cel_ptr, cel_map, cel_func, cel_nilf, fil_n, fil_c, beq_r, ble_d, allF_n, allF_c, one_int, one_bool, one_str, one_sl, one_ptr, one_map, one_func, one_nilf, Bool.and_true, Bool.true_and, Bool.not_true, Bool.not_false, iadA_z, Int.reduceToNat, Int.toNat_zero, fl1_a, flN_a, extr_t, unot, not_d, Nat.add_eq, Nat.mul_eq, Nat.mul_one, Nat.one_mul, Nat.zero_mul, Nat.reduceMul, Nat.zero_add, Nat.add_zero, Nat.le_refl, decide_true, Nat.reduceAdd, Nat.reduceLeDiff, bsl_Sint, bsl_SLink, bs0_Sint, bs0_SLink, bld_Span, bld_Town, enc_Link, neqE_Link, Nat.succ_eq_add_one, Nat.add_assoc, *]; rfl))); (repeat (first | with_reducible apply Im.runS | ((with_reducible apply Im.num); · (simp only [Nat.succ_eq_add_one, Nat.add_assoc, Nat.reduceAdd]; rfl)) | (with_reducible apply Im.unm) | (with_reducible apply Im.selT) | (with_reducible apply Im.selF) | ((with_reducible apply Im.cndT); · assumption) | ((with_reducible apply Im.cndF); · assumption) | ((with_reducible apply Im.cndBT); · exact rfl) | ((with_reducible apply Im.cndBF); · exact rfl) | ((with_reducible apply Im.cndNT); · assumption) | ((with_reducible apply Im.cndNF); · assumption) | ((with_reducible apply Im.cndBT); · assumption) | ((with_reducible apply Im.cndBF); · assumption) | ((with_reducible apply Im.bind); · exact op_Ch) | ((with_reducible apply Im.cond); · exact co_Ch) | ((with_reducible apply Im.runB); · exact op_Ch) | ((with_reducible apply Im.runC); · exact co_Ch) | ((with_reducible apply Im.runN); · (simp only [Nat.succ_eq_add_one, Nat.add_assoc, Nat.reduceAdd]; rfl)) | with_reducible apply Im.runR | ((with_reducible apply Im.runE (x := evBuildSlice _ _ _ _ _ _)); · (simp (disch := omega) only [obind_s, orun_s, ocond_t, fad_p, ld1_e, ldN_e, sto_e, cellO_c, wrO_c, Tr.get_same, Tr.get_other, nth_0, nth_s, drp_0, drp_s, drp_n, tak_0, tak_s, tak_n, over_n, over_c, lay_0, lay_s, lay_n, len_n, len_c, app_n, app_c, reps_0, reps_s, cel_agg, cel_int, cel_bool, cel_str, cel_sl, cel_ptr, cel_map, cel_func, cel_nilf, fil_n, fil_c, beq_r, ble_d, allF_n, allF_c, one_int, one_bool, one_str, one_sl, one_ptr, one_map, one_func, one_nilf, Bool.and_true, Bool.true_and, Bool.not_true, Bool.not_false, iadA_z, Int.reduceToNat, Int.toNat_zero, fl1_a, flN_a, extr_t, unot, not_d, Nat.add_eq, Nat.mul_eq, Nat.mul_one, Nat.one_mul, Nat.zero_mul, Nat.reduceMul, Nat.zero_add, Nat.add_zero, Nat.le_refl, decide_true, Nat.reduceAdd, Nat.reduceLeDiff, bsl_Sint, bsl_SLink, bs0_Sint, bs0_SLink, bld_Span, bld_Town, enc_Link, neqE_Link, Nat.succ_eq_add_one, Nat.add_assoc, *]; rfl)))); exact Go.Ev.Im.id) : p := h k
theorem sameL_step {A B : List Lk} {i : Nat} {x y : Lk} (hx : A[i]? = some x) (hy : B[i]? = some y) : decide (A.drop i = B.drop i) = (decide (x = y) && decide (A.drop (i + 1) = B.drop (i + 1))) := by
  rw [drop_at hx, drop_at hy, Bool.eq_iff_iff]; simp
def sameT (P : List Int) (L : List Lk) (P' : List Int) (L' : List Lk) : Bool := decide (P = P') && decide (L = L')
theorem r_same (call : CallF) {p l p' l' : Value} {P P' : List Int} {L L' : List Lk} {h N} (b1 : P.length < 1000) (b2 : P'.length < 1000) (b3 : L.length < 1000) (b4 : L'.length < 1000) (hp : Sl h N p P) (hk : Sl h N l L) (hp' : Sl h N p' P') (hk' : Sl h N l' L') :
    Rn (s10 call (.agg ⟨[p, l]⟩) (.agg ⟨[p', l']⟩) h N) fun v h' N' => v = .bool (sameT P L P' L') ∧ Gw h N h' N' := by
  unfold s10
  try refine gs_Ch ?_
  refine Rn.call (r_sameInts call (A := P) (B := P') (by omega) (by omega) (Sl.up (by assumption) fr_Ch (by omega)) (Sl.up (by assumption) fr_Ch (by omega))) ?_
  rintro _ h1 N1 ⟨rfl, f1, o1, l1⟩
  generalize hb : decide (P = P') = b
  have e0 : sameT P L P' L' = (b && decide (L = L')) := by rw [← hb]; rfl
  rw [e0]
  repeat' (first | refine gs_Ch ?_ | (first | with_reducible refine Rn.part (fun _ => ?_) (fun _ => ?_) | with_reducible refine Rn.partN (fun _ => ?_) (fun _ => ?_) | with_reducible refine Rn.partB (fun _ => ?_) (fun _ => ?_)) | (first | with_reducible refine Rn.cnd (fun _ => ?_) (fun _ => ?_) | with_reducible refine Rn.cndN (fun _ => ?_) (fun _ => ?_) | with_reducible refine Rn.cndB (fun _ => ?_) (fun _ => ?_)))
  all_goals try (rw [‹b = false›]; exact Rn.ret ⟨rfl, (Gw.of fr_Ch (by omega))⟩)
  all_goals try (exact Rn.ret ⟨by rw [decide_eq_false (fun e : L = L' => by subst e; omega)]; simp, (Gw.of fr_Ch (by omega))⟩)
  rw [‹b = true›]
  simp only [Bool.true_and]
  refine Rn.loop3 (fun n u w j g M => ∃ i : Nat, u = .pointer (some ⟨N, 0, none⟩) ∧ w = .pointer (some ⟨N + 1, 0, none⟩) ∧ j = nS i ∧ i + n = L.length ∧ Fr h N g ∧ N + 2 ≤ M ∧ g.get N = some (.c [p, l] 25) ∧ g.get (N + 1) = some (.c [p', l'] 25) ∧ decide (L.drop i = L'.drop i) = decide (L = L')) L.length (by omega) ⟨0, rfl, rfl, rfl, by omega, fr_Ch, by omega, sS_Ch, sS_Ch, rfl⟩ ?_
  rintro n g ih _ _ _ h2 N2 ⟨i, rfl, rfl, rfl, e1, f2, l2, g2, g3, q1⟩
  try refine gs_Ch ?_
  (first | with_reducible refine Rn.cnd (fun _ => ?_) (fun _ => ?_) | with_reducible refine Rn.cndN (fun _ => ?_) (fun _ => ?_) | with_reducible refine Rn.cndB (fun _ => ?_) (fun _ => ?_))
  · obtain ⟨x, hx⟩ := at_of (L := L) (k := i) (by omega)
    obtain ⟨y, hy⟩ := at_of (L := L') (k := i) (by omega)
    rw [sameL_step hx hy] at q1
    repeat' (first | refine gs_Ch ?_ | (first | with_reducible refine Rn.part (fun _ => ?_) (fun _ => ?_) | with_reducible refine Rn.partN (fun _ => ?_) (fun _ => ?_) | with_reducible refine Rn.partB (fun _ => ?_) (fun _ => ?_)) | (first | with_reducible refine Rn.cnd (fun _ => ?_) (fun _ => ?_) | with_reducible refine Rn.cndN (fun _ => ?_) (fun _ => ?_) | with_reducible refine Rn.cndB (fun _ => ?_) (fun _ => ?_)))
    · rw [decide_eq_false ‹¬ x = y›] at q1
      exact Rn.ret ⟨congrArg Value.bool q1, (Gw.of fr_Ch (by omega))⟩
    · rw [decide_eq_true (Decidable.not_not.1 ‹¬ ¬ x = y›)] at q1
      exact ih (n - 1) (by omega) _ _ _ _ _ ⟨i + 1, rfl, rfl, rfl, by omega, fr_Ch, by omega, sS_Ch, sS_Ch, q1⟩
  · try refine gs_Ch ?_
    rw [List.drop_eq_nil_of_le (by omega), List.drop_eq_nil_of_le (by omega)] at q1
    exact Rn.ret ⟨congrArg Value.bool q1, (Gw.of fr_Ch (by omega))⟩
def greatT (P : List Int) (L : List Lk) : Bool := decide (20 < P.length ∨ 40 < L.length)
theorem r_great (call : CallF) {p l : Value} {P : List Int} {L : List Lk} {h N} (hp : Sl h N p P) (hk : Sl h N l L) : Rn (s4 call (.agg ⟨[p, l]⟩) h N) fun v h' N' => v = .bool (greatT P L) ∧ Gw h N h' N' := by
  unfold s4
  repeat' (first | refine gs_Ch ?_ | (first | with_reducible refine Rn.part (fun _ => ?_) (fun _ => ?_) | with_reducible refine Rn.partN (fun _ => ?_) (fun _ => ?_) | with_reducible refine Rn.partB (fun _ => ?_) (fun _ => ?_)) | (first | with_reducible refine Rn.cnd (fun _ => ?_) (fun _ => ?_) | with_reducible refine Rn.cndN (fun _ => ?_) (fun _ => ?_) | with_reducible refine Rn.cndB (fun _ => ?_) (fun _ => ?_)))
  · exact Rn.ret ⟨congrArg Value.bool (decide_eq_true (by omega)).symm, (Gw.of fr_Ch (by omega))⟩
  · exact Rn.ret ⟨congrArg Value.bool (decide_eq_decide.2 (by omega)), (Gw.of fr_Ch (by omega))⟩
theorem r_twin (call : CallF) {p l : Value} {P : List Int} {L : List Lk} {h N} (hlp : P.length < 1000) (hl : L.length < 1000) (hp : Sl h N p P) (hk : Sl h N l L) :
    Rn (s5 call (.agg ⟨[p, l]⟩) h N) fun v h' N' => (∃ p' l', v = .agg ⟨[p', l']⟩ ∧ OwR N N' h' 3 p' P ∧ OwR N N' h' 27 l' L) ∧ Gw h N h' N' := by
  have cp := cel_flat hp.flat
  have cl := cel_flat hk.flat
  have op := flatV_one hp.flat
  have ol := flatV_one hk.flat
  unfold s5
  try refine gs_Ch ?_
  refine Rn.call (Ow.app (α := Int) (L := []) (K := P) (i := N + 2) ap_Sint (.inr (.inl ⟨rfl, sM_Ch⟩)) (by omega) hp fr_Ch (by simp; omega)) ?_
  rintro p' h1 N1 ⟨i1, w1, e1, e2, f1, o1, l1⟩
  rw [List.nil_append] at w1
  have s1 := w1.sl (N := N1) e2
  have a1 := flatV_one s1.flat
  have c1 := cel_flat s1.flat
  try refine gs_Ch ?_
  refine Rn.call (Ow.app (α := Lk) (L := []) (K := L) (i := N + 3) ap_SLink (.inr (.inl ⟨rfl, sM_Ch⟩)) (by omega) hk fr_Ch (by simp; omega)) ?_
  rintro l' h2 N2 ⟨i2, w2, e3, e4, f2, o2, l2⟩
  rw [List.nil_append] at w2
  have s2 := w2.sl (N := N2) e4
  have a2 := flatV_one s2.flat
  have c2 := cel_flat s2.flat
  try refine gs_Ch ?_
  refine Rn.ret ⟨⟨p', l', rfl, ?_, ?_⟩, (Gw.of fr_Ch (by omega))⟩
  · exact .inr ⟨i1, by omega, by omega, w1.keep sS_Ch⟩
  · exact .inr ⟨i2, by omega, by omega, w2.keep sS_Ch⟩
theorem pos_of_ok {P : List Int} {L : List Lk} {x : Int} (ok : okT P L = true) (h : L.any (fun y => decide (y.Id = x)) = true) : 0 < x := by
  have key : ∀ (L : List Lk) (b : Int), 0 ≤ b → lksB P b L = true → ∀ y ∈ L, 0 < y.Id := by
    intro L
    induction L with
    | nil => intro b _ _ y hy; cases hy
    | cons z L ih =>
      intro b hb h y hy
      simp only [lksB, Bool.and_eq_true] at h
      have h1 := (lkB_iff P b z).1 h.1
      rcases List.mem_cons.1 hy with e | e
      · rw [e]; omega
      · exact ih z.Id (by omega) h.2 y e
  simp only [okT, okLk, Bool.and_eq_true] at ok
  obtain ⟨y, hy, e⟩ := List.any_eq_true.1 h
  have := key L 0 (Int.le_refl _) ok.2.2 y hy
  rw [decide_eq_true_eq] at e
  omega
theorem idxP_lt {p : Lk → Bool} (L : List Lk) : decide (idxP p L 0 < 0) = !L.any p := by
  rw [← idxP_any, not_d]
  exact decide_eq_decide.2 (by omega)
theorem take_at {α : Type} {L : List α} {i : Nat} {x : α} (h : L[i]? = some x) : L.take (i + 1) = L.take i ++ [x] := by
  rw [List.take_add_one, h]; rfl
theorem hasI_take {x y : Int} {L : List Int} {i : Nat} (h : L[i]? = some y) : hasI x (L.take (i + 1)) = (hasI x (L.take i) || decide (x = y)) := by
  rw [take_at h]; simp [hasI]
theorem r_without (call : CallF) {p l v : Value} {P : List Int} {L : List Lk} {xs : List Int} {h N} (hlp : P.length < 1000) (hl : L.length < 1000) (hx : xs.length < 1000) (hp : Sl h N p P) (hk : Sl h N l L) (hs : Sl h N v xs) :
    Rn (s19 call (.agg ⟨[p, l]⟩) v h N) fun u h' N' => (∃ p' l', u = .agg ⟨[p', l']⟩ ∧ OwR N N' h' 3 p' P ∧ OwR N N' h' 27 l' (L.filter fun x => !hasI x.Id xs)) ∧ Gw h N h' N' := by
  have cp := cel_flat hp.flat
  have cl := cel_flat hk.flat
  have op := flatV_one hp.flat
  have ol := flatV_one hk.flat
  unfold s19
  try refine gs_Ch ?_
  refine Rn.call (r_twin call hlp hl (Sl.up (by assumption) fr_Ch (by omega)) (Sl.up (by assumption) fr_Ch (by omega))) ?_
  rintro _ h1 N1 ⟨⟨p', l', rfl, w1, w3⟩, f1, o1, l1⟩
  have s1 := w1.sl (Nat.le_refl _)
  have s2 := w3.sl (Nat.le_refl _)
  have a1 := flatV_one s1.flat
  have c1 := cel_flat s1.flat
  have a2 := flatV_one s2.flat
  have c2 := cel_flat s2.flat
  try refine gs_Ch ?_
  refine Rn.loop6 (fun n a1 a2 a3 a4 a5 a6 g M => ∃ (i : Nat) (r : Value), v = a1 ∧ a2 = .pointer (some ⟨N + 1, 0, none⟩) ∧ a3 = .pointer (some ⟨N1, 0, none⟩) ∧ l = a4 ∧ a5 = nS L.length ∧ a6 = nS i ∧ i + n = L.length ∧ Fr h N g ∧ OwR (N + 2) N1 g 3 p' P ∧ N1 + 1 ≤ M ∧
      g.get (N + 1) = some (.c [.slice none 0 0, .slice none 0 0] 25) ∧ g.get N1 = some (.c [p', r] 25) ∧ OwR (N1 + 1) M g 27 r ((L.take i).filter fun x => !hasI x.Id xs)) L.length (by omega) ⟨0, .slice none 0 0, rfl, rfl, rfl, rfl, rfl, rfl, by omega, fr_Ch, w1.keep fun j g1 g2 => sS_Ch, by omega, sS_Ch, sS_Ch, OwR.nil _ _ _ _⟩ ?_
  rintro n g ih _ _ _ _ _ _ h2 N2 ⟨i, r, rfl, rfl, rfl, rfl, rfl, rfl, e2, f2, f2', l2, g1, g2, w2⟩
  have s3 := w2.sl (Nat.le_refl _)
  have a3 := flatV_one s3.flat
  have c3 := cel_flat s3.flat
  try refine gs_Ch ?_
  (first | with_reducible refine Rn.cnd (fun _ => ?_) (fun _ => ?_) | with_reducible refine Rn.cndN (fun _ => ?_) (fun _ => ?_) | with_reducible refine Rn.cndB (fun _ => ?_) (fun _ => ?_))
  · obtain ⟨x, hx⟩ := at_of (L := L) (k := i) (by omega)
    try refine gs_Ch ?_
    refine Rn.loop11 (fun n b1 b2 b3 b4 b5 b6 b7 b8 b9 b10 b11 g M => ∃ (k : Nat), v = b1 ∧ b2 = .pointer (some ⟨N + 1, 0, none⟩) ∧ b3 = .pointer (some ⟨N1, 0, none⟩) ∧ b4 = .pointer (some ⟨N2, 0, none⟩) ∧ b5 = .bool (hasI x.Id (xs.take k)) ∧ l = b6 ∧ b7 = nS L.length ∧ b8 = nS i ∧ v = b9 ∧ b10 = nS xs.length ∧ b11 = nS k ∧ k + n = xs.length ∧ Fr h N g ∧ OwR (N + 2) N1 g 3 p' P ∧ N2 + 1 ≤ M ∧
      g.get (N + 1) = some (.c [.slice none 0 0, .slice none 0 0] 25) ∧ g.get N1 = some (.c [p', r] 25) ∧ g.get N2 = some (.c [iS x.Id, iS x.From, iS x.To, iS x.Steps, iS x.Paces] 27) ∧ OwR (N1 + 1) N2 g 27 r ((L.take i).filter fun x => !hasI x.Id xs)) xs.length (by omega) ⟨0, rfl, rfl, rfl, rfl, rfl, rfl, rfl, rfl, rfl, rfl, rfl, by omega, fr_Ch, f2'.keep fun j g1 g2 => sS_Ch, by omega, sS_Ch, sS_Ch, sS_Ch, w2.keep fun j g1 g2 => sS_Ch⟩ ?_
    rintro m gg ihh _ _ _ _ _ _ _ _ _ _ _ h3 N3 ⟨k, rfl, rfl, rfl, rfl, rfl, rfl, rfl, rfl, rfl, rfl, rfl, e3, f3, f3', l3, g3, g4, g5, w4⟩
    generalize hb : hasI x.Id (xs.take k) = b
    try refine gs_Ch ?_
    (first | with_reducible refine Rn.cnd (fun _ => ?_) (fun _ => ?_) | with_reducible refine Rn.cndN (fun _ => ?_) (fun _ => ?_) | with_reducible refine Rn.cndB (fun _ => ?_) (fun _ => ?_))
    · obtain ⟨y, hy⟩ := at_of (L := xs) (k := k) (by omega)
      have hn : hasI x.Id (xs.take (k + 1)) = (b || decide (x.Id = y)) := by rw [hasI_take hy, hb]
      cases b with
      | true =>
        try refine gs_Ch ?_
        exact ihh (m - 1) (by omega) _ _ _ _ _ _ _ _ _ _ _ _ _ ⟨k + 1, rfl, rfl, rfl, rfl, by rw [hn]; rfl, rfl, rfl, rfl, rfl, rfl, rfl, by omega, fr_Ch, f3'.keep fun j g1 g2 => sS_Ch, by omega, sS_Ch, sS_Ch, sS_Ch, w4.keep fun j g1 g2 => sS_Ch⟩
      | false =>
        try refine gs_Ch ?_
        exact ihh (m - 1) (by omega) _ _ _ _ _ _ _ _ _ _ _ _ _ ⟨k + 1, rfl, rfl, rfl, rfl, by rw [hn, Bool.false_or, decide_eq_decide.2 ⟨Eq.symm, Eq.symm⟩], rfl, rfl, rfl, rfl, rfl, rfl, by omega, fr_Ch, f3'.keep fun j g1 g2 => sS_Ch, by omega, sS_Ch, sS_Ch, sS_Ch, w4.keep fun j g1 g2 => sS_Ch⟩
    · rw [List.take_of_length_le (by omega)] at hb
      have ht : ∀ c, hasI x.Id xs = c → (L.take (i + 1)).filter (fun x => !hasI x.Id xs) = (L.take i).filter (fun x => !hasI x.Id xs) ++ (bif c then [] else [x]) := fun c hc => by
        rw [take_at hx, List.filter_append]; cases c <;> simp [hc]
      have s4 := (w4.wide (Nat.le_refl _) (by omega : N2 ≤ N3)).sl (Nat.le_refl _)
      cases b with
      | true =>
        simp only [jnR]
        try refine gs_Ch ?_
        exact ih (n - 1) (by omega) _ _ _ _ _ _ _ _ ⟨i + 1, r, rfl, rfl, rfl, rfl, rfl, rfl, by omega, fr_Ch, f3', by omega, sS_Ch, sS_Ch, by rw [ht true hb]; simpa using w4.wide (Nat.le_refl _) (by omega)⟩
      | false =>
        simp only [jnR]
        try refine gs_Ch ?_
        refine Rn.call (OwR.app (α := Lk) (K := [x]) (lo := N1 + 1) ap_SLink (OwR.wide (OwR.keep w4 fun j g1 g2 => sS_Ch) (Nat.le_refl _) (by omega)) (by omega) (Sl.lit [x] sM_Ch (by omega : N3 < N3 + 1) rfl rfl) (Fr.refl _ _) (by have := List.length_filter_le (fun x : Lk => !hasI x.Id xs) (L.take i); simp at this ⊢; omega)) ?_
        rintro r' h4 N4 ⟨w5, f5, o5, l5⟩
        have s5 := w5.sl (Nat.le_refl _)
        have a5 := flatV_one s5.flat
        have c5 := cel_flat s5.flat
        try refine gs_Ch ?_
        exact ih (n - 1) (by omega) _ _ _ _ _ _ _ _ ⟨i + 1, r', rfl, rfl, rfl, rfl, rfl, rfl, by omega, fr_Ch, f3'.keep fun j g1 g2 => sS_Ch, by omega, sS_Ch, sS_Ch, by rw [ht false hb]; exact w5.keep fun j g1 g2 => sS_Ch⟩
  · try refine gs_Ch ?_
    rw [List.take_of_length_le (by omega)] at w2
    refine Rn.ret ⟨⟨p', r, rfl, ?_, ?_⟩, (Gw.of fr_Ch (by omega))⟩
    · exact OwR.wide (OwR.keep f2' fun j g1 g2 => sS_Ch) (by omega) (by omega)
    · exact OwR.wide (OwR.keep w2 fun j g1 g2 => sS_Ch) (by omega) (by omega)
end Go.Proofs.Ytkgjfpgccnonfaa
end

section
namespace Go.Proofs.Ytkgjfpgccnonfaa
open Go.Ev Go.RowKit
set_option linter.unusedVariables false
set_option linter.unusedSimpArgs false
set_option linter.unusedSectionVars false
set_option maxRecDepth 100000
set_option maxHeartbeats 4000000
theorem fr_Ci {p : Prop} (h : p := by first | assumption | exact Fr.refl _ _ | (simp (disch := omega) only [Fr_set, Fr_refl, *])) : p := h
theorem fl_Ci {p : Prop} (h : p := by first | with_unfolding_all rfl | exact Sl.flat (by assumption) | assumption) : p := h
theorem fll_Ci {p : Prop} (h : p := by first | with_unfolding_all rfl | ((repeat (refine flatL_k fl_Ci ?_)); with_unfolding_all rfl)) : p := h
theorem en_Ci {p : Prop} (h : p := by first | ((simp only [enc_int, enc_str, enc_u8, enc_bool, tak_s, tak_0, tak_n, drp_0, drp_s, drp_n, nth_s, nth_0, bsl_Sint, bsl_SLink, bs0_Sint, bs0_SLink, bld_Span, bld_Town, enc_Link, neqE_Link]); rfl) | ((simp only [enc_int, enc_str, enc_u8, enc_bool, tak_s, tak_0, tak_n, drp_0, drp_s, drp_n, nth_s, nth_0, bsl_Sint, bsl_SLink, bs0_Sint, bs0_SLink, bld_Span, bld_Town, enc_Link, neqE_Link]); done) | with_unfolding_all rfl) : p := h
theorem sM_Ci {p : Prop} (h : p := by (first | assumption | (simp (disch := omega) only [Tr.get_same, Tr.get_other, *]; rfl) | (simp (disch := omega) only [Tr.get_same, Tr.get_other, *]; done))) : p := h
theorem sS_Ci {p : Prop} (h : p := by first | assumption | (simp (disch := omega) only [obind_s, orun_s, ocond_t, fad_p, ld1_e, ldN_e, sto_e, cellO_c, wrO_c, Tr.get_same, Tr.get_other, nth_0, nth_s, drp_0, drp_s, drp_n, tak_0, tak_s, tak_n, over_n, over_c, lay_0, lay_s, lay_n, len_n, len_c, app_n, app_c, reps_0, reps_s, cel_agg, cel_int, cel_bool, cel_str, cel_sl, cel_ptr, cel_map, cel_func, cel_nilf, fil_n, fil_c, beq_r, ble_d, allF_n, allF_c, one_int, one_bool, one_str, one_sl, one_ptr, one_map, one_func, one_nilf, Bool.and_true, Bool.true_and, Bool.not_true, Bool.not_false, iadA_z, Int.reduceToNat, Int.toNat_zero, fl1_a, flN_a, extr_t, unot, not_d, Nat.add_eq, Nat.mul_eq, Nat.mul_one, Nat.one_mul, Nat.zero_mul, Nat.reduceMul, Nat.zero_add, Nat.add_zero, Nat.le_refl, decide_true, Nat.reduceAdd, Nat.reduceLeDiff, bsl_Sint, bsl_SLink, bs0_Sint, bs0_SLink, bld_Span, bld_Town, enc_Link, neqE_Link, *])) : p := h
theorem op_Ci {p : Prop} (h : p := by first | with_reducible exact fad_p _ _ _ | with_reducible exact iop_lss _ _ | with_reducible exact iop_leq _ _ | with_reducible exact iop_gtr _ _ | with_reducible exact iop_geq _ _ | with_reducible exact iop_eql _ _ | with_reducible exact iop_neq _ _ | with_reducible exact Sl.len (by assumption) | with_reducible exact lenS_s _ _ _ | with_reducible exact Sl.iad (by assumption) (by with_unfolding_all rfl) (by first | assumption | omega) | with_reducible exact Sl.fad (by assumption) (by first | assumption | omega) | with_reducible exact Sl.ld1 (by assumption) fr_Ci (by with_unfolding_all rfl) (by assumption) en_Ci | with_reducible exact Sl.ldN (by assumption) fr_Ci (by with_unfolding_all rfl) (by assumption) (by with_unfolding_all rfl) en_Ci | with_reducible exact zadd1 (by omega) | with_reducible exact zsub1 (by omega) (by omega) | with_reducible exact zaddI (by omega) (by omega) | with_reducible exact zsubI (by omega) (by omega) | with_reducible exact wntT_t (by assumption) | with_reducible exact wntT_f (by assumption) | with_reducible exact wntF_t (by assumption) | with_reducible exact wntF_f (by assumption) | with_reducible exact wnt_tt | with_reducible exact wnt_tf | with_reducible exact wnt_ft | with_reducible exact wnt_ff | with_reducible exact wnt_u _ _ | with_reducible exact pck_t _ _ | with_reducible exact pck_f _ _ | with_reducible exact pckT (by assumption) | with_reducible exact pckF (by assumption) | with_reducible exact wntN_tt (by assumption) | with_reducible exact wntN_tf (by assumption) | with_reducible exact wntN_ft (by assumption) | with_reducible exact wntN_ff (by assumption) | with_reducible exact pckNT (by assumption) | with_reducible exact pckNF (by assumption) | with_reducible exact wntB_tt (by assumption) | with_reducible exact wntB_tf (by assumption) | with_reducible exact wntB_ft (by assumption) | with_reducible exact wntB_ff (by assumption) | with_reducible exact pckBT (by assumption) | with_reducible exact pckBF (by assumption) | (simp (disch := omega) only [obind_s, orun_s, ocond_t, fad_p, ld1_e, ldN_e, sto_e, cellO_c, wrO_c, Tr.get_same, Tr.get_other, nth_0, nth_s, drp_0, drp_s, drp_n, tak_0, tak_s, tak_n, over_n, over_c, lay_0, lay_s, lay_n, len_n, len_c, app_n, app_c, reps_0, reps_s, cel_agg, cel_int, cel_bool, cel_str, cel_sl, cel_ptr, cel_map, cel_func, cel_nilf, fil_n, fil_c, beq_r, ble_d, allF_n, allF_c, one_int, one_bool, one_str, one_sl, one_ptr, one_map, one_func, one_nilf, Bool.and_true, Bool.true_and, Bool.not_true, Bool.not_false, iadA_z, Int.reduceToNat, Int.toNat_zero, fl1_a, flN_a, extr_t, unot, not_d, Nat.add_eq, Nat.mul_eq, Nat.mul_one, Nat.one_mul, Nat.zero_mul, Nat.reduceMul, Nat.zero_add, Nat.add_zero, Nat.le_refl, decide_true, Nat.reduceAdd, Nat.reduceLeDiff, bsl_Sint, bsl_SLink, bs0_Sint, bs0_SLink, bld_Span, bld_Town, enc_Link, neqE_Link, *]; rfl) | (simp (disch := omega) only [obind_s, orun_s, ocond_t, fad_p, ld1_e, ldN_e, sto_e, cellO_c, wrO_c, Tr.get_same, Tr.get_other, nth_0, nth_s, drp_0, drp_s, drp_n, tak_0, tak_s, tak_n, over_n, over_c, lay_0, lay_s, lay_n, len_n, len_c, app_n, app_c, reps_0, reps_s, cel_agg, cel_int, cel_bool, cel_str, cel_sl, cel_ptr, cel_map, cel_func, cel_nilf, fil_n, fil_c, beq_r, ble_d, allF_n, allF_c, one_int, one_bool, one_str, one_sl, one_ptr, one_map, one_func, one_nilf, Bool.and_true, Bool.true_and, Bool.not_true, Bool.not_false, iadA_z, Int.reduceToNat, Int.toNat_zero, fl1_a, flN_a, extr_t, unot, not_d, Nat.add_eq, Nat.mul_eq, Nat.mul_one, Nat.one_mul, Nat.zero_mul, Nat.reduceMul, Nat.zero_add, Nat.add_zero, Nat.le_refl, decide_true, Nat.reduceAdd, Nat.reduceLeDiff, bsl_Sint, bsl_SLink, bs0_Sint, bs0_SLink, bld_Span, bld_Town, enc_Link, neqE_Link, *]; done)) : p := h
theorem co_Ci {p : Prop} (h : p := by first | (simp only [impB_1, impB_0, offB_1, offB_0]; done) | ((try simp only [impB_1, impB_0, offB_1, offB_0]); first | with_reducible exact Sl.ag1 (by assumption) fr_Ci (by with_unfolding_all rfl) (by assumption) en_Ci | with_reducible exact Sl.agN (by assumption) fr_Ci (by with_unfolding_all rfl) (by assumption) (by with_unfolding_all rfl) en_Ci | ((with_reducible refine agL1_e ?_ ?_); (· (simp (disch := omega) only [obind_s, orun_s, ocond_t, fad_p, ld1_e, ldN_e, sto_e, cellO_c, wrO_c, Tr.get_same, Tr.get_other, nth_0, nth_s, drp_0, drp_s, drp_n, tak_0, tak_s, tak_n, over_n, over_c, lay_0, lay_s, lay_n, len_n, len_c, app_n, app_c, reps_0, reps_s, cel_agg, cel_int, cel_bool, cel_str, cel_sl, cel_ptr, cel_map, cel_func, cel_nilf, fil_n, fil_c, beq_r, ble_d, allF_n, allF_c, one_int, one_bool, one_str, one_sl, one_ptr, one_map, one_func, one_nilf, Bool.and_true, Bool.true_and, Bool.not_true, Bool.not_false, iadA_z, Int.reduceToNat, Int.toNat_zero, fl1_a, flN_a, extr_t, unot, not_d, Nat.add_eq, Nat.mul_eq, Nat.mul_one, Nat.one_mul, Nat.zero_mul, Nat.reduceMul, Nat.zero_add, Nat.add_zero, Nat.le_refl, decide_true, Nat.reduceAdd, Nat.reduceLeDiff, bsl_Sint, bsl_SLink, bs0_Sint, bs0_SLink, bld_Span, bld_Town, enc_Link, neqE_Link, *]; done)); (· exact fl_Ci)) | ((with_reducible refine agLN_e ?_ ?_); (· (simp (disch := omega) only [obind_s, orun_s, ocond_t, fad_p, ld1_e, ldN_e, sto_e, cellO_c, wrO_c, Tr.get_same, Tr.get_other, nth_0, nth_s, drp_0, drp_s, drp_n, tak_0, tak_s, tak_n, over_n, over_c, lay_0, lay_s, lay_n, len_n, len_c, app_n, app_c, reps_0, reps_s, cel_agg, cel_int, cel_bool, cel_str, cel_sl, cel_ptr, cel_map, cel_func, cel_nilf, fil_n, fil_c, beq_r, ble_d, allF_n, allF_c, one_int, one_bool, one_str, one_sl, one_ptr, one_map, one_func, one_nilf, Bool.and_true, Bool.true_and, Bool.not_true, Bool.not_false, iadA_z, Int.reduceToNat, Int.toNat_zero, fl1_a, flN_a, extr_t, unot, not_d, Nat.add_eq, Nat.mul_eq, Nat.mul_one, Nat.one_mul, Nat.zero_mul, Nat.reduceMul, Nat.zero_add, Nat.add_zero, Nat.le_refl, decide_true, Nat.reduceAdd, Nat.reduceLeDiff, bsl_Sint, bsl_SLink, bs0_Sint, bs0_SLink, bld_Span, bld_Town, enc_Link, neqE_Link, *]; done)); (· exact fll_Ci)) | ((with_reducible apply ag_bs); (· exact sM_Ci); (· rfl); (· (simp (disch := omega) only [obind_s, orun_s, ocond_t, fad_p, ld1_e, ldN_e, sto_e, cellO_c, wrO_c, Tr.get_same, Tr.get_other, nth_0, nth_s, drp_0, drp_s, drp_n, tak_0, tak_s, tak_n, over_n, over_c, lay_0, lay_s, lay_n, len_n, len_c, app_n, app_c, reps_0, reps_s, cel_agg, cel_int, cel_bool, cel_str, cel_sl, cel_ptr, cel_map, cel_func, cel_nilf, fil_n, fil_c, beq_r, ble_d, allF_n, allF_c, one_int, one_bool, one_str, one_sl, one_ptr, one_map, one_func, one_nilf, Bool.and_true, Bool.true_and, Bool.not_true, Bool.not_false, iadA_z, Int.reduceToNat, Int.toNat_zero, fl1_a, flN_a, extr_t, unot, not_d, Nat.add_eq, Nat.mul_eq, Nat.mul_one, Nat.one_mul, Nat.zero_mul, Nat.reduceMul, Nat.zero_add, Nat.add_zero, Nat.le_refl, decide_true, Nat.reduceAdd, Nat.reduceLeDiff, bsl_Sint, bsl_SLink, bs0_Sint, bs0_SLink, bld_Span, bld_Town, enc_Link, neqE_Link, Nat.succ_eq_add_one, Nat.add_assoc, *])); (· exact fll_Ci)) | ((with_reducible apply ag_al); (· exact sM_Ci); (· rfl); (· exact fll_Ci)) | ((with_reducible apply ag_bx); (· exact sM_Ci); (· rfl); (· rfl); (· exact fll_Ci)) | ((with_reducible apply ag_bd); (· rfl); (· (simp (disch := omega) only [obind_s, orun_s, ocond_t, fad_p, ld1_e, ldN_e, sto_e, cellO_c, wrO_c, Tr.get_same, Tr.get_other, nth_0, nth_s, drp_0, drp_s, drp_n, tak_0, tak_s, tak_n, over_n, over_c, lay_0, lay_s, lay_n, len_n, len_c, app_n, app_c, reps_0, reps_s, cel_agg, cel_int, cel_bool, cel_str, cel_sl, cel_ptr, cel_map, cel_func, cel_nilf, fil_n, fil_c, beq_r, ble_d, allF_n, allF_c, one_int, one_bool, one_str, one_sl, one_ptr, one_map, one_func, one_nilf, Bool.and_true, Bool.true_and, Bool.not_true, Bool.not_false, iadA_z, Int.reduceToNat, Int.toNat_zero, fl1_a, flN_a, extr_t, unot, not_d, Nat.add_eq, Nat.mul_eq, Nat.mul_one, Nat.one_mul, Nat.zero_mul, Nat.reduceMul, Nat.zero_add, Nat.add_zero, Nat.le_refl, decide_true, Nat.reduceAdd, Nat.reduceLeDiff, bsl_Sint, bsl_SLink, bs0_Sint, bs0_SLink, bld_Span, bld_Town, enc_Link, neqE_Link, *])); (· exact fll_Ci)) | (simp (disch := omega) only [obind_s, orun_s, ocond_t, fad_p, ld1_e, ldN_e, sto_e, cellO_c, wrO_c, Tr.get_same, Tr.get_other, nth_0, nth_s, drp_0, drp_s, drp_n, tak_0, tak_s, tak_n, over_n, over_c, lay_0, lay_s, lay_n, len_n, len_c, app_n, app_c, reps_0, reps_s, cel_agg, cel_int, cel_bool, cel_str, cel_sl, cel_ptr, cel_map, cel_func, cel_nilf, fil_n, fil_c, beq_r, ble_d, allF_n, allF_c, one_int, one_bool, one_str, one_sl, one_ptr, one_map, one_func, one_nilf, Bool.and_true, Bool.true_and, Bool.not_true, Bool.not_false, iadA_z, Int.reduceToNat, Int.toNat_zero, fl1_a, flN_a, extr_t, unot, not_d, Nat.add_eq, Nat.mul_eq, Nat.mul_one, Nat.one_mul, Nat.zero_mul, Nat.reduceMul, Nat.zero_add, Nat.add_zero, Nat.le_refl, decide_true, Nat.reduceAdd, Nat.reduceLeDiff, bsl_Sint, bsl_SLink, bs0_Sint, bs0_SLink, bld_Span, bld_Town, enc_Link, neqE_Link, *]; done))) : p := h
theorem gs_Ci {r p : Prop} (k : r) (h : Go.Ev.Im r p := by (first | with_reducible apply Im.runS | ((with_reducible apply Im.num); · (simp only [Nat.succ_eq_add_one, Nat.add_assoc, Nat.reduceAdd]; rfl)) | (with_reducible apply Im.unm) | (with_reducible apply Im.selT) | (with_reducible apply Im.selF) | ((with_reducible apply Im.cndT); · assumption) | ((with_reducible apply Im.cndF); · assumption) | ((with_reducible apply Im.cndBT); · exact rfl) | ((with_reducible apply Im.cndBF); · exact rfl) | ((with_reducible apply Im.cndNT); · assumption) | ((with_reducible apply Im.cndNF); · assumption) | ((with_reducible apply Im.cndBT); · assumption) | ((with_reducible apply Im.cndBF); · assumption) | ((with_reducible apply Im.bind); · exact op_Ci) | ((with_reducible apply Im.cond); · exact co_Ci) | ((with_reducible apply Im.runB); · exact op_Ci) | ((with_reducible apply Im.runC); · exact co_Ci) | ((with_reducible apply Im.runN); · (simp only [Nat.succ_eq_add_one, Nat.add_assoc, Nat.reduceAdd]; rfl)) | with_reducible apply Im.runR | ((with_reducible apply Im.runE (x := evBuildSlice _ _ _ _ _ _)); · (simp (disch := omega) only [obind_s, orun_s, ocond_t, fad_p, ld1_e, ldN_e, sto_e, cellO_c, wrO_c, Tr.get_same, Tr.get_other, nth_0, nth_s, drp_0, drp_s, drp_n, tak_0, tak_s, tak_n, over_n, over_c, lay_0, lay_s, lay_n, len_n, len_c, app_n, app_c, reps_0, reps_s, cel_agg, cel_int, cel_bool, cel_str, cel_sl, cel_ptr, cel_map, cel_func, cel_nilf, fil_n, fil_c, beq_r, ble_d, allF_n, allF_c, one_int, one_bool, one_str, one_sl, one_ptr, one_map, one_func, one_nilf, Bool.and_true, Bool.true_and, Bool.not_true, Bool.not_false, iadA_z, Int.reduceToNat, Int.toNat_zero, fl1_a, flN_a, extr_t, unot, not_d, Nat.add_eq, Nat.mul_eq, Nat.mul_one, Nat.one_mul, Nat.zero_mul, Nat.reduceMul, Nat.zero_add, Nat.add_zero, Nat.le_refl, decide_true, Nat.reduceAdd, Nat.reduceLeDiff, bsl_Sint, bsl_SLink, bs0_Sint, bs0_SLink, bld_Span, bld_Town, enc_Link, neqE_Link, Nat.succ_eq_add_one, Nat.add_assoc, *]; rfl))); (repeat (first | with_reducible apply Im.runS | ((with_reducible apply Im.num); · (simp only [Nat.succ_eq_add_one, Nat.add_assoc, Nat.reduceAdd]; rfl)) | (with_reducible apply Im.unm) | (with_reducible apply Im.selT) | (with_reducible apply Im.selF) | ((with_reducible apply Im.cndT); · assumption) | ((with_reducible apply Im.cndF); · assumption) | ((with_reducible apply Im.cndBT); · exact rfl) | ((with_reducible apply Im.cndBF); · exact rfl) | ((with_reducible apply Im.cndNT); · assumption) | ((with_reducible apply Im.cndNF); · assumption) | ((with_reducible apply Im.cndBT); · assumption) | ((with_reducible apply Im.cndBF); · assumption) | ((with_reducible apply Im.bind); · exact op_Ci) | ((with_reducible apply Im.cond); · exact co_Ci) | ((with_reducible apply Im.runB); · exact op_Ci) | ((with_reducible apply Im.runC); · exact co_Ci) | ((with_reducible apply Im.runN); · (simp only [Nat.succ_eq_add_one, Nat.add_assoc, Nat.reduceAdd]; rfl)) | with_reducible apply Im.runR | ((with_reducible apply Im.runE (x := evBuildSlice _ _ _ _ _ _)); · (simp (disch := omega) only [obind_s, orun_s, ocond_t, fad_p, ld1_e, ldN_e, sto_e, cellO_c, wrO_c, Tr.get_same, Tr.get_other, nth_0, nth_s, drp_0, drp_s, drp_n, tak_0, tak_s, tak_n, over_n, over_c, lay_0, lay_s, lay_n, len_n, len_c, app_n, app_c, reps_0, reps_s, cel_agg, cel_int, cel_bool, cel_str, cel_sl, cel_ptr, cel_map, cel_func, cel_nilf, fil_n, fil_c, beq_r, ble_d, allF_n, allF_c, one_int, one_bool, one_str, one_sl, one_ptr, one_map, one_func, one_nilf, Bool.and_true, Bool.true_and, Bool.not_true, Bool.not_false, iadA_z, Int.reduceToNat, Int.toNat_zero, fl1_a, flN_a, extr_t, unot, not_d, Nat.add_eq, Nat.mul_eq, Nat.mul_one, Nat.one_mul, Nat.zero_mul, Nat.reduceMul, Nat.zero_add, Nat.add_zero, Nat.le_refl, decide_true, Nat.reduceAdd, Nat.reduceLeDiff, bsl_Sint, bsl_SLink, bs0_Sint, bs0_SLink, bld_Span, bld_Town, enc_Link, neqE_Link, Nat.succ_eq_add_one, Nat.add_assoc, *]; rfl)))); exact Go.Ev.Im.id) : p := h k
theorem begE6 {P : List Int} {L : List Lk} {xs : List Int} (ok : okT P L = true) : begE P L [6] xs = if lnkB L 0 xs = true then 0 else 34 := by
  rw [begE, if_pos ok, if_neg (by simp)]
theorem r_Close (call : CallF) {p l v : Value} {P : List Int} {L : List Lk} {xs : List Int} {h N} (hlp : P.length < 1000) (hl : L.length < 1000) (hx : xs.length < 1000) (hp : Sl h N p P) (hk : Sl h N l L) (hs : Sl h N v xs) :
    Rn (s7 call (.agg ⟨[p, l]⟩) v h N) fun u h' N' => (∃ p' l', u = .tuple ⟨[.agg ⟨[p', l']⟩, iS (clS P L xs).2.2]⟩ ∧ Sl h' N' p' (clS P L xs).1 ∧ Sl h' N' l' (clS P L xs).2.1) ∧ Gw h N h' N' := by
  have cp := cel_flat hp.flat
  have cl := cel_flat hk.flat
  have op := flatV_one hp.flat
  have ol := flatV_one hk.flat
  unfold s7
  try refine gs_Ci ?_
  refine Rn.call (r_town call hlp hl (Sl.up (by assumption) fr_Ci (by omega)) (Sl.up (by assumption) fr_Ci (by omega))) ?_
  rintro _ h1 N1 ⟨rfl, f1, o1, l1⟩
  by_cases ok : okT P L = true
  · rw [ok]
    have ec : clS P L xs = if lnkB L 0 xs = true then (P, L.filter (fun x => !hasI x.Id xs), 0) else ([], [], 34) := by
      rw [clS, begE6 ok]; split <;> simp
    try refine gs_Ci ?_
    refine Rn.loop6 (fun n a1 a2 a3 a4 a5 a6 g M => ∃ (i : Nat) (z : Int), v = a1 ∧ a2 = .pointer (some ⟨N, 0, none⟩) ∧ a3 = .pointer (some ⟨N + 1, 0, none⟩) ∧ v = a4 ∧ a5 = nS xs.length ∧ a6 = nS i ∧ i + n = xs.length ∧ Fr h N g ∧ N + 2 ≤ M ∧ g.get N = some (.c [p, l] 25) ∧ g.get (N + 1) = some (.c [.slice none 0 0, .slice none 0 0] 25) ∧ (if i = 0 then z = 0 else xs[i - 1]? = some z) ∧ lnkB L z (xs.drop i) = lnkB L 0 xs) xs.length (by omega) ⟨0, 0, rfl, rfl, rfl, rfl, rfl, rfl, by omega, fr_Ci, by omega, sS_Ci, sS_Ci, rfl, rfl⟩ ?_
    rintro n g ih _ _ _ _ _ _ h2 N2 ⟨i, z, rfl, rfl, rfl, rfl, rfl, rfl, e1, f2, l2, g1, g2, hz, q1⟩
    try refine gs_Ci ?_
    (first | with_reducible refine Rn.cnd (fun _ => ?_) (fun _ => ?_) | with_reducible refine Rn.cndN (fun _ => ?_) (fun _ => ?_) | with_reducible refine Rn.cndB (fun _ => ?_) (fun _ => ?_))
    · obtain ⟨x, hx⟩ := at_of (L := xs) (k := i) (by omega)
      rw [drop_at hx] at q1
      simp only [lnkB] at q1
      try refine gs_Ci ?_
      refine Rn.call (r_link call (L := L) hl (Sl.up (by assumption) fr_Ci (by omega)) (Sl.flat hp)) ?_
      rintro _ h3 N3 ⟨rfl, f3, o3, l3⟩
      have hlt := idxP_lt (p := fun y : Lk => decide (y.Id = x)) L
      generalize idxP (fun y : Lk => decide (y.Id = x)) L 0 = k at hlt ⊢
      cases hb : L.any fun y : Lk => decide (y.Id = x) with
      | false =>
        rw [hb] at hlt q1
        have hk00 : True := trivial
        have hk0 : k < 0 := of_decide_eq_true hlt
        clear hlt
        rw [Bool.and_false, Bool.false_and] at q1
        rw [← q1, if_neg (by simp)] at ec
        rw [ec]
        try refine gs_Ci ?_
        exact Rn.ret ⟨⟨snil, snil, rfl, Sl.nil _ _, Sl.nil _ _⟩, (Gw.of fr_Ci (by omega))⟩
      | true =>
        have hpos := pos_of_ok ok hb
        rw [hb] at hlt q1
        have hk0 : ¬ k < 0 := of_decide_eq_false hlt
        clear hlt
        rw [Bool.and_true] at q1
        by_cases hi : i = 0
        · rw [if_pos hi] at hz
          rw [show decide (z < x) = true from decide_eq_true (by omega), Bool.true_and] at q1
          have hn : ¬ (0 : Int) < (i : Int) := by omega
          try refine gs_Ci ?_
          exact ih (n - 1) (by omega) _ _ _ _ _ _ _ _ ⟨i + 1, x, rfl, rfl, rfl, rfl, rfl, rfl, by omega, fr_Ci, by omega, sS_Ci, sS_Ci, hx, q1⟩
        · rw [if_neg hi] at hz
          have hn : (0 : Int) < (i : Int) := by omega
          by_cases hzx : z < x
          · rw [show decide (z < x) = true from decide_eq_true hzx, Bool.true_and] at q1
            have hxz : ¬ x ≤ z := by omega
            try refine gs_Ci ?_
            exact ih (n - 1) (by omega) _ _ _ _ _ _ _ _ ⟨i + 1, x, rfl, rfl, rfl, rfl, rfl, rfl, by omega, fr_Ci, by omega, sS_Ci, sS_Ci, hx, q1⟩
          · rw [show decide (z < x) = false from decide_eq_false hzx, Bool.false_and] at q1
            have hxz : x ≤ z := by omega
            rw [← q1, if_neg (by simp)] at ec
            rw [ec]
            try refine gs_Ci ?_
            exact Rn.ret ⟨⟨snil, snil, rfl, Sl.nil _ _, Sl.nil _ _⟩, (Gw.of fr_Ci (by omega))⟩
    · try refine gs_Ci ?_
      rw [List.drop_eq_nil_of_le (by omega)] at q1
      rw [← q1] at ec
      have ec : clS P L xs = (P, L.filter (fun x => !hasI x.Id xs), 0) := ec
      rw [ec]
      refine Rn.call (r_without call hlp hl (by omega) (Sl.up (by assumption) fr_Ci (by omega)) (Sl.up (by assumption) fr_Ci (by omega)) (Sl.up (by assumption) fr_Ci (by omega))) ?_
      rintro _ h3 N3 ⟨⟨p', l', rfl, q1, q2⟩, f3, o3, l3⟩
      have s1 := q1.sl (Nat.le_refl _)
      have s2 := q2.sl (Nat.le_refl _)
      have a1 := flatV_one s1.flat
      have c1 := cel_flat s1.flat
      have a2 := flatV_one s2.flat
      have c2 := cel_flat s2.flat
      try refine gs_Ci ?_
      exact Rn.ret ⟨⟨p', l', rfl, OwR.sl (OwR.keep q1 fun j g1 g2 => sS_Ci) (by omega), OwR.sl (OwR.keep q2 fun j g1 g2 => sS_Ci) (by omega)⟩, (Gw.of fr_Ci (by omega))⟩
  · rw [Bool.eq_false_iff.2 ok]
    have ec : clS P L xs = ([], [], 30) := by rw [clS, begE, if_neg ok, if_neg (by simp)]
    rw [ec]
    try refine gs_Ci ?_
    exact Rn.ret ⟨⟨snil, snil, rfl, Sl.nil _ _, Sl.nil _ _⟩, (Gw.of fr_Ci (by omega))⟩
end Go.Proofs.Ytkgjfpgccnonfaa
end

section
namespace Go.Proofs.Ytkgjfpgccnonfaa
open Go.Ev Go.RowKit
set_option linter.unusedVariables false
set_option linter.unusedSimpArgs false
set_option linter.unusedSectionVars false
set_option maxRecDepth 100000
set_option maxHeartbeats 4000000
theorem fr_Cj {p : Prop} (h : p := by first | assumption | exact Fr.refl _ _ | (simp (disch := omega) only [Fr_set, Fr_refl, *])) : p := h
theorem fl_Cj {p : Prop} (h : p := by first | with_unfolding_all rfl | exact Sl.flat (by assumption) | assumption) : p := h
theorem fll_Cj {p : Prop} (h : p := by first | with_unfolding_all rfl | ((repeat (refine flatL_k fl_Cj ?_)); with_unfolding_all rfl)) : p := h
theorem en_Cj {p : Prop} (h : p := by first | ((simp only [enc_int, enc_str, enc_u8, enc_bool, tak_s, tak_0, tak_n, drp_0, drp_s, drp_n, nth_s, nth_0, bsl_Sint, bsl_SLink, bs0_Sint, bs0_SLink, bld_Span, bld_Town, enc_Link, neqE_Link]); rfl) | ((simp only [enc_int, enc_str, enc_u8, enc_bool, tak_s, tak_0, tak_n, drp_0, drp_s, drp_n, nth_s, nth_0, bsl_Sint, bsl_SLink, bs0_Sint, bs0_SLink, bld_Span, bld_Town, enc_Link, neqE_Link]); done) | with_unfolding_all rfl) : p := h
theorem sM_Cj {p : Prop} (h : p := by (first | assumption | (simp (disch := omega) only [Tr.get_same, Tr.get_other, *]; rfl) | (simp (disch := omega) only [Tr.get_same, Tr.get_other, *]; done))) : p := h
theorem sS_Cj {p : Prop} (h : p := by first | assumption | (simp (disch := omega) only [obind_s, orun_s, ocond_t, fad_p, ld1_e, ldN_e, sto_e, cellO_c, wrO_c, Tr.get_same, Tr.get_other, nth_0, nth_s, drp_0, drp_s, drp_n, tak_0, tak_s, tak_n, over_n, over_c, lay_0, lay_s, lay_n, len_n, len_c, app_n, app_c, reps_0, reps_s, cel_agg, cel_int, cel_bool, cel_str, cel_sl, cel_ptr, cel_map, cel_func, cel_nilf, fil_n, fil_c, beq_r, ble_d, allF_n, allF_c, one_int, one_bool, one_str, one_sl, one_ptr, one_map, one_func, one_nilf, Bool.and_true, Bool.true_and, Bool.not_true, Bool.not_false, iadA_z, Int.reduceToNat, Int.toNat_zero, fl1_a, flN_a, extr_t, unot, not_d, Nat.add_eq, Nat.mul_eq, Nat.mul_one, Nat.one_mul, Nat.zero_mul, Nat.reduceMul, Nat.zero_add, Nat.add_zero, Nat.le_refl, decide_true, Nat.reduceAdd, Nat.reduceLeDiff, bsl_Sint, bsl_SLink, bs0_Sint, bs0_SLink, bld_Span, bld_Town, enc_Link, neqE_Link, *])) : p := h
theorem op_Cj {p : Prop} (h : p := by first | with_reducible exact fad_p _ _ _ | with_reducible exact iop_lss _ _ | with_reducible exact iop_leq _ _ | with_reducible exact iop_gtr _ _ | with_reducible exact iop_geq _ _ | with_reducible exact iop_eql _ _ | with_reducible exact iop_neq _ _ | with_reducible exact Sl.len (by assumption) | with_reducible exact lenS_s _ _ _ | with_reducible exact Sl.iad (by assumption) (by with_unfolding_all rfl) (by first | assumption | omega) | with_reducible exact Sl.fad (by assumption) (by first | assumption | omega) | with_reducible exact Sl.ld1 (by assumption) fr_Cj (by with_unfolding_all rfl) (by assumption) en_Cj | with_reducible exact Sl.ldN (by assumption) fr_Cj (by with_unfolding_all rfl) (by assumption) (by with_unfolding_all rfl) en_Cj | with_reducible exact zadd1 (by omega) | with_reducible exact zsub1 (by omega) (by omega) | with_reducible exact zaddI (by omega) (by omega) | with_reducible exact zsubI (by omega) (by omega) | with_reducible exact wntT_t (by assumption) | with_reducible exact wntT_f (by assumption) | with_reducible exact wntF_t (by assumption) | with_reducible exact wntF_f (by assumption) | with_reducible exact wnt_tt | with_reducible exact wnt_tf | with_reducible exact wnt_ft | with_reducible exact wnt_ff | with_reducible exact wnt_u _ _ | with_reducible exact pck_t _ _ | with_reducible exact pck_f _ _ | with_reducible exact pckT (by assumption) | with_reducible exact pckF (by assumption) | with_reducible exact wntN_tt (by assumption) | with_reducible exact wntN_tf (by assumption) | with_reducible exact wntN_ft (by assumption) | with_reducible exact wntN_ff (by assumption) | with_reducible exact pckNT (by assumption) | with_reducible exact pckNF (by assumption) | with_reducible exact wntB_tt (by assumption) | with_reducible exact wntB_tf (by assumption) | with_reducible exact wntB_ft (by assumption) | with_reducible exact wntB_ff (by assumption) | with_reducible exact pckBT (by assumption) | with_reducible exact pckBF (by assumption) | (simp (disch := omega) only [obind_s, orun_s, ocond_t, fad_p, ld1_e, ldN_e, sto_e, cellO_c, wrO_c, Tr.get_same, Tr.get_other, nth_0, nth_s, drp_0, drp_s, drp_n, tak_0, tak_s, tak_n, over_n, over_c, lay_0, lay_s, lay_n, len_n, len_c, app_n, app_c, reps_0, reps_s, cel_agg, cel_int, cel_bool, cel_str, cel_sl, cel_ptr, cel_map, cel_func, cel_nilf, fil_n, fil_c, beq_r, ble_d, allF_n, allF_c, one_int, one_bool, one_str, one_sl, one_ptr, one_map, one_func, one_nilf, Bool.and_true, Bool.true_and, Bool.not_true, Bool.not_false, iadA_z, Int.reduceToNat, Int.toNat_zero, fl1_a, flN_a, extr_t, unot, not_d, Nat.add_eq, Nat.mul_eq, Nat.mul_one, Nat.one_mul, Nat.zero_mul, Nat.reduceMul, Nat.zero_add, Nat.add_zero, Nat.le_refl, decide_true, Nat.reduceAdd, Nat.reduceLeDiff, bsl_Sint, bsl_SLink, bs0_Sint, bs0_SLink, bld_Span, bld_Town, enc_Link, neqE_Link, *]; rfl) | (simp (disch := omega) only [obind_s, orun_s, ocond_t, fad_p, ld1_e, ldN_e, sto_e, cellO_c, wrO_c, Tr.get_same, Tr.get_other, nth_0, nth_s, drp_0, drp_s, drp_n, tak_0, tak_s, tak_n, over_n, over_c, lay_0, lay_s, lay_n, len_n, len_c, app_n, app_c, reps_0, reps_s, cel_agg, cel_int, cel_bool, cel_str, cel_sl, cel_ptr, cel_map, cel_func, cel_nilf, fil_n, fil_c, beq_r, ble_d, allF_n, allF_c, one_int, one_bool, one_str, one_sl, one_ptr, one_map, one_func, one_nilf, Bool.and_true, Bool.true_and, Bool.not_true, Bool.not_false, iadA_z, Int.reduceToNat, Int.toNat_zero, fl1_a, flN_a, extr_t, unot, not_d, Nat.add_eq, Nat.mul_eq, Nat.mul_one, Nat.one_mul, Nat.zero_mul, Nat.reduceMul, Nat.zero_add, Nat.add_zero, Nat.le_refl, decide_true, Nat.reduceAdd, Nat.reduceLeDiff, bsl_Sint, bsl_SLink, bs0_Sint, bs0_SLink, bld_Span, bld_Town, enc_Link, neqE_Link, *]; done)) : p := h
theorem co_Cj {p : Prop} (h : p := by first | (simp only [impB_1, impB_0, offB_1, offB_0]; done) | ((try simp only [impB_1, impB_0, offB_1, offB_0]); first | with_reducible exact Sl.ag1 (by assumption) fr_Cj (by with_unfolding_all rfl) (by assumption) en_Cj | with_reducible exact Sl.agN (by assumption) fr_Cj (by with_unfolding_all rfl) (by assumption) (by with_unfolding_all rfl) en_Cj | ((with_reducible refine agL1_e ?_ ?_); (· (simp (disch := omega) only [obind_s, orun_s, ocond_t, fad_p, ld1_e, ldN_e, sto_e, cellO_c, wrO_c, Tr.get_same, Tr.get_other, nth_0, nth_s, drp_0, drp_s, drp_n, tak_0, tak_s, tak_n, over_n, over_c, lay_0, lay_s, lay_n, len_n, len_c, app_n, app_c, reps_0, reps_s, cel_agg, cel_int, cel_bool, cel_str, cel_sl, cel_ptr, cel_map, cel_func, cel_nilf, fil_n, fil_c, beq_r, ble_d, allF_n, allF_c, one_int, one_bool, one_str, one_sl, one_ptr, one_map, one_func, one_nilf, Bool.and_true, Bool.true_and, Bool.not_true, Bool.not_false, iadA_z, Int.reduceToNat, Int.toNat_zero, fl1_a, flN_a, extr_t, unot, not_d, Nat.add_eq, Nat.mul_eq, Nat.mul_one, Nat.one_mul, Nat.zero_mul, Nat.reduceMul, Nat.zero_add, Nat.add_zero, Nat.le_refl, decide_true, Nat.reduceAdd, Nat.reduceLeDiff, bsl_Sint, bsl_SLink, bs0_Sint, bs0_SLink, bld_Span, bld_Town, enc_Link, neqE_Link, *]; done)); (· exact fl_Cj)) | ((with_reducible refine agLN_e ?_ ?_); (· (simp (disch := omega) only [obind_s, orun_s, ocond_t, fad_p, ld1_e, ldN_e, sto_e, cellO_c, wrO_c, Tr.get_same, Tr.get_other, nth_0, nth_s, drp_0, drp_s, drp_n, tak_0, tak_s, tak_n, over_n, over_c, lay_0, lay_s, lay_n, len_n, len_c, app_n, app_c, reps_0, reps_s, cel_agg, cel_int, cel_bool, cel_str, cel_sl, cel_ptr, cel_map, cel_func, cel_nilf, fil_n, fil_c, beq_r, ble_d, allF_n, allF_c, one_int, one_bool, one_str, one_sl, one_ptr, one_map, one_func, one_nilf, Bool.and_true, Bool.true_and, Bool.not_true, Bool.not_false, iadA_z, Int.reduceToNat, Int.toNat_zero, fl1_a, flN_a, extr_t, unot, not_d, Nat.add_eq, Nat.mul_eq, Nat.mul_one, Nat.one_mul, Nat.zero_mul, Nat.reduceMul, Nat.zero_add, Nat.add_zero, Nat.le_refl, decide_true, Nat.reduceAdd, Nat.reduceLeDiff, bsl_Sint, bsl_SLink, bs0_Sint, bs0_SLink, bld_Span, bld_Town, enc_Link, neqE_Link, *]; done)); (· exact fll_Cj)) | ((with_reducible apply ag_bs); (· exact sM_Cj); (· rfl); (· (simp (disch := omega) only [obind_s, orun_s, ocond_t, fad_p, ld1_e, ldN_e, sto_e, cellO_c, wrO_c, Tr.get_same, Tr.get_other, nth_0, nth_s, drp_0, drp_s, drp_n, tak_0, tak_s, tak_n, over_n, over_c, lay_0, lay_s, lay_n, len_n, len_c, app_n, app_c, reps_0, reps_s, cel_agg, cel_int, cel_bool, cel_str, cel_sl, cel_ptr, cel_map, cel_func, cel_nilf, fil_n, fil_c, beq_r, ble_d, allF_n, allF_c, one_int, one_bool, one_str, one_sl, one_ptr, one_map, one_func, one_nilf, Bool.and_true, Bool.true_and, Bool.not_true, Bool.not_false, iadA_z, Int.reduceToNat, Int.toNat_zero, fl1_a, flN_a, extr_t, unot, not_d, Nat.add_eq, Nat.mul_eq, Nat.mul_one, Nat.one_mul, Nat.zero_mul, Nat.reduceMul, Nat.zero_add, Nat.add_zero, Nat.le_refl, decide_true, Nat.reduceAdd, Nat.reduceLeDiff, bsl_Sint, bsl_SLink, bs0_Sint, bs0_SLink, bld_Span, bld_Town, enc_Link, neqE_Link, Nat.succ_eq_add_one, Nat.add_assoc, *])); (· exact fll_Cj)) | ((with_reducible apply ag_al); (· exact sM_Cj); (· rfl); (· exact fll_Cj)) | ((with_reducible apply ag_bx); (· exact sM_Cj); (· rfl); (· rfl); (· exact fll_Cj)) | ((with_reducible apply ag_bd); (· rfl); (· (simp (disch := omega) only [obind_s, orun_s, ocond_t, fad_p, ld1_e, ldN_e, sto_e, cellO_c, wrO_c, Tr.get_same, Tr.get_other, nth_0, nth_s, drp_0, drp_s, drp_n, tak_0, tak_s, tak_n, over_n, over_c, lay_0, lay_s, lay_n, len_n, len_c, app_n, app_c, reps_0, reps_s, cel_agg, cel_int, cel_bool, cel_str, cel_sl, cel_ptr, cel_map, cel_func, cel_nilf, fil_n, fil_c, beq_r, ble_d, allF_n, allF_c, one_int, one_bool, one_str, one_sl, one_ptr, one_map, one_func, one_nilf, Bool.and_true, Bool.true_and, Bool.not_true, Bool.not_false, iadA_z, Int.reduceToNat, Int.toNat_zero, fl1_a, flN_a, extr_t, unot, not_d, Nat.add_eq, Nat.mul_eq, Nat.mul_one, Nat.one_mul, Nat.zero_mul, Nat.reduceMul, Nat.zero_add, Nat.add_zero, Nat.le_refl, decide_true, Nat.reduceAdd, Nat.reduceLeDiff, bsl_Sint, bsl_SLink, bs0_Sint, bs0_SLink, bld_Span, bld_Town, enc_Link, neqE_Link, *])); (· exact fll_Cj)) | (simp (disch := omega) only [obind_s, orun_s, ocond_t, fad_p, ld1_e, ldN_e, sto_e, cellO_c, wrO_c, Tr.get_same, Tr.get_other, nth_0, nth_s, drp_0, drp_s, drp_n, tak_0, tak_s, tak_n, over_n, over_c, lay_0, lay_s, lay_n, len_n, len_c, app_n, app_c, reps_0, reps_s, cel_agg, cel_int, cel_bool, cel_str, cel_sl, cel_ptr, cel_map, cel_func, cel_nilf, fil_n, fil_c, beq_r, ble_d, allF_n, allF_c, one_int, one_bool, one_str, one_sl, one_ptr, one_map, one_func, one_nilf, Bool.and_true, Bool.true_and, Bool.not_true, Bool.not_false, iadA_z, Int.reduceToNat, Int.toNat_zero, fl1_a, flN_a, extr_t, unot, not_d, Nat.add_eq, Nat.mul_eq, Nat.mul_one, Nat.one_mul, Nat.zero_mul, Nat.reduceMul, Nat.zero_add, Nat.add_zero, Nat.le_refl, decide_true, Nat.reduceAdd, Nat.reduceLeDiff, bsl_Sint, bsl_SLink, bs0_Sint, bs0_SLink, bld_Span, bld_Town, enc_Link, neqE_Link, *]; done))) : p := h
theorem gs_Cj {r p : Prop} (k : r) (h : Go.Ev.Im r p := by (first | with_reducible apply Im.runS | ((with_reducible apply Im.num); · (simp only [Nat.succ_eq_add_one, Nat.add_assoc, Nat.reduceAdd]; rfl)) | (with_reducible apply Im.unm) | (with_reducible apply Im.selT) | (with_reducible apply Im.selF) | ((with_reducible apply Im.cndT); · assumption) | ((with_reducible apply Im.cndF); · assumption) | ((with_reducible apply Im.cndBT); · exact rfl) | ((with_reducible apply Im.cndBF); · exact rfl) | ((with_reducible apply Im.cndNT); · assumption) | ((with_reducible apply Im.cndNF); · assumption) | ((with_reducible apply Im.cndBT); · assumption) | ((with_reducible apply Im.cndBF); · assumption) | ((with_reducible apply Im.bind); · exact op_Cj) | ((with_reducible apply Im.cond); · exact co_Cj) | ((with_reducible apply Im.runB); · exact op_Cj) | ((with_reducible apply Im.runC); · exact co_Cj) | ((with_reducible apply Im.runN); · (simp only [Nat.succ_eq_add_one, Nat.add_assoc, Nat.reduceAdd]; rfl)) | with_reducible apply Im.runR | ((with_reducible apply Im.runE (x := evBuildSlice _ _ _ _ _ _)); · (simp (disch := omega) only [obind_s, orun_s, ocond_t, fad_p, ld1_e, ldN_e, sto_e, cellO_c, wrO_c, Tr.get_same, Tr.get_other, nth_0, nth_s, drp_0, drp_s, drp_n, tak_0, tak_s, tak_n, over_n, over_c, lay_0, lay_s, lay_n, len_n, len_c, app_n, app_c, reps_0, reps_s, cel_agg, cel_int, cel_bool, cel_str, cel_sl, cel_ptr, cel_map, cel_func, cel_nilf, fil_n, fil_c, beq_r, ble_d, allF_n, allF_c, one_int, one_bool, one_str, one_sl, one_ptr, one_map, one_func, one_nilf, Bool.and_true, Bool.true_and, Bool.not_true, Bool.not_false, iadA_z, Int.reduceToNat, Int.toNat_zero, fl1_a, flN_a, extr_t, unot, not_d, Nat.add_eq, Nat.mul_eq, Nat.mul_one, Nat.one_mul, Nat.zero_mul, Nat.reduceMul, Nat.zero_add, Nat.add_zero, Nat.le_refl, decide_true, Nat.reduceAdd, Nat.reduceLeDiff, bsl_Sint, bsl_SLink, bs0_Sint, bs0_SLink, bld_Span, bld_Town, enc_Link, neqE_Link, Nat.succ_eq_add_one, Nat.add_assoc, *]; rfl))); (repeat (first | with_reducible apply Im.runS | ((with_reducible apply Im.num); · (simp only [Nat.succ_eq_add_one, Nat.add_assoc, Nat.reduceAdd]; rfl)) | (with_reducible apply Im.unm) | (with_reducible apply Im.selT) | (with_reducible apply Im.selF) | ((with_reducible apply Im.cndT); · assumption) | ((with_reducible apply Im.cndF); · assumption) | ((with_reducible apply Im.cndBT); · exact rfl) | ((with_reducible apply Im.cndBF); · exact rfl) | ((with_reducible apply Im.cndNT); · assumption) | ((with_reducible apply Im.cndNF); · assumption) | ((with_reducible apply Im.cndBT); · assumption) | ((with_reducible apply Im.cndBF); · assumption) | ((with_reducible apply Im.bind); · exact op_Cj) | ((with_reducible apply Im.cond); · exact co_Cj) | ((with_reducible apply Im.runB); · exact op_Cj) | ((with_reducible apply Im.runC); · exact co_Cj) | ((with_reducible apply Im.runN); · (simp only [Nat.succ_eq_add_one, Nat.add_assoc, Nat.reduceAdd]; rfl)) | with_reducible apply Im.runR | ((with_reducible apply Im.runE (x := evBuildSlice _ _ _ _ _ _)); · (simp (disch := omega) only [obind_s, orun_s, ocond_t, fad_p, ld1_e, ldN_e, sto_e, cellO_c, wrO_c, Tr.get_same, Tr.get_other, nth_0, nth_s, drp_0, drp_s, drp_n, tak_0, tak_s, tak_n, over_n, over_c, lay_0, lay_s, lay_n, len_n, len_c, app_n, app_c, reps_0, reps_s, cel_agg, cel_int, cel_bool, cel_str, cel_sl, cel_ptr, cel_map, cel_func, cel_nilf, fil_n, fil_c, beq_r, ble_d, allF_n, allF_c, one_int, one_bool, one_str, one_sl, one_ptr, one_map, one_func, one_nilf, Bool.and_true, Bool.true_and, Bool.not_true, Bool.not_false, iadA_z, Int.reduceToNat, Int.toNat_zero, fl1_a, flN_a, extr_t, unot, not_d, Nat.add_eq, Nat.mul_eq, Nat.mul_one, Nat.one_mul, Nat.zero_mul, Nat.reduceMul, Nat.zero_add, Nat.add_zero, Nat.le_refl, decide_true, Nat.reduceAdd, Nat.reduceLeDiff, bsl_Sint, bsl_SLink, bs0_Sint, bs0_SLink, bld_Span, bld_Town, enc_Link, neqE_Link, Nat.succ_eq_add_one, Nat.add_assoc, *]; rfl)))); exact Go.Ev.Im.id) : p := h k
theorem r_Open (call : CallF) {p l : Value} {P : List Int} {L : List Lk} {x : Lk} {h N} (hlp : P.length < 900) (hl : L.length < 900) (hp : Sl h N p P) (hk : Sl h N l L) (wl : Pl l L.length) :
    Rn (s9 call (.agg ⟨[p, l]⟩) (.agg ⟨[iS x.Id, iS x.From, iS x.To, iS x.Steps, iS x.Paces]⟩) h N) fun u h' N' => (∃ p' l', u = .tuple ⟨[.agg ⟨[p', l']⟩, iS (opS P L x).2.2]⟩ ∧ Sl h' N' p' (opS P L x).1 ∧ Sl h' N' l' (opS P L x).2.1) ∧ Gw h N h' N' := by
  have cp := cel_flat hp.flat
  have cl := cel_flat hk.flat
  have op := flatV_one hp.flat
  have ol := flatV_one hk.flat
  unfold s9
  try refine gs_Cj ?_
  refine Rn.call (r_town call (P := P) (L := L) (by omega) (by omega) (Sl.up (by assumption) fr_Cj (by omega)) (Sl.up (by assumption) fr_Cj (by omega))) ?_
  rintro _ h1 N1 ⟨rfl, f1, o1, l1⟩
  by_cases ok : okT P L = true
  · rw [ok]
    try refine gs_Cj ?_
    refine Rn.loop4 (fun n a1 a2 a3 a4 g M => ∃ (i : Nat), a1 = .pointer (some ⟨N, 0, none⟩) ∧ a2 = .pointer (some ⟨N + 1, 0, none⟩) ∧ a3 = .pointer (some ⟨N + 2, 0, none⟩) ∧ a4 = nS i ∧ i + n = L.length ∧ Fr h N g ∧ N + 3 ≤ M ∧ g.get N = some (.c [p, l] 25) ∧ g.get (N + 1) = some (.c [iS x.Id, iS x.From, iS x.To, iS x.Steps, iS x.Paces] 27) ∧ g.get (N + 2) = some (.c [.slice none 0 0, .slice none 0 0] 25) ∧ i + atL x.Id (L.drop i) = atL x.Id L) L.length (by omega) ⟨0, rfl, rfl, rfl, rfl, by omega, fr_Cj, by omega, sS_Cj, sS_Cj, sS_Cj, by simp⟩ ?_
    rintro n g ih _ _ _ _ h2 N2 ⟨i, rfl, rfl, rfl, rfl, e2, f2, l2, g1, g2, g3, q2⟩
    obtain ⟨v1, z1, t1, u1⟩ := Sl.to (k := i) (P := Pr) (T := 23) (e := 27) hk wl rfl rfl (by omega)
    obtain ⟨v2, z2, t2, u2⟩ := Sl.from (k := i) (P := Pr) (T := 23) (e := 27) hk wl rfl rfl (by omega)
    have d1 := flatV_one t1.flat
    have d2 := flatV_one t2.flat
    have y1 := cel_flat t1.flat
    have y2 := cel_flat t2.flat
    try refine gs_Cj ?_
    (first | with_reducible refine Rn.part (fun _ => ?_) (fun _ => ?_) | with_reducible refine Rn.partN (fun _ => ?_) (fun _ => ?_) | with_reducible refine Rn.partB (fun _ => ?_) (fun _ => ?_))
    · obtain ⟨y, hy⟩ := at_of (L := L) (k := i) (by omega)
      rw [drop_at hy] at q2
      simp only [atL] at q2
      repeat' (first | refine gs_Cj ?_ | (first | with_reducible refine Rn.part (fun _ => ?_) (fun _ => ?_) | with_reducible refine Rn.partN (fun _ => ?_) (fun _ => ?_) | with_reducible refine Rn.partB (fun _ => ?_) (fun _ => ?_)) | (first | with_reducible refine Rn.cnd (fun _ => ?_) (fun _ => ?_) | with_reducible refine Rn.cndN (fun _ => ?_) (fun _ => ?_) | with_reducible refine Rn.cndB (fun _ => ?_) (fun _ => ?_)))
      · rw [if_pos (by assumption)] at q2
        exact ih (n - 1) (by omega) _ _ _ _ _ _ ⟨i + 1, rfl, rfl, rfl, rfl, by omega, fr_Cj, by omega, sS_Cj, sS_Cj, sS_Cj, by omega⟩
      rw [if_neg (by assumption)] at q2
      have e : atL x.Id L = i := by omega
      clear q2 ih
      refine Rn.call (r_twin call (P := P) (L := L) (by omega) (by omega) (Sl.up (by assumption) fr_Cj (by omega)) (Sl.up (by assumption) fr_Cj (by omega))) ?_
      rintro _ h3 N3 ⟨⟨p', l', rfl, w1, w3⟩, f3, o3, l3⟩
      have s1 := w1.sl (Nat.le_refl _)
      have s2 := w3.sl (Nat.le_refl _)
      have a1 := flatV_one s1.flat
      have a2 := flatV_one s2.flat
      have b1 := cel_flat s1.flat
      have b2 := cel_flat s2.flat
      try refine gs_Cj ?_
      refine Rn.call (Ow.app (α := Lk) (L := []) (K := L.take i) (i := N3 + 1) ap_SLink (.inr (.inl ⟨rfl, sM_Cj⟩)) (by omega) t1 fr_Cj (by simp; omega)) ?_
      rintro r1 h4 N4 ⟨i4, w4, e4, e4', f4, o4, l4⟩
      have s4 := w4.sl (N := N4) e4'
      have a4 := flatV_one s4.flat
      try refine gs_Cj ?_
      refine Rn.call (Ow.app (α := Lk) (K := [x]) (i := i4) ap_SLink w4 (by omega) (Sl.lit [x] sM_Cj (by omega : N3 + 2 < N4) rfl rfl) (Fr.refl _ _) (by simp; omega)) ?_
      rintro r2 h5 N5 ⟨i5, w5, e5, e5', f5, o5, l5⟩
      have s5 := w5.sl (N := N5) e5'
      have a5 := flatV_one s5.flat
      try refine gs_Cj ?_
      refine Rn.call (Ow.app (α := Lk) (K := L.drop i) (i := i5) ap_SLink w5 (by omega) t2 fr_Cj (by simp; omega)) ?_
      rintro r3 h6 N6 ⟨i6, w6, e6, e6', f6, o6, l6⟩
      rw [show ([] ++ List.take i L ++ [x] ++ List.drop i L) = putL L x from by simp [putL, e]] at w6
      have s6 := w6.sl (N := N6) e6'
      have a6 := flatV_one s6.flat
      have b6 := cel_flat s6.flat
      try refine gs_Cj ?_
      have hlen : (putL L x).length = L.length + 1 := by simp [putL]; omega
      refine Rn.call (r_town call (P := P) (L := putL L x) (by omega) (by omega) ((w1.keep fun j g1 g2 => sS_Cj).sl (by omega)) ((w6.keep sS_Cj).sl (by omega))) ?_
      rintro _ h7 N7 ⟨rfl, f7, o7, l7⟩
      by_cases ok2 : okT P (putL L x) = true
      · have ec : opS P L x = (P, putL L x, 0) := by rw [opS, if_pos ok, if_pos ok2]
        rw [ok2, ec]
        try refine gs_Cj ?_
        exact Rn.ret ⟨⟨p', r3, rfl, OwR.sl (OwR.keep w1 fun j g1 g2 => sS_Cj) (by omega), Ow.sl (Ow.keep w6 sS_Cj) (by omega)⟩, (Gw.of fr_Cj (by omega))⟩
      · have ec : opS P L x = ([], [], 34) := by rw [opS, if_pos ok, if_neg ok2]
        rw [Bool.eq_false_iff.2 ok2, ec]
        try refine gs_Cj ?_
        exact Rn.ret ⟨⟨snil, snil, rfl, Sl.nil _ _, Sl.nil _ _⟩, (Gw.of fr_Cj (by omega))⟩
    · rw [List.drop_eq_nil_of_le (by omega)] at q2
      have e : atL x.Id L = i := by simp only [atL] at q2; omega
      repeat' (first | refine gs_Cj ?_ | (first | with_reducible refine Rn.part (fun _ => ?_) (fun _ => ?_) | with_reducible refine Rn.partN (fun _ => ?_) (fun _ => ?_) | with_reducible refine Rn.partB (fun _ => ?_) (fun _ => ?_)) | (first | with_reducible refine Rn.cnd (fun _ => ?_) (fun _ => ?_) | with_reducible refine Rn.cndN (fun _ => ?_) (fun _ => ?_) | with_reducible refine Rn.cndB (fun _ => ?_) (fun _ => ?_)))
      clear q2 ih
      refine Rn.call (r_twin call (P := P) (L := L) (by omega) (by omega) (Sl.up (by assumption) fr_Cj (by omega)) (Sl.up (by assumption) fr_Cj (by omega))) ?_
      rintro _ h3 N3 ⟨⟨p', l', rfl, w1, w3⟩, f3, o3, l3⟩
      have s1 := w1.sl (Nat.le_refl _)
      have s2 := w3.sl (Nat.le_refl _)
      have a1 := flatV_one s1.flat
      have a2 := flatV_one s2.flat
      have b1 := cel_flat s1.flat
      have b2 := cel_flat s2.flat
      try refine gs_Cj ?_
      refine Rn.call (Ow.app (α := Lk) (L := []) (K := L.take i) (i := N3 + 1) ap_SLink (.inr (.inl ⟨rfl, sM_Cj⟩)) (by omega) t1 fr_Cj (by simp; omega)) ?_
      rintro r1 h4 N4 ⟨i4, w4, e4, e4', f4, o4, l4⟩
      have s4 := w4.sl (N := N4) e4'
      have a4 := flatV_one s4.flat
      try refine gs_Cj ?_
      refine Rn.call (Ow.app (α := Lk) (K := [x]) (i := i4) ap_SLink w4 (by omega) (Sl.lit [x] sM_Cj (by omega : N3 + 2 < N4) rfl rfl) (Fr.refl _ _) (by simp; omega)) ?_
      rintro r2 h5 N5 ⟨i5, w5, e5, e5', f5, o5, l5⟩
      have s5 := w5.sl (N := N5) e5'
      have a5 := flatV_one s5.flat
      try refine gs_Cj ?_
      refine Rn.call (Ow.app (α := Lk) (K := L.drop i) (i := i5) ap_SLink w5 (by omega) t2 fr_Cj (by simp; omega)) ?_
      rintro r3 h6 N6 ⟨i6, w6, e6, e6', f6, o6, l6⟩
      rw [show ([] ++ List.take i L ++ [x] ++ List.drop i L) = putL L x from by simp [putL, e]] at w6
      have s6 := w6.sl (N := N6) e6'
      have a6 := flatV_one s6.flat
      have b6 := cel_flat s6.flat
      try refine gs_Cj ?_
      have hlen : (putL L x).length = L.length + 1 := by simp [putL]; omega
      refine Rn.call (r_town call (P := P) (L := putL L x) (by omega) (by omega) ((w1.keep fun j g1 g2 => sS_Cj).sl (by omega)) ((w6.keep sS_Cj).sl (by omega))) ?_
      rintro _ h7 N7 ⟨rfl, f7, o7, l7⟩
      by_cases ok2 : okT P (putL L x) = true
      · have ec : opS P L x = (P, putL L x, 0) := by rw [opS, if_pos ok, if_pos ok2]
        rw [ok2, ec]
        try refine gs_Cj ?_
        exact Rn.ret ⟨⟨p', r3, rfl, OwR.sl (OwR.keep w1 fun j g1 g2 => sS_Cj) (by omega), Ow.sl (Ow.keep w6 sS_Cj) (by omega)⟩, (Gw.of fr_Cj (by omega))⟩
      · have ec : opS P L x = ([], [], 34) := by rw [opS, if_pos ok, if_neg ok2]
        rw [Bool.eq_false_iff.2 ok2, ec]
        try refine gs_Cj ?_
        exact Rn.ret ⟨⟨snil, snil, rfl, Sl.nil _ _, Sl.nil _ _⟩, (Gw.of fr_Cj (by omega))⟩
  · rw [Bool.eq_false_iff.2 ok]
    have ec : opS P L x = ([], [], 30) := if_neg ok
    rw [ec]
    try refine gs_Cj ?_
    exact Rn.ret ⟨⟨snil, snil, rfl, Sl.nil _ _, Sl.nil _ _⟩, (Gw.of fr_Cj (by omega))⟩
end Go.Proofs.Ytkgjfpgccnonfaa
end

section
namespace Go.Proofs.Ytkgjfpgccnonfaa
open Go.Ev Go.RowKit
set_option linter.unusedVariables false
set_option linter.unusedSimpArgs false
set_option linter.unusedSectionVars false
set_option maxRecDepth 100000
set_option maxHeartbeats 4000000
theorem fr_Ck {p : Prop} (h : p := by first | assumption | exact Fr.refl _ _ | (simp (disch := omega) only [Fr_set, Fr_refl, *])) : p := h
theorem fl_Ck {p : Prop} (h : p := by first | with_unfolding_all rfl | exact Sl.flat (by assumption) | assumption) : p := h
theorem fll_Ck {p : Prop} (h : p := by first | with_unfolding_all rfl | ((repeat (refine flatL_k fl_Ck ?_)); with_unfolding_all rfl)) : p := h
theorem en_Ck {p : Prop} (h : p := by first | ((simp only [enc_int, enc_str, enc_u8, enc_bool, tak_s, tak_0, tak_n, drp_0, drp_s, drp_n, nth_s, nth_0, bsl_Sint, bsl_SLink, bs0_Sint, bs0_SLink, bld_Span, bld_Town, enc_Link, bsl_STown]); rfl) | ((simp only [enc_int, enc_str, enc_u8, enc_bool, tak_s, tak_0, tak_n, drp_0, drp_s, drp_n, nth_s, nth_0, bsl_Sint, bsl_SLink, bs0_Sint, bs0_SLink, bld_Span, bld_Town, enc_Link, bsl_STown]); done) | with_unfolding_all rfl) : p := h
theorem sM_Ck {p : Prop} (h : p := by (first | assumption | (simp (disch := omega) only [Tr.get_same, Tr.get_other, *]; rfl) | (simp (disch := omega) only [Tr.get_same, Tr.get_other, *]; done))) : p := h
theorem sS_Ck {p : Prop} (h : p := by first | assumption | (simp (disch := omega) only [obind_s, orun_s, ocond_t, fad_p, ld1_e, ldN_e, sto_e, cellO_c, wrO_c, Tr.get_same, Tr.get_other, nth_0, nth_s, drp_0, drp_s, drp_n, tak_0, tak_s, tak_n, over_n, over_c, lay_0, lay_s, lay_n, len_n, len_c, app_n, app_c, reps_0, reps_s, cel_agg, cel_int, cel_bool, cel_str, cel_sl, cel_ptr, cel_map, cel_func, cel_nilf, fil_n, fil_c, beq_r, ble_d, allF_n, allF_c, one_int, one_bool, one_str, one_sl, one_ptr, one_map, one_func, one_nilf, Bool.and_true, Bool.true_and, Bool.not_true, Bool.not_false, iadA_z, Int.reduceToNat, Int.toNat_zero, fl1_a, flN_a, extr_t, unot, not_d, Nat.add_eq, Nat.mul_eq, Nat.mul_one, Nat.one_mul, Nat.zero_mul, Nat.reduceMul, Nat.zero_add, Nat.add_zero, Nat.le_refl, decide_true, Nat.reduceAdd, Nat.reduceLeDiff, bsl_Sint, bsl_SLink, bs0_Sint, bs0_SLink, bld_Span, bld_Town, enc_Link, bsl_STown, *])) : p := h
theorem op_Ck {p : Prop} (h : p := by first | with_reducible exact fad_p _ _ _ | with_reducible exact iop_lss _ _ | with_reducible exact iop_leq _ _ | with_reducible exact iop_gtr _ _ | with_reducible exact iop_geq _ _ | with_reducible exact iop_eql _ _ | with_reducible exact iop_neq _ _ | with_reducible exact Sl.len (by assumption) | with_reducible exact lenS_s _ _ _ | with_reducible exact Sl.iad (by assumption) (by with_unfolding_all rfl) (by first | assumption | omega) | with_reducible exact Sl.fad (by assumption) (by first | assumption | omega) | with_reducible exact Sl.ld1 (by assumption) fr_Ck (by with_unfolding_all rfl) (by assumption) en_Ck | with_reducible exact Sl.ldN (by assumption) fr_Ck (by with_unfolding_all rfl) (by assumption) (by with_unfolding_all rfl) en_Ck | with_reducible exact zadd1 (by omega) | with_reducible exact zsub1 (by omega) (by omega) | with_reducible exact zaddI (by omega) (by omega) | with_reducible exact zsubI (by omega) (by omega) | with_reducible exact wntT_t (by assumption) | with_reducible exact wntT_f (by assumption) | with_reducible exact wntF_t (by assumption) | with_reducible exact wntF_f (by assumption) | with_reducible exact wnt_tt | with_reducible exact wnt_tf | with_reducible exact wnt_ft | with_reducible exact wnt_ff | with_reducible exact wnt_u _ _ | with_reducible exact pck_t _ _ | with_reducible exact pck_f _ _ | with_reducible exact pckT (by assumption) | with_reducible exact pckF (by assumption) | with_reducible exact wntN_tt (by assumption) | with_reducible exact wntN_tf (by assumption) | with_reducible exact wntN_ft (by assumption) | with_reducible exact wntN_ff (by assumption) | with_reducible exact pckNT (by assumption) | with_reducible exact pckNF (by assumption) | with_reducible exact wntB_tt (by assumption) | with_reducible exact wntB_tf (by assumption) | with_reducible exact wntB_ft (by assumption) | with_reducible exact wntB_ff (by assumption) | with_reducible exact pckBT (by assumption) | with_reducible exact pckBF (by assumption) | (simp (disch := omega) only [obind_s, orun_s, ocond_t, fad_p, ld1_e, ldN_e, sto_e, cellO_c, wrO_c, Tr.get_same, Tr.get_other, nth_0, nth_s, drp_0, drp_s, drp_n, tak_0, tak_s, tak_n, over_n, over_c, lay_0, lay_s, lay_n, len_n, len_c, app_n, app_c, reps_0, reps_s, cel_agg, cel_int, cel_bool, cel_str, cel_sl, cel_ptr, cel_map, cel_func, cel_nilf, fil_n, fil_c, beq_r, ble_d, allF_n, allF_c, one_int, one_bool, one_str, one_sl, one_ptr, one_map, one_func, one_nilf, Bool.and_true, Bool.true_and, Bool.not_true, Bool.not_false, iadA_z, Int.reduceToNat, Int.toNat_zero, fl1_a, flN_a, extr_t, unot, not_d, Nat.add_eq, Nat.mul_eq, Nat.mul_one, Nat.one_mul, Nat.zero_mul, Nat.reduceMul, Nat.zero_add, Nat.add_zero, Nat.le_refl, decide_true, Nat.reduceAdd, Nat.reduceLeDiff, bsl_Sint, bsl_SLink, bs0_Sint, bs0_SLink, bld_Span, bld_Town, enc_Link, bsl_STown, *]; rfl) | (simp (disch := omega) only [obind_s, orun_s, ocond_t, fad_p, ld1_e, ldN_e, sto_e, cellO_c, wrO_c, Tr.get_same, Tr.get_other, nth_0, nth_s, drp_0, drp_s, drp_n, tak_0, tak_s, tak_n, over_n, over_c, lay_0, lay_s, lay_n, len_n, len_c, app_n, app_c, reps_0, reps_s, cel_agg, cel_int, cel_bool, cel_str, cel_sl, cel_ptr, cel_map, cel_func, cel_nilf, fil_n, fil_c, beq_r, ble_d, allF_n, allF_c, one_int, one_bool, one_str, one_sl, one_ptr, one_map, one_func, one_nilf, Bool.and_true, Bool.true_and, Bool.not_true, Bool.not_false, iadA_z, Int.reduceToNat, Int.toNat_zero, fl1_a, flN_a, extr_t, unot, not_d, Nat.add_eq, Nat.mul_eq, Nat.mul_one, Nat.one_mul, Nat.zero_mul, Nat.reduceMul, Nat.zero_add, Nat.add_zero, Nat.le_refl, decide_true, Nat.reduceAdd, Nat.reduceLeDiff, bsl_Sint, bsl_SLink, bs0_Sint, bs0_SLink, bld_Span, bld_Town, enc_Link, bsl_STown, *]; done)) : p := h
theorem co_Ck {p : Prop} (h : p := by first | (simp only [impB_1, impB_0, offB_1, offB_0]; done) | ((try simp only [impB_1, impB_0, offB_1, offB_0]); first | with_reducible exact Sl.ag1 (by assumption) fr_Ck (by with_unfolding_all rfl) (by assumption) en_Ck | with_reducible exact Sl.agN (by assumption) fr_Ck (by with_unfolding_all rfl) (by assumption) (by with_unfolding_all rfl) en_Ck | ((with_reducible refine agL1_e ?_ ?_); (· (simp (disch := omega) only [obind_s, orun_s, ocond_t, fad_p, ld1_e, ldN_e, sto_e, cellO_c, wrO_c, Tr.get_same, Tr.get_other, nth_0, nth_s, drp_0, drp_s, drp_n, tak_0, tak_s, tak_n, over_n, over_c, lay_0, lay_s, lay_n, len_n, len_c, app_n, app_c, reps_0, reps_s, cel_agg, cel_int, cel_bool, cel_str, cel_sl, cel_ptr, cel_map, cel_func, cel_nilf, fil_n, fil_c, beq_r, ble_d, allF_n, allF_c, one_int, one_bool, one_str, one_sl, one_ptr, one_map, one_func, one_nilf, Bool.and_true, Bool.true_and, Bool.not_true, Bool.not_false, iadA_z, Int.reduceToNat, Int.toNat_zero, fl1_a, flN_a, extr_t, unot, not_d, Nat.add_eq, Nat.mul_eq, Nat.mul_one, Nat.one_mul, Nat.zero_mul, Nat.reduceMul, Nat.zero_add, Nat.add_zero, Nat.le_refl, decide_true, Nat.reduceAdd, Nat.reduceLeDiff, bsl_Sint, bsl_SLink, bs0_Sint, bs0_SLink, bld_Span, bld_Town, enc_Link, bsl_STown, *]; done)); (· exact fl_Ck)) | ((with_reducible refine agLN_e ?_ ?_); (· (simp (disch := omega) only [obind_s, orun_s, ocond_t, fad_p, ld1_e, ldN_e, sto_e, cellO_c, wrO_c, Tr.get_same, Tr.get_other, nth_0, nth_s, drp_0, drp_s, drp_n, tak_0, tak_s, tak_n, over_n, over_c, lay_0, lay_s, lay_n, len_n, len_c, app_n, app_c, reps_0, reps_s, cel_agg, cel_int, cel_bool, cel_str, cel_sl, cel_ptr, cel_map, cel_func, cel_nilf, fil_n, fil_c, beq_r, ble_d, allF_n, allF_c, one_int, one_bool, one_str, one_sl, one_ptr, one_map, one_func, one_nilf, Bool.and_true, Bool.true_and, Bool.not_true, Bool.not_false, iadA_z, Int.reduceToNat, Int.toNat_zero, fl1_a, flN_a, extr_t, unot, not_d, Nat.add_eq, Nat.mul_eq, Nat.mul_one, Nat.one_mul, Nat.zero_mul, Nat.reduceMul, Nat.zero_add, Nat.add_zero, Nat.le_refl, decide_true, Nat.reduceAdd, Nat.reduceLeDiff, bsl_Sint, bsl_SLink, bs0_Sint, bs0_SLink, bld_Span, bld_Town, enc_Link, bsl_STown, *]; done)); (· exact fll_Ck)) | ((with_reducible apply ag_bs); (· exact sM_Ck); (· rfl); (· (simp (disch := omega) only [obind_s, orun_s, ocond_t, fad_p, ld1_e, ldN_e, sto_e, cellO_c, wrO_c, Tr.get_same, Tr.get_other, nth_0, nth_s, drp_0, drp_s, drp_n, tak_0, tak_s, tak_n, over_n, over_c, lay_0, lay_s, lay_n, len_n, len_c, app_n, app_c, reps_0, reps_s, cel_agg, cel_int, cel_bool, cel_str, cel_sl, cel_ptr, cel_map, cel_func, cel_nilf, fil_n, fil_c, beq_r, ble_d, allF_n, allF_c, one_int, one_bool, one_str, one_sl, one_ptr, one_map, one_func, one_nilf, Bool.and_true, Bool.true_and, Bool.not_true, Bool.not_false, iadA_z, Int.reduceToNat, Int.toNat_zero, fl1_a, flN_a, extr_t, unot, not_d, Nat.add_eq, Nat.mul_eq, Nat.mul_one, Nat.one_mul, Nat.zero_mul, Nat.reduceMul, Nat.zero_add, Nat.add_zero, Nat.le_refl, decide_true, Nat.reduceAdd, Nat.reduceLeDiff, bsl_Sint, bsl_SLink, bs0_Sint, bs0_SLink, bld_Span, bld_Town, enc_Link, bsl_STown, Nat.succ_eq_add_one, Nat.add_assoc, *])); (· exact fll_Ck)) | ((with_reducible apply ag_al); (· exact sM_Ck); (· rfl); (· exact fll_Ck)) | ((with_reducible apply ag_bx); (· exact sM_Ck); (· rfl); (· rfl); (· exact fll_Ck)) | ((with_reducible apply ag_bd); (· rfl); (· (simp (disch := omega) only [obind_s, orun_s, ocond_t, fad_p, ld1_e, ldN_e, sto_e, cellO_c, wrO_c, Tr.get_same, Tr.get_other, nth_0, nth_s, drp_0, drp_s, drp_n, tak_0, tak_s, tak_n, over_n, over_c, lay_0, lay_s, lay_n, len_n, len_c, app_n, app_c, reps_0, reps_s, cel_agg, cel_int, cel_bool, cel_str, cel_sl, cel_ptr, cel_map, cel_func, cel_nilf, fil_n, fil_c, beq_r, ble_d, allF_n, allF_c, one_int, one_bool, one_str, one_sl, one_ptr, one_map, one_func, one_nilf, Bool.and_true, Bool.true_and, Bool.not_true, Bool.not_false, iadA_z, Int.reduceToNat, Int.toNat_zero, fl1_a, flN_a, extr_t, unot, not_d, Nat.add_eq, Nat.mul_eq, Nat.mul_one, Nat.one_mul, Nat.zero_mul, Nat.reduceMul, Nat.zero_add, Nat.add_zero, Nat.le_refl, decide_true, Nat.reduceAdd, Nat.reduceLeDiff, bsl_Sint, bsl_SLink, bs0_Sint, bs0_SLink, bld_Span, bld_Town, enc_Link, bsl_STown, *])); (· exact fll_Ck)) | (simp (disch := omega) only [obind_s, orun_s, ocond_t, fad_p, ld1_e, ldN_e, sto_e, cellO_c, wrO_c, Tr.get_same, Tr.get_other, nth_0, nth_s, drp_0, drp_s, drp_n, tak_0, tak_s, tak_n, over_n, over_c, lay_0, lay_s, lay_n, len_n, len_c, app_n, app_c, reps_0, reps_s, cel_agg, cel_int, cel_bool, cel_str, cel_sl, cel_ptr, cel_map, cel_func, cel_nilf, fil_n, fil_c, beq_r, ble_d, allF_n, allF_c, one_int, one_bool, one_str, one_sl, one_ptr, one_map, one_func, one_nilf, Bool.and_true, Bool.true_and, Bool.not_true, Bool.not_false, iadA_z, Int.reduceToNat, Int.toNat_zero, fl1_a, flN_a, extr_t, unot, not_d, Nat.add_eq, Nat.mul_eq, Nat.mul_one, Nat.one_mul, Nat.zero_mul, Nat.reduceMul, Nat.zero_add, Nat.add_zero, Nat.le_refl, decide_true, Nat.reduceAdd, Nat.reduceLeDiff, bsl_Sint, bsl_SLink, bs0_Sint, bs0_SLink, bld_Span, bld_Town, enc_Link, bsl_STown, *]; done))) : p := h
theorem gs_Ck {r p : Prop} (k : r) (h : Go.Ev.Im r p := by (first | with_reducible apply Im.runS | ((with_reducible apply Im.num); · (simp only [Nat.succ_eq_add_one, Nat.add_assoc, Nat.reduceAdd]; rfl)) | (with_reducible apply Im.unm) | (with_reducible apply Im.selT) | (with_reducible apply Im.selF) | ((with_reducible apply Im.cndT); · assumption) | ((with_reducible apply Im.cndF); · assumption) | ((with_reducible apply Im.cndBT); · exact rfl) | ((with_reducible apply Im.cndBF); · exact rfl) | ((with_reducible apply Im.cndNT); · assumption) | ((with_reducible apply Im.cndNF); · assumption) | ((with_reducible apply Im.cndBT); · assumption) | ((with_reducible apply Im.cndBF); · assumption) | ((with_reducible apply Im.bind); · exact op_Ck) | ((with_reducible apply Im.cond); · exact co_Ck) | ((with_reducible apply Im.runB); · exact op_Ck) | ((with_reducible apply Im.runC); · exact co_Ck) | ((with_reducible apply Im.runN); · (simp only [Nat.succ_eq_add_one, Nat.add_assoc, Nat.reduceAdd]; rfl)) | with_reducible apply Im.runR | ((with_reducible apply Im.runE (x := evBuildSlice _ _ _ _ _ _)); · (simp (disch := omega) only [obind_s, orun_s, ocond_t, fad_p, ld1_e, ldN_e, sto_e, cellO_c, wrO_c, Tr.get_same, Tr.get_other, nth_0, nth_s, drp_0, drp_s, drp_n, tak_0, tak_s, tak_n, over_n, over_c, lay_0, lay_s, lay_n, len_n, len_c, app_n, app_c, reps_0, reps_s, cel_agg, cel_int, cel_bool, cel_str, cel_sl, cel_ptr, cel_map, cel_func, cel_nilf, fil_n, fil_c, beq_r, ble_d, allF_n, allF_c, one_int, one_bool, one_str, one_sl, one_ptr, one_map, one_func, one_nilf, Bool.and_true, Bool.true_and, Bool.not_true, Bool.not_false, iadA_z, Int.reduceToNat, Int.toNat_zero, fl1_a, flN_a, extr_t, unot, not_d, Nat.add_eq, Nat.mul_eq, Nat.mul_one, Nat.one_mul, Nat.zero_mul, Nat.reduceMul, Nat.zero_add, Nat.add_zero, Nat.le_refl, decide_true, Nat.reduceAdd, Nat.reduceLeDiff, bsl_Sint, bsl_SLink, bs0_Sint, bs0_SLink, bld_Span, bld_Town, enc_Link, bsl_STown, Nat.succ_eq_add_one, Nat.add_assoc, *]; rfl))); (repeat (first | with_reducible apply Im.runS | ((with_reducible apply Im.num); · (simp only [Nat.succ_eq_add_one, Nat.add_assoc, Nat.reduceAdd]; rfl)) | (with_reducible apply Im.unm) | (with_reducible apply Im.selT) | (with_reducible apply Im.selF) | ((with_reducible apply Im.cndT); · assumption) | ((with_reducible apply Im.cndF); · assumption) | ((with_reducible apply Im.cndBT); · exact rfl) | ((with_reducible apply Im.cndBF); · exact rfl) | ((with_reducible apply Im.cndNT); · assumption) | ((with_reducible apply Im.cndNF); · assumption) | ((with_reducible apply Im.cndBT); · assumption) | ((with_reducible apply Im.cndBF); · assumption) | ((with_reducible apply Im.bind); · exact op_Ck) | ((with_reducible apply Im.cond); · exact co_Ck) | ((with_reducible apply Im.runB); · exact op_Ck) | ((with_reducible apply Im.runC); · exact co_Ck) | ((with_reducible apply Im.runN); · (simp only [Nat.succ_eq_add_one, Nat.add_assoc, Nat.reduceAdd]; rfl)) | with_reducible apply Im.runR | ((with_reducible apply Im.runE (x := evBuildSlice _ _ _ _ _ _)); · (simp (disch := omega) only [obind_s, orun_s, ocond_t, fad_p, ld1_e, ldN_e, sto_e, cellO_c, wrO_c, Tr.get_same, Tr.get_other, nth_0, nth_s, drp_0, drp_s, drp_n, tak_0, tak_s, tak_n, over_n, over_c, lay_0, lay_s, lay_n, len_n, len_c, app_n, app_c, reps_0, reps_s, cel_agg, cel_int, cel_bool, cel_str, cel_sl, cel_ptr, cel_map, cel_func, cel_nilf, fil_n, fil_c, beq_r, ble_d, allF_n, allF_c, one_int, one_bool, one_str, one_sl, one_ptr, one_map, one_func, one_nilf, Bool.and_true, Bool.true_and, Bool.not_true, Bool.not_false, iadA_z, Int.reduceToNat, Int.toNat_zero, fl1_a, flN_a, extr_t, unot, not_d, Nat.add_eq, Nat.mul_eq, Nat.mul_one, Nat.one_mul, Nat.zero_mul, Nat.reduceMul, Nat.zero_add, Nat.add_zero, Nat.le_refl, decide_true, Nat.reduceAdd, Nat.reduceLeDiff, bsl_Sint, bsl_SLink, bs0_Sint, bs0_SLink, bld_Span, bld_Town, enc_Link, bsl_STown, Nat.succ_eq_add_one, Nat.add_assoc, *]; rfl)))); exact Go.Ev.Im.id) : p := h k
theorem cls_len (P : List Int) (L : List Lk) (xs : List Int) : (clS P L xs).1.length ≤ P.length ∧ (clS P L xs).2.1.length ≤ L.length := by
  rw [clS]
  split
  · exact ⟨Nat.le_refl _, List.length_filter_le _ _⟩
  · exact ⟨Nat.zero_le _, Nat.zero_le _⟩
theorem ops_len (P : List Int) (L : List Lk) (x : Lk) : (opS P L x).1.length ≤ P.length ∧ (opS P L x).2.1.length ≤ L.length + 1 := by
  rw [opS]
  split
  · split
    · refine ⟨Nat.le_refl _, ?_⟩
      have := atL_le x.Id L
      simp [putL]; omega
    · exact ⟨Nat.zero_le _, Nat.zero_le _⟩
  · exact ⟨Nat.zero_le _, Nat.zero_le _⟩
theorem sameT_self (P : List Int) (L : List Lk) : sameT P L P L = true := by simp [sameT]
theorem r_law (d : Nat) {p l v : Value} {P : List Int} {L : List Lk} {xs : List Int} {x : Lk} {h N} (hp : Sl h N p P) (hk : Sl h N l L) (hs : Sl h N v xs) (wl : Pl l L.length) :
    Rn (s3 (cN (d + 2)) (.agg ⟨[p, l]⟩) v (.agg ⟨[iS x.Id, iS x.From, iS x.To, iS x.Steps, iS x.Paces]⟩) h N) fun u h' N' => u = .bool true := by
  have cp := cel_flat hp.flat
  have cl := cel_flat hk.flat
  have cv := cel_flat hs.flat
  have op := flatV_one hp.flat
  have ol := flatV_one hk.flat
  have ov := flatV_one hs.flat
  unfold s3
  try refine gs_Ck ?_
  refine Rn.call (r_great _ (P := P) (L := L) (Sl.up (by assumption) fr_Ck (by omega)) (Sl.up (by assumption) fr_Ck (by omega))) ?_
  rintro _ h1 N1 ⟨rfl, f1, o1, l1⟩
  cases hg : greatT P L with
  | true =>
    try refine gs_Ck ?_
    exact Rn.ret rfl
  | false =>
  simp only [greatT, decide_eq_false_iff_not] at hg
  by_cases hx60 : (60 : Int) < (xs.length : Int)
  · try refine gs_Ck ?_
    exact Rn.ret rfl
  try refine gs_Ck ?_
  refine Rn.call (r_twin _ (P := P) (L := L) (by omega) (by omega) (Sl.up (by assumption) fr_Ck (by omega)) (Sl.up (by assumption) fr_Ck (by omega))) ?_
  rintro _ h2 N2 ⟨⟨p1, l1', rfl, w1, w2⟩, f2, o2, l2⟩
  have s1 := w1.sl (Nat.le_refl _)
  have s2 := w2.sl (Nat.le_refl _)
  have a1 := flatV_one s1.flat
  have a2 := flatV_one s2.flat
  have b1 := cel_flat s1.flat
  have b2 := cel_flat s2.flat
  try refine gs_Ck ?_
  refine Rn.call (Ow.app (α := Int) (L := []) (K := xs) (i := N2) ap_Sint (.inr (.inl ⟨rfl, sM_Ck⟩)) (by omega) hs fr_Ck (by simp; omega)) ?_
  rintro v1 h3 N3 ⟨i3, w3, e3, e3', f3, o3, l3⟩
  rw [List.nil_append] at w3
  have s3 := w3.sl (N := N3) e3'
  have a3 := flatV_one s3.flat
  have b3 := cel_flat s3.flat
  try refine gs_Ck ?_
  have hcl := cls_len P L xs
  have hol := ops_len P L x
  refine Rn.call (c_Close d (P := P) (L := L) (xs := xs) (by omega) (by omega) (by omega) (Sl.up (by assumption) fr_Ck (by omega)) (Sl.up (by assumption) fr_Ck (by omega)) (Sl.up (by assumption) fr_Ck (by omega))) ?_
  rintro _ h4 N4 ⟨⟨pa, la, k4, rfl, x4, y4, q4, q4'⟩, f4, o4, l4⟩
  have sa := q4.sl y4
  have sa' := q4'.sl (Nat.le_refl _)
  have aa := flatV_one sa.flat
  have aa' := flatV_one sa'.flat
  have ba := cel_flat sa.flat
  have ba' := cel_flat sa'.flat
  try refine gs_Ck ?_
  refine Rn.call (r_Close _ (P := P) (L := L) (xs := xs) (by omega) (by omega) (by omega) (Sl.up (by assumption) fr_Ck (by omega)) (Sl.up (by assumption) fr_Ck (by omega)) (Sl.up (by assumption) fr_Ck (by omega))) ?_
  rintro _ h5 N5 ⟨⟨pb, lb, rfl, sb, sb'⟩, f5, o5, l5⟩
  have ab := flatV_one sb.flat
  have ab' := flatV_one sb'.flat
  have bb := cel_flat sb.flat
  have bb' := cel_flat sb'.flat
  try refine gs_Ck ?_
  refine Rn.call (c_Open d (P := P) (L := L) (x := x) (by omega) (by omega) (Sl.up s1 fr_Ck (by omega)) (Sl.up s2 fr_Ck (by omega))) ?_
  rintro _ h6 N6 ⟨⟨pc, lc, k6, rfl, x6, y6, q6, q6'⟩, f6, o6, l6⟩
  have sc := q6.sl y6
  have sc' := q6'.sl (Nat.le_refl _)
  have ac := flatV_one sc.flat
  have ac' := flatV_one sc'.flat
  have bc := cel_flat sc.flat
  have bc' := cel_flat sc'.flat
  try refine gs_Ck ?_
  refine Rn.call (r_Open _ (P := P) (L := L) (x := x) (by omega) (by omega) (Sl.up hp fr_Ck (by omega)) (Sl.up hk fr_Ck (by omega)) wl) ?_
  rintro _ h7 N7 ⟨⟨pd, ld, rfl, sd, sd'⟩, f7, o7, l7⟩
  have ad := flatV_one sd.flat
  have ad' := flatV_one sd'.flat
  have bd := cel_flat sd.flat
  have bd' := cel_flat sd'.flat
  try refine gs_Ck ?_
  generalize hA : clS P L xs = A at *
  generalize hC : opS P L x = C at *
  refine Rn.call (r_same _ (P := A.1) (L := A.2.1) (P' := A.1) (L' := A.2.1) (by omega) (by omega) (by omega) (by omega) (Sl.up sa fr_Ck (by omega)) (Sl.up sa' fr_Ck (by omega)) (Sl.up sb fr_Ck (by omega)) (Sl.up sb' fr_Ck (by omega))) ?_
  rintro _ h8 N8 ⟨rfl, f8, o8, l8⟩
  rw [sameT_self]
  try refine gs_Ck ?_
  have eA : A.2.2 = A.2.2 := rfl
  have eC : C.2.2 = C.2.2 := rfl
  refine Rn.call (r_same _ (P := C.1) (L := C.2.1) (P' := C.1) (L' := C.2.1) (by omega) (by omega) (by omega) (by omega) (Sl.up sc fr_Ck (by omega)) (Sl.up sc' fr_Ck (by omega)) (Sl.up sd fr_Ck (by omega)) (Sl.up sd' fr_Ck (by omega))) ?_
  rintro _ h9 N9 ⟨rfl, f9, o9, l9⟩
  rw [sameT_self]
  try refine gs_Ck ?_
  rw [decide_eq_true eC]
  generalize hG : h9.set (some (.c [pa, la, pc, lc] 25)) N9 = G
  have G1 : G.get N3 = some (.c [p1, l1'] 25) := by rw [← hG]; clear hG; exact sS_Ck
  have G2 : Fr h N G := by rw [← hG]; clear hG; exact fr_Ck
  have G3 : G.get N = some (.c [p, l] 25) := by rw [← hG]; clear hG; exact sS_Ck
  have G4 : Sl G N3 p1 P := by rw [← hG]; clear hG; exact (w1.keep fun j g1 g2 => sS_Ck).sl (by omega)
  have G5 : Sl G N3 l1' L := by rw [← hG]; clear hG; exact (w2.keep fun j g1 g2 => sS_Ck).sl (by omega)
  have G6 : Sl G N3 v1 xs := by rw [← hG]; clear hG; exact (w3.keep sS_Ck).sl (by omega)
  have G7 : G.get N9 = some (.c [pa, la, pc, lc] 25) := by rw [← hG]; clear hG; exact Tr.get_same _ _ _
  have G8 : WrR (N3 + 1) k4 G pa A.1 := by rw [← hG]; clear hG; exact q4.keep fun j g1 g2 => sS_Ck
  have G9 : WrR k4 N4 G la A.2.1 := by rw [← hG]; clear hG; exact q4'.keep fun j g1 g2 => sS_Ck
  have G10 : WrR (N5 + 1) k6 G pc C.1 := by rw [← hG]; clear hG; exact q6.keep fun j g1 g2 => sS_Ck
  have G11 : WrR k6 N6 G lc C.2.1 := by rw [← hG]; clear hG; exact q6'.keep fun j g1 g2 => sS_Ck
  clear hG
  have S1 : Sl h N p P := hp
  refine Rn.loop8 (fun n a1 a2 a3 a4 a5 a6 a7 a8 g M => ∃ (i : Nat), v = a1 ∧ a2 = .pointer (some ⟨N, 0, none⟩) ∧ a3 = .pointer (some ⟨N3, 0, none⟩) ∧ v1 = a4 ∧ a5 = .bool true ∧ a6 = .slice (some ⟨N9, 0, none⟩) 2 2 ∧ a7 = nS 2 ∧ a8 = nS i ∧ i + n = 2 ∧ N9 + 1 ≤ M ∧ (∀ j, j < N3 + 1 → g.get j = G.get j) ∧ g.get N9 = some (.c [pa, la, pc, lc] 25) ∧
      ((i = 0 ∧ WrR (N3 + 1) k4 g pa A.1 ∧ WrR k4 N4 g la A.2.1 ∧ WrR (N5 + 1) k6 g pc C.1 ∧ WrR k6 N6 g lc C.2.1) ∨ (i = 1 ∧ WrR (N5 + 1) k6 g pc C.1 ∧ WrR k6 N6 g lc C.2.1) ∨ i = 2)) 2 (by omega) ⟨0, rfl, rfl, rfl, rfl, rfl, rfl, rfl, rfl, rfl, by omega, fun _ _ => rfl, G7, .inl ⟨rfl, G8, G9, G10, G11⟩⟩ ?_
  clear G7 G8 G9 G10 G11 sa sa' sb sb' sc sc' sd sd' s1 s2 s3 q4 q4' q6 q6' w1 w2 w3 o1 o2 o3 o4 o5 o6 o7 o8 o9 f1 f2 f3 f4 f5 f6 f7 f8 f9
  rintro n g ih _ _ _ _ _ _ _ _ g M ⟨i, rfl, rfl, rfl, rfl, rfl, rfl, rfl, rfl, e1, e2, i1, i2, ⟨rfl, wz, wz', wc, wc'⟩ | ⟨rfl, wz, wz'⟩ | rfl⟩
  · have h12 : ((0 : Nat) : Int) < ((2 : Nat) : Int) := by omega
    have h13 : ((1 : Nat) : Int) < ((2 : Nat) : Int) := by omega
    have hi0 : iadS 2 (.slice (some ⟨N9, 0, none⟩) 2 2) (nS 0) = some (.pointer (some ⟨N9, 0, none⟩)) := by with_unfolding_all rfl
    have hi1 : iadS 2 (.slice (some ⟨N9, 0, none⟩) 2 2) (nS 1) = some (.pointer (some ⟨N9, 2, none⟩)) := by with_unfolding_all rfl
    have sz := wz.sl (N := M) (by omega)
    have sz' := wz'.sl (N := M) (by omega)
    have az := flatV_one sz.flat
    have az' := flatV_one sz'.flat
    have bz := cel_flat sz.flat
    have bz' := cel_flat sz'.flat
    try refine gs_Ck ?_
    refine Rn.loop11 (fun m c1 c2 c3 c4 c5 c6 c7 c8 c9 c10 c11 gg M' => ∃ (j : Nat) (B : List Int), v = c1 ∧ c2 = .pointer (some ⟨N, 0, none⟩) ∧ c3 = .pointer (some ⟨N3, 0, none⟩) ∧ v1 = c4 ∧ c5 = .bool true ∧ c6 = .pointer (some ⟨M, 0, none⟩) ∧ c7 = .slice (some ⟨N9, 0, none⟩) 2 2 ∧ c8 = nS 2 ∧ c9 = nS 0 ∧ c10 = nS A.1.length ∧ c11 = nS j ∧ j + m = A.1.length ∧ B.length = A.1.length ∧ M + 1 ≤ M' ∧ WrR (N3 + 1) k4 gg pa B ∧ gg.get M = some (.c [pa, la] 25) ∧ ∀ q, q < M → (q < N3 + 1 ∨ k4 ≤ q) → gg.get q = g.get q) A.1.length (by omega) ⟨0, A.1, rfl, rfl, rfl, rfl, rfl, rfl, rfl, rfl, rfl, rfl, rfl, by omega, rfl, by omega, wz.keep fun j g1 g2 => sS_Ck, sS_Ck, fun q g1 g2 => sS_Ck⟩ ?_
    rintro m gl ihh _ _ _ _ _ _ _ _ _ _ _ gg M' ⟨j, B, rfl, rfl, rfl, rfl, rfl, rfl, rfl, rfl, rfl, rfl, rfl, m1, m2, m3, m4, m5, m6⟩
    have sq := m4.sl (N := M') (by omega)
    try refine gs_Ck ?_
    (first | with_reducible refine Rn.cnd (fun _ => ?_) (fun _ => ?_) | with_reducible refine Rn.cndN (fun _ => ?_) (fun _ => ?_) | with_reducible refine Rn.cndB (fun _ => ?_) (fun _ => ?_))
    · obtain ⟨y, hy⟩ := at_of (L := B) (k := j) (by omega)
      obtain ⟨g', z1, z2, z3, z4⟩ := m4.sto (w := 1) (m := 1) (d := 0) (u := .int .i64 (-7)) (y := (-7 : Int)) (N := M') rfl hy rfl rfl rfl rfl
      try refine gs_Ck ?_
      exact ihh (m - 1) (by omega) _ _ _ _ _ _ _ _ _ _ _ _ _ ⟨j + 1, B.set j (-7), rfl, rfl, rfl, rfl, rfl, rfl, rfl, rfl, rfl, rfl, rfl, by omega, by rw [List.length_set]; exact m2, by omega, z2, by rw [z4 M (by omega)]; exact m5, fun q g1 g2 => g2.elim (fun g2 => by rw [z3.old (by omega)]; exact m6 q g1 (.inl g2)) (fun g2 => by rw [z4 q g2]; exact m6 q g1 (.inr g2))⟩
    try refine gs_Ck ?_
    have wq' := wz'.keep (h' := gg) fun q g1 g2 => m6 q (by omega) (.inr (by omega))
    have sq' := wq'.sl (N := M') (by omega)
    try refine gs_Ck ?_
    refine Rn.loop11 (fun m c1 c2 c3 c4 c5 c6 c7 c8 c9 c10 c11 gh M'' => ∃ (j : Nat) (B : List Lk), v = c1 ∧ c2 = .pointer (some ⟨N, 0, none⟩) ∧ c3 = .pointer (some ⟨N3, 0, none⟩) ∧ v1 = c4 ∧ c5 = .bool true ∧ c6 = .pointer (some ⟨M, 0, none⟩) ∧ c7 = .slice (some ⟨N9, 0, none⟩) 2 2 ∧ c8 = nS 2 ∧ c9 = nS 0 ∧ c10 = nS A.2.1.length ∧ c11 = nS j ∧ j + m = A.2.1.length ∧ B.length = A.2.1.length ∧ M + 1 ≤ M'' ∧ WrR k4 N4 gh la B ∧ gh.get M = some (.c [pa, la] 25) ∧ ∀ q, q < M → (q < N3 + 1 ∨ N4 ≤ q) → gh.get q = g.get q) A.2.1.length (by omega) ⟨0, A.2.1, rfl, rfl, rfl, rfl, rfl, rfl, rfl, rfl, rfl, rfl, rfl, by omega, rfl, by omega, wq', m5, fun q g1 g2 => m6 q g1 (by omega)⟩ ?_
    clear ihh m1 m2 m3 m4 m5 m6 sq sq' wq'
    rintro m gl ihh _ _ _ _ _ _ _ _ _ _ _ gh M'' ⟨j, B, rfl, rfl, rfl, rfl, rfl, rfl, rfl, rfl, rfl, rfl, rfl, m1, m2, m3, m4, m5, m6⟩
    have sq := m4.sl (N := M'') (by omega)
    try refine gs_Ck ?_
    (first | with_reducible refine Rn.cnd (fun _ => ?_) (fun _ => ?_) | with_reducible refine Rn.cndN (fun _ => ?_) (fun _ => ?_) | with_reducible refine Rn.cndB (fun _ => ?_) (fun _ => ?_))
    · obtain ⟨y, hy⟩ := at_of (L := B) (k := j) (by omega)
      obtain ⟨g', z1, z2, z3, z4⟩ := m4.sto (w := 5) (m := 1) (d := 0) (u := .int .i64 (-7)) (y := (⟨-7, y.From, y.To, y.Steps, y.Paces⟩ : Lk)) (N := M'') rfl hy rfl rfl rfl rfl
      try refine gs_Ck ?_
      exact ihh (m - 1) (by omega) _ _ _ _ _ _ _ _ _ _ _ _ _ ⟨j + 1, B.set j _, rfl, rfl, rfl, rfl, rfl, rfl, rfl, rfl, rfl, rfl, rfl, by omega, by rw [List.length_set]; exact m2, by omega, z2, by rw [z4 M (by omega)]; exact m5, fun q g1 g2 => g2.elim (fun g2 => by rw [z3.old (by omega)]; exact m6 q g1 (.inl g2)) (fun g2 => by rw [z4 q g2]; exact m6 q g1 (.inr g2))⟩
    try refine gs_Ck ?_
    exact ih 1 (by omega) _ _ _ _ _ _ _ _ _ _ ⟨0 + 1, rfl, rfl, rfl, rfl, rfl, rfl, rfl, rfl, by omega, by omega, fun j hj => by rw [m6 j (by omega) (by omega)]; exact i1 j hj, by rw [m6 N9 (by omega) (by omega)]; exact i2, .inr (.inl ⟨rfl, wc.keep fun q g1 g2 => m6 q (by omega) (by omega), wc'.keep fun q g1 g2 => m6 q (by omega) (by omega)⟩)⟩
  · have h12 : ((0 : Nat) : Int) < ((2 : Nat) : Int) := by omega
    have h13 : ((1 : Nat) : Int) < ((2 : Nat) : Int) := by omega
    have hi0 : iadS 2 (.slice (some ⟨N9, 0, none⟩) 2 2) (nS 0) = some (.pointer (some ⟨N9, 0, none⟩)) := by with_unfolding_all rfl
    have hi1 : iadS 2 (.slice (some ⟨N9, 0, none⟩) 2 2) (nS 1) = some (.pointer (some ⟨N9, 2, none⟩)) := by with_unfolding_all rfl
    have sz := wz.sl (N := M) (by omega)
    have sz' := wz'.sl (N := M) (by omega)
    have az := flatV_one sz.flat
    have az' := flatV_one sz'.flat
    have bz := cel_flat sz.flat
    have bz' := cel_flat sz'.flat
    try refine gs_Ck ?_
    refine Rn.loop11 (fun m c1 c2 c3 c4 c5 c6 c7 c8 c9 c10 c11 gg M' => ∃ (j : Nat) (B : List Int), v = c1 ∧ c2 = .pointer (some ⟨N, 0, none⟩) ∧ c3 = .pointer (some ⟨N3, 0, none⟩) ∧ v1 = c4 ∧ c5 = .bool true ∧ c6 = .pointer (some ⟨M, 0, none⟩) ∧ c7 = .slice (some ⟨N9, 0, none⟩) 2 2 ∧ c8 = nS 2 ∧ c9 = nS 1 ∧ c10 = nS C.1.length ∧ c11 = nS j ∧ j + m = C.1.length ∧ B.length = C.1.length ∧ M + 1 ≤ M' ∧ WrR (N5 + 1) k6 gg pc B ∧ gg.get M = some (.c [pc, lc] 25) ∧ ∀ q, q < M → (q < N5 + 1 ∨ k6 ≤ q) → gg.get q = g.get q) C.1.length (by omega) ⟨0, C.1, rfl, rfl, rfl, rfl, rfl, rfl, rfl, rfl, rfl, rfl, rfl, by omega, rfl, by omega, wz.keep fun j g1 g2 => sS_Ck, sS_Ck, fun q g1 g2 => sS_Ck⟩ ?_
    rintro m gl ihh _ _ _ _ _ _ _ _ _ _ _ gg M' ⟨j, B, rfl, rfl, rfl, rfl, rfl, rfl, rfl, rfl, rfl, rfl, rfl, m1, m2, m3, m4, m5, m6⟩
    have sq := m4.sl (N := M') (by omega)
    try refine gs_Ck ?_
    (first | with_reducible refine Rn.cnd (fun _ => ?_) (fun _ => ?_) | with_reducible refine Rn.cndN (fun _ => ?_) (fun _ => ?_) | with_reducible refine Rn.cndB (fun _ => ?_) (fun _ => ?_))
    · obtain ⟨y, hy⟩ := at_of (L := B) (k := j) (by omega)
      obtain ⟨g', z1, z2, z3, z4⟩ := m4.sto (w := 1) (m := 1) (d := 0) (u := .int .i64 (-7)) (y := (-7 : Int)) (N := M') rfl hy rfl rfl rfl rfl
      try refine gs_Ck ?_
      exact ihh (m - 1) (by omega) _ _ _ _ _ _ _ _ _ _ _ _ _ ⟨j + 1, B.set j (-7), rfl, rfl, rfl, rfl, rfl, rfl, rfl, rfl, rfl, rfl, rfl, by omega, by rw [List.length_set]; exact m2, by omega, z2, by rw [z4 M (by omega)]; exact m5, fun q g1 g2 => g2.elim (fun g2 => by rw [z3.old (by omega)]; exact m6 q g1 (.inl g2)) (fun g2 => by rw [z4 q g2]; exact m6 q g1 (.inr g2))⟩
    try refine gs_Ck ?_
    have wq' := wz'.keep (h' := gg) fun q g1 g2 => m6 q (by omega) (.inr (by omega))
    have sq' := wq'.sl (N := M') (by omega)
    try refine gs_Ck ?_
    refine Rn.loop11 (fun m c1 c2 c3 c4 c5 c6 c7 c8 c9 c10 c11 gh M'' => ∃ (j : Nat) (B : List Lk), v = c1 ∧ c2 = .pointer (some ⟨N, 0, none⟩) ∧ c3 = .pointer (some ⟨N3, 0, none⟩) ∧ v1 = c4 ∧ c5 = .bool true ∧ c6 = .pointer (some ⟨M, 0, none⟩) ∧ c7 = .slice (some ⟨N9, 0, none⟩) 2 2 ∧ c8 = nS 2 ∧ c9 = nS 1 ∧ c10 = nS C.2.1.length ∧ c11 = nS j ∧ j + m = C.2.1.length ∧ B.length = C.2.1.length ∧ M + 1 ≤ M'' ∧ WrR k6 N6 gh lc B ∧ gh.get M = some (.c [pc, lc] 25) ∧ ∀ q, q < M → (q < N5 + 1 ∨ N6 ≤ q) → gh.get q = g.get q) C.2.1.length (by omega) ⟨0, C.2.1, rfl, rfl, rfl, rfl, rfl, rfl, rfl, rfl, rfl, rfl, rfl, by omega, rfl, by omega, wq', m5, fun q g1 g2 => m6 q g1 (by omega)⟩ ?_
    clear ihh m1 m2 m3 m4 m5 m6 sq sq' wq'
    rintro m gl ihh _ _ _ _ _ _ _ _ _ _ _ gh M'' ⟨j, B, rfl, rfl, rfl, rfl, rfl, rfl, rfl, rfl, rfl, rfl, rfl, m1, m2, m3, m4, m5, m6⟩
    have sq := m4.sl (N := M'') (by omega)
    try refine gs_Ck ?_
    (first | with_reducible refine Rn.cnd (fun _ => ?_) (fun _ => ?_) | with_reducible refine Rn.cndN (fun _ => ?_) (fun _ => ?_) | with_reducible refine Rn.cndB (fun _ => ?_) (fun _ => ?_))
    · obtain ⟨y, hy⟩ := at_of (L := B) (k := j) (by omega)
      obtain ⟨g', z1, z2, z3, z4⟩ := m4.sto (w := 5) (m := 1) (d := 0) (u := .int .i64 (-7)) (y := (⟨-7, y.From, y.To, y.Steps, y.Paces⟩ : Lk)) (N := M'') rfl hy rfl rfl rfl rfl
      try refine gs_Ck ?_
      exact ihh (m - 1) (by omega) _ _ _ _ _ _ _ _ _ _ _ _ _ ⟨j + 1, B.set j _, rfl, rfl, rfl, rfl, rfl, rfl, rfl, rfl, rfl, rfl, rfl, by omega, by rw [List.length_set]; exact m2, by omega, z2, by rw [z4 M (by omega)]; exact m5, fun q g1 g2 => g2.elim (fun g2 => by rw [z3.old (by omega)]; exact m6 q g1 (.inl g2)) (fun g2 => by rw [z4 q g2]; exact m6 q g1 (.inr g2))⟩
    try refine gs_Ck ?_
    exact ih 0 (by omega) _ _ _ _ _ _ _ _ _ _ ⟨1 + 1, rfl, rfl, rfl, rfl, rfl, rfl, rfl, rfl, by omega, by omega, fun j hj => by rw [m6 j (by omega) (by omega)]; exact i1 j hj, by rw [m6 N9 (by omega) (by omega)]; exact i2, .inr (.inr rfl)⟩
  · have h13 : ¬ ((2 : Nat) : Int) < ((2 : Nat) : Int) := by omega
    have z2 : Fr h N g := fun j hj => by rw [i1 j (by omega)]; exact G2 j hj
    try refine gs_Ck ?_
    have z3 : Fr G N3 g := fun j hj => i1 j (by omega)
    have u1 := G4.up (N' := M) z3 (by omega)
    have u2 := G5.up (N' := M) z3 (by omega)
    have u3 := G6.up (N' := M) z3 (by omega)
    refine Rn.call (r_same _ (P := P) (L := L) (P' := P) (L' := L) (by omega) (by omega) (by omega) (by omega) u1 u2 (hp.up z2 (by omega)) (hk.up z2 (by omega))) ?_
    rintro _ h10 N10 ⟨rfl, f10, o10, l10⟩
    rw [sameT_self]
    try refine gs_Ck ?_
    refine Rn.call (r_sameInts _ (A := xs) (B := xs) (by omega) (by omega) (u3.up fr_Ck (by omega)) (hs.up fr_Ck (by omega))) ?_
    rintro _ h11 N11 ⟨rfl, f11, o11, l11⟩
    rw [decide_eq_true (rfl : xs = xs)]
    try refine gs_Ck ?_
    exact Rn.ret rfl
end Go.Proofs.Ytkgjfpgccnonfaa
end
