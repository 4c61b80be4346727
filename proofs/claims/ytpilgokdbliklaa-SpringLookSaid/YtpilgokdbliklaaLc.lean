/-
  What the functions of the law return.
  Conditions: none.
-/
import Derived.Test.YtpilgokdbliklaaLb
import Derived.Test.YtpilgokdbliklaaRows
import Derived.Test.YtpilgokdbliklaaChecked
import Derived.Lib.SmallJoins
import Derived.ProofKit

section
namespace Go.Proofs.Ytpilgokdbliklaa
open Go.Ev Go.RowKit
set_option linter.unusedVariables false
set_option linter.unusedSimpArgs false
set_option linter.unusedSectionVars false
set_option maxRecDepth 100000
set_option maxHeartbeats 4000000
theorem s1_Sk {p : Prop} (h : p := by (simp (disch := omega) only [obind_s, orun_s, ocond_t, fad_p, ld1_e, ldN_e, sto_e, cellO_c, wrO_c, Tr.get_same, Tr.get_other, nth_0, nth_s, drp_0, drp_s, drp_n, tak_0, tak_s, tak_n, over_n, over_c, lay_0, lay_s, lay_n, len_n, len_c, app_n, app_c, reps_0, reps_s, cel_agg, cel_int, cel_bool, cel_str, cel_sl, cel_ptr, cel_map, cel_func, cel_nilf, fil_n, fil_c, beq_r, ble_d, allF_n, allF_c, one_int, one_bool, one_str, one_sl, one_ptr, one_map, one_func, one_nilf, Bool.and_true, Bool.true_and, Bool.not_true, Bool.not_false, iadA_z, Int.reduceToNat, Int.toNat_zero, fl1_a, flN_a, extr_t, unot, not_d, Nat.add_eq, Nat.mul_eq, Nat.mul_one, Nat.one_mul, Nat.zero_mul, Nat.reduceMul, Nat.zero_add, Nat.add_zero, Nat.le_refl, decide_true, Nat.reduceAdd, Nat.reduceLeDiff, bsl_Sint, bld_Span, bld_spring_work, bld_spring_asked, enc_Line, enc_Reading, ocond_d, Int.toNat_natCast, bd_drp0, bd_drp1, bd_lay, bd_len, bd_self, bd_tak, bd_over, qc_drp0, qc_drp1, setSt_e, stO_n, stO_s, isReady_r, anySt_t, unmark_e, unO_d, bsl_Saguadorref01_left, enc_Lf, le_lo, le_hi, le_laylo, le_layhi, le_len, le_self, le_tak, le_over, up_same, up_up, Nat.add_sub_cancel, *]); first | done | fail) : p := h
theorem s2_Sk {p : Prop} (h : p := by (simp (disch := omega) only [obind_s, orun_s, ocond_t, fad_p, ld1_e, ldN_e, sto_e, cellO_c, wrO_c, Tr.get_same, Tr.get_other, nth_0, nth_s, drp_0, drp_s, drp_n, tak_0, tak_s, tak_n, over_n, over_c, lay_0, lay_s, lay_n, len_n, len_c, app_n, app_c, reps_0, reps_s, cel_agg, cel_int, cel_bool, cel_str, cel_sl, cel_ptr, cel_map, cel_func, cel_nilf, fil_n, fil_c, beq_r, ble_d, allF_n, allF_c, one_int, one_bool, one_str, one_sl, one_ptr, one_map, one_func, one_nilf, Bool.and_true, Bool.true_and, Bool.not_true, Bool.not_false, iadA_z, Int.reduceToNat, Int.toNat_zero, fl1_a, flN_a, extr_t, unot, not_d, Nat.add_eq, Nat.mul_eq, Nat.mul_one, Nat.one_mul, Nat.zero_mul, Nat.reduceMul, Nat.zero_add, Nat.add_zero, Nat.le_refl, decide_true, Nat.reduceAdd, Nat.reduceLeDiff, bsl_Sint, bld_Span, bld_spring_work, bld_spring_asked, enc_Line, enc_Reading, ocond_d, Int.toNat_natCast, bd_drp0, bd_drp1, bd_lay, bd_len, bd_self, bd_tak, bd_over, qc_drp0, qc_drp1, setSt_e, stO_n, stO_s, isReady_r, anySt_t, unmark_e, unO_d, bsl_Saguadorref01_left, enc_Lf, le_lo, le_hi, le_laylo, le_layhi, le_len, le_self, le_tak, le_over, up_same, up_up, Nat.add_sub_cancel, *]); rfl) : p := h
theorem sb_Sk {p : Prop} (h : p := by first | ((simp (disch := omega) only [obind_s, orun_s, ocond_t, fad_p, ld1_e, ldN_e, sto_e, cellO_c, wrO_c, Tr.get_same, Tr.get_other, nth_0, nth_s, drp_0, drp_s, drp_n, tak_0, tak_s, tak_n, over_n, over_c, lay_0, lay_s, lay_n, len_n, len_c, app_n, app_c, reps_0, reps_s, cel_agg, cel_int, cel_bool, cel_str, cel_sl, cel_ptr, cel_map, cel_func, cel_nilf, fil_n, fil_c, beq_r, ble_d, allF_n, allF_c, one_int, one_bool, one_str, one_sl, one_ptr, one_map, one_func, one_nilf, Bool.and_true, Bool.true_and, Bool.not_true, Bool.not_false, iadA_z, Int.reduceToNat, Int.toNat_zero, fl1_a, flN_a, extr_t, unot, not_d, Nat.add_eq, Nat.mul_eq, Nat.mul_one, Nat.one_mul, Nat.zero_mul, Nat.reduceMul, Nat.zero_add, Nat.add_zero, Nat.le_refl, decide_true, Nat.reduceAdd, Nat.reduceLeDiff, bsl_Sint, bld_Span, bld_spring_work, bld_spring_asked, enc_Line, enc_Reading, ocond_d, Int.toNat_natCast, bd_drp0, bd_drp1, bd_lay, bd_len, bd_self, bd_tak, bd_over, qc_drp0, qc_drp1, setSt_e, stO_n, stO_s, isReady_r, anySt_t, unmark_e, unO_d, bsl_Saguadorref01_left, enc_Lf, le_lo, le_hi, le_laylo, le_layhi, le_len, le_self, le_tak, le_over, up_same, up_up, Nat.add_sub_cancel, Nat.succ_eq_add_one, Nat.add_assoc, *]); rfl) | ((simp (disch := omega) only [obind_s, orun_s, ocond_t, fad_p, ld1_e, ldN_e, sto_e, cellO_c, wrO_c, Tr.get_same, Tr.get_other, nth_0, nth_s, drp_0, drp_s, drp_n, tak_0, tak_s, tak_n, over_n, over_c, lay_0, lay_s, lay_n, len_n, len_c, app_n, app_c, reps_0, reps_s, cel_agg, cel_int, cel_bool, cel_str, cel_sl, cel_ptr, cel_map, cel_func, cel_nilf, fil_n, fil_c, beq_r, ble_d, allF_n, allF_c, one_int, one_bool, one_str, one_sl, one_ptr, one_map, one_func, one_nilf, Bool.and_true, Bool.true_and, Bool.not_true, Bool.not_false, iadA_z, Int.reduceToNat, Int.toNat_zero, fl1_a, flN_a, extr_t, unot, not_d, Nat.add_eq, Nat.mul_eq, Nat.mul_one, Nat.one_mul, Nat.zero_mul, Nat.reduceMul, Nat.zero_add, Nat.add_zero, Nat.le_refl, decide_true, Nat.reduceAdd, Nat.reduceLeDiff, bsl_Sint, bld_Span, bld_spring_work, bld_spring_asked, enc_Line, enc_Reading, ocond_d, Int.toNat_natCast, bd_drp0, bd_drp1, bd_lay, bd_len, bd_self, bd_tak, bd_over, qc_drp0, qc_drp1, setSt_e, stO_n, stO_s, isReady_r, anySt_t, unmark_e, unO_d, bsl_Saguadorref01_left, enc_Lf, le_lo, le_hi, le_laylo, le_layhi, le_len, le_self, le_tak, le_over, up_same, up_up, Nat.add_sub_cancel, Nat.succ_eq_add_one, Nat.add_assoc, *]); done)) : p := h
theorem fr_Sk {p : Prop} (h : p := by first | assumption | exact Fr.refl _ _ | (simp (disch := omega) only [Fr_set, Fr_refl, *])) : p := h
theorem fl_Sk {p : Prop} (h : p := by first | with_unfolding_all rfl | exact Sl.flat (by assumption) | assumption) : p := h
theorem fll_Sk {p : Prop} (h : p := by first | with_unfolding_all rfl | ((repeat (refine flatL_k fl_Sk ?_)); with_unfolding_all rfl)) : p := h
theorem en_Sk {p : Prop} (h : p := by first | ((simp only [enc_int, enc_str, enc_u8, enc_bool, tak_s, tak_0, tak_n, drp_0, drp_s, drp_n, nth_s, nth_0, bsl_Sint, bld_Span, bld_spring_work, bld_spring_asked, enc_Line, enc_Reading, ocond_d, Int.toNat_natCast, bd_drp0, bd_drp1, bd_lay, bd_len, bd_self, bd_tak, bd_over, qc_drp0, qc_drp1, setSt_e, stO_n, stO_s, isReady_r, anySt_t, unmark_e, unO_d, bsl_Saguadorref01_left, enc_Lf, le_lo, le_hi, le_laylo, le_layhi, le_len, le_self, le_tak, le_over, up_same, up_up, Nat.add_sub_cancel]); rfl) | ((simp only [enc_int, enc_str, enc_u8, enc_bool, tak_s, tak_0, tak_n, drp_0, drp_s, drp_n, nth_s, nth_0, bsl_Sint, bld_Span, bld_spring_work, bld_spring_asked, enc_Line, enc_Reading, ocond_d, Int.toNat_natCast, bd_drp0, bd_drp1, bd_lay, bd_len, bd_self, bd_tak, bd_over, qc_drp0, qc_drp1, setSt_e, stO_n, stO_s, isReady_r, anySt_t, unmark_e, unO_d, bsl_Saguadorref01_left, enc_Lf, le_lo, le_hi, le_laylo, le_layhi, le_len, le_self, le_tak, le_over, up_same, up_up, Nat.add_sub_cancel]); done) | with_unfolding_all rfl) : p := h
theorem sM_Sk {p : Prop} (h : p := by (first | assumption | (simp (disch := omega) only [Tr.get_same, Tr.get_other, *]; rfl) | (simp (disch := omega) only [Tr.get_same, Tr.get_other, *]; done))) : p := h
theorem sS_Sk {p : Prop} (h : p := by first | assumption | exact s1_Sk) : p := h
theorem sR_Sk {p : Prop} (h : p := by first | assumption | exact s1_Sk | exact s2_Sk | with_unfolding_all rfl) : p := h
theorem op_Sk {p : Prop} (h : p := by first | with_reducible exact fad_p _ _ _ | with_reducible exact iop_lss _ _ | with_reducible exact iop_leq _ _ | with_reducible exact iop_gtr _ _ | with_reducible exact iop_geq _ _ | with_reducible exact iop_eql _ _ | with_reducible exact iop_neq _ _ | with_reducible exact Sl.len (by assumption) | with_reducible exact lenS_s _ _ _ | with_reducible exact Sl.iad (by assumption) (by with_unfolding_all rfl) (by first | assumption | omega) | with_reducible exact Sl.fad (by assumption) (by first | assumption | omega) | with_reducible exact Sl.ld1 (by assumption) fr_Sk (by with_unfolding_all rfl) (by assumption) en_Sk | with_reducible exact Sl.ldN (by assumption) fr_Sk (by with_unfolding_all rfl) (by assumption) (by with_unfolding_all rfl) en_Sk | with_reducible exact zadd1 (by omega) | with_reducible exact zsub1 (by omega) (by omega) | with_reducible exact zaddI (by omega) (by omega) | with_reducible exact zsubI (by omega) (by omega) | with_reducible exact min_z | with_reducible exact max_z | with_reducible exact zmulI (by assumption) | with_reducible exact zmulK (by omega) (by omega) | with_reducible exact quo_z (by omega) (by omega) (by omega) | with_reducible exact cv_u8 (by omega) | with_reducible exact rem_z (by omega) (by omega) (by omega) | with_reducible exact neq_bool (by kernel_rfl) | with_reducible exact eql_u8 | with_reducible exact wntT_t (by assumption) | with_reducible exact wntT_f (by assumption) | with_reducible exact wntF_t (by assumption) | with_reducible exact wntF_f (by assumption) | with_reducible exact wnt_tt | with_reducible exact wnt_tf | with_reducible exact wnt_ft | with_reducible exact wnt_ff | with_reducible exact wnt_u _ _ | with_reducible exact pck_t _ _ | with_reducible exact pck_f _ _ | with_reducible exact pckT (by assumption) | with_reducible exact pckF (by assumption) | with_reducible exact wntT_t (by decide) | with_reducible exact wntT_f (by decide) | with_reducible exact wntF_t (by decide) | with_reducible exact wntF_f (by decide) | with_reducible exact pckT (by decide) | with_reducible exact pckF (by decide) | with_reducible exact wntN_tt (by decide) | with_reducible exact wntN_tf (by decide) | with_reducible exact wntN_ft (by decide) | with_reducible exact wntN_ff (by decide) | with_reducible exact pckNT (by decide) | with_reducible exact pckNF (by decide) | with_reducible exact wntN_tt (by assumption) | with_reducible exact wntN_tf (by assumption) | with_reducible exact wntN_ft (by assumption) | with_reducible exact wntN_ff (by assumption) | with_reducible exact pckNT (by assumption) | with_reducible exact pckNF (by assumption) | with_reducible exact wntB_tt (by assumption) | with_reducible exact wntB_tf (by assumption) | with_reducible exact wntB_ft (by assumption) | with_reducible exact wntB_ff (by assumption) | with_reducible exact pckBT (by assumption) | with_reducible exact pckBF (by assumption) | exact s2_Sk | exact s1_Sk) : p := h
theorem co_Sk {p : Prop} (h : p := by first | (simp only [impB_1, impB_0, offB_1, offB_0]; done) | ((try simp only [impB_1, impB_0, offB_1, offB_0]); first | with_reducible exact Sl.ag1 (by assumption) fr_Sk (by with_unfolding_all rfl) (by assumption) en_Sk | with_reducible exact Sl.agN (by assumption) fr_Sk (by with_unfolding_all rfl) (by assumption) (by with_unfolding_all rfl) en_Sk | ((with_reducible refine agL1_e ?_ ?_); (· exact s1_Sk); (· exact fl_Sk)) | ((with_reducible refine agLN_e ?_ ?_); (· exact s1_Sk); (· exact fll_Sk)) | ((with_reducible apply ag_bs); (· exact sM_Sk); (· rfl); (· exact sb_Sk); (· exact fll_Sk)) | ((with_reducible apply ag_al); (· exact sM_Sk); (· rfl); (· exact fll_Sk)) | ((with_reducible apply ag_bx); (· exact sM_Sk); (· rfl); (· rfl); (· exact fll_Sk)) | ((with_reducible apply ag_bd); (· rfl); (· exact s1_Sk); (· exact fll_Sk)) | exact s1_Sk)) : p := h
theorem gs_Sk {r p : Prop} (k : r) (h : Go.Ev.Im r p := by (first | with_reducible apply Im.runS | ((with_reducible apply Im.num); · (simp only [Nat.succ_eq_add_one, Nat.add_assoc, Nat.reduceAdd]; rfl)) | (with_reducible apply Im.unm) | (with_reducible apply Im.selT) | (with_reducible apply Im.selF) | ((with_reducible apply Im.cndT); · assumption) | ((with_reducible apply Im.cndF); · assumption) | ((with_reducible apply Im.cndT); · decide) | ((with_reducible apply Im.cndF); · decide) | ((with_reducible apply Im.cndNT); · decide) | ((with_reducible apply Im.cndNF); · decide) | ((with_reducible apply Im.cndBT); · exact rfl) | ((with_reducible apply Im.cndBF); · exact rfl) | ((with_reducible apply Im.cndNT); · assumption) | ((with_reducible apply Im.cndNF); · assumption) | ((with_reducible apply Im.cndBT); · assumption) | ((with_reducible apply Im.cndBF); · assumption) | ((with_reducible apply Im.bind); · exact op_Sk) | ((with_reducible apply Im.cond); · exact co_Sk) | ((with_reducible apply Im.runB); · exact op_Sk) | ((with_reducible apply Im.runC); · exact co_Sk) | ((with_reducible apply Im.runN); · (simp only [Nat.succ_eq_add_one, Nat.add_assoc, Nat.reduceAdd]; rfl)) | with_reducible apply Im.runR | ((with_reducible apply Im.runE (x := evBuildSlice _ _ _ _ _ _)); · exact sb_Sk)); (repeat (first | with_reducible apply Im.runS | ((with_reducible apply Im.num); · (simp only [Nat.succ_eq_add_one, Nat.add_assoc, Nat.reduceAdd]; rfl)) | (with_reducible apply Im.unm) | (with_reducible apply Im.selT) | (with_reducible apply Im.selF) | ((with_reducible apply Im.cndT); · assumption) | ((with_reducible apply Im.cndF); · assumption) | ((with_reducible apply Im.cndT); · decide) | ((with_reducible apply Im.cndF); · decide) | ((with_reducible apply Im.cndNT); · decide) | ((with_reducible apply Im.cndNF); · decide) | ((with_reducible apply Im.cndBT); · exact rfl) | ((with_reducible apply Im.cndBF); · exact rfl) | ((with_reducible apply Im.cndNT); · assumption) | ((with_reducible apply Im.cndNF); · assumption) | ((with_reducible apply Im.cndBT); · assumption) | ((with_reducible apply Im.cndBF); · assumption) | ((with_reducible apply Im.bind); · exact op_Sk) | ((with_reducible apply Im.cond); · exact co_Sk) | ((with_reducible apply Im.runB); · exact op_Sk) | ((with_reducible apply Im.runC); · exact co_Sk) | ((with_reducible apply Im.runN); · (simp only [Nat.succ_eq_add_one, Nat.add_assoc, Nat.reduceAdd]; rfl)) | with_reducible apply Im.runR | ((with_reducible apply Im.runE (x := evBuildSlice _ _ _ _ _ _)); · exact sb_Sk))); exact Go.Ev.Im.id) : p := h k
def leC (f : Bd) : List Value := [iS (f 0).1, iS (f 1).1, iS (f 2).1, iS (f 3).1, iS (f 4).1, iS (f 5).1, iS (f 6).1, iS (f 7).1, iS (f 8).1, iS (f 9).1, iS (f 0).2, iS (f 1).2, iS (f 2).2, iS (f 3).2, iS (f 4).2, iS (f 5).2, iS (f 6).2, iS (f 7).2, iS (f 8).2, iS (f 9).2]
theorem le_lo (f : Bd) {k : Nat} (hk : k < 10) : nth (drp (leC f) k) 0 = some (iS (f k).1) :=
  ten (p := fun k => nth (drp (leC f) k) 0 = some (iS (f k).1)) rfl rfl rfl rfl rfl rfl rfl rfl rfl rfl k hk
theorem le_hi (f : Bd) {k : Nat} (hk : k < 10) : nth (drp (leC f) (10 + k)) 0 = some (iS (f k).2) :=
  ten (p := fun k => nth (drp (leC f) (10 + k)) 0 = some (iS (f k).2)) rfl rfl rfl rfl rfl rfl rfl rfl rfl rfl k hk
theorem le_laylo (f : Bd) {k : Nat} (hk : k < 10) (a : Int) : lay (leC f) [iS a] k = leC (up f k (a, (f k).2)) :=
  ten (p := fun k => lay (leC f) [iS a] k = leC (up f k (a, (f k).2))) rfl rfl rfl rfl rfl rfl rfl rfl rfl rfl k hk
theorem le_layhi (f : Bd) {k : Nat} (hk : k < 10) (a : Int) : lay (leC f) [iS a] (10 + k) = leC (up f k ((f k).1, a)) :=
  ten (p := fun k => lay (leC f) [iS a] (10 + k) = leC (up f k ((f k).1, a))) rfl rfl rfl rfl rfl rfl rfl rfl rfl rfl k hk
theorem le_len (f : Bd) : len (leC f) = 20 := rfl
theorem le_self (f g : Bd) : lay (leC f) (leC g) 0 = leC g := rfl
theorem le_tak (f : Bd) : tak (leC f) 20 = leC f := rfl
theorem le_over (f : Bd) : over (leC f) [iS 0, iS 0, iS 0, iS 0, iS 0, iS 0, iS 0, iS 0, iS 0, iS 0, iS 0, iS 0, iS 0, iS 0, iS 0, iS 0, iS 0, iS 0, iS 0, iS 0] = leC f := rfl
/-- What a rain leaves, as the reference keeps it. -/
structure Lf where
  f : Bd
instance : Rwc Lf := ⟨20, fun x => leC x.f, fun _ => rfl, fun _ => rfl, by omega⟩
theorem enc_Lf (x : Lf) : Rwc.enc x = leC x.f := rfl
theorem allR_snoc {s : Sp} {w n : Int} {j : Nat} {x : Rd} (h : s.reads[j]? = some x) : allR s w n (s.reads.take (j + 1)) = (allR s w n (s.reads.take j) && (!(decide (x.Week = w)) || rightB s x n)) := by
  rw [List.take_add_one, h]; simp [allR, List.all_append]
section
variable {s : Sp} {b r : Value}
theorem c_Right (call : CallF) {x : Rd} {g : Int} {h N} (ho : Ok s) (hx : OkR s x) (hg : -1000 ≤ g ∧ g ≤ 1000) (cb : flatV b = true) (cr : flatV r = true) : Rn (s101 call (.agg ⟨[iS s.weeks, iS s.most, iS s.fall, iS s.slo, iS s.shi, iS s.wlo, iS s.whi, b, r]⟩) (.agg ⟨Rwc.enc x⟩) (iS g) h N) fun v h' N' => v = .bool (rightB s x g) ∧ Gw h N h' N' := by
  obtain ⟨w1, w2, m1, m2, p1, p2, a1, a2, a3, v1, v2, v3⟩ := ho
  obtain ⟨n1, n2, k1, k2, b1, b2, l1, l2, l3, l4⟩ := hx
  have hp1 := mul_bd (a := x.Songs_Hi) (b := s.shi) (by omega) l3 (by omega) a3
  have hp3 := mul_bd (a := x.Songs_Lo) (b := s.slo) (m := 99) (n := 600) l1 (by omega) (by omega) (by omega)
  have hp4 : 0 < g → 0 ≤ x.Songs_Lo * s.slo * g ∧ x.Songs_Lo * s.slo * g ≤ 99 * 600 * 1000 := fun h => mul_bd (by omega) hp3.2 (by omega) (by omega)
  have hp5 : 0 < g → 0 ≤ x.Songs_Hi * s.shi * g ∧ x.Songs_Hi * s.shi * g ≤ 99 * 600 * 1000 := fun h => mul_bd (by omega) hp1.2 (by omega) (by omega)
  unfold s101
  simp only [enc_Reading]
  have x1 := flatV_one cb; have y1 := cel_flat cb; have x2 := flatV_one cr; have y2 := cel_flat cr
  try refine gs_Sk ?_
  refine Rn.part (fun hpos => ?_) (fun hpos => ?_)
  · have hq4 := hp4 hpos
    have hq5 := hp5 hpos
    clear hp4 hp5
    repeat' (first | refine gs_Sk ?_ | (first | with_reducible refine Rn.part (fun _ => ?_) (fun _ => ?_) | with_reducible refine Rn.partN (fun _ => ?_) (fun _ => ?_) | with_reducible refine Rn.partB (fun _ => ?_) (fun _ => ?_)) | (first | with_reducible refine Rn.cnd (fun _ => ?_) (fun _ => ?_) | with_reducible refine Rn.cndN (fun _ => ?_) (fun _ => ?_) | with_reducible refine Rn.cndB (fun _ => ?_) (fun _ => ?_)))
    all_goals exact Rn.ret ⟨congrArg Value.bool (by simp only [rightB, *, decide_true, decide_false, Bool.true_and, Bool.false_and, Bool.and_true]), (Gw.of fr_Sk (by omega))⟩
  · clear hp4 hp5
    repeat' (first | refine gs_Sk ?_ | (first | with_reducible refine Rn.part (fun _ => ?_) (fun _ => ?_) | with_reducible refine Rn.partN (fun _ => ?_) (fun _ => ?_) | with_reducible refine Rn.partB (fun _ => ?_) (fun _ => ?_)) | (first | with_reducible refine Rn.cnd (fun _ => ?_) (fun _ => ?_) | with_reducible refine Rn.cndN (fun _ => ?_) (fun _ => ?_) | with_reducible refine Rn.cndB (fun _ => ?_) (fun _ => ?_)))
    all_goals exact Rn.ret ⟨congrArg Value.bool (by simp only [rightB, *, decide_true, decide_false, Bool.true_and, Bool.false_and, Bool.and_true]), (Gw.of fr_Sk (by omega))⟩
theorem c_base (call : CallF) {h N} (hs : OkS s) (hr : Sl h N r s.reads) (cb : flatV b = true) : Rn (s90 call (.agg ⟨[iS s.weeks, iS s.most, iS s.fall, iS s.slo, iS s.shi, iS s.wlo, iS s.whi, b, r]⟩) h N) fun v h' N' => v = .agg ⟨leC (baseS s)⟩ ∧ Gw h N h' N' := by
  have ho := hs.ok
  have ho2 := ho
  have nr := hs.nr
  obtain ⟨w1, w2, m1, m2, p1, p2, a1, a2, a3, v1, v2, v3⟩ := ho2
  have cr := hr.flat
  unfold s90
  have x1 := flatV_one cb; have y1 := cel_flat cb; have x2 := flatV_one cr; have y2 := cel_flat cr
  try refine gs_Sk ?_
  refine Rn.loop4 (fun n p q u k g M => ∃ i : Nat, p = .pointer (some ⟨N, 0, none⟩) ∧ q = .pointer (some ⟨N + 1, 0, none⟩) ∧ u = .pointer (some ⟨N + 2, 0, none⟩) ∧ k = nS i ∧ (i : Int) + n = s.weeks ∧ Fr h N g ∧ N + 3 ≤ M ∧ g.get N = some (.c [iS s.weeks, iS s.most, iS s.fall, iS s.slo, iS s.shi, iS s.wlo, iS s.whi, b, r] 27) ∧ g.get (N + 1) = some (.c (leC bz) 104) ∧ g.get (N + 2) = some (.c (leC (baseN s i)) 104)) s.weeks.toNat (by omega) ⟨0, rfl, rfl, rfl, rfl, by omega, fr_Sk, by omega, sS_Sk, sR_Sk, sR_Sk⟩ ?_
  rintro n g ih _ _ _ _ h1 N1 ⟨i, rfl, rfl, rfl, rfl, e1, f1, l1, g1, g2, g3⟩
  try refine gs_Sk ?_
  (first | with_reducible refine Rn.cnd (fun _ => ?_) (fun _ => ?_) | with_reducible refine Rn.cndN (fun _ => ?_) (fun _ => ?_) | with_reducible refine Rn.cndB (fun _ => ?_) (fun _ => ?_))
  · have eb : baseN s (i + 1) = up (baseN s i) i (stepW s i (s.most + 1).toNat) := rfl
    generalize baseN s i = F at g3 eb
    try refine gs_Sk ?_
    refine Rn.loop5 (fun n p q u k t g M => ∃ j : Nat, p = .pointer (some ⟨N, 0, none⟩) ∧ q = .pointer (some ⟨N + 1, 0, none⟩) ∧ u = .pointer (some ⟨N + 2, 0, none⟩) ∧ k = nS i ∧ t = nS j ∧ (j : Int) + n = s.most + 1 ∧ Fr h N g ∧ N + 3 ≤ M ∧ g.get N = some (.c [iS s.weeks, iS s.most, iS s.fall, iS s.slo, iS s.shi, iS s.wlo, iS s.whi, b, r] 27) ∧ g.get (N + 1) = some (.c (leC bz) 104) ∧ g.get (N + 2) = some (.c (leC (up F i (stepW s i j))) 104)) (s.most + 1).toNat (by omega) ⟨0, rfl, rfl, rfl, rfl, rfl, by omega, fr_Sk, by omega, sS_Sk, sS_Sk, sR_Sk⟩ ?_
    rintro m g' ih' _ _ _ _ _ h2 N2 ⟨j, rfl, rfl, rfl, rfl, rfl, e2, f2, l2, k1, k2, k3⟩
    try refine gs_Sk ?_
    (first | with_reducible refine Rn.cnd (fun _ => ?_) (fun _ => ?_) | with_reducible refine Rn.cndN (fun _ => ?_) (fun _ => ?_) | with_reducible refine Rn.cndB (fun _ => ?_) (fun _ => ?_))
    · have es : stepW s i (j + 1) = if allR s i j s.reads then (min (stepW s i j).1 j, (j : Int)) else stepW s i j := rfl
      generalize stepW s i j = v at k3 es
      try refine gs_Sk ?_
      refine Rn.loop9 (fun n p q u k t a e l c g M => ∃ z : Nat, p = .pointer (some ⟨N, 0, none⟩) ∧ q = .pointer (some ⟨N + 1, 0, none⟩) ∧ u = .pointer (some ⟨N + 2, 0, none⟩) ∧ k = nS i ∧ t = nS j ∧ a = .bool (allR s i j (s.reads.take z)) ∧ r = e ∧ l = nS s.reads.length ∧ c = nS z ∧ z + n = s.reads.length ∧ Fr h N g ∧ N + 3 ≤ M ∧ g.get N = some (.c [iS s.weeks, iS s.most, iS s.fall, iS s.slo, iS s.shi, iS s.wlo, iS s.whi, b, r] 27) ∧ g.get (N + 1) = some (.c (leC bz) 104) ∧ g.get (N + 2) = some (.c (leC (up F i v)) 104)) s.reads.length (by omega) ⟨0, rfl, rfl, rfl, rfl, rfl, rfl, rfl, rfl, rfl, by omega, fr_Sk, by omega, sS_Sk, sS_Sk, sS_Sk⟩ ?_
      rintro c g'' ih'' _ _ _ _ _ _ _ _ _ h3 N3 ⟨z, rfl, rfl, rfl, rfl, rfl, rfl, rfl, rfl, rfl, e3, f3, l3, j1, j2, j3⟩
      try refine gs_Sk ?_
      (first | with_reducible refine Rn.cnd (fun _ => ?_) (fun _ => ?_) | with_reducible refine Rn.cndN (fun _ => ?_) (fun _ => ?_) | with_reducible refine Rn.cndB (fun _ => ?_) (fun _ => ?_))
      · obtain ⟨x, hx⟩ := at_of (L := s.reads) (k := z) (by omega)
        have ox := hs.reads x (List.mem_of_getElem? hx)
        have ea := allR_snoc (s := s) (w := i) (n := j) hx
        generalize allR s i j (s.reads.take z) = A at ea
        try refine gs_Sk ?_
        refine Rn.partB (fun hA => ?_) (fun hA => ?_)
        · try refine gs_Sk ?_
          refine Rn.part (fun hw => ?_) (fun hw => ?_)
          · try refine gs_Sk ?_
            refine ih'' (c - 1) (by omega) _ _ _ _ _ _ _ _ _ _ _ ⟨z + 1, rfl, rfl, rfl, rfl, rfl, ?_, rfl, rfl, rfl, by omega, fr_Sk, by omega, sS_Sk, sS_Sk, sS_Sk⟩
            rw [ea, hA, decide_eq_false hw]; rfl
          · try refine gs_Sk ?_
            refine Rn.call (c_Right _ (x := x) ho ox (by omega) cb cr) ?_
            rintro _ h4 N4 ⟨rfl, f4, o4, l4⟩
            try refine gs_Sk ?_
            refine ih'' (c - 1) (by omega) _ _ _ _ _ _ _ _ _ _ _ ⟨z + 1, rfl, rfl, rfl, rfl, rfl, ?_, rfl, rfl, rfl, by omega, fr_Sk, by omega, sS_Sk, sS_Sk, sS_Sk⟩
            rw [ea, hA, decide_eq_true (by omega)]; rfl
        · try refine gs_Sk ?_
          refine ih'' (c - 1) (by omega) _ _ _ _ _ _ _ _ _ _ _ ⟨z + 1, rfl, rfl, rfl, rfl, rfl, ?_, rfl, rfl, rfl, by omega, fr_Sk, by omega, sS_Sk, sS_Sk, sS_Sk⟩
          rw [ea, hA]; rfl
      · obtain rfl : z = s.reads.length := by omega
        rw [List.take_length]
        unfold jnR
        try refine gs_Sk ?_
        (first | with_reducible refine Rn.cnd (fun _ => ?_) (fun _ => ?_) | with_reducible refine Rn.cndN (fun _ => ?_) (fun _ => ?_) | with_reducible refine Rn.cndB (fun _ => ?_) (fun _ => ?_))
        · rw [if_pos (by assumption)] at es
          try refine gs_Sk ?_
          exact ih' (m - 1) (by omega) _ _ _ _ _ _ _ ⟨j + 1, rfl, rfl, rfl, rfl, rfl, by omega, fr_Sk, by omega, sS_Sk, sS_Sk, by rw [es]; exact sR_Sk⟩
        · rw [if_neg (by simp only [*]; simp)] at es
          try refine gs_Sk ?_
          exact ih' (m - 1) (by omega) _ _ _ _ _ _ _ ⟨j + 1, rfl, rfl, rfl, rfl, rfl, by omega, fr_Sk, by omega, sS_Sk, sS_Sk, by rw [es]; exact sR_Sk⟩
    · obtain rfl : j = (s.most + 1).toNat := by omega
      try refine gs_Sk ?_
      exact ih (n - 1) (by omega) _ _ _ _ _ _ ⟨i + 1, rfl, rfl, rfl, rfl, by omega, fr_Sk, by omega, sS_Sk, sS_Sk, by rw [eb]; exact sR_Sk⟩
  · obtain rfl : i = s.weeks.toNat := by omega
    try refine gs_Sk ?_
    exact Rn.ret ⟨rfl, (Gw.of fr_Sk (by omega))⟩
end
end Go.Proofs.Ytpilgokdbliklaa
end

section
namespace Go.Proofs.Ytpilgokdbliklaa
open Go.Ev Go.RowKit
set_option linter.unusedVariables false
set_option linter.unusedSimpArgs false
set_option linter.unusedSectionVars false
set_option maxRecDepth 100000
set_option maxHeartbeats 4000000
section
variable {s : Sp} {b r : Value}
theorem c_rleaves (call : CallF) {f : Bd} {rain : Int} {h N} (hs : OkS s) (hf : BdOk f) (hb : Sl h N b s.book) (cr : flatV r = true) : Rn (s122 call (.agg ⟨[iS s.weeks, iS s.most, iS s.fall, iS s.slo, iS s.shi, iS s.wlo, iS s.whi, b, r]⟩) (.agg ⟨leC f⟩) (iS rain) h N) fun v h' N' => (v = .tuple ⟨[.agg ⟨leC (leavesF s f rain)⟩, .bool (okN s (leavesF s f rain))]⟩ ∧ N + 2 ≤ N') ∧ Gw h N h' N' := by
  have ho := hs.ok
  have ho2 := ho
  have nb := hs.nb
  obtain ⟨w1, w2, m1, m2, p1, p2, a1, a2, a3, v1, v2, v3⟩ := ho2
  have cb := hb.flat
  unfold s122
  have x1 := flatV_one cb; have y1 := cel_flat cb; have x2 := flatV_one cr; have y2 := cel_flat cr
  try refine gs_Sk ?_
  refine Rn.loop7 (fun n a p q u t l k g M => ∃ i : Nat, a = iS rain ∧ p = .pointer (some ⟨N, 0, none⟩) ∧ q = .pointer (some ⟨N + 1, 0, none⟩) ∧ u = .pointer (some ⟨N + 2, 0, none⟩) ∧ b = t ∧ l = nS s.book.length ∧ k = nS i ∧ i + n = s.book.length ∧ Fr h N g ∧ N + 3 ≤ M ∧ g.get N = some (.c [iS s.weeks, iS s.most, iS s.fall, iS s.slo, iS s.shi, iS s.wlo, iS s.whi, b, r] 27) ∧ g.get (N + 2) = some (.c (leC bz) 104) ∧ g.get (N + 1) = some (.c (leC ((s.book.take i).foldl (addL rain) f)) 104)) s.book.length (by omega) ⟨0, rfl, rfl, rfl, rfl, rfl, rfl, rfl, by omega, fr_Sk, by omega, sS_Sk, sR_Sk, sR_Sk⟩ ?_
  rintro n g ih _ _ _ _ _ _ _ h1 N1 ⟨i, rfl, rfl, rfl, rfl, rfl, rfl, rfl, e1, f1, l1, g1, g2, g3⟩
  try refine gs_Sk ?_
  (first | with_reducible refine Rn.cnd (fun _ => ?_) (fun _ => ?_) | with_reducible refine Rn.cndN (fun _ => ?_) (fun _ => ?_) | with_reducible refine Rn.cndB (fun _ => ?_) (fun _ => ?_))
  · obtain ⟨x, hx⟩ := at_of (L := s.book) (k := i) (by omega)
    have ox := hs.book x (List.mem_of_getElem? hx)
    obtain ⟨r1, r2, r3, t1, t2, t3, t4, t5⟩ := ox
    have ef := fold_take (addL rain) hx f
    generalize (s.book.take i).foldl (addL rain) f = f at g3 ef
    try refine gs_Sk ?_
    refine Rn.call (c_rwithin _) ?_
    rintro _ h2 N2 ⟨rfl, f2, o2, l2⟩
    try refine gs_Sk ?_
    unfold jnR
    (first | with_reducible refine Rn.cnd (fun _ => ?_) (fun _ => ?_) | with_reducible refine Rn.cndN (fun _ => ?_) (fun _ => ?_) | with_reducible refine Rn.cndB (fun _ => ?_) (fun _ => ?_))
    · have e2 : addL rain f x = up f x.Week.toNat (max (f x.Week.toNat).1 x.Gives_Lo, min (f x.Week.toNat).2 x.Gives_Hi) := if_pos (by assumption)
      try refine gs_Sk ?_
      exact ih (n - 1) (by omega) _ _ _ _ _ _ _ _ _ ⟨i + 1, rfl, rfl, rfl, rfl, rfl, rfl, rfl, by omega, fr_Sk, by omega, sS_Sk, sS_Sk, by rw [ef, e2]; exact sR_Sk⟩
    · have e2 : addL rain f x = f := if_neg (by simp only [*]; simp)
      try refine gs_Sk ?_
      exact ih (n - 1) (by omega) _ _ _ _ _ _ _ _ _ ⟨i + 1, rfl, rfl, rfl, rfl, rfl, rfl, rfl, by omega, fr_Sk, by omega, sS_Sk, sS_Sk, by rw [ef, e2]; exact sR_Sk⟩
  obtain rfl : i = s.book.length := by omega
  rw [List.take_length] at g3
  clear ih
  have hf0 : BdOk (s.book.foldl (addL rain) f) := fold_ok (fun f x hx h => addL_ok h (hs.book x hx)) hf
  have hF : leavesF s f rain = narS s (s.book.foldl (addL rain) f) := rfl
  rw [hF]
  generalize s.book.foldl (addL rain) f = f at g3 hf0
  clear hF hf
  try refine gs_Sk ?_
  refine Rn.loop4 (fun n p q u k g M => ∃ i : Nat, p = .pointer (some ⟨N, 0, none⟩) ∧ q = .pointer (some ⟨N + 1, 0, none⟩) ∧ u = .pointer (some ⟨N + 2, 0, none⟩) ∧ k = nS (i + 1) ∧ (i : Int) + n = s.weeks - 1 ∧ Fr h N g ∧ N + 3 ≤ M ∧ g.get N = some (.c [iS s.weeks, iS s.most, iS s.fall, iS s.slo, iS s.shi, iS s.wlo, iS s.whi, b, r] 27) ∧ g.get (N + 2) = some (.c (leC bz) 104) ∧ g.get (N + 1) = some (.c (leC (fwdN s.fall i f)) 104)) (s.weeks - 1).toNat (by omega) ⟨0, rfl, rfl, rfl, rfl, by omega, fr_Sk, by omega, sS_Sk, sS_Sk, sR_Sk⟩ ?_
  rintro n g ih _ _ _ _ h1 N1 ⟨i, rfl, rfl, rfl, rfl, e1, f1, l1, g1, g2, g3⟩
  have hb1 := fwd_ok p1 p2 hf0 i i
  have hb2 := fwd_ok p1 p2 hf0 i (i + 1)
  try refine gs_Sk ?_
  (first | with_reducible refine Rn.cnd (fun _ => ?_) (fun _ => ?_) | with_reducible refine Rn.cndN (fun _ => ?_) (fun _ => ?_) | with_reducible refine Rn.cndB (fun _ => ?_) (fun _ => ?_))
  · have ef : fwdN s.fall (i + 1) f = up (fwdN s.fall i f) (i + 1) (max (fwdN s.fall i f (i + 1)).1 ((fwdN s.fall i f i).1 - s.fall), min (fwdN s.fall i f (i + 1)).2 (fwdN s.fall i f i).2) := rfl
    generalize fwdN s.fall i f = F at g3 ef hb1 hb2
    try refine gs_Sk ?_
    exact ih (n - 1) (by omega) _ _ _ _ _ _ ⟨i + 1, rfl, rfl, rfl, rfl, by omega, fr_Sk, by omega, sS_Sk, sS_Sk, by rw [ef]; exact sR_Sk⟩
  have en : s.weeks.toNat - 1 = i := by omega
  clear ih
  try refine gs_Sk ?_
  refine Rn.loop4 (fun n p q u k g M => ∃ j : Nat, p = .pointer (some ⟨N, 0, none⟩) ∧ q = .pointer (some ⟨N + 1, 0, none⟩) ∧ u = .pointer (some ⟨N + 2, 0, none⟩) ∧ k = iS (s.weeks - 2 - (j : Int)) ∧ (j : Int) + n = s.weeks - 1 ∧ Fr h N g ∧ N + 3 ≤ M ∧ g.get N = some (.c [iS s.weeks, iS s.most, iS s.fall, iS s.slo, iS s.shi, iS s.wlo, iS s.whi, b, r] 27) ∧ g.get (N + 2) = some (.c (leC bz) 104) ∧ g.get (N + 1) = some (.c (leC (bwdN s.fall s.weeks.toNat j (fwdN s.fall i f))) 104)) (s.weeks - 1).toNat (by omega) ⟨0, rfl, rfl, rfl, by simp, by omega, fr_Sk, by omega, sS_Sk, sS_Sk, sR_Sk⟩ ?_
  rintro m g' ih' _ _ _ _ h2 N2 ⟨j, rfl, rfl, rfl, rfl, e2, f2, l2, k1, k2, k3⟩
  have hb := bwd_ok (n := s.weeks.toNat) p1 p2 (fwd_ok p1 p2 hf0 i) j
  have hb3 := hb (s.weeks.toNat - 2 - j)
  have hb4 := hb (s.weeks.toNat - 2 - j + 1)
  try refine gs_Sk ?_
  (first | with_reducible refine Rn.cnd (fun _ => ?_) (fun _ => ?_) | with_reducible refine Rn.cndN (fun _ => ?_) (fun _ => ?_) | with_reducible refine Rn.cndB (fun _ => ?_) (fun _ => ?_))
  · have t1 : (s.weeks - 2 - (j : Int)).toNat = s.weeks.toNat - 2 - j := by omega
    have t2 : (s.weeks - 2 - (j : Int) + 1).toNat = s.weeks.toNat - 2 - j + 1 := by omega
    have ef : bwdN s.fall s.weeks.toNat (j + 1) (fwdN s.fall i f) = up (bwdN s.fall s.weeks.toNat j (fwdN s.fall i f)) (s.weeks.toNat - 2 - j) (max (bwdN s.fall s.weeks.toNat j (fwdN s.fall i f) (s.weeks.toNat - 2 - j)).1 (bwdN s.fall s.weeks.toNat j (fwdN s.fall i f) (s.weeks.toNat - 2 - j + 1)).1, min (bwdN s.fall s.weeks.toNat j (fwdN s.fall i f) (s.weeks.toNat - 2 - j)).2 ((bwdN s.fall s.weeks.toNat j (fwdN s.fall i f) (s.weeks.toNat - 2 - j + 1)).2 + s.fall)) := rfl
    clear hb
    generalize bwdN s.fall s.weeks.toNat j (fwdN s.fall i f) = F at k3 ef hb3 hb4
    try refine gs_Sk ?_
    exact ih' (m - 1) (by omega) _ _ _ _ _ _ ⟨j + 1, rfl, rfl, rfl, by rw [show s.weeks - 2 - ((j + 1 : Nat) : Int) = s.weeks - 2 - (j : Int) - 1 by omega], by omega, fr_Sk, by omega, sS_Sk, sS_Sk, by rw [ef]; exact sR_Sk⟩
  obtain rfl : j = i := by omega
  have hN : narS s f = bwdN s.fall s.weeks.toNat j (fwdN s.fall j f) := by unfold narS; rw [en]
  rw [← hN] at k3
  clear ih' hb3 hb4 hb hN
  generalize narS s f = F at k3
  try refine gs_Sk ?_
  refine Rn.loop4 (fun n p q u k g M => ∃ j : Nat, p = .pointer (some ⟨N, 0, none⟩) ∧ q = .pointer (some ⟨N + 1, 0, none⟩) ∧ u = .pointer (some ⟨N + 2, 0, none⟩) ∧ k = nS j ∧ (j : Int) + n = s.weeks ∧ Fr h N g ∧ N + 3 ≤ M ∧ g.get N = some (.c [iS s.weeks, iS s.most, iS s.fall, iS s.slo, iS s.shi, iS s.wlo, iS s.whi, b, r] 27) ∧ g.get (N + 2) = some (.c (leC bz) 104) ∧ g.get (N + 1) = some (.c (leC F) 104) ∧ ∀ q, q < j → (F q).1 ≤ (F q).2) s.weeks.toNat (by omega) ⟨0, rfl, rfl, rfl, rfl, by omega, fr_Sk, by omega, sS_Sk, sS_Sk, sS_Sk, fun q hq => by omega⟩ ?_
  rintro m g' ih' _ _ _ _ h2 N2 ⟨z, rfl, rfl, rfl, rfl, e2, f2, l2, k1, k2, k3, q1⟩
  try refine gs_Sk ?_
  (first | with_reducible refine Rn.cnd (fun _ => ?_) (fun _ => ?_) | with_reducible refine Rn.cndN (fun _ => ?_) (fun _ => ?_) | with_reducible refine Rn.cndB (fun _ => ?_) (fun _ => ?_))
  · try refine gs_Sk ?_
    (first | with_reducible refine Rn.cnd (fun _ => ?_) (fun _ => ?_) | with_reducible refine Rn.cndN (fun _ => ?_) (fun _ => ?_) | with_reducible refine Rn.cndB (fun _ => ?_) (fun _ => ?_))
    · have hno : okN s F = false := okN_not (k := z) (by omega) (by omega)
      rw [hno]
      try refine gs_Sk ?_
      exact Rn.ret ⟨⟨rfl, by omega⟩, (Gw.of fr_Sk (by omega))⟩
    · try refine gs_Sk ?_
      exact ih' (m - 1) (by omega) _ _ _ _ _ _ ⟨z + 1, rfl, rfl, rfl, rfl, by omega, fr_Sk, by omega, sS_Sk, sS_Sk, sS_Sk, fun q hq => by
        rcases Nat.lt_or_ge q z with h | h
        · exact q1 q h
        · obtain rfl : q = z := by omega
          omega⟩
  · have hok : okN s F = true := okN_of rfl (fun q hq => q1 q (by omega))
    rw [hok]
    try refine gs_Sk ?_
    exact Rn.ret ⟨⟨rfl, by omega⟩, (Gw.of fr_Sk (by omega))⟩
end
end Go.Proofs.Ytpilgokdbliklaa
end

section
namespace Go.Proofs.Ytpilgokdbliklaa
open Go.Ev Go.RowKit
set_option linter.unusedVariables false
set_option linter.unusedSimpArgs false
set_option linter.unusedSectionVars false
set_option maxRecDepth 100000
set_option maxHeartbeats 4000000
def lfs (s : Sp) (f : Bd) (L : List Int) : List Lf := L.map fun r => ⟨leavesF s f r⟩
section
variable {s : Sp} {b r : Value}
theorem c_rained (call : CallF) {f : Bd} {h N} (hs : OkS s) (hf : BdOk f) (hb : Sl h N b s.book) (cr : flatV r = true) : Rn (s100 call (.agg ⟨[iS s.weeks, iS s.most, iS s.fall, iS s.slo, iS s.shi, iS s.wlo, iS s.whi, b, r]⟩) (.agg ⟨leC f⟩) h N) fun v h' N' => (∃ p q, v = .tuple ⟨[p, q]⟩ ∧ Sl h' N' p (rainsF s f) ∧ Sl h' N' q (lfs s f (rainsF s f))) ∧ Gw h N h' N' := by
  have ho := hs.ok
  obtain ⟨w1, w2, m1, m2, p1, p2, a1, a2, a3, v1, v2, v3⟩ := ho
  have cb := hb.flat
  unfold s100
  have x1 := flatV_one cb; have y1 := cel_flat cb; have x2 := flatV_one cr; have y2 := cel_flat cr
  try refine gs_Sk ?_
  refine Rn.loop5 (fun n p q u t k g M => ∃ i : Nat, p = .pointer (some ⟨N, 0, none⟩) ∧ q = .pointer (some ⟨N + 1, 0, none⟩) ∧ k = iS (s.wlo + (i : Int)) ∧ i + n = rainN s ∧ Fr h N g ∧ N + 2 ≤ M ∧ g.get N = some (.c [iS s.weeks, iS s.most, iS s.fall, iS s.slo, iS s.shi, iS s.wlo, iS s.whi, b, r] 27) ∧ g.get (N + 1) = some (.c (leC f) 104) ∧ (u = .slice none 0 0 ∧ t = .slice none 0 0 ∧ rainsFN s f i = [] ∨ ∃ i1 i2, N + 2 ≤ i1 ∧ N + 2 ≤ i2 ∧ i1 < M ∧ i2 < M ∧ i1 ≠ i2 ∧ Ow g 3 u (rainsFN s f i) i1 ∧ Ow g 104 t (lfs s f (rainsFN s f i)) i2)) (rainN s) (by unfold rainN; omega) ⟨0, rfl, rfl, by simp, by omega, fr_Sk, by omega, sS_Sk, sS_Sk, .inl ⟨rfl, rfl, rfl⟩⟩ ?_
  rintro n g ih _ _ u t _ h1 N1 ⟨i, rfl, rfl, rfl, e1, f1, l1, g1, g2, q1⟩
  have en : rainN s = (s.whi + 1 - s.wlo).toNat := rfl
  try refine gs_Sk ?_
  (first | with_reducible refine Rn.cnd (fun _ => ?_) (fun _ => ?_) | with_reducible refine Rn.cndN (fun _ => ?_) (fun _ => ?_) | with_reducible refine Rn.cndB (fun _ => ?_) (fun _ => ?_))
  · try refine gs_Sk ?_
    refine Rn.call (c_rleaves _ (rain := s.wlo + (i : Int)) hs hf (Sl.up (by assumption) fr_Sk (by omega)) cr) ?_
    rintro _ h2 N2 ⟨⟨rfl, l2'⟩, f2, o2, l2⟩
    have es := rainsFN_succ s f i
    have el := rainsFN_len s f i
    have q2 : ∃ i1 i2, N + 2 ≤ i1 ∧ N + 2 ≤ i2 ∧ i1 < N2 ∧ i2 < N2 ∧ i1 ≠ i2 ∧ Ow h2 3 u (rainsFN s f i) i1 ∧ Ow h2 104 t (lfs s f (rainsFN s f i)) i2 := by
      rcases q1 with ⟨rfl, rfl, e⟩ | ⟨i1, i2, k1, k2, k3, k4, k5, k6, k7⟩
      · rw [e]
        exact ⟨N1, N1 + 1, by omega, by omega, by omega, by omega, by omega, Ow.nil _ _ _, Ow.nil _ _ _⟩
      · exact ⟨i1, i2, k1, k2, by omega, by omega, k5, k6.keep (o2 (by omega)), k7.keep (o2 (by omega))⟩
    clear q1
    obtain ⟨i1, i2, k1, k2, k3, k4, k5, k6, k7⟩ := q2
    have ll : (lfs s f (rainsFN s f i)).length = (rainsFN s f i).length := by simp [lfs]
    generalize hF : leavesF s f (s.wlo + (i : Int)) = F at es
    try refine gs_Sk ?_
    unfold jnR
    (first | with_reducible refine Rn.cnd (fun _ => ?_) (fun _ => ?_) | with_reducible refine Rn.cndN (fun _ => ?_) (fun _ => ?_) | with_reducible refine Rn.cndB (fun _ => ?_) (fun _ => ?_))
    · have hok : okN s F = true := by assumption
      rw [if_pos hok] at es
      have cu := (k6.sl (N := N2) k3).flat
      have ct := (k7.sl (N := N2) k4).flat
      have z1 := flatV_one cu
      have z2 := cel_flat cu
      have z3 := flatV_one ct
      have z4 := cel_flat ct
      have k6' : Ow ((h2.set (some (.c (leC F) 104)) N2)) 3 u (rainsFN s f i) i1 := k6.keep sS_Sk
      have k7' : Ow ((h2.set (some (.c (leC F) 104)) N2)) 104 t (lfs s f (rainsFN s f i)) i2 := k7.keep sS_Sk
      try refine gs_Sk ?_
      refine Rn.call (Ow.app (α := Int) (K := [s.wlo + (i : Int)]) (i := i1) ap_Sint (k6.keep sS_Sk) (by omega) (Sl.lit [s.wlo + (i : Int)] sM_Sk (by omega : N2 + 1 < N2 + 1 + 1 + 1) rfl rfl) (Fr.refl _ _) (by simp; omega)) ?_
      rintro r1 h3 N3 ⟨i3, w3, e3, e3', f3, o3, l3⟩
      try refine gs_Sk ?_
      refine Rn.call (Ow.app (α := Lf) (K := [⟨F⟩]) (i := i2) ap_Saguadorref01_left (k7.keep sS_Sk) (by omega) (Sl.lit [(⟨F⟩ : Lf)] sM_Sk (by omega : N2 + 1 + 1 < N3) rfl rfl) (Fr.refl _ _) (by simp; omega)) ?_
      rintro r2 h4 N4 ⟨i4, w4, e4, e4', f4, o4, l4⟩
      try refine gs_Sk ?_
      refine ih (n - 1) (by omega) _ _ _ _ _ _ _ ⟨i + 1, rfl, rfl, by rw [show s.wlo + ((i + 1 : Nat) : Int) = s.wlo + (i : Int) + 1 by omega], by omega, fr_Sk, by omega, sS_Sk, sS_Sk, .inr ⟨i3, i4, by omega, by omega, by omega, by omega, by omega, ?_, ?_⟩⟩
      · rw [es]; exact w3.keep (o4 (by omega) (by omega))
      · rw [es]
        have : lfs s f (rainsFN s f i ++ [s.wlo + (i : Int)]) = lfs s f (rainsFN s f i) ++ [⟨F⟩] := by simp [lfs, hF]
        rw [this]; exact w4
    · have hok : okN s F = false := by assumption
      rw [if_neg (by rw [hok]; simp)] at es
      try refine gs_Sk ?_
      refine ih (n - 1) (by omega) _ _ _ _ _ _ _ ⟨i + 1, rfl, rfl, by rw [show s.wlo + ((i + 1 : Nat) : Int) = s.wlo + (i : Int) + 1 by omega], by omega, fr_Sk, by omega, sS_Sk, sS_Sk, .inr ⟨i1, i2, by omega, by omega, by omega, by omega, by omega, ?_, ?_⟩⟩
      · rw [es]; exact k6.keep sS_Sk
      · rw [es]; exact k7.keep sS_Sk
  · obtain rfl : i = rainN s := by omega
    try refine gs_Sk ?_
    refine Rn.ret ⟨⟨_, _, rfl, ?_⟩, (Gw.of fr_Sk (by omega))⟩
    rcases q1 with ⟨rfl, rfl, e⟩ | ⟨i1, i2, k1, k2, k3, k4, k5, k6, k7⟩
    · have e' : rainsF s f = [] := e
      rw [e']; exact ⟨Sl.nil _ _, Sl.nil _ _⟩
    · exact ⟨k6.sl k3, k7.sl k4⟩
theorem c_rrains (call : CallF) {h N} (hs : OkS s) (hb : Sl h N b s.book) (hr : Sl h N r s.reads) : Rn (s79 call (.agg ⟨[iS s.weeks, iS s.most, iS s.fall, iS s.slo, iS s.shi, iS s.wlo, iS s.whi, b, r]⟩) h N) fun v h' N' => (∃ p q, v = .tuple ⟨[p, q]⟩ ∧ Sl h' N' p (rainsS s) ∧ Sl h' N' q (lfs s (baseS s) (rainsS s))) ∧ Gw h N h' N' := by
  have cb := hb.flat
  have cr := hr.flat
  unfold s79
  have x1 := flatV_one cb; have y1 := cel_flat cb; have x2 := flatV_one cr; have y2 := cel_flat cr
  try refine gs_Sk ?_
  refine Rn.call (c_base _ hs (Sl.up (by assumption) fr_Sk (by omega)) cb) ?_
  rintro _ h1 N1 ⟨rfl, f1, o1, l1⟩
  try refine gs_Sk ?_
  refine Rn.call (c_rained _ hs (base_ok hs) (Sl.up (by assumption) fr_Sk (by omega)) cr) ?_
  rintro _ h2 N2 ⟨⟨p, q, rfl, k1, k2⟩, f2, o2, l2⟩
  rw [rainsF_base hs] at k1 k2
  try refine gs_Sk ?_
  exact Rn.ret ⟨⟨p, q, rfl, k1, k2⟩, (Gw.of fr_Sk (by omega))⟩
theorem c_rTrue (call : CallF) {h N} (hs : OkS s) (hb : Sl h N b s.book) (hr : Sl h N r s.reads) : Rn (s38 call (.agg ⟨[iS s.weeks, iS s.most, iS s.fall, iS s.slo, iS s.shi, iS s.wlo, iS s.whi, b, r]⟩) h N) fun v h' N' => v = .bool (canS s) ∧ Gw h N h' N' := by
  have cb := hb.flat
  have cr := hr.flat
  unfold s38
  have x1 := flatV_one cb; have y1 := cel_flat cb; have x2 := flatV_one cr; have y2 := cel_flat cr
  try refine gs_Sk ?_
  refine Rn.call (c_rrains _ hs (Sl.up (by assumption) fr_Sk (by omega)) (Sl.up (by assumption) fr_Sk (by omega))) ?_
  rintro _ h1 N1 ⟨⟨p, q, rfl, k1, k2⟩, f1, o1, l1⟩
  try refine gs_Sk ?_
  refine Rn.ret ⟨congrArg Value.bool ?_, (Gw.of fr_Sk (by omega))⟩
  unfold canS
  cases rainsS s <;> simp
def greatB (s : Sp) : Bool := decide (30 < s.book.length) || decide (30 < s.reads.length)
theorem c_rGreat (call : CallF) {h N} (hb : Sl h N b s.book) (hr : Sl h N r s.reads) : Rn (s12 call (.agg ⟨[iS s.weeks, iS s.most, iS s.fall, iS s.slo, iS s.shi, iS s.wlo, iS s.whi, b, r]⟩) h N) fun v h' N' => v = .bool (greatB s) ∧ Gw h N h' N' := by
  have cb := hb.flat
  have cr := hr.flat
  unfold s12
  have x1 := flatV_one cb; have y1 := cel_flat cb; have x2 := flatV_one cr; have y2 := cel_flat cr
  repeat' (first | refine gs_Sk ?_ | (first | with_reducible refine Rn.part (fun _ => ?_) (fun _ => ?_) | with_reducible refine Rn.partN (fun _ => ?_) (fun _ => ?_) | with_reducible refine Rn.partB (fun _ => ?_) (fun _ => ?_)) | (first | with_reducible refine Rn.cnd (fun _ => ?_) (fun _ => ?_) | with_reducible refine Rn.cndN (fun _ => ?_) (fun _ => ?_) | with_reducible refine Rn.cndB (fun _ => ?_) (fun _ => ?_)))
  all_goals exact Rn.ret ⟨congrArg Value.bool (by simp only [greatB]; rw [Bool.eq_iff_iff]; simp; omega), (Gw.of fr_Sk (by omega))⟩
def readyB (s : Sp) : Bool := !greatB s && validB s
theorem c_ready (call : CallF) {h N} (hb : Sl h N b s.book) (hr : Sl h N r s.reads) : Rn (s29 call (.agg ⟨[iS s.weeks, iS s.most, iS s.fall, iS s.slo, iS s.shi, iS s.wlo, iS s.whi, b, r]⟩) h N) fun v h' N' => v = .bool (readyB s) ∧ Gw h N h' N' := by
  have cb := hb.flat
  have cr := hr.flat
  unfold s29
  have x1 := flatV_one cb; have y1 := cel_flat cb; have x2 := flatV_one cr; have y2 := cel_flat cr
  try refine gs_Sk ?_
  refine Rn.call (c_rGreat _ (Sl.up (by assumption) fr_Sk (by omega)) (Sl.up (by assumption) fr_Sk (by omega))) ?_
  rintro _ h1 N1 ⟨rfl, f1, o1, l1⟩
  repeat' (first | refine gs_Sk ?_ | (first | with_reducible refine Rn.part (fun _ => ?_) (fun _ => ?_) | with_reducible refine Rn.partN (fun _ => ?_) (fun _ => ?_) | with_reducible refine Rn.partB (fun _ => ?_) (fun _ => ?_)) | (first | with_reducible refine Rn.cnd (fun _ => ?_) (fun _ => ?_) | with_reducible refine Rn.cndN (fun _ => ?_) (fun _ => ?_) | with_reducible refine Rn.cndB (fun _ => ?_) (fun _ => ?_)))
  rotate_left
  · have hg : greatB s = false := by assumption
    have hg2 := hg
    simp only [greatB, Bool.or_eq_false_iff, decide_eq_false_iff_not] at hg2
    refine Rn.call (c_rSpring _ (by omega) (by omega) (Sl.up (by assumption) fr_Sk (by omega)) (Sl.up (by assumption) fr_Sk (by omega))) ?_
    rintro _ h2 N2 ⟨rfl, f2, o2, l2⟩
    try refine gs_Sk ?_
    exact Rn.ret ⟨congrArg Value.bool (by unfold readyB; rw [hg]; rfl), (Gw.of fr_Sk (by omega))⟩
  · exact Rn.ret ⟨congrArg Value.bool (by unfold readyB; simp only [*]; rfl), (Gw.of fr_Sk (by omega))⟩
end
end Go.Proofs.Ytpilgokdbliklaa
end

section
namespace Go.Proofs.Ytpilgokdbliklaa
open Go.Ev Go.RowKit
set_option linter.unusedVariables false
set_option linter.unusedSimpArgs false
set_option linter.unusedSectionVars false
set_option maxRecDepth 100000
set_option maxHeartbeats 4000000
section
variable {s : Sp} {b r : Value}
end
end Go.Proofs.Ytpilgokdbliklaa
end

section
namespace Go.Proofs.Ytpilgokdbliklaa
open Go.Ev Go.RowKit
set_option linter.unusedVariables false
set_option linter.unusedSimpArgs false
set_option linter.unusedSectionVars false
set_option maxRecDepth 100000
set_option maxHeartbeats 4000000
theorem fwd_at (fall : Int) (f : Bd) : ∀ k j : Nat, fwdN fall k f j = if j ≤ k then fwdN fall j f j else f j
  | 0, j => by
    by_cases h : j ≤ 0
    · obtain rfl : j = 0 := by omega
      simp
    · rw [if_neg h]; rfl
  | k + 1, j => by
    by_cases e : j = k + 1
    · subst e; simp
    · have h1 : fwdN fall (k + 1) f j = fwdN fall k f j := by simp only [fwdN, up, if_neg e]
      rw [h1, fwd_at fall f k j]
      by_cases h : j ≤ k
      · rw [if_pos h, if_pos (by omega)]
      · rw [if_neg h, if_neg (by omega)]
theorem fwd_step (fall : Int) (f : Bd) {n k : Nat} (hk : k + 1 ≤ n) : (fwdN fall n f k).1 - fall ≤ (fwdN fall n f (k + 1)).1 ∧ (fwdN fall n f (k + 1)).2 ≤ (fwdN fall n f k).2 := by
  rw [fwd_at fall f n k, fwd_at fall f n (k + 1), if_pos (by omega), if_pos hk]
  have e : fwdN fall (k + 1) f (k + 1) = (max (fwdN fall k f (k + 1)).1 ((fwdN fall k f k).1 - fall), min (fwdN fall k f (k + 1)).2 (fwdN fall k f k).2) := by simp only [fwdN, up_same]
  rw [e]
  constructor
  · show _ ≤ max _ _; omega
  · show min _ _ ≤ _; omega
theorem bwd_at (fall : Int) (n : Nat) (f : Bd) : ∀ m j : Nat, m + 1 ≤ n → j + 1 ≤ n → bwdN fall n m f j = if n ≤ j + m + 1 then bwdN fall n (n - 1 - j) f j else f j
  | 0, j, _, hj => by
    by_cases h : n ≤ j + 0 + 1
    · obtain rfl : n = j + 1 := by omega
      simp
    · rw [if_neg h]; rfl
  | m + 1, j, hm, hj => by
    by_cases e : j = n - 2 - m
    · rw [if_pos (by omega), show n - 1 - j = m + 1 by omega]
    · have h1 : bwdN fall n (m + 1) f j = bwdN fall n m f j := by simp only [bwdN, up, if_neg e]
      rw [h1, bwd_at fall n f m j (by omega) hj]
      by_cases h : n ≤ j + m + 1
      · rw [if_pos h, if_pos (by omega)]
      · rw [if_neg h, if_neg (by omega)]
theorem nar_step {s : Sp} (h0 : 0 ≤ s.fall) (f : Bd) {k : Nat} (hk : k + 1 < s.weeks.toNat) :
    (narS s f (k + 1)).1 ≤ (narS s f k).1 ∧ (narS s f k).1 - s.fall ≤ (narS s f (k + 1)).1 ∧ (narS s f (k + 1)).2 ≤ (narS s f k).2 ∧ (narS s f k).2 - s.fall ≤ (narS s f (k + 1)).2 := by
  unfold narS
  generalize hn : s.weeks.toNat = n at hk ⊢
  have h1 := fwd_step s.fall f (n := n - 1) (k := k) (by omega)
  generalize fwdN s.fall (n - 1) f = G at h1
  have hin := bwd_in (fall := s.fall) (n := n) G (n - 1) (k + 1)
  rw [bwd_at s.fall n G (n - 1) k (by omega) (by omega), if_pos (by omega)]
  have hb : bwdN s.fall n (n - 1) G (k + 1) = bwdN s.fall n (n - 1 - (k + 1)) G (k + 1) := by
    rw [bwd_at s.fall n G (n - 1) (k + 1) (by omega) (by omega), if_pos (by omega)]
  rw [hb] at hin ⊢
  obtain ⟨m, hm⟩ : ∃ m, m = n - 1 - (k + 1) := ⟨_, rfl⟩
  rw [← hm] at hin ⊢
  have hk1 : n - 1 - k = m + 1 := by omega
  have hk2 : n - 2 - m = k := by omega
  rw [hk1]
  have hg : bwdN s.fall n m G k = G k := by rw [bwd_at s.fall n G m k (by omega) (by omega), if_neg (by omega)]
  have e : bwdN s.fall n (m + 1) G k = (max (G k).1 (bwdN s.fall n m G (k + 1)).1, min (G k).2 ((bwdN s.fall n m G (k + 1)).2 + s.fall)) := by
    simp only [bwdN, hk2, up_same, hg]
  rw [e]
  generalize bwdN s.fall n m G (k + 1) = H at hin
  refine ⟨?_, ?_, ?_, ?_⟩
  · show _ ≤ max _ _; omega
  · show max _ _ - _ ≤ _; omega
  · show _ ≤ min _ _; omega
  · show min _ _ - _ ≤ _; omega
theorem cv_u8 {z : Int} (h : 0 ≤ z ∧ z < 256) : cvV Pr 5 3 (.int .u8 z) = some (iS z) := by
  have hw : IntKind.i64.wrap z = z := Go.Sx.wrap_in (by omega)
  have g : still Pr (convert 5 3 (.int .u8 z)) = some (iS z) := by
    have u1 : Pr.underlying 5 = some (.int .u8) := by kernel_rfl
    have u2 : Pr.underlying 3 = some (.int .i64) := by kernel_rfl
    unfold convert
    simp [still_bnd, still_undl u1, still_undl u2, obind_s, still_pure, Conv.intToInt, hw]
  show ocond true (obind (still Pr _) fun r => ocond (scal r) (some r)) = _
  rw [g]; rfl
end Go.Proofs.Ytpilgokdbliklaa
end

section
namespace Go.Proofs.Ytpilgokdbliklaa
open Go.Ev Go.RowKit
set_option linter.unusedVariables false
set_option linter.unusedSimpArgs false
set_option linter.unusedSectionVars false
set_option maxRecDepth 100000
set_option maxHeartbeats 4000000
section
variable {s : Sp} {b r : Value}
theorem er_0 {w : Int} (hv : validB s = true) (hc : canS s = true) (hw : 0 ≤ w ∧ w ≤ s.weeks - 1) : erS s w = 0 := by
  have : isWeekB s.weeks w = true := by simp only [isWeekB, inS, Bool.and_eq_true, decide_eq_true_eq]; exact hw
  rw [er_eq, hv, hc, this]; rfl
theorem ready_ok (h : readyB s = true) : validB s = true ∧ s.book.length < 1000 ∧ s.reads.length < 1000 := by
  simp only [readyB, greatB, Bool.and_eq_true, Bool.not_eq_true', Bool.or_eq_false_iff, decide_eq_false_iff_not] at h
  exact ⟨h.2, by omega, by omega⟩
end
end Go.Proofs.Ytpilgokdbliklaa
end

section
namespace Go.Proofs.Ytpilgokdbliklaa
open Go.Ev Go.RowKit
set_option linter.unusedVariables false
set_option linter.unusedSimpArgs false
set_option linter.unusedSectionVars false
set_option maxRecDepth 100000
set_option maxHeartbeats 4000000
open Go.Sx Go.ChangeShapes Go.WideShapes Go.ChangeAt
theorem Try.own : ownKnob Try.prog.godebug = none := by kernel_rfl
theorem Try.laidOut : laidOutB Try.prog = true := by kernel_rfl
theorem plains_ln (K : List Ln) : ∀ u ∈ encs K, plain u = true := by
  intro u hu
  simp only [encs, List.mem_flatMap] at hu
  obtain ⟨n, _, h⟩ := hu
  exact plain_Line n u h
theorem plains_rd (K : List Rd) : ∀ u ∈ encs K, plain u = true := by
  intro u hu
  simp only [encs, List.mem_flatMap] at hu
  obtain ⟨n, _, h⟩ := hu
  exact plain_Reading n u h
section
variable {H : Type} {enc : TypeId × Value → H} {w : World} {b0 base fuel : Nat} {spare : Nat → Bool} {held : Bool} {v : Value} {cs : List Value} {x : DataW H × List MemPlace}
theorem cells_int : Try.prog.cellsOf 3 = 1 := by kernel_rfl
theorem cells_span : Try.prog.cellsOf 23 = 2 := by kernel_rfl
theorem cells_line : Try.prog.cellsOf 73 = 5 := by kernel_rfl
theorem cells_reading : Try.prog.cellsOf 71 = 5 := by kernel_rfl
theorem cells_spring : Try.prog.cellsOf 27 = 9 := by kernel_rfl
theorem cells_lines : Try.prog.cellsOf 24 = 1 := by kernel_rfl
theorem cells_readings : Try.prog.cellsOf 25 = 1 := by kernel_rfl
theorem fld {fs : Array Field} {xs : List (DataW H × List MemPlace)} {n : Nat} {cs : List Value} (hf : ∀ (i : Nat) (f : Field), fs[i]? = some f → DataW.trod enc Try.prog w base spare held n f.type ((cs.drop f.offset).take (Try.prog.cellsOf f.type)) = xs[i]?)
    (i off T k : Nat) (hi : ∃ f, fs[i]? = some f ∧ f.type = T ∧ f.offset = off) (hc : Try.prog.cellsOf T = k) {y : DataW H × List MemPlace} (hx : xs[i]? = some y) : DataW.trod enc Try.prog w base spare held n T ((cs.drop off).take k) = some y := by
  obtain ⟨f, h1, rfl, rfl⟩ := hi
  rw [← hc, hf i f h1, hx]
theorem rd_int (h : DataW.trod enc Try.prog w base spare held fuel 3 cs = some x) : ∃ n : Int, cs = [.int .i64 n] := by
  obtain ⟨n, h1, _⟩ := DataW.trod_int Try.underlying3 h
  exact ⟨n, h1⟩
theorem rd_span (h : DataW.trod enc Try.prog w base spare held fuel 23 cs = some x) : ∃ a b : Int, cs = [.int .i64 a, .int .i64 b] := by
  obtain ⟨xs, n, _, _, hl, hxl, hf⟩ := DataW.trod_struct Try.underlying23 h
  rw [cells_span] at hl
  match cs, hl with
  | [c0, c1], _ =>
    match xs, hxl with
    | [x0, x1], _ =>
      have f0 := fld hf 0 0 3 1 ⟨_, rfl, rfl, rfl⟩ cells_int (y := x0) rfl
      have f1 := fld hf 1 1 3 1 ⟨_, rfl, rfl, rfl⟩ cells_int (y := x1) rfl
      obtain ⟨a, ha⟩ := rd_int f0
      obtain ⟨b, hb⟩ := rd_int f1
      simp at ha hb
      exact ⟨a, b, by rw [ha, hb]⟩
theorem rd_line (h : DataW.trod enc Try.prog w base spare held fuel 73 cs = some x) : ∃ r : Ln, cs = Rwc.enc r := by
  obtain ⟨xs, n, _, _, hl, hxl, hf⟩ := DataW.trod_struct Try.underlying73 h
  rw [cells_line] at hl
  match cs, hl with
  | [c0, c1, c2, c3, c4], _ =>
    match xs, hxl with
    | [x0, x1, x2], _ =>
      have f0 := fld hf 0 0 23 2 ⟨_, rfl, rfl, rfl⟩ cells_span (y := x0) rfl
      have f1 := fld hf 1 2 3 1 ⟨_, rfl, rfl, rfl⟩ cells_int (y := x1) rfl
      have f2 := fld hf 2 3 23 2 ⟨_, rfl, rfl, rfl⟩ cells_span (y := x2) rfl
      obtain ⟨a, b, ha⟩ := rd_span f0
      obtain ⟨c, hc⟩ := rd_int f1
      obtain ⟨d, e, hd⟩ := rd_span f2
      simp at ha hc hd
      exact ⟨⟨a, b, c, d, e⟩, by rw [enc_Line, ha.1, ha.2, hc, hd.1, hd.2]⟩
theorem rd_reading (h : DataW.trod enc Try.prog w base spare held fuel 71 cs = some x) : ∃ r : Rd, cs = Rwc.enc r := by
  obtain ⟨xs, n, _, _, hl, hxl, hf⟩ := DataW.trod_struct Try.underlying71 h
  rw [cells_reading] at hl
  match cs, hl with
  | [c0, c1, c2, c3, c4], _ =>
    match xs, hxl with
    | [x0, x1, x2, x3], _ =>
      have f0 := fld hf 0 0 3 1 ⟨_, rfl, rfl, rfl⟩ cells_int (y := x0) rfl
      have f1 := fld hf 1 1 3 1 ⟨_, rfl, rfl, rfl⟩ cells_int (y := x1) rfl
      have f2 := fld hf 2 2 3 1 ⟨_, rfl, rfl, rfl⟩ cells_int (y := x2) rfl
      have f3 := fld hf 3 3 23 2 ⟨_, rfl, rfl, rfl⟩ cells_span (y := x3) rfl
      obtain ⟨a, ha⟩ := rd_int f0
      obtain ⟨b, hb⟩ := rd_int f1
      obtain ⟨c, hc⟩ := rd_int f2
      obtain ⟨d, e, hd⟩ := rd_span f3
      simp at ha hb hc hd
      exact ⟨⟨a, b, c, d, e⟩, by rw [enc_Reading, ha, hb, hc, hd.1, hd.2]⟩
theorem open_spring {d : DataW H} {ps : List MemPlace} (hv : Value.okWide Try.prog w .any b0 27 v) (h : DataW.Trod enc Try.prog w 0 spare held 27 v d ps) :
    ∃ (s : Sp) (b r : Value), v = .agg ⟨[iS s.weeks, iS s.most, iS s.fall, iS s.slo, iS s.shi, iS s.wlo, iS s.whi, b, r]⟩ ∧ In w b s.book ∧ In w r s.reads ∧ Pl b s.book.length ∧ Pl r s.reads.length := by
  have hv0 := hv
  obtain ⟨cs, rfl, hcs⟩ := okWide_struct Try.underlying27 hv
  obtain ⟨fuel, h⟩ := h
  obtain ⟨xs, n, _, _, hl, hxl, hf⟩ := DataW.trod_struct Try.underlying27 h
  have hl' : cs.toList.length = 9 := by rw [cells_spring] at hl; exact hl
  obtain ⟨c0, c1, c2, c3, c4, c5, c6, c7, c8, hc⟩ : ∃ c0 c1 c2 c3 c4 c5 c6 c7 c8, cs.toList = [c0, c1, c2, c3, c4, c5, c6, c7, c8] := by
    match hz : cs.toList, hl' with
    | [c0, c1, c2, c3, c4, c5, c6, c7, c8], _ => exact ⟨c0, c1, c2, c3, c4, c5, c6, c7, c8, rfl⟩
  have hce : (Value.agg cs).cells.toList = [c0, c1, c2, c3, c4, c5, c6, c7, c8] := hc
  rw [hce] at hf
  have hca : cs = ⟨[c0, c1, c2, c3, c4, c5, c6, c7, c8]⟩ := Array.ext' hc
  subst hca
  simp only [Value.okWide, Try.underlying27] at hv0
  obtain ⟨_, he, _, ts, hts, _, hk⟩ := hv0
  cases he
  have e : Try.prog.cellTypes Try.prog.depth 27 = some [3, 3, 3, 3, 3, 3, 3, 24, 25] := by kernel_rfl
  rw [e] at hts
  cases hts
  obtain ⟨u7, g7, k7⟩ := hk 7 c7 rfl
  obtain ⟨u8, g8, k8⟩ := hk 8 c8 rfl
  cases g7; cases g8
  match xs, hxl with
  | [x0, x1, x2, x3, x4, x5, x6], _ =>
    have f0 := fld hf 0 0 3 1 ⟨_, rfl, rfl, rfl⟩ cells_int (y := x0) rfl
    have f1 := fld hf 1 1 3 1 ⟨_, rfl, rfl, rfl⟩ cells_int (y := x1) rfl
    have f2 := fld hf 2 2 3 1 ⟨_, rfl, rfl, rfl⟩ cells_int (y := x2) rfl
    have f3 := fld hf 3 3 23 2 ⟨_, rfl, rfl, rfl⟩ cells_span (y := x3) rfl
    have f4 := fld hf 4 5 23 2 ⟨_, rfl, rfl, rfl⟩ cells_span (y := x4) rfl
    have f5 := fld hf 5 7 24 1 ⟨_, rfl, rfl, rfl⟩ cells_lines (y := x5) rfl
    have f6 := fld hf 6 8 25 1 ⟨_, rfl, rfl, rfl⟩ cells_readings (y := x6) rfl
    obtain ⟨i0, e0⟩ := rd_int f0
    obtain ⟨i1, e1⟩ := rd_int f1
    obtain ⟨i2, e2⟩ := rd_int f2
    obtain ⟨i3, i4, e3⟩ := rd_span f3
    obtain ⟨i5, i6, e4⟩ := rd_span f4
    simp at e0 e1 e2 e3 e4
    obtain ⟨e3, e3'⟩ := e3
    obtain ⟨e4, e4'⟩ := e4
    subst e0 e1 e2 e3 e3' e4 e4'
    obtain ⟨L1, i1'⟩ := open_in (α := Ln) cells_line Try.underlying24 (fun _ _ _ h => rd_line h) k7 f5
    obtain ⟨L2, i2'⟩ := open_in (α := Rd) cells_reading Try.underlying25 (fun _ _ _ h => rd_reading h) k8 f6
    exact ⟨⟨i0, i1, i2, i3, i4, i5, i6, L1, L2⟩, c7, c8, rfl, i1', i2', in_pl Try.underlying24 k7 i1', in_pl Try.underlying25 k8 i2'⟩
theorem ok_u8 (hv : Value.okWide Try.prog w .any b0 5 v) : ∃ z, v = .int .u8 z ∧ 0 ≤ z ∧ z < 256 := by
  simp only [Value.okWide, Try.underlying5] at hv
  unfold Cell.okWide Cell.ok at hv
  rw [Try.underlying5] at hv
  cases v with
  | int k z =>
    obtain ⟨rfl, h⟩ := hv
    unfold IntKind.has at h
    have e1 : IntKind.u8.min = 0 := by decide
    have e2 : IntKind.u8.max = 255 := by decide
    exact ⟨z, rfl, by omega, by omega⟩
  | _ => exact hv.elim
end
/-- A spring that came in is told. -/
theorem tell_spring {W : World} {s : Sp} {b r : Value} (h1 : In W b s.book) (h2 : In W r s.reads) :
    ∃ σ h u1 u2, Go.Ev.Told W σ h 2 ∧ Rl σ u1 b ∧ Rl σ u2 r ∧ Sl h 2 u1 s.book ∧ Sl h 2 u2 s.reads ∧ (Pl b s.book.length → Pl u1 s.book.length) ∧ (Pl r s.reads.length → Pl u2 s.reads.length) := by
  obtain ⟨σ1, m1, u1, T1, le1, g1, r1, t1, c1⟩ := tell2 h1 (plains_ln _) (Go.Ev.Told.start W)
  obtain ⟨σ2, m2, u2, T2, le2, g2, r2, t2, c2⟩ := tell2 h2 (plains_rd _) T1
  exact ⟨σ2, m2, u1, u2, T2, r1.mono le2, r2, t1.up g2 (by omega), t2, c1, c2⟩
theorem rl_spring {σ : Sg} {s : Sp} {b r u1 u2 : Value} (r1 : Rl σ u1 b) (r2 : Rl σ u2 r) : Rl σ (.agg ⟨[iS s.weeks, iS s.most, iS s.fall, iS s.slo, iS s.shi, iS s.wlo, iS s.whi, u1, u2]⟩) (.agg ⟨[iS s.weeks, iS s.most, iS s.fall, iS s.slo, iS s.shi, iS s.wlo, iS s.whi, b, r]⟩) :=
  RlL.agg (RlL.cons (.sc rfl) (RlL.cons (.sc rfl) (RlL.cons (.sc rfl) (RlL.cons (.sc rfl) (RlL.cons (.sc rfl) (RlL.cons (.sc rfl) (RlL.cons (.sc rfl) (RlL.cons r1 (RlL.cons r2 (RlL.nil _))))))))))
end Go.Proofs.Ytpilgokdbliklaa
end

section
namespace Go.Proofs.Ytpilgokdbliklaa
open Go.Ev Go.RowKit
set_option linter.unusedVariables false
set_option linter.unusedSimpArgs false
set_option linter.unusedSectionVars false
set_option maxRecDepth 100000
set_option maxHeartbeats 4000000
/-- A list of one's own, nil at first. -/
def OwZ {α : Type} [Rwc α] (h : Tr Ob) (M el : Nat) (v : Value) (L : List α) (P : Nat → Prop) : Prop := (v = .slice none 0 0 ∧ L = []) ∨ ∃ i, P i ∧ i < M ∧ Ow h el v L i
theorem OwZ.sl {α : Type} [Rwc α] {h : Tr Ob} {M el : Nat} {v : Value} {L : List α} {P : Nat → Prop} (o : OwZ h M el v L P) : Sl h M v L := by
  rcases o with ⟨rfl, rfl⟩ | ⟨i, _, hi, o⟩
  · exact Sl.nil _ _
  · exact o.sl hi
theorem OwZ.keep {α : Type} [Rwc α] {h h' : Tr Ob} {M M' el : Nat} {v : Value} {L : List α} {P : Nat → Prop} (o : OwZ h M el v L P) (hm : M ≤ M') (hk : ∀ i, P i → i < M → h'.get i = h.get i) : OwZ h' M' el v L P := by
  rcases o with e | ⟨i, p, hi, o⟩
  · exact .inl e
  · exact .inr ⟨i, p, by omega, o.keep (hk i p hi)⟩
theorem rains_len {s : Sp} (hs : OkS s) : (rainsS s).length ≤ 21 := by
  have h := hs.ok
  obtain ⟨w1, w2, m1, m2, p1, p2, a1, a2, a3, v1, v2, v3⟩ := h
  have : (rainsS s).length ≤ rainN s := by
    unfold rainsS rainsN
    refine Nat.le_trans (List.length_filter_le _ _) ?_
    simp
  unfold rainN at this
  omega
section
variable {s : Sp} {b r : Value}
end
end Go.Proofs.Ytpilgokdbliklaa
end

section
namespace Go.Proofs.Ytpilgokdbliklaa
open Go.Ev Go.RowKit
set_option linter.unusedVariables false
set_option linter.unusedSimpArgs false
set_option linter.unusedSectionVars false
set_option maxRecDepth 100000
set_option maxHeartbeats 4000000
section
variable {s : Sp} {b r : Value}
end
end Go.Proofs.Ytpilgokdbliklaa
end

section
namespace Go.Proofs.Ytpilgokdbliklaa
open Go.Ev Go.RowKit
set_option linter.unusedVariables false
set_option linter.unusedSimpArgs false
set_option linter.unusedSectionVars false
set_option maxRecDepth 100000
set_option maxHeartbeats 4000000
section
variable {s t : Sp}
theorem gvL_lo {w : Nat} {n : Int} : ∀ (L : List Int) (v : Int × Int), (gvL s w L v).1 ≤ n ↔ v.1 ≤ n ∨ ∃ r ∈ L, (leavesS s r w).1 ≤ n
  | [], v => by simp [gvL]
  | x :: L, v => by
    have := gvL_lo (w := w) (n := n) L (arS v (leavesS s x w))
    show (gvL s w L (arS v (leavesS s x w))).1 ≤ n ↔ _
    rw [this]
    have e : (arS v (leavesS s x w)).1 ≤ n ↔ v.1 ≤ n ∨ (leavesS s x w).1 ≤ n := by
      show min _ _ ≤ n ↔ _; omega
    rw [e]
    simp [or_assoc]
theorem gvL_hi {w : Nat} {n : Int} : ∀ (L : List Int) (v : Int × Int), n ≤ (gvL s w L v).2 ↔ n ≤ v.2 ∨ ∃ r ∈ L, n ≤ (leavesS s r w).2
  | [], v => by simp [gvL]
  | x :: L, v => by
    have := gvL_hi (w := w) (n := n) L (arS v (leavesS s x w))
    show n ≤ (gvL s w L (arS v (leavesS s x w))).2 ↔ _
    rw [this]
    have e : n ≤ (arS v (leavesS s x w)).2 ↔ n ≤ v.2 ∨ n ≤ (leavesS s x w).2 := by
      show n ≤ max _ _ ↔ _; omega
    rw [e]
    simp [or_assoc]
end
section
variable {s : Sp}
end
end Go.Proofs.Ytpilgokdbliklaa
end

section
namespace Go.Proofs.Ytpilgokdbliklaa
open Go.Ev Go.RowKit
set_option linter.unusedVariables false
set_option linter.unusedSimpArgs false
set_option linter.unusedSectionVars false
set_option maxRecDepth 100000
set_option maxHeartbeats 4000000
section
variable {s : Sp} {b r : Value}
end
end Go.Proofs.Ytpilgokdbliklaa
end

section
namespace Go.Proofs.Ytpilgokdbliklaa
open Go.Ev Go.RowKit
set_option linter.unusedVariables false
set_option linter.unusedSimpArgs false
set_option linter.unusedSectionVars false
set_option maxRecDepth 100000
set_option maxHeartbeats 4000000
/-- A truth, as the program keeps it. -/
structure Tu where
  rain : Int
  sum : Int
  v : Value
  fv : flatV v = true
instance : Rwc Tu := ⟨3, fun x => [iS x.rain, iS x.sum, x.v], fun _ => rfl, fun x => by
  have x1 := x.fv
  repeat (refine flatL_k (by first | rfl | assumption) ?_)
  rfl, by omega⟩
/-- What is given in the first weeks, by one end. -/
def giL (f : Int × Int → Int) (g : Bd) : Nat → List Int
  | 0 => []
  | n + 1 => giL f g n ++ [f (g n)]
def suL (f : Int × Int → Int) (g : Bd) : Nat → Int
  | 0 => 0
  | n + 1 => suL f g n + f (g n)
def TuAt (f : Int × Int → Int) (s : Sp) (g : Tr Ob) (lo M i : Nat) (x : Tu) (r : Int) : Prop :=
  x.rain = r ∧ x.sum = suL f (leavesS s r) s.weeks.toNat ∧ ∃ j, j ≠ i ∧ lo ≤ j ∧ j < M ∧ Ow g 3 x.v (giL f (leavesS s r) s.weeks.toNat) j
def TsP (f : Int × Int → Int) (s : Sp) (lo : Nat) (g : Tr Ob) (M : Nat) (v : Value) (k : Nat) : Prop :=
  (v = .slice none 0 0 ∧ k = 0) ∨ ∃ (L : List Tu) (i : Nat), lo ≤ i ∧ i < M ∧ Ow g 100 v L i ∧ L.length = k ∧ ∀ (m : Nat) (x : Tu), L[m]? = some x → ∃ r, (rainsS s)[m]? = some r ∧ TuAt f s g lo M i x r
theorem TsP.keep {f : Int × Int → Int} {s : Sp} {lo : Nat} {g g' : Tr Ob} {M M' : Nat} {v : Value} {k : Nat} (t : TsP f s lo g M v k) (hm : M ≤ M') (hk : ∀ j, lo ≤ j → j < M → g'.get j = g.get j) : TsP f s lo g' M' v k := by
  rcases t with e | ⟨L, i, h1, h2, h3, h4, h5⟩
  · exact .inl e
  · refine .inr ⟨L, i, h1, by omega, h3.keep (hk i h1 h2), h4, fun m x hx => ?_⟩
    obtain ⟨r, q1, q2, q3, j, q4, q5, q6, q7⟩ := h5 m x hx
    exact ⟨r, q1, q2, q3, j, q4, q5, by omega, q7.keep (hk j q5 q6)⟩
theorem TsP.flat {f : Int × Int → Int} {s : Sp} {lo : Nat} {g : Tr Ob} {M : Nat} {v : Value} {k : Nat} (t : TsP f s lo g M v k) : flatV v = true := by
  rcases t with ⟨rfl, _⟩ | ⟨L, i, h1, h2, h3, _⟩
  · rfl
  · exact (h3.sl h2).flat
section
variable {s : Sp} {b r : Value}
end
end Go.Proofs.Ytpilgokdbliklaa
end

section
namespace Go.Proofs.Ytpilgokdbliklaa
open Go.Ev Go.RowKit
set_option linter.unusedVariables false
set_option linter.unusedSimpArgs false
set_option linter.unusedSectionVars false
set_option maxRecDepth 100000
set_option maxHeartbeats 4000000
/-- What Poor and Rich return. -/
def exE (s : Sp) : Int := beginS s (qw 0 0) [4]
section
variable {s : Sp} {b r : Value}
end
end Go.Proofs.Ytpilgokdbliklaa
end

section
namespace Go.Proofs.Ytpilgokdbliklaa
open Go.Ev Go.RowKit
set_option linter.unusedVariables false
set_option linter.unusedSimpArgs false
set_option linter.unusedSectionVars false
set_option maxRecDepth 100000
set_option maxHeartbeats 4000000
section
variable {s : Sp} {b r : Value}
end
end Go.Proofs.Ytpilgokdbliklaa
end

section
namespace Go.Proofs.Ytpilgokdbliklaa
open Go.Ev Go.RowKit
set_option linter.unusedVariables false
set_option linter.unusedSimpArgs false
set_option linter.unusedSectionVars false
set_option maxRecDepth 100000
set_option maxHeartbeats 4000000
section
variable {s : Sp} {b r : Value}
end
end Go.Proofs.Ytpilgokdbliklaa
end

section
namespace Go.Proofs.Ytpilgokdbliklaa
open Go.Ev Go.RowKit
set_option linter.unusedVariables false
set_option linter.unusedSimpArgs false
set_option linter.unusedSectionVars false
set_option maxRecDepth 100000
set_option maxHeartbeats 4000000
theorem fwd_keep {fall : Int} {f : Bd} {n : Nat → Int} {W : Nat} (h : ∀ j, j < W → (f j).1 ≤ n j ∧ n j ≤ (f j).2) (hst : ∀ j, j + 1 < W → n (j + 1) ≤ n j ∧ n j - fall ≤ n (j + 1)) :
    ∀ k, k < W → ∀ j, j < W → (fwdN fall k f j).1 ≤ n j ∧ n j ≤ (fwdN fall k f j).2
  | 0, _, j, hj => h j hj
  | k + 1, hk, j, hj => by
    have ih := fwd_keep h hst k (by omega)
    simp only [fwdN, up]
    split
    · rename_i e
      subst e
      have a := ih (k + 1) hk
      have c := ih k (by omega)
      have d := hst k hk
      constructor
      · show max _ _ ≤ _; omega
      · show _ ≤ min _ _; omega
    · exact ih j hj
theorem bwd_keep {fall : Int} {f : Bd} {n : Nat → Int} {W : Nat} (h : ∀ j, j < W → (f j).1 ≤ n j ∧ n j ≤ (f j).2) (hst : ∀ j, j + 1 < W → n (j + 1) ≤ n j ∧ n j - fall ≤ n (j + 1)) :
    ∀ k, k < W → ∀ j, j < W → (bwdN fall W k f j).1 ≤ n j ∧ n j ≤ (bwdN fall W k f j).2
  | 0, _, j, hj => h j hj
  | k + 1, hk, j, hj => by
    have ih := bwd_keep h hst k (by omega)
    simp only [bwdN, up]
    split
    · rename_i e
      subst e
      have a := ih (W - 2 - k) (by omega)
      have c := ih (W - 2 - k + 1) (by omega)
      have d := hst (W - 2 - k) (by omega)
      constructor
      · show max _ _ ≤ _; omega
      · show _ ≤ min _ _; omega
    · exact ih j hj
end Go.Proofs.Ytpilgokdbliklaa
end

section
namespace Go.Proofs.Ytpilgokdbliklaa
open Go.Ev Go.RowKit
set_option linter.unusedVariables false
set_option linter.unusedSimpArgs false
set_option linter.unusedSectionVars false
set_option maxRecDepth 100000
set_option maxHeartbeats 4000000
section
variable {s : Sp} {b r : Value}
end
end Go.Proofs.Ytpilgokdbliklaa
end

section
namespace Go.Proofs.Ytpilgokdbliklaa
open Go.Ev Go.RowKit
set_option linter.unusedVariables false
set_option linter.unusedSimpArgs false
set_option linter.unusedSectionVars false
set_option maxRecDepth 100000
set_option maxHeartbeats 4000000
theorem gv_rain {s : Sp} {rain : Int} (hr : rain ∈ rainsS s) (w : Nat) : (gvS s w).1 ≤ (leavesS s rain w).1 ∧ (leavesS s rain w).2 ≤ (gvS s w).2 :=
  ⟨(gvL_lo _ _).2 (.inr ⟨rain, hr, Int.le_refl _⟩), (gvL_hi _ _).2 (.inr ⟨rain, hr, Int.le_refl _⟩)⟩
end Go.Proofs.Ytpilgokdbliklaa
end

