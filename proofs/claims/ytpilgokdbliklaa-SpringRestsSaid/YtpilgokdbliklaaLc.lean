/-
  What the functions of the law return.
  Conditions: none.
-/
import Derived.Test.YtpilgokdbliklaaLb
import Derived.Test.YtpilgokdbliklaaRows
import Derived.Test.YtpilgokdbliklaaChecked
import Derived.Lib.SmallJoins
import Derived.ProofKit

section
namespace Go.Proofs.Ytpilgokdbliklaa
open Go.Ev Go.RowKit
set_option linter.unusedVariables false
set_option linter.unusedSimpArgs false
set_option linter.unusedSectionVars false
set_option maxRecDepth 100000
set_option maxHeartbeats 4000000
theorem s1_Sk {p : Prop} (h : p := by (simp (disch := omega) only [obind_s, orun_s, ocond_t, fad_p, ld1_e, ldN_e, sto_e, cellO_c, wrO_c, Tr.get_same, Tr.get_other, nth_0, nth_s, drp_0, drp_s, drp_n, tak_0, tak_s, tak_n, over_n, over_c, lay_0, lay_s, lay_n, len_n, len_c, app_n, app_c, reps_0, reps_s, cel_agg, cel_int, cel_bool, cel_str, cel_sl, cel_ptr, cel_map, cel_func, cel_nilf, fil_n, fil_c, beq_r, ble_d, allF_n, allF_c, one_int, one_bool, one_str, one_sl, one_ptr, one_map, one_func, one_nilf, Bool.and_true, Bool.true_and, Bool.not_true, Bool.not_false, iadA_z, Int.reduceToNat, Int.toNat_zero, fl1_a, flN_a, extr_t, unot, not_d, Nat.add_eq, Nat.mul_eq, Nat.mul_one, Nat.one_mul, Nat.zero_mul, Nat.reduceMul, Nat.zero_add, Nat.add_zero, Nat.le_refl, decide_true, Nat.reduceAdd, Nat.reduceLeDiff, bsl_Sint, bld_Span, bld_spring_work, bld_spring_asked, enc_Line, enc_Reading, ocond_d, Int.toNat_natCast, bd_drp0, bd_drp1, bd_lay, bd_len, bd_self, bd_tak, bd_over, qc_drp0, qc_drp1, setSt_e, stO_n, stO_s, isReady_r, anySt_t, unmark_e, unO_d, bsl_Saguadorref01_left, enc_Lf, le_lo, le_hi, le_laylo, le_layhi, le_len, le_self, le_tak, le_over, up_same, up_up, Nat.add_sub_cancel, *]); first | done | fail) : p := h
theorem s2_Sk {p : Prop} (h : p := by (simp (disch := omega) only [obind_s, orun_s, ocond_t, fad_p, ld1_e, ldN_e, sto_e, cellO_c, wrO_c, Tr.get_same, Tr.get_other, nth_0, nth_s, drp_0, drp_s, drp_n, tak_0, tak_s, tak_n, over_n, over_c, lay_0, lay_s, lay_n, len_n, len_c, app_n, app_c, reps_0, reps_s, cel_agg, cel_int, cel_bool, cel_str, cel_sl, cel_ptr, cel_map, cel_func, cel_nilf, fil_n, fil_c, beq_r, ble_d, allF_n, allF_c, one_int, one_bool, one_str, one_sl, one_ptr, one_map, one_func, one_nilf, Bool.and_true, Bool.true_and, Bool.not_true, Bool.not_false, iadA_z, Int.reduceToNat, Int.toNat_zero, fl1_a, flN_a, extr_t, unot, not_d, Nat.add_eq, Nat.mul_eq, Nat.mul_one, Nat.one_mul, Nat.zero_mul, Nat.reduceMul, Nat.zero_add, Nat.add_zero, Nat.le_refl, decide_true, Nat.reduceAdd, Nat.reduceLeDiff, bsl_Sint, bld_Span, bld_spring_work, bld_spring_asked, enc_Line, enc_Reading, ocond_d, Int.toNat_natCast, bd_drp0, bd_drp1, bd_lay, bd_len, bd_self, bd_tak, bd_over, qc_drp0, qc_drp1, setSt_e, stO_n, stO_s, isReady_r, anySt_t, unmark_e, unO_d, bsl_Saguadorref01_left, enc_Lf, le_lo, le_hi, le_laylo, le_layhi, le_len, le_self, le_tak, le_over, up_same, up_up, Nat.add_sub_cancel, *]); rfl) : p := h
theorem sb_Sk {p : Prop} (h : p := by first | ((simp (disch := omega) only [obind_s, orun_s, ocond_t, fad_p, ld1_e, ldN_e, sto_e, cellO_c, wrO_c, Tr.get_same, Tr.get_other, nth_0, nth_s, drp_0, drp_s, drp_n, tak_0, tak_s, tak_n, over_n, over_c, lay_0, lay_s, lay_n, len_n, len_c, app_n, app_c, reps_0, reps_s, cel_agg, cel_int, cel_bool, cel_str, cel_sl, cel_ptr, cel_map, cel_func, cel_nilf, fil_n, fil_c, beq_r, ble_d, allF_n, allF_c, one_int, one_bool, one_str, one_sl, one_ptr, one_map, one_func, one_nilf, Bool.and_true, Bool.true_and, Bool.not_true, Bool.not_false, iadA_z, Int.reduceToNat, Int.toNat_zero, fl1_a, flN_a, extr_t, unot, not_d, Nat.add_eq, Nat.mul_eq, Nat.mul_one, Nat.one_mul, Nat.zero_mul, Nat.reduceMul, Nat.zero_add, Nat.add_zero, Nat.le_refl, decide_true, Nat.reduceAdd, Nat.reduceLeDiff, bsl_Sint, bld_Span, bld_spring_work, bld_spring_asked, enc_Line, enc_Reading, ocond_d, Int.toNat_natCast, bd_drp0, bd_drp1, bd_lay, bd_len, bd_self, bd_tak, bd_over, qc_drp0, qc_drp1, setSt_e, stO_n, stO_s, isReady_r, anySt_t, unmark_e, unO_d, bsl_Saguadorref01_left, enc_Lf, le_lo, le_hi, le_laylo, le_layhi, le_len, le_self, le_tak, le_over, up_same, up_up, Nat.add_sub_cancel, Nat.succ_eq_add_one, Nat.add_assoc, *]); rfl) | ((simp (disch := omega) only [obind_s, orun_s, ocond_t, fad_p, ld1_e, ldN_e, sto_e, cellO_c, wrO_c, Tr.get_same, Tr.get_other, nth_0, nth_s, drp_0, drp_s, drp_n, tak_0, tak_s, tak_n, over_n, over_c, lay_0, lay_s, lay_n, len_n, len_c, app_n, app_c, reps_0, reps_s, cel_agg, cel_int, cel_bool, cel_str, cel_sl, cel_ptr, cel_map, cel_func, cel_nilf, fil_n, fil_c, beq_r, ble_d, allF_n, allF_c, one_int, one_bool, one_str, one_sl, one_ptr, one_map, one_func, one_nilf, Bool.and_true, Bool.true_and, Bool.not_true, Bool.not_false, iadA_z, Int.reduceToNat, Int.toNat_zero, fl1_a, flN_a, extr_t, unot, not_d, Nat.add_eq, Nat.mul_eq, Nat.mul_one, Nat.one_mul, Nat.zero_mul, Nat.reduceMul, Nat.zero_add, Nat.add_zero, Nat.le_refl, decide_true, Nat.reduceAdd, Nat.reduceLeDiff, bsl_Sint, bld_Span, bld_spring_work, bld_spring_asked, enc_Line, enc_Reading, ocond_d, Int.toNat_natCast, bd_drp0, bd_drp1, bd_lay, bd_len, bd_self, bd_tak, bd_over, qc_drp0, qc_drp1, setSt_e, stO_n, stO_s, isReady_r, anySt_t, unmark_e, unO_d, bsl_Saguadorref01_left, enc_Lf, le_lo, le_hi, le_laylo, le_layhi, le_len, le_self, le_tak, le_over, up_same, up_up, Nat.add_sub_cancel, Nat.succ_eq_add_one, Nat.add_assoc, *]); done)) : p := h
theorem fr_Sk {p : Prop} (h : p := by first | assumption | exact Fr.refl _ _ | (simp (disch := omega) only [Fr_set, Fr_refl, *])) : p := h
theorem fl_Sk {p : Prop} (h : p := by first | with_unfolding_all rfl | exact Sl.flat (by assumption) | assumption) : p := h
theorem fll_Sk {p : Prop} (h : p := by first | with_unfolding_all rfl | ((repeat (refine flatL_k fl_Sk ?_)); with_unfolding_all rfl)) : p := h
theorem en_Sk {p : Prop} (h : p := by first | ((simp only [enc_int, enc_str, enc_u8, enc_bool, tak_s, tak_0, tak_n, drp_0, drp_s, drp_n, nth_s, nth_0, bsl_Sint, bld_Span, bld_spring_work, bld_spring_asked, enc_Line, enc_Reading, ocond_d, Int.toNat_natCast, bd_drp0, bd_drp1, bd_lay, bd_len, bd_self, bd_tak, bd_over, qc_drp0, qc_drp1, setSt_e, stO_n, stO_s, isReady_r, anySt_t, unmark_e, unO_d, bsl_Saguadorref01_left, enc_Lf, le_lo, le_hi, le_laylo, le_layhi, le_len, le_self, le_tak, le_over, up_same, up_up, Nat.add_sub_cancel]); rfl) | ((simp only [enc_int, enc_str, enc_u8, enc_bool, tak_s, tak_0, tak_n, drp_0, drp_s, drp_n, nth_s, nth_0, bsl_Sint, bld_Span, bld_spring_work, bld_spring_asked, enc_Line, enc_Reading, ocond_d, Int.toNat_natCast, bd_drp0, bd_drp1, bd_lay, bd_len, bd_self, bd_tak, bd_over, qc_drp0, qc_drp1, setSt_e, stO_n, stO_s, isReady_r, anySt_t, unmark_e, unO_d, bsl_Saguadorref01_left, enc_Lf, le_lo, le_hi, le_laylo, le_layhi, le_len, le_self, le_tak, le_over, up_same, up_up, Nat.add_sub_cancel]); done) | with_unfolding_all rfl) : p := h
theorem sM_Sk {p : Prop} (h : p := by (first | assumption | (simp (disch := omega) only [Tr.get_same, Tr.get_other, *]; rfl) | (simp (disch := omega) only [Tr.get_same, Tr.get_other, *]; done))) : p := h
theorem sS_Sk {p : Prop} (h : p := by first | assumption | exact s1_Sk) : p := h
theorem sR_Sk {p : Prop} (h : p := by first | assumption | exact s1_Sk | exact s2_Sk | with_unfolding_all rfl) : p := h
theorem op_Sk {p : Prop} (h : p := by first | with_reducible exact fad_p _ _ _ | with_reducible exact iop_lss _ _ | with_reducible exact iop_leq _ _ | with_reducible exact iop_gtr _ _ | with_reducible exact iop_geq _ _ | with_reducible exact iop_eql _ _ | with_reducible exact iop_neq _ _ | with_reducible exact Sl.len (by assumption) | with_reducible exact lenS_s _ _ _ | with_reducible exact Sl.iad (by assumption) (by with_unfolding_all rfl) (by first | assumption | omega) | with_reducible exact Sl.fad (by assumption) (by first | assumption | omega) | with_reducible exact Sl.ld1 (by assumption) fr_Sk (by with_unfolding_all rfl) (by assumption) en_Sk | with_reducible exact Sl.ldN (by assumption) fr_Sk (by with_unfolding_all rfl) (by assumption) (by with_unfolding_all rfl) en_Sk | with_reducible exact zadd1 (by omega) | with_reducible exact zsub1 (by omega) (by omega) | with_reducible exact zaddI (by omega) (by omega) | with_reducible exact zsubI (by omega) (by omega) | with_reducible exact min_z | with_reducible exact max_z | with_reducible exact zmulI (by assumption) | with_reducible exact zmulK (by omega) (by omega) | with_reducible exact quo_z (by omega) (by omega) (by omega) | with_reducible exact cv_u8 (by omega) | with_reducible exact rem_z (by omega) (by omega) (by omega) | with_reducible exact neq_bool (by kernel_rfl) | with_reducible exact eql_u8 | with_reducible exact wntT_t (by assumption) | with_reducible exact wntT_f (by assumption) | with_reducible exact wntF_t (by assumption) | with_reducible exact wntF_f (by assumption) | with_reducible exact wnt_tt | with_reducible exact wnt_tf | with_reducible exact wnt_ft | with_reducible exact wnt_ff | with_reducible exact wnt_u _ _ | with_reducible exact pck_t _ _ | with_reducible exact pck_f _ _ | with_reducible exact pckT (by assumption) | with_reducible exact pckF (by assumption) | with_reducible exact wntT_t (by decide) | with_reducible exact wntT_f (by decide) | with_reducible exact wntF_t (by decide) | with_reducible exact wntF_f (by decide) | with_reducible exact pckT (by decide) | with_reducible exact pckF (by decide) | with_reducible exact wntN_tt (by decide) | with_reducible exact wntN_tf (by decide) | with_reducible exact wntN_ft (by decide) | with_reducible exact wntN_ff (by decide) | with_reducible exact pckNT (by decide) | with_reducible exact pckNF (by decide) | with_reducible exact wntN_tt (by assumption) | with_reducible exact wntN_tf (by assumption) | with_reducible exact wntN_ft (by assumption) | with_reducible exact wntN_ff (by assumption) | with_reducible exact pckNT (by assumption) | with_reducible exact pckNF (by assumption) | with_reducible exact wntB_tt (by assumption) | with_reducible exact wntB_tf (by assumption) | with_reducible exact wntB_ft (by assumption) | with_reducible exact wntB_ff (by assumption) | with_reducible exact pckBT (by assumption) | with_reducible exact pckBF (by assumption) | exact s2_Sk | exact s1_Sk) : p := h
theorem co_Sk {p : Prop} (h : p := by first | (simp only [impB_1, impB_0, offB_1, offB_0]; done) | ((try simp only [impB_1, impB_0, offB_1, offB_0]); first | with_reducible exact Sl.ag1 (by assumption) fr_Sk (by with_unfolding_all rfl) (by assumption) en_Sk | with_reducible exact Sl.agN (by assumption) fr_Sk (by with_unfolding_all rfl) (by assumption) (by with_unfolding_all rfl) en_Sk | ((with_reducible refine agL1_e ?_ ?_); (· exact s1_Sk); (· exact fl_Sk)) | ((with_reducible refine agLN_e ?_ ?_); (· exact s1_Sk); (· exact fll_Sk)) | ((with_reducible apply ag_bs); (· exact sM_Sk); (· rfl); (· exact sb_Sk); (· exact fll_Sk)) | ((with_reducible apply ag_al); (· exact sM_Sk); (· rfl); (· exact fll_Sk)) | ((with_reducible apply ag_bx); (· exact sM_Sk); (· rfl); (· rfl); (· exact fll_Sk)) | ((with_reducible apply ag_bd); (· rfl); (· exact s1_Sk); (· exact fll_Sk)) | exact s1_Sk)) : p := h
theorem gs_Sk {r p : Prop} (k : r) (h : Go.Ev.Im r p := by (first | with_reducible apply Im.runS | ((with_reducible apply Im.num); · (simp only [Nat.succ_eq_add_one, Nat.add_assoc, Nat.reduceAdd]; rfl)) | (with_reducible apply Im.unm) | (with_reducible apply Im.selT) | (with_reducible apply Im.selF) | ((with_reducible apply Im.cndT); · assumption) | ((with_reducible apply Im.cndF); · assumption) | ((with_reducible apply Im.cndT); · decide) | ((with_reducible apply Im.cndF); · decide) | ((with_reducible apply Im.cndNT); · decide) | ((with_reducible apply Im.cndNF); · decide) | ((with_reducible apply Im.cndBT); · exact rfl) | ((with_reducible apply Im.cndBF); · exact rfl) | ((with_reducible apply Im.cndNT); · assumption) | ((with_reducible apply Im.cndNF); · assumption) | ((with_reducible apply Im.cndBT); · assumption) | ((with_reducible apply Im.cndBF); · assumption) | ((with_reducible apply Im.bind); · exact op_Sk) | ((with_reducible apply Im.cond); · exact co_Sk) | ((with_reducible apply Im.runB); · exact op_Sk) | ((with_reducible apply Im.runC); · exact co_Sk) | ((with_reducible apply Im.runN); · (simp only [Nat.succ_eq_add_one, Nat.add_assoc, Nat.reduceAdd]; rfl)) | with_reducible apply Im.runR | ((with_reducible apply Im.runE (x := evBuildSlice _ _ _ _ _ _)); · exact sb_Sk)); (repeat (first | with_reducible apply Im.runS | ((with_reducible apply Im.num); · (simp only [Nat.succ_eq_add_one, Nat.add_assoc, Nat.reduceAdd]; rfl)) | (with_reducible apply Im.unm) | (with_reducible apply Im.selT) | (with_reducible apply Im.selF) | ((with_reducible apply Im.cndT); · assumption) | ((with_reducible apply Im.cndF); · assumption) | ((with_reducible apply Im.cndT); · decide) | ((with_reducible apply Im.cndF); · decide) | ((with_reducible apply Im.cndNT); · decide) | ((with_reducible apply Im.cndNF); · decide) | ((with_reducible apply Im.cndBT); · exact rfl) | ((with_reducible apply Im.cndBF); · exact rfl) | ((with_reducible apply Im.cndNT); · assumption) | ((with_reducible apply Im.cndNF); · assumption) | ((with_reducible apply Im.cndBT); · assumption) | ((with_reducible apply Im.cndBF); · assumption) | ((with_reducible apply Im.bind); · exact op_Sk) | ((with_reducible apply Im.cond); · exact co_Sk) | ((with_reducible apply Im.runB); · exact op_Sk) | ((with_reducible apply Im.runC); · exact co_Sk) | ((with_reducible apply Im.runN); · (simp only [Nat.succ_eq_add_one, Nat.add_assoc, Nat.reduceAdd]; rfl)) | with_reducible apply Im.runR | ((with_reducible apply Im.runE (x := evBuildSlice _ _ _ _ _ _)); · exact sb_Sk))); exact Go.Ev.Im.id) : p := h k
def leC (f : Bd) : List Value := [iS (f 0).1, iS (f 1).1, iS (f 2).1, iS (f 3).1, iS (f 4).1, iS (f 5).1, iS (f 6).1, iS (f 7).1, iS (f 8).1, iS (f 9).1, iS (f 0).2, iS (f 1).2, iS (f 2).2, iS (f 3).2, iS (f 4).2, iS (f 5).2, iS (f 6).2, iS (f 7).2, iS (f 8).2, iS (f 9).2]
theorem le_lo (f : Bd) {k : Nat} (hk : k < 10) : nth (drp (leC f) k) 0 = some (iS (f k).1) :=
  ten (p := fun k => nth (drp (leC f) k) 0 = some (iS (f k).1)) rfl rfl rfl rfl rfl rfl rfl rfl rfl rfl k hk
theorem le_hi (f : Bd) {k : Nat} (hk : k < 10) : nth (drp (leC f) (10 + k)) 0 = some (iS (f k).2) :=
  ten (p := fun k => nth (drp (leC f) (10 + k)) 0 = some (iS (f k).2)) rfl rfl rfl rfl rfl rfl rfl rfl rfl rfl k hk
theorem le_laylo (f : Bd) {k : Nat} (hk : k < 10) (a : Int) : lay (leC f) [iS a] k = leC (up f k (a, (f k).2)) :=
  ten (p := fun k => lay (leC f) [iS a] k = leC (up f k (a, (f k).2))) rfl rfl rfl rfl rfl rfl rfl rfl rfl rfl k hk
theorem le_layhi (f : Bd) {k : Nat} (hk : k < 10) (a : Int) : lay (leC f) [iS a] (10 + k) = leC (up f k ((f k).1, a)) :=
  ten (p := fun k => lay (leC f) [iS a] (10 + k) = leC (up f k ((f k).1, a))) rfl rfl rfl rfl rfl rfl rfl rfl rfl rfl k hk
theorem le_len (f : Bd) : len (leC f) = 20 := rfl
theorem le_self (f g : Bd) : lay (leC f) (leC g) 0 = leC g := rfl
theorem le_tak (f : Bd) : tak (leC f) 20 = leC f := rfl
theorem le_over (f : Bd) : over (leC f) [iS 0, iS 0, iS 0, iS 0, iS 0, iS 0, iS 0, iS 0, iS 0, iS 0, iS 0, iS 0, iS 0, iS 0, iS 0, iS 0, iS 0, iS 0, iS 0, iS 0] = leC f := rfl
/-- What a rain leaves, as the reference keeps it. -/
structure Lf where
  f : Bd
instance : Rwc Lf := ⟨20, fun x => leC x.f, fun _ => rfl, fun _ => rfl, by omega⟩
theorem enc_Lf (x : Lf) : Rwc.enc x = leC x.f := rfl
theorem allR_snoc {s : Sp} {w n : Int} {j : Nat} {x : Rd} (h : s.reads[j]? = some x) : allR s w n (s.reads.take (j + 1)) = (allR s w n (s.reads.take j) && (!(decide (x.Week = w)) || rightB s x n)) := by
  rw [List.take_add_one, h]; simp [allR, List.all_append]
section
variable {s : Sp} {b r : Value}
theorem c_Right (call : CallF) {x : Rd} {g : Int} {h N} (ho : Ok s) (hx : OkR s x) (hg : -1000 ≤ g ∧ g ≤ 1000) (cb : flatV b = true) (cr : flatV r = true) : Rn (s101 call (.agg ⟨[iS s.weeks, iS s.most, iS s.fall, iS s.slo, iS s.shi, iS s.wlo, iS s.whi, b, r]⟩) (.agg ⟨Rwc.enc x⟩) (iS g) h N) fun v h' N' => v = .bool (rightB s x g) ∧ Gw h N h' N' := by
  obtain ⟨w1, w2, m1, m2, p1, p2, a1, a2, a3, v1, v2, v3⟩ := ho
  obtain ⟨n1, n2, k1, k2, b1, b2, l1, l2, l3, l4⟩ := hx
  have hp1 := mul_bd (a := x.Songs_Hi) (b := s.shi) (by omega) l3 (by omega) a3
  have hp3 := mul_bd (a := x.Songs_Lo) (b := s.slo) (m := 99) (n := 600) l1 (by omega) (by omega) (by omega)
  have hp4 : 0 < g → 0 ≤ x.Songs_Lo * s.slo * g ∧ x.Songs_Lo * s.slo * g ≤ 99 * 600 * 1000 := fun h => mul_bd (by omega) hp3.2 (by omega) (by omega)
  have hp5 : 0 < g → 0 ≤ x.Songs_Hi * s.shi * g ∧ x.Songs_Hi * s.shi * g ≤ 99 * 600 * 1000 := fun h => mul_bd (by omega) hp1.2 (by omega) (by omega)
  unfold s101
  simp only [enc_Reading]
  have x1 := flatV_one cb; have y1 := cel_flat cb; have x2 := flatV_one cr; have y2 := cel_flat cr
  try refine gs_Sk ?_
  refine Rn.part (fun hpos => ?_) (fun hpos => ?_)
  · have hq4 := hp4 hpos
    have hq5 := hp5 hpos
    clear hp4 hp5
    repeat' (first | refine gs_Sk ?_ | (first | with_reducible refine Rn.part (fun _ => ?_) (fun _ => ?_) | with_reducible refine Rn.partN (fun _ => ?_) (fun _ => ?_) | with_reducible refine Rn.partB (fun _ => ?_) (fun _ => ?_)) | (first | with_reducible refine Rn.cnd (fun _ => ?_) (fun _ => ?_) | with_reducible refine Rn.cndN (fun _ => ?_) (fun _ => ?_) | with_reducible refine Rn.cndB (fun _ => ?_) (fun _ => ?_)))
    all_goals exact Rn.ret ⟨congrArg Value.bool (by simp only [rightB, *, decide_true, decide_false, Bool.true_and, Bool.false_and, Bool.and_true]), (Gw.of fr_Sk (by omega))⟩
  · clear hp4 hp5
    repeat' (first | refine gs_Sk ?_ | (first | with_reducible refine Rn.part (fun _ => ?_) (fun _ => ?_) | with_reducible refine Rn.partN (fun _ => ?_) (fun _ => ?_) | with_reducible refine Rn.partB (fun _ => ?_) (fun _ => ?_)) | (first | with_reducible refine Rn.cnd (fun _ => ?_) (fun _ => ?_) | with_reducible refine Rn.cndN (fun _ => ?_) (fun _ => ?_) | with_reducible refine Rn.cndB (fun _ => ?_) (fun _ => ?_)))
    all_goals exact Rn.ret ⟨congrArg Value.bool (by simp only [rightB, *, decide_true, decide_false, Bool.true_and, Bool.false_and, Bool.and_true]), (Gw.of fr_Sk (by omega))⟩
theorem c_base (call : CallF) {h N} (hs : OkS s) (hr : Sl h N r s.reads) (cb : flatV b = true) : Rn (s90 call (.agg ⟨[iS s.weeks, iS s.most, iS s.fall, iS s.slo, iS s.shi, iS s.wlo, iS s.whi, b, r]⟩) h N) fun v h' N' => v = .agg ⟨leC (baseS s)⟩ ∧ Gw h N h' N' := by
  have ho := hs.ok
  have ho2 := ho
  have nr := hs.nr
  obtain ⟨w1, w2, m1, m2, p1, p2, a1, a2, a3, v1, v2, v3⟩ := ho2
  have cr := hr.flat
  unfold s90
  have x1 := flatV_one cb; have y1 := cel_flat cb; have x2 := flatV_one cr; have y2 := cel_flat cr
  try refine gs_Sk ?_
  refine Rn.loop4 (fun n p q u k g M => ∃ i : Nat, p = .pointer (some ⟨N, 0, none⟩) ∧ q = .pointer (some ⟨N + 1, 0, none⟩) ∧ u = .pointer (some ⟨N + 2, 0, none⟩) ∧ k = nS i ∧ (i : Int) + n = s.weeks ∧ Fr h N g ∧ N + 3 ≤ M ∧ g.get N = some (.c [iS s.weeks, iS s.most, iS s.fall, iS s.slo, iS s.shi, iS s.wlo, iS s.whi, b, r] 27) ∧ g.get (N + 1) = some (.c (leC bz) 104) ∧ g.get (N + 2) = some (.c (leC (baseN s i)) 104)) s.weeks.toNat (by omega) ⟨0, rfl, rfl, rfl, rfl, by omega, fr_Sk, by omega, sS_Sk, sR_Sk, sR_Sk⟩ ?_
  rintro n g ih _ _ _ _ h1 N1 ⟨i, rfl, rfl, rfl, rfl, e1, f1, l1, g1, g2, g3⟩
  try refine gs_Sk ?_
  (first | with_reducible refine Rn.cnd (fun _ => ?_) (fun _ => ?_) | with_reducible refine Rn.cndN (fun _ => ?_) (fun _ => ?_) | with_reducible refine Rn.cndB (fun _ => ?_) (fun _ => ?_))
  · have eb : baseN s (i + 1) = up (baseN s i) i (stepW s i (s.most + 1).toNat) := rfl
    generalize baseN s i = F at g3 eb
    try refine gs_Sk ?_
    refine Rn.loop5 (fun n p q u k t g M => ∃ j : Nat, p = .pointer (some ⟨N, 0, none⟩) ∧ q = .pointer (some ⟨N + 1, 0, none⟩) ∧ u = .pointer (some ⟨N + 2, 0, none⟩) ∧ k = nS i ∧ t = nS j ∧ (j : Int) + n = s.most + 1 ∧ Fr h N g ∧ N + 3 ≤ M ∧ g.get N = some (.c [iS s.weeks, iS s.most, iS s.fall, iS s.slo, iS s.shi, iS s.wlo, iS s.whi, b, r] 27) ∧ g.get (N + 1) = some (.c (leC bz) 104) ∧ g.get (N + 2) = some (.c (leC (up F i (stepW s i j))) 104)) (s.most + 1).toNat (by omega) ⟨0, rfl, rfl, rfl, rfl, rfl, by omega, fr_Sk, by omega, sS_Sk, sS_Sk, sR_Sk⟩ ?_
    rintro m g' ih' _ _ _ _ _ h2 N2 ⟨j, rfl, rfl, rfl, rfl, rfl, e2, f2, l2, k1, k2, k3⟩
    try refine gs_Sk ?_
    (first | with_reducible refine Rn.cnd (fun _ => ?_) (fun _ => ?_) | with_reducible refine Rn.cndN (fun _ => ?_) (fun _ => ?_) | with_reducible refine Rn.cndB (fun _ => ?_) (fun _ => ?_))
    · have es : stepW s i (j + 1) = if allR s i j s.reads then (min (stepW s i j).1 j, (j : Int)) else stepW s i j := rfl
      generalize stepW s i j = v at k3 es
      try refine gs_Sk ?_
      refine Rn.loop9 (fun n p q u k t a e l c g M => ∃ z : Nat, p = .pointer (some ⟨N, 0, none⟩) ∧ q = .pointer (some ⟨N + 1, 0, none⟩) ∧ u = .pointer (some ⟨N + 2, 0, none⟩) ∧ k = nS i ∧ t = nS j ∧ a = .bool (allR s i j (s.reads.take z)) ∧ r = e ∧ l = nS s.reads.length ∧ c = nS z ∧ z + n = s.reads.length ∧ Fr h N g ∧ N + 3 ≤ M ∧ g.get N = some (.c [iS s.weeks, iS s.most, iS s.fall, iS s.slo, iS s.shi, iS s.wlo, iS s.whi, b, r] 27) ∧ g.get (N + 1) = some (.c (leC bz) 104) ∧ g.get (N + 2) = some (.c (leC (up F i v)) 104)) s.reads.length (by omega) ⟨0, rfl, rfl, rfl, rfl, rfl, rfl, rfl, rfl, rfl, by omega, fr_Sk, by omega, sS_Sk, sS_Sk, sS_Sk⟩ ?_
      rintro c g'' ih'' _ _ _ _ _ _ _ _ _ h3 N3 ⟨z, rfl, rfl, rfl, rfl, rfl, rfl, rfl, rfl, rfl, e3, f3, l3, j1, j2, j3⟩
      try refine gs_Sk ?_
      (first | with_reducible refine Rn.cnd (fun _ => ?_) (fun _ => ?_) | with_reducible refine Rn.cndN (fun _ => ?_) (fun _ => ?_) | with_reducible refine Rn.cndB (fun _ => ?_) (fun _ => ?_))
      · obtain ⟨x, hx⟩ := at_of (L := s.reads) (k := z) (by omega)
        have ox := hs.reads x (List.mem_of_getElem? hx)
        have ea := allR_snoc (s := s) (w := i) (n := j) hx
        generalize allR s i j (s.reads.take z) = A at ea
        try refine gs_Sk ?_
        refine Rn.partB (fun hA => ?_) (fun hA => ?_)
        · try refine gs_Sk ?_
          refine Rn.part (fun hw => ?_) (fun hw => ?_)
          · try refine gs_Sk ?_
            refine ih'' (c - 1) (by omega) _ _ _ _ _ _ _ _ _ _ _ ⟨z + 1, rfl, rfl, rfl, rfl, rfl, ?_, rfl, rfl, rfl, by omega, fr_Sk, by omega, sS_Sk, sS_Sk, sS_Sk⟩
            rw [ea, hA, decide_eq_false hw]; rfl
          · try refine gs_Sk ?_
            refine Rn.call (c_Right _ (x := x) ho ox (by omega) cb cr) ?_
            rintro _ h4 N4 ⟨rfl, f4, o4, l4⟩
            try refine gs_Sk ?_
            refine ih'' (c - 1) (by omega) _ _ _ _ _ _ _ _ _ _ _ ⟨z + 1, rfl, rfl, rfl, rfl, rfl, ?_, rfl, rfl, rfl, by omega, fr_Sk, by omega, sS_Sk, sS_Sk, sS_Sk⟩
            rw [ea, hA, decide_eq_true (by omega)]; rfl
        · try refine gs_Sk ?_
          refine ih'' (c - 1) (by omega) _ _ _ _ _ _ _ _ _ _ _ ⟨z + 1, rfl, rfl, rfl, rfl, rfl, ?_, rfl, rfl, rfl, by omega, fr_Sk, by omega, sS_Sk, sS_Sk, sS_Sk⟩
          rw [ea, hA]; rfl
      · obtain rfl : z = s.reads.length := by omega
        rw [List.take_length]
        unfold jnR
        try refine gs_Sk ?_
        (first | with_reducible refine Rn.cnd (fun _ => ?_) (fun _ => ?_) | with_reducible refine Rn.cndN (fun _ => ?_) (fun _ => ?_) | with_reducible refine Rn.cndB (fun _ => ?_) (fun _ => ?_))
        · rw [if_pos (by assumption)] at es
          try refine gs_Sk ?_
          exact ih' (m - 1) (by omega) _ _ _ _ _ _ _ ⟨j + 1, rfl, rfl, rfl, rfl, rfl, by omega, fr_Sk, by omega, sS_Sk, sS_Sk, by rw [es]; exact sR_Sk⟩
        · rw [if_neg (by simp only [*]; simp)] at es
          try refine gs_Sk ?_
          exact ih' (m - 1) (by omega) _ _ _ _ _ _ _ ⟨j + 1, rfl, rfl, rfl, rfl, rfl, by omega, fr_Sk, by omega, sS_Sk, sS_Sk, by rw [es]; exact sR_Sk⟩
    · obtain rfl : j = (s.most + 1).toNat := by omega
      try refine gs_Sk ?_
      exact ih (n - 1) (by omega) _ _ _ _ _ _ ⟨i + 1, rfl, rfl, rfl, rfl, by omega, fr_Sk, by omega, sS_Sk, sS_Sk, by rw [eb]; exact sR_Sk⟩
  · obtain rfl : i = s.weeks.toNat := by omega
    try refine gs_Sk ?_
    exact Rn.ret ⟨rfl, (Gw.of fr_Sk (by omega))⟩
end
end Go.Proofs.Ytpilgokdbliklaa
end

section
namespace Go.Proofs.Ytpilgokdbliklaa
open Go.Ev Go.RowKit
set_option linter.unusedVariables false
set_option linter.unusedSimpArgs false
set_option linter.unusedSectionVars false
set_option maxRecDepth 100000
set_option maxHeartbeats 4000000
section
variable {s : Sp} {b r : Value}
theorem c_rleaves (call : CallF) {f : Bd} {rain : Int} {h N} (hs : OkS s) (hf : BdOk f) (hb : Sl h N b s.book) (cr : flatV r = true) : Rn (s122 call (.agg ⟨[iS s.weeks, iS s.most, iS s.fall, iS s.slo, iS s.shi, iS s.wlo, iS s.whi, b, r]⟩) (.agg ⟨leC f⟩) (iS rain) h N) fun v h' N' => (v = .tuple ⟨[.agg ⟨leC (leavesF s f rain)⟩, .bool (okN s (leavesF s f rain))]⟩ ∧ N + 2 ≤ N') ∧ Gw h N h' N' := by
  have ho := hs.ok
  have ho2 := ho
  have nb := hs.nb
  obtain ⟨w1, w2, m1, m2, p1, p2, a1, a2, a3, v1, v2, v3⟩ := ho2
  have cb := hb.flat
  unfold s122
  have x1 := flatV_one cb; have y1 := cel_flat cb; have x2 := flatV_one cr; have y2 := cel_flat cr
  try refine gs_Sk ?_
  refine Rn.loop7 (fun n a p q u t l k g M => ∃ i : Nat, a = iS rain ∧ p = .pointer (some ⟨N, 0, none⟩) ∧ q = .pointer (some ⟨N + 1, 0, none⟩) ∧ u = .pointer (some ⟨N + 2, 0, none⟩) ∧ b = t ∧ l = nS s.book.length ∧ k = nS i ∧ i + n = s.book.length ∧ Fr h N g ∧ N + 3 ≤ M ∧ g.get N = some (.c [iS s.weeks, iS s.most, iS s.fall, iS s.slo, iS s.shi, iS s.wlo, iS s.whi, b, r] 27) ∧ g.get (N + 2) = some (.c (leC bz) 104) ∧ g.get (N + 1) = some (.c (leC ((s.book.take i).foldl (addL rain) f)) 104)) s.book.length (by omega) ⟨0, rfl, rfl, rfl, rfl, rfl, rfl, rfl, by omega, fr_Sk, by omega, sS_Sk, sR_Sk, sR_Sk⟩ ?_
  rintro n g ih _ _ _ _ _ _ _ h1 N1 ⟨i, rfl, rfl, rfl, rfl, rfl, rfl, rfl, e1, f1, l1, g1, g2, g3⟩
  try refine gs_Sk ?_
  (first | with_reducible refine Rn.cnd (fun _ => ?_) (fun _ => ?_) | with_reducible refine Rn.cndN (fun _ => ?_) (fun _ => ?_) | with_reducible refine Rn.cndB (fun _ => ?_) (fun _ => ?_))
  · obtain ⟨x, hx⟩ := at_of (L := s.book) (k := i) (by omega)
    have ox := hs.book x (List.mem_of_getElem? hx)
    obtain ⟨r1, r2, r3, t1, t2, t3, t4, t5⟩ := ox
    have ef := fold_take (addL rain) hx f
    generalize (s.book.take i).foldl (addL rain) f = f at g3 ef
    try refine gs_Sk ?_
    refine Rn.call (c_rwithin _) ?_
    rintro _ h2 N2 ⟨rfl, f2, o2, l2⟩
    try refine gs_Sk ?_
    unfold jnR
    (first | with_reducible refine Rn.cnd (fun _ => ?_) (fun _ => ?_) | with_reducible refine Rn.cndN (fun _ => ?_) (fun _ => ?_) | with_reducible refine Rn.cndB (fun _ => ?_) (fun _ => ?_))
    · have e2 : addL rain f x = up f x.Week.toNat (max (f x.Week.toNat).1 x.Gives_Lo, min (f x.Week.toNat).2 x.Gives_Hi) := if_pos (by assumption)
      try refine gs_Sk ?_
      exact ih (n - 1) (by omega) _ _ _ _ _ _ _ _ _ ⟨i + 1, rfl, rfl, rfl, rfl, rfl, rfl, rfl, by omega, fr_Sk, by omega, sS_Sk, sS_Sk, by rw [ef, e2]; exact sR_Sk⟩
    · have e2 : addL rain f x = f := if_neg (by simp only [*]; simp)
      try refine gs_Sk ?_
      exact ih (n - 1) (by omega) _ _ _ _ _ _ _ _ _ ⟨i + 1, rfl, rfl, rfl, rfl, rfl, rfl, rfl, by omega, fr_Sk, by omega, sS_Sk, sS_Sk, by rw [ef, e2]; exact sR_Sk⟩
  obtain rfl : i = s.book.length := by omega
  rw [List.take_length] at g3
  clear ih
  have hf0 : BdOk (s.book.foldl (addL rain) f) := fold_ok (fun f x hx h => addL_ok h (hs.book x hx)) hf
  have hF : leavesF s f rain = narS s (s.book.foldl (addL rain) f) := rfl
  rw [hF]
  generalize s.book.foldl (addL rain) f = f at g3 hf0
  clear hF hf
  try refine gs_Sk ?_
  refine Rn.loop4 (fun n p q u k g M => ∃ i : Nat, p = .pointer (some ⟨N, 0, none⟩) ∧ q = .pointer (some ⟨N + 1, 0, none⟩) ∧ u = .pointer (some ⟨N + 2, 0, none⟩) ∧ k = nS (i + 1) ∧ (i : Int) + n = s.weeks - 1 ∧ Fr h N g ∧ N + 3 ≤ M ∧ g.get N = some (.c [iS s.weeks, iS s.most, iS s.fall, iS s.slo, iS s.shi, iS s.wlo, iS s.whi, b, r] 27) ∧ g.get (N + 2) = some (.c (leC bz) 104) ∧ g.get (N + 1) = some (.c (leC (fwdN s.fall i f)) 104)) (s.weeks - 1).toNat (by omega) ⟨0, rfl, rfl, rfl, rfl, by omega, fr_Sk, by omega, sS_Sk, sS_Sk, sR_Sk⟩ ?_
  rintro n g ih _ _ _ _ h1 N1 ⟨i, rfl, rfl, rfl, rfl, e1, f1, l1, g1, g2, g3⟩
  have hb1 := fwd_ok p1 p2 hf0 i i
  have hb2 := fwd_ok p1 p2 hf0 i (i + 1)
  try refine gs_Sk ?_
  (first | with_reducible refine Rn.cnd (fun _ => ?_) (fun _ => ?_) | with_reducible refine Rn.cndN (fun _ => ?_) (fun _ => ?_) | with_reducible refine Rn.cndB (fun _ => ?_) (fun _ => ?_))
  · have ef : fwdN s.fall (i + 1) f = up (fwdN s.fall i f) (i + 1) (max (fwdN s.fall i f (i + 1)).1 ((fwdN s.fall i f i).1 - s.fall), min (fwdN s.fall i f (i + 1)).2 (fwdN s.fall i f i).2) := rfl
    generalize fwdN s.fall i f = F at g3 ef hb1 hb2
    try refine gs_Sk ?_
    exact ih (n - 1) (by omega) _ _ _ _ _ _ ⟨i + 1, rfl, rfl, rfl, rfl, by omega, fr_Sk, by omega, sS_Sk, sS_Sk, by rw [ef]; exact sR_Sk⟩
  have en : s.weeks.toNat - 1 = i := by omega
  clear ih
  try refine gs_Sk ?_
  refine Rn.loop4 (fun n p q u k g M => ∃ j : Nat, p = .pointer (some ⟨N, 0, none⟩) ∧ q = .pointer (some ⟨N + 1, 0, none⟩) ∧ u = .pointer (some ⟨N + 2, 0, none⟩) ∧ k = iS (s.weeks - 2 - (j : Int)) ∧ (j : Int) + n = s.weeks - 1 ∧ Fr h N g ∧ N + 3 ≤ M ∧ g.get N = some (.c [iS s.weeks, iS s.most, iS s.fall, iS s.slo, iS s.shi, iS s.wlo, iS s.whi, b, r] 27) ∧ g.get (N + 2) = some (.c (leC bz) 104) ∧ g.get (N + 1) = some (.c (leC (bwdN s.fall s.weeks.toNat j (fwdN s.fall i f))) 104)) (s.weeks - 1).toNat (by omega) ⟨0, rfl, rfl, rfl, by simp, by omega, fr_Sk, by omega, sS_Sk, sS_Sk, sR_Sk⟩ ?_
  rintro m g' ih' _ _ _ _ h2 N2 ⟨j, rfl, rfl, rfl, rfl, e2, f2, l2, k1, k2, k3⟩
  have hb := bwd_ok (n := s.weeks.toNat) p1 p2 (fwd_ok p1 p2 hf0 i) j
  have hb3 := hb (s.weeks.toNat - 2 - j)
  have hb4 := hb (s.weeks.toNat - 2 - j + 1)
  try refine gs_Sk ?_
  (first | with_reducible refine Rn.cnd (fun _ => ?_) (fun _ => ?_) | with_reducible refine Rn.cndN (fun _ => ?_) (fun _ => ?_) | with_reducible refine Rn.cndB (fun _ => ?_) (fun _ => ?_))
  · have t1 : (s.weeks - 2 - (j : Int)).toNat = s.weeks.toNat - 2 - j := by omega
    have t2 : (s.weeks - 2 - (j : Int) + 1).toNat = s.weeks.toNat - 2 - j + 1 := by omega
    have ef : bwdN s.fall s.weeks.toNat (j + 1) (fwdN s.fall i f) = up (bwdN s.fall s.weeks.toNat j (fwdN s.fall i f)) (s.weeks.toNat - 2 - j) (max (bwdN s.fall s.weeks.toNat j (fwdN s.fall i f) (s.weeks.toNat - 2 - j)).1 (bwdN s.fall s.weeks.toNat j (fwdN s.fall i f) (s.weeks.toNat - 2 - j + 1)).1, min (bwdN s.fall s.weeks.toNat j (fwdN s.fall i f) (s.weeks.toNat - 2 - j)).2 ((bwdN s.fall s.weeks.toNat j (fwdN s.fall i f) (s.weeks.toNat - 2 - j + 1)).2 + s.fall)) := rfl
    clear hb
    generalize bwdN s.fall s.weeks.toNat j (fwdN s.fall i f) = F at k3 ef hb3 hb4
    try refine gs_Sk ?_
    exact ih' (m - 1) (by omega) _ _ _ _ _ _ ⟨j + 1, rfl, rfl, rfl, by rw [show s.weeks - 2 - ((j + 1 : Nat) : Int) = s.weeks - 2 - (j : Int) - 1 by omega], by omega, fr_Sk, by omega, sS_Sk, sS_Sk, by rw [ef]; exact sR_Sk⟩
  obtain rfl : j = i := by omega
  have hN : narS s f = bwdN s.fall s.weeks.toNat j (fwdN s.fall j f) := by unfold narS; rw [en]
  rw [← hN] at k3
  clear ih' hb3 hb4 hb hN
  generalize narS s f = F at k3
  try refine gs_Sk ?_
  refine Rn.loop4 (fun n p q u k g M => ∃ j : Nat, p = .pointer (some ⟨N, 0, none⟩) ∧ q = .pointer (some ⟨N + 1, 0, none⟩) ∧ u = .pointer (some ⟨N + 2, 0, none⟩) ∧ k = nS j ∧ (j : Int) + n = s.weeks ∧ Fr h N g ∧ N + 3 ≤ M ∧ g.get N = some (.c [iS s.weeks, iS s.most, iS s.fall, iS s.slo, iS s.shi, iS s.wlo, iS s.whi, b, r] 27) ∧ g.get (N + 2) = some (.c (leC bz) 104) ∧ g.get (N + 1) = some (.c (leC F) 104) ∧ ∀ q, q < j → (F q).1 ≤ (F q).2) s.weeks.toNat (by omega) ⟨0, rfl, rfl, rfl, rfl, by omega, fr_Sk, by omega, sS_Sk, sS_Sk, sS_Sk, fun q hq => by omega⟩ ?_
  rintro m g' ih' _ _ _ _ h2 N2 ⟨z, rfl, rfl, rfl, rfl, e2, f2, l2, k1, k2, k3, q1⟩
  try refine gs_Sk ?_
  (first | with_reducible refine Rn.cnd (fun _ => ?_) (fun _ => ?_) | with_reducible refine Rn.cndN (fun _ => ?_) (fun _ => ?_) | with_reducible refine Rn.cndB (fun _ => ?_) (fun _ => ?_))
  · try refine gs_Sk ?_
    (first | with_reducible refine Rn.cnd (fun _ => ?_) (fun _ => ?_) | with_reducible refine Rn.cndN (fun _ => ?_) (fun _ => ?_) | with_reducible refine Rn.cndB (fun _ => ?_) (fun _ => ?_))
    · have hno : okN s F = false := okN_not (k := z) (by omega) (by omega)
      rw [hno]
      try refine gs_Sk ?_
      exact Rn.ret ⟨⟨rfl, by omega⟩, (Gw.of fr_Sk (by omega))⟩
    · try refine gs_Sk ?_
      exact ih' (m - 1) (by omega) _ _ _ _ _ _ ⟨z + 1, rfl, rfl, rfl, rfl, by omega, fr_Sk, by omega, sS_Sk, sS_Sk, sS_Sk, fun q hq => by
        rcases Nat.lt_or_ge q z with h | h
        · exact q1 q h
        · obtain rfl : q = z := by omega
          omega⟩
  · have hok : okN s F = true := okN_of rfl (fun q hq => q1 q (by omega))
    rw [hok]
    try refine gs_Sk ?_
    exact Rn.ret ⟨⟨rfl, by omega⟩, (Gw.of fr_Sk (by omega))⟩
end
end Go.Proofs.Ytpilgokdbliklaa
end

section
namespace Go.Proofs.Ytpilgokdbliklaa
open Go.Ev Go.RowKit
set_option linter.unusedVariables false
set_option linter.unusedSimpArgs false
set_option linter.unusedSectionVars false
set_option maxRecDepth 100000
set_option maxHeartbeats 4000000
def lfs (s : Sp) (f : Bd) (L : List Int) : List Lf := L.map fun r => ⟨leavesF s f r⟩
section
variable {s : Sp} {b r : Value}
theorem c_rained (call : CallF) {f : Bd} {h N} (hs : OkS s) (hf : BdOk f) (hb : Sl h N b s.book) (cr : flatV r = true) : Rn (s100 call (.agg ⟨[iS s.weeks, iS s.most, iS s.fall, iS s.slo, iS s.shi, iS s.wlo, iS s.whi, b, r]⟩) (.agg ⟨leC f⟩) h N) fun v h' N' => (∃ p q, v = .tuple ⟨[p, q]⟩ ∧ Sl h' N' p (rainsF s f) ∧ Sl h' N' q (lfs s f (rainsF s f))) ∧ Gw h N h' N' := by
  have ho := hs.ok
  obtain ⟨w1, w2, m1, m2, p1, p2, a1, a2, a3, v1, v2, v3⟩ := ho
  have cb := hb.flat
  unfold s100
  have x1 := flatV_one cb; have y1 := cel_flat cb; have x2 := flatV_one cr; have y2 := cel_flat cr
  try refine gs_Sk ?_
  refine Rn.loop5 (fun n p q u t k g M => ∃ i : Nat, p = .pointer (some ⟨N, 0, none⟩) ∧ q = .pointer (some ⟨N + 1, 0, none⟩) ∧ k = iS (s.wlo + (i : Int)) ∧ i + n = rainN s ∧ Fr h N g ∧ N + 2 ≤ M ∧ g.get N = some (.c [iS s.weeks, iS s.most, iS s.fall, iS s.slo, iS s.shi, iS s.wlo, iS s.whi, b, r] 27) ∧ g.get (N + 1) = some (.c (leC f) 104) ∧ (u = .slice none 0 0 ∧ t = .slice none 0 0 ∧ rainsFN s f i = [] ∨ ∃ i1 i2, N + 2 ≤ i1 ∧ N + 2 ≤ i2 ∧ i1 < M ∧ i2 < M ∧ i1 ≠ i2 ∧ Ow g 3 u (rainsFN s f i) i1 ∧ Ow g 104 t (lfs s f (rainsFN s f i)) i2)) (rainN s) (by unfold rainN; omega) ⟨0, rfl, rfl, by simp, by omega, fr_Sk, by omega, sS_Sk, sS_Sk, .inl ⟨rfl, rfl, rfl⟩⟩ ?_
  rintro n g ih _ _ u t _ h1 N1 ⟨i, rfl, rfl, rfl, e1, f1, l1, g1, g2, q1⟩
  have en : rainN s = (s.whi + 1 - s.wlo).toNat := rfl
  try refine gs_Sk ?_
  (first | with_reducible refine Rn.cnd (fun _ => ?_) (fun _ => ?_) | with_reducible refine Rn.cndN (fun _ => ?_) (fun _ => ?_) | with_reducible refine Rn.cndB (fun _ => ?_) (fun _ => ?_))
  · try refine gs_Sk ?_
    refine Rn.call (c_rleaves _ (rain := s.wlo + (i : Int)) hs hf (Sl.up (by assumption) fr_Sk (by omega)) cr) ?_
    rintro _ h2 N2 ⟨⟨rfl, l2'⟩, f2, o2, l2⟩
    have es := rainsFN_succ s f i
    have el := rainsFN_len s f i
    have q2 : ∃ i1 i2, N + 2 ≤ i1 ∧ N + 2 ≤ i2 ∧ i1 < N2 ∧ i2 < N2 ∧ i1 ≠ i2 ∧ Ow h2 3 u (rainsFN s f i) i1 ∧ Ow h2 104 t (lfs s f (rainsFN s f i)) i2 := by
      rcases q1 with ⟨rfl, rfl, e⟩ | ⟨i1, i2, k1, k2, k3, k4, k5, k6, k7⟩
      · rw [e]
        exact ⟨N1, N1 + 1, by omega, by omega, by omega, by omega, by omega, Ow.nil _ _ _, Ow.nil _ _ _⟩
      · exact ⟨i1, i2, k1, k2, by omega, by omega, k5, k6.keep (o2 (by omega)), k7.keep (o2 (by omega))⟩
    clear q1
    obtain ⟨i1, i2, k1, k2, k3, k4, k5, k6, k7⟩ := q2
    have ll : (lfs s f (rainsFN s f i)).length = (rainsFN s f i).length := by simp [lfs]
    generalize hF : leavesF s f (s.wlo + (i : Int)) = F at es
    try refine gs_Sk ?_
    unfold jnR
    (first | with_reducible refine Rn.cnd (fun _ => ?_) (fun _ => ?_) | with_reducible refine Rn.cndN (fun _ => ?_) (fun _ => ?_) | with_reducible refine Rn.cndB (fun _ => ?_) (fun _ => ?_))
    · have hok : okN s F = true := by assumption
      rw [if_pos hok] at es
      have cu := (k6.sl (N := N2) k3).flat
      have ct := (k7.sl (N := N2) k4).flat
      have z1 := flatV_one cu
      have z2 := cel_flat cu
      have z3 := flatV_one ct
      have z4 := cel_flat ct
      have k6' : Ow ((h2.set (some (.c (leC F) 104)) N2)) 3 u (rainsFN s f i) i1 := k6.keep sS_Sk
      have k7' : Ow ((h2.set (some (.c (leC F) 104)) N2)) 104 t (lfs s f (rainsFN s f i)) i2 := k7.keep sS_Sk
      try refine gs_Sk ?_
      refine Rn.call (Ow.app (α := Int) (K := [s.wlo + (i : Int)]) (i := i1) ap_Sint (k6.keep sS_Sk) (by omega) (Sl.lit [s.wlo + (i : Int)] sM_Sk (by omega : N2 + 1 < N2 + 1 + 1 + 1) rfl rfl) (Fr.refl _ _) (by simp; omega)) ?_
      rintro r1 h3 N3 ⟨i3, w3, e3, e3', f3, o3, l3⟩
      try refine gs_Sk ?_
      refine Rn.call (Ow.app (α := Lf) (K := [⟨F⟩]) (i := i2) ap_Saguadorref01_left (k7.keep sS_Sk) (by omega) (Sl.lit [(⟨F⟩ : Lf)] sM_Sk (by omega : N2 + 1 + 1 < N3) rfl rfl) (Fr.refl _ _) (by simp; omega)) ?_
      rintro r2 h4 N4 ⟨i4, w4, e4, e4', f4, o4, l4⟩
      try refine gs_Sk ?_
      refine ih (n - 1) (by omega) _ _ _ _ _ _ _ ⟨i + 1, rfl, rfl, by rw [show s.wlo + ((i + 1 : Nat) : Int) = s.wlo + (i : Int) + 1 by omega], by omega, fr_Sk, by omega, sS_Sk, sS_Sk, .inr ⟨i3, i4, by omega, by omega, by omega, by omega, by omega, ?_, ?_⟩⟩
      · rw [es]; exact w3.keep (o4 (by omega) (by omega))
      · rw [es]
        have : lfs s f (rainsFN s f i ++ [s.wlo + (i : Int)]) = lfs s f (rainsFN s f i) ++ [⟨F⟩] := by simp [lfs, hF]
        rw [this]; exact w4
    · have hok : okN s F = false := by assumption
      rw [if_neg (by rw [hok]; simp)] at es
      try refine gs_Sk ?_
      refine ih (n - 1) (by omega) _ _ _ _ _ _ _ ⟨i + 1, rfl, rfl, by rw [show s.wlo + ((i + 1 : Nat) : Int) = s.wlo + (i : Int) + 1 by omega], by omega, fr_Sk, by omega, sS_Sk, sS_Sk, .inr ⟨i1, i2, by omega, by omega, by omega, by omega, by omega, ?_, ?_⟩⟩
      · rw [es]; exact k6.keep sS_Sk
      · rw [es]; exact k7.keep sS_Sk
  · obtain rfl : i = rainN s := by omega
    try refine gs_Sk ?_
    refine Rn.ret ⟨⟨_, _, rfl, ?_⟩, (Gw.of fr_Sk (by omega))⟩
    rcases q1 with ⟨rfl, rfl, e⟩ | ⟨i1, i2, k1, k2, k3, k4, k5, k6, k7⟩
    · have e' : rainsF s f = [] := e
      rw [e']; exact ⟨Sl.nil _ _, Sl.nil _ _⟩
    · exact ⟨k6.sl k3, k7.sl k4⟩
theorem c_rrains (call : CallF) {h N} (hs : OkS s) (hb : Sl h N b s.book) (hr : Sl h N r s.reads) : Rn (s79 call (.agg ⟨[iS s.weeks, iS s.most, iS s.fall, iS s.slo, iS s.shi, iS s.wlo, iS s.whi, b, r]⟩) h N) fun v h' N' => (∃ p q, v = .tuple ⟨[p, q]⟩ ∧ Sl h' N' p (rainsS s) ∧ Sl h' N' q (lfs s (baseS s) (rainsS s))) ∧ Gw h N h' N' := by
  have cb := hb.flat
  have cr := hr.flat
  unfold s79
  have x1 := flatV_one cb; have y1 := cel_flat cb; have x2 := flatV_one cr; have y2 := cel_flat cr
  try refine gs_Sk ?_
  refine Rn.call (c_base _ hs (Sl.up (by assumption) fr_Sk (by omega)) cb) ?_
  rintro _ h1 N1 ⟨rfl, f1, o1, l1⟩
  try refine gs_Sk ?_
  refine Rn.call (c_rained _ hs (base_ok hs) (Sl.up (by assumption) fr_Sk (by omega)) cr) ?_
  rintro _ h2 N2 ⟨⟨p, q, rfl, k1, k2⟩, f2, o2, l2⟩
  rw [rainsF_base hs] at k1 k2
  try refine gs_Sk ?_
  exact Rn.ret ⟨⟨p, q, rfl, k1, k2⟩, (Gw.of fr_Sk (by omega))⟩
theorem c_rTrue (call : CallF) {h N} (hs : OkS s) (hb : Sl h N b s.book) (hr : Sl h N r s.reads) : Rn (s38 call (.agg ⟨[iS s.weeks, iS s.most, iS s.fall, iS s.slo, iS s.shi, iS s.wlo, iS s.whi, b, r]⟩) h N) fun v h' N' => v = .bool (canS s) ∧ Gw h N h' N' := by
  have cb := hb.flat
  have cr := hr.flat
  unfold s38
  have x1 := flatV_one cb; have y1 := cel_flat cb; have x2 := flatV_one cr; have y2 := cel_flat cr
  try refine gs_Sk ?_
  refine Rn.call (c_rrains _ hs (Sl.up (by assumption) fr_Sk (by omega)) (Sl.up (by assumption) fr_Sk (by omega))) ?_
  rintro _ h1 N1 ⟨⟨p, q, rfl, k1, k2⟩, f1, o1, l1⟩
  try refine gs_Sk ?_
  refine Rn.ret ⟨congrArg Value.bool ?_, (Gw.of fr_Sk (by omega))⟩
  unfold canS
  cases rainsS s <;> simp
def greatB (s : Sp) : Bool := decide (30 < s.book.length) || decide (30 < s.reads.length)
theorem c_rGreat (call : CallF) {h N} (hb : Sl h N b s.book) (hr : Sl h N r s.reads) : Rn (s12 call (.agg ⟨[iS s.weeks, iS s.most, iS s.fall, iS s.slo, iS s.shi, iS s.wlo, iS s.whi, b, r]⟩) h N) fun v h' N' => v = .bool (greatB s) ∧ Gw h N h' N' := by
  have cb := hb.flat
  have cr := hr.flat
  unfold s12
  have x1 := flatV_one cb; have y1 := cel_flat cb; have x2 := flatV_one cr; have y2 := cel_flat cr
  repeat' (first | refine gs_Sk ?_ | (first | with_reducible refine Rn.part (fun _ => ?_) (fun _ => ?_) | with_reducible refine Rn.partN (fun _ => ?_) (fun _ => ?_) | with_reducible refine Rn.partB (fun _ => ?_) (fun _ => ?_)) | (first | with_reducible refine Rn.cnd (fun _ => ?_) (fun _ => ?_) | with_reducible refine Rn.cndN (fun _ => ?_) (fun _ => ?_) | with_reducible refine Rn.cndB (fun _ => ?_) (fun _ => ?_)))
  all_goals exact Rn.ret ⟨congrArg Value.bool (by simp only [greatB]; rw [Bool.eq_iff_iff]; simp; omega), (Gw.of fr_Sk (by omega))⟩
def readyB (s : Sp) : Bool := !greatB s && validB s
theorem c_ready (call : CallF) {h N} (hb : Sl h N b s.book) (hr : Sl h N r s.reads) : Rn (s29 call (.agg ⟨[iS s.weeks, iS s.most, iS s.fall, iS s.slo, iS s.shi, iS s.wlo, iS s.whi, b, r]⟩) h N) fun v h' N' => v = .bool (readyB s) ∧ Gw h N h' N' := by
  have cb := hb.flat
  have cr := hr.flat
  unfold s29
  have x1 := flatV_one cb; have y1 := cel_flat cb; have x2 := flatV_one cr; have y2 := cel_flat cr
  try refine gs_Sk ?_
  refine Rn.call (c_rGreat _ (Sl.up (by assumption) fr_Sk (by omega)) (Sl.up (by assumption) fr_Sk (by omega))) ?_
  rintro _ h1 N1 ⟨rfl, f1, o1, l1⟩
  repeat' (first | refine gs_Sk ?_ | (first | with_reducible refine Rn.part (fun _ => ?_) (fun _ => ?_) | with_reducible refine Rn.partN (fun _ => ?_) (fun _ => ?_) | with_reducible refine Rn.partB (fun _ => ?_) (fun _ => ?_)) | (first | with_reducible refine Rn.cnd (fun _ => ?_) (fun _ => ?_) | with_reducible refine Rn.cndN (fun _ => ?_) (fun _ => ?_) | with_reducible refine Rn.cndB (fun _ => ?_) (fun _ => ?_)))
  rotate_left
  · have hg : greatB s = false := by assumption
    have hg2 := hg
    simp only [greatB, Bool.or_eq_false_iff, decide_eq_false_iff_not] at hg2
    refine Rn.call (c_rSpring _ (by omega) (by omega) (Sl.up (by assumption) fr_Sk (by omega)) (Sl.up (by assumption) fr_Sk (by omega))) ?_
    rintro _ h2 N2 ⟨rfl, f2, o2, l2⟩
    try refine gs_Sk ?_
    exact Rn.ret ⟨congrArg Value.bool (by unfold readyB; rw [hg]; rfl), (Gw.of fr_Sk (by omega))⟩
  · exact Rn.ret ⟨congrArg Value.bool (by unfold readyB; simp only [*]; rfl), (Gw.of fr_Sk (by omega))⟩
end
end Go.Proofs.Ytpilgokdbliklaa
end

section
namespace Go.Proofs.Ytpilgokdbliklaa
open Go.Ev Go.RowKit
set_option linter.unusedVariables false
set_option linter.unusedSimpArgs false
set_option linter.unusedSectionVars false
set_option maxRecDepth 100000
set_option maxHeartbeats 4000000
section
variable {s : Sp} {b r : Value}
end
end Go.Proofs.Ytpilgokdbliklaa
end

section
namespace Go.Proofs.Ytpilgokdbliklaa
open Go.Ev Go.RowKit
set_option linter.unusedVariables false
set_option linter.unusedSimpArgs false
set_option linter.unusedSectionVars false
set_option maxRecDepth 100000
set_option maxHeartbeats 4000000
theorem cv_u8 {z : Int} (h : 0 ≤ z ∧ z < 256) : cvV Pr 5 3 (.int .u8 z) = some (iS z) := by
  have hw : IntKind.i64.wrap z = z := Go.Sx.wrap_in (by omega)
  have g : still Pr (convert 5 3 (.int .u8 z)) = some (iS z) := by
    have u1 : Pr.underlying 5 = some (.int .u8) := by kernel_rfl
    have u2 : Pr.underlying 3 = some (.int .i64) := by kernel_rfl
    unfold convert
    simp [still_bnd, still_undl u1, still_undl u2, obind_s, still_pure, Conv.intToInt, hw]
  show ocond true (obind (still Pr _) fun r => ocond (scal r) (some r)) = _
  rw [g]; rfl
end Go.Proofs.Ytpilgokdbliklaa
end

section
namespace Go.Proofs.Ytpilgokdbliklaa
open Go.Ev Go.RowKit
set_option linter.unusedVariables false
set_option linter.unusedSimpArgs false
set_option linter.unusedSectionVars false
set_option maxRecDepth 100000
set_option maxHeartbeats 4000000
section
variable {s : Sp} {b r : Value}
theorem er_0 {w : Int} (hv : validB s = true) (hc : canS s = true) (hw : 0 ≤ w ∧ w ≤ s.weeks - 1) : erS s w = 0 := by
  have : isWeekB s.weeks w = true := by simp only [isWeekB, inS, Bool.and_eq_true, decide_eq_true_eq]; exact hw
  rw [er_eq, hv, hc, this]; rfl
theorem ready_ok (h : readyB s = true) : validB s = true ∧ s.book.length < 1000 ∧ s.reads.length < 1000 := by
  simp only [readyB, greatB, Bool.and_eq_true, Bool.not_eq_true', Bool.or_eq_false_iff, decide_eq_false_iff_not] at h
  exact ⟨h.2, by omega, by omega⟩
end
end Go.Proofs.Ytpilgokdbliklaa
end

section
namespace Go.Proofs.Ytpilgokdbliklaa
open Go.Ev Go.RowKit
set_option linter.unusedVariables false
set_option linter.unusedSimpArgs false
set_option linter.unusedSectionVars false
set_option maxRecDepth 100000
set_option maxHeartbeats 4000000
open Go.Sx Go.ChangeShapes Go.WideShapes Go.ChangeAt
theorem Try.own : ownKnob Try.prog.godebug = none := by kernel_rfl
theorem Try.laidOut : laidOutB Try.prog = true := by kernel_rfl
theorem plains_ln (K : List Ln) : ∀ u ∈ encs K, plain u = true := by
  intro u hu
  simp only [encs, List.mem_flatMap] at hu
  obtain ⟨n, _, h⟩ := hu
  exact plain_Line n u h
theorem plains_rd (K : List Rd) : ∀ u ∈ encs K, plain u = true := by
  intro u hu
  simp only [encs, List.mem_flatMap] at hu
  obtain ⟨n, _, h⟩ := hu
  exact plain_Reading n u h
section
variable {H : Type} {enc : TypeId × Value → H} {w : World} {b0 base fuel : Nat} {spare : Nat → Bool} {held : Bool} {v : Value} {cs : List Value} {x : DataW H × List MemPlace}
theorem cells_int : Try.prog.cellsOf 3 = 1 := by kernel_rfl
theorem cells_span : Try.prog.cellsOf 23 = 2 := by kernel_rfl
theorem cells_line : Try.prog.cellsOf 73 = 5 := by kernel_rfl
theorem cells_reading : Try.prog.cellsOf 71 = 5 := by kernel_rfl
theorem cells_spring : Try.prog.cellsOf 27 = 9 := by kernel_rfl
theorem cells_lines : Try.prog.cellsOf 24 = 1 := by kernel_rfl
theorem cells_readings : Try.prog.cellsOf 25 = 1 := by kernel_rfl
theorem fld {fs : Array Field} {xs : List (DataW H × List MemPlace)} {n : Nat} {cs : List Value} (hf : ∀ (i : Nat) (f : Field), fs[i]? = some f → DataW.trod enc Try.prog w base spare held n f.type ((cs.drop f.offset).take (Try.prog.cellsOf f.type)) = xs[i]?)
    (i off T k : Nat) (hi : ∃ f, fs[i]? = some f ∧ f.type = T ∧ f.offset = off) (hc : Try.prog.cellsOf T = k) {y : DataW H × List MemPlace} (hx : xs[i]? = some y) : DataW.trod enc Try.prog w base spare held n T ((cs.drop off).take k) = some y := by
  obtain ⟨f, h1, rfl, rfl⟩ := hi
  rw [← hc, hf i f h1, hx]
theorem rd_int (h : DataW.trod enc Try.prog w base spare held fuel 3 cs = some x) : ∃ n : Int, cs = [.int .i64 n] := by
  obtain ⟨n, h1, _⟩ := DataW.trod_int Try.underlying3 h
  exact ⟨n, h1⟩
theorem rd_span (h : DataW.trod enc Try.prog w base spare held fuel 23 cs = some x) : ∃ a b : Int, cs = [.int .i64 a, .int .i64 b] := by
  obtain ⟨xs, n, _, _, hl, hxl, hf⟩ := DataW.trod_struct Try.underlying23 h
  rw [cells_span] at hl
  match cs, hl with
  | [c0, c1], _ =>
    match xs, hxl with
    | [x0, x1], _ =>
      have f0 := fld hf 0 0 3 1 ⟨_, rfl, rfl, rfl⟩ cells_int (y := x0) rfl
      have f1 := fld hf 1 1 3 1 ⟨_, rfl, rfl, rfl⟩ cells_int (y := x1) rfl
      obtain ⟨a, ha⟩ := rd_int f0
      obtain ⟨b, hb⟩ := rd_int f1
      simp at ha hb
      exact ⟨a, b, by rw [ha, hb]⟩
theorem rd_line (h : DataW.trod enc Try.prog w base spare held fuel 73 cs = some x) : ∃ r : Ln, cs = Rwc.enc r := by
  obtain ⟨xs, n, _, _, hl, hxl, hf⟩ := DataW.trod_struct Try.underlying73 h
  rw [cells_line] at hl
  match cs, hl with
  | [c0, c1, c2, c3, c4], _ =>
    match xs, hxl with
    | [x0, x1, x2], _ =>
      have f0 := fld hf 0 0 23 2 ⟨_, rfl, rfl, rfl⟩ cells_span (y := x0) rfl
      have f1 := fld hf 1 2 3 1 ⟨_, rfl, rfl, rfl⟩ cells_int (y := x1) rfl
      have f2 := fld hf 2 3 23 2 ⟨_, rfl, rfl, rfl⟩ cells_span (y := x2) rfl
      obtain ⟨a, b, ha⟩ := rd_span f0
      obtain ⟨c, hc⟩ := rd_int f1
      obtain ⟨d, e, hd⟩ := rd_span f2
      simp at ha hc hd
      exact ⟨⟨a, b, c, d, e⟩, by rw [enc_Line, ha.1, ha.2, hc, hd.1, hd.2]⟩
theorem rd_reading (h : DataW.trod enc Try.prog w base spare held fuel 71 cs = some x) : ∃ r : Rd, cs = Rwc.enc r := by
  obtain ⟨xs, n, _, _, hl, hxl, hf⟩ := DataW.trod_struct Try.underlying71 h
  rw [cells_reading] at hl
  match cs, hl with
  | [c0, c1, c2, c3, c4], _ =>
    match xs, hxl with
    | [x0, x1, x2, x3], _ =>
      have f0 := fld hf 0 0 3 1 ⟨_, rfl, rfl, rfl⟩ cells_int (y := x0) rfl
      have f1 := fld hf 1 1 3 1 ⟨_, rfl, rfl, rfl⟩ cells_int (y := x1) rfl
      have f2 := fld hf 2 2 3 1 ⟨_, rfl, rfl, rfl⟩ cells_int (y := x2) rfl
      have f3 := fld hf 3 3 23 2 ⟨_, rfl, rfl, rfl⟩ cells_span (y := x3) rfl
      obtain ⟨a, ha⟩ := rd_int f0
      obtain ⟨b, hb⟩ := rd_int f1
      obtain ⟨c, hc⟩ := rd_int f2
      obtain ⟨d, e, hd⟩ := rd_span f3
      simp at ha hb hc hd
      exact ⟨⟨a, b, c, d, e⟩, by rw [enc_Reading, ha, hb, hc, hd.1, hd.2]⟩
theorem open_spring {d : DataW H} {ps : List MemPlace} (hv : Value.okWide Try.prog w .any b0 27 v) (h : DataW.Trod enc Try.prog w 0 spare held 27 v d ps) :
    ∃ (s : Sp) (b r : Value), v = .agg ⟨[iS s.weeks, iS s.most, iS s.fall, iS s.slo, iS s.shi, iS s.wlo, iS s.whi, b, r]⟩ ∧ In w b s.book ∧ In w r s.reads ∧ Pl b s.book.length ∧ Pl r s.reads.length := by
  have hv0 := hv
  obtain ⟨cs, rfl, hcs⟩ := okWide_struct Try.underlying27 hv
  obtain ⟨fuel, h⟩ := h
  obtain ⟨xs, n, _, _, hl, hxl, hf⟩ := DataW.trod_struct Try.underlying27 h
  have hl' : cs.toList.length = 9 := by rw [cells_spring] at hl; exact hl
  obtain ⟨c0, c1, c2, c3, c4, c5, c6, c7, c8, hc⟩ : ∃ c0 c1 c2 c3 c4 c5 c6 c7 c8, cs.toList = [c0, c1, c2, c3, c4, c5, c6, c7, c8] := by
    match hz : cs.toList, hl' with
    | [c0, c1, c2, c3, c4, c5, c6, c7, c8], _ => exact ⟨c0, c1, c2, c3, c4, c5, c6, c7, c8, rfl⟩
  have hce : (Value.agg cs).cells.toList = [c0, c1, c2, c3, c4, c5, c6, c7, c8] := hc
  rw [hce] at hf
  have hca : cs = ⟨[c0, c1, c2, c3, c4, c5, c6, c7, c8]⟩ := Array.ext' hc
  subst hca
  simp only [Value.okWide, Try.underlying27] at hv0
  obtain ⟨_, he, _, ts, hts, _, hk⟩ := hv0
  cases he
  have e : Try.prog.cellTypes Try.prog.depth 27 = some [3, 3, 3, 3, 3, 3, 3, 24, 25] := by kernel_rfl
  rw [e] at hts
  cases hts
  obtain ⟨u7, g7, k7⟩ := hk 7 c7 rfl
  obtain ⟨u8, g8, k8⟩ := hk 8 c8 rfl
  cases g7; cases g8
  match xs, hxl with
  | [x0, x1, x2, x3, x4, x5, x6], _ =>
    have f0 := fld hf 0 0 3 1 ⟨_, rfl, rfl, rfl⟩ cells_int (y := x0) rfl
    have f1 := fld hf 1 1 3 1 ⟨_, rfl, rfl, rfl⟩ cells_int (y := x1) rfl
    have f2 := fld hf 2 2 3 1 ⟨_, rfl, rfl, rfl⟩ cells_int (y := x2) rfl
    have f3 := fld hf 3 3 23 2 ⟨_, rfl, rfl, rfl⟩ cells_span (y := x3) rfl
    have f4 := fld hf 4 5 23 2 ⟨_, rfl, rfl, rfl⟩ cells_span (y := x4) rfl
    have f5 := fld hf 5 7 24 1 ⟨_, rfl, rfl, rfl⟩ cells_lines (y := x5) rfl
    have f6 := fld hf 6 8 25 1 ⟨_, rfl, rfl, rfl⟩ cells_readings (y := x6) rfl
    obtain ⟨i0, e0⟩ := rd_int f0
    obtain ⟨i1, e1⟩ := rd_int f1
    obtain ⟨i2, e2⟩ := rd_int f2
    obtain ⟨i3, i4, e3⟩ := rd_span f3
    obtain ⟨i5, i6, e4⟩ := rd_span f4
    simp at e0 e1 e2 e3 e4
    obtain ⟨e3, e3'⟩ := e3
    obtain ⟨e4, e4'⟩ := e4
    subst e0 e1 e2 e3 e3' e4 e4'
    obtain ⟨L1, i1'⟩ := open_in (α := Ln) cells_line Try.underlying24 (fun _ _ _ h => rd_line h) k7 f5
    obtain ⟨L2, i2'⟩ := open_in (α := Rd) cells_reading Try.underlying25 (fun _ _ _ h => rd_reading h) k8 f6
    exact ⟨⟨i0, i1, i2, i3, i4, i5, i6, L1, L2⟩, c7, c8, rfl, i1', i2', in_pl Try.underlying24 k7 i1', in_pl Try.underlying25 k8 i2'⟩
theorem ok_u8 (hv : Value.okWide Try.prog w .any b0 5 v) : ∃ z, v = .int .u8 z ∧ 0 ≤ z ∧ z < 256 := by
  simp only [Value.okWide, Try.underlying5] at hv
  unfold Cell.okWide Cell.ok at hv
  rw [Try.underlying5] at hv
  cases v with
  | int k z =>
    obtain ⟨rfl, h⟩ := hv
    unfold IntKind.has at h
    have e1 : IntKind.u8.min = 0 := by decide
    have e2 : IntKind.u8.max = 255 := by decide
    exact ⟨z, rfl, by omega, by omega⟩
  | _ => exact hv.elim
end
/-- A spring that came in is told. -/
theorem tell_spring {W : World} {s : Sp} {b r : Value} (h1 : In W b s.book) (h2 : In W r s.reads) :
    ∃ σ h u1 u2, Go.Ev.Told W σ h 2 ∧ Rl σ u1 b ∧ Rl σ u2 r ∧ Sl h 2 u1 s.book ∧ Sl h 2 u2 s.reads ∧ (Pl b s.book.length → Pl u1 s.book.length) ∧ (Pl r s.reads.length → Pl u2 s.reads.length) := by
  obtain ⟨σ1, m1, u1, T1, le1, g1, r1, t1, c1⟩ := tell2 h1 (plains_ln _) (Go.Ev.Told.start W)
  obtain ⟨σ2, m2, u2, T2, le2, g2, r2, t2, c2⟩ := tell2 h2 (plains_rd _) T1
  exact ⟨σ2, m2, u1, u2, T2, r1.mono le2, r2, t1.up g2 (by omega), t2, c1, c2⟩
theorem rl_spring {σ : Sg} {s : Sp} {b r u1 u2 : Value} (r1 : Rl σ u1 b) (r2 : Rl σ u2 r) : Rl σ (.agg ⟨[iS s.weeks, iS s.most, iS s.fall, iS s.slo, iS s.shi, iS s.wlo, iS s.whi, u1, u2]⟩) (.agg ⟨[iS s.weeks, iS s.most, iS s.fall, iS s.slo, iS s.shi, iS s.wlo, iS s.whi, b, r]⟩) :=
  RlL.agg (RlL.cons (.sc rfl) (RlL.cons (.sc rfl) (RlL.cons (.sc rfl) (RlL.cons (.sc rfl) (RlL.cons (.sc rfl) (RlL.cons (.sc rfl) (RlL.cons (.sc rfl) (RlL.cons r1 (RlL.cons r2 (RlL.nil _))))))))))
end Go.Proofs.Ytpilgokdbliklaa
end

section
namespace Go.Proofs.Ytpilgokdbliklaa
open Go.Ev Go.RowKit
set_option linter.unusedVariables false
set_option linter.unusedSimpArgs false
set_option linter.unusedSectionVars false
set_option maxRecDepth 100000
set_option maxHeartbeats 4000000
/-- A list of one's own, nil at first. -/
def OwZ {α : Type} [Rwc α] (h : Tr Ob) (M el : Nat) (v : Value) (L : List α) (P : Nat → Prop) : Prop := (v = .slice none 0 0 ∧ L = []) ∨ ∃ i, P i ∧ i < M ∧ Ow h el v L i
theorem OwZ.sl {α : Type} [Rwc α] {h : Tr Ob} {M el : Nat} {v : Value} {L : List α} {P : Nat → Prop} (o : OwZ h M el v L P) : Sl h M v L := by
  rcases o with ⟨rfl, rfl⟩ | ⟨i, _, hi, o⟩
  · exact Sl.nil _ _
  · exact o.sl hi
theorem OwZ.keep {α : Type} [Rwc α] {h h' : Tr Ob} {M M' el : Nat} {v : Value} {L : List α} {P : Nat → Prop} (o : OwZ h M el v L P) (hm : M ≤ M') (hk : ∀ i, P i → i < M → h'.get i = h.get i) : OwZ h' M' el v L P := by
  rcases o with e | ⟨i, p, hi, o⟩
  · exact .inl e
  · exact .inr ⟨i, p, by omega, o.keep (hk i p hi)⟩
section
variable {s : Sp} {b r : Value}
end
end Go.Proofs.Ytpilgokdbliklaa
end

section
namespace Go.Proofs.Ytpilgokdbliklaa
open Go.Ev Go.RowKit
set_option linter.unusedVariables false
set_option linter.unusedSimpArgs false
set_option linter.unusedSectionVars false
set_option maxRecDepth 100000
set_option maxHeartbeats 4000000
theorem s1_Ub {p : Prop} (h : p := by (simp (disch := omega) only [obind_s, orun_s, ocond_t, fad_p, ld1_e, ldN_e, sto_e, cellO_c, wrO_c, Tr.get_same, Tr.get_other, nth_0, nth_s, drp_0, drp_s, drp_n, tak_0, tak_s, tak_n, over_n, over_c, lay_0, lay_s, lay_n, len_n, len_c, app_n, app_c, reps_0, reps_s, cel_agg, cel_int, cel_bool, cel_str, cel_sl, cel_ptr, cel_map, cel_func, cel_nilf, fil_n, fil_c, beq_r, ble_d, allF_n, allF_c, one_int, one_bool, one_str, one_sl, one_ptr, one_map, one_func, one_nilf, Bool.and_true, Bool.true_and, Bool.not_true, Bool.not_false, iadA_z, Int.reduceToNat, Int.toNat_zero, fl1_a, flN_a, extr_t, unot, not_d, Nat.add_eq, Nat.mul_eq, Nat.mul_one, Nat.one_mul, Nat.zero_mul, Nat.reduceMul, Nat.zero_add, Nat.add_zero, Nat.le_refl, decide_true, Nat.reduceAdd, Nat.reduceLeDiff, bsl_Sint, bsl_SReading, bsl_SLine, bld_Span, bld_spring_work, bld_spring_asked, enc_Line, enc_Reading, ocond_d, Int.toNat_natCast, *]); first | done | fail) : p := h
theorem s2_Ub {p : Prop} (h : p := by (simp (disch := omega) only [obind_s, orun_s, ocond_t, fad_p, ld1_e, ldN_e, sto_e, cellO_c, wrO_c, Tr.get_same, Tr.get_other, nth_0, nth_s, drp_0, drp_s, drp_n, tak_0, tak_s, tak_n, over_n, over_c, lay_0, lay_s, lay_n, len_n, len_c, app_n, app_c, reps_0, reps_s, cel_agg, cel_int, cel_bool, cel_str, cel_sl, cel_ptr, cel_map, cel_func, cel_nilf, fil_n, fil_c, beq_r, ble_d, allF_n, allF_c, one_int, one_bool, one_str, one_sl, one_ptr, one_map, one_func, one_nilf, Bool.and_true, Bool.true_and, Bool.not_true, Bool.not_false, iadA_z, Int.reduceToNat, Int.toNat_zero, fl1_a, flN_a, extr_t, unot, not_d, Nat.add_eq, Nat.mul_eq, Nat.mul_one, Nat.one_mul, Nat.zero_mul, Nat.reduceMul, Nat.zero_add, Nat.add_zero, Nat.le_refl, decide_true, Nat.reduceAdd, Nat.reduceLeDiff, bsl_Sint, bsl_SReading, bsl_SLine, bld_Span, bld_spring_work, bld_spring_asked, enc_Line, enc_Reading, ocond_d, Int.toNat_natCast, *]); rfl) : p := h
theorem sb_Ub {p : Prop} (h : p := by first | ((simp (disch := omega) only [obind_s, orun_s, ocond_t, fad_p, ld1_e, ldN_e, sto_e, cellO_c, wrO_c, Tr.get_same, Tr.get_other, nth_0, nth_s, drp_0, drp_s, drp_n, tak_0, tak_s, tak_n, over_n, over_c, lay_0, lay_s, lay_n, len_n, len_c, app_n, app_c, reps_0, reps_s, cel_agg, cel_int, cel_bool, cel_str, cel_sl, cel_ptr, cel_map, cel_func, cel_nilf, fil_n, fil_c, beq_r, ble_d, allF_n, allF_c, one_int, one_bool, one_str, one_sl, one_ptr, one_map, one_func, one_nilf, Bool.and_true, Bool.true_and, Bool.not_true, Bool.not_false, iadA_z, Int.reduceToNat, Int.toNat_zero, fl1_a, flN_a, extr_t, unot, not_d, Nat.add_eq, Nat.mul_eq, Nat.mul_one, Nat.one_mul, Nat.zero_mul, Nat.reduceMul, Nat.zero_add, Nat.add_zero, Nat.le_refl, decide_true, Nat.reduceAdd, Nat.reduceLeDiff, bsl_Sint, bsl_SReading, bsl_SLine, bld_Span, bld_spring_work, bld_spring_asked, enc_Line, enc_Reading, ocond_d, Int.toNat_natCast, Nat.succ_eq_add_one, Nat.add_assoc, *]); rfl) | ((simp (disch := omega) only [obind_s, orun_s, ocond_t, fad_p, ld1_e, ldN_e, sto_e, cellO_c, wrO_c, Tr.get_same, Tr.get_other, nth_0, nth_s, drp_0, drp_s, drp_n, tak_0, tak_s, tak_n, over_n, over_c, lay_0, lay_s, lay_n, len_n, len_c, app_n, app_c, reps_0, reps_s, cel_agg, cel_int, cel_bool, cel_str, cel_sl, cel_ptr, cel_map, cel_func, cel_nilf, fil_n, fil_c, beq_r, ble_d, allF_n, allF_c, one_int, one_bool, one_str, one_sl, one_ptr, one_map, one_func, one_nilf, Bool.and_true, Bool.true_and, Bool.not_true, Bool.not_false, iadA_z, Int.reduceToNat, Int.toNat_zero, fl1_a, flN_a, extr_t, unot, not_d, Nat.add_eq, Nat.mul_eq, Nat.mul_one, Nat.one_mul, Nat.zero_mul, Nat.reduceMul, Nat.zero_add, Nat.add_zero, Nat.le_refl, decide_true, Nat.reduceAdd, Nat.reduceLeDiff, bsl_Sint, bsl_SReading, bsl_SLine, bld_Span, bld_spring_work, bld_spring_asked, enc_Line, enc_Reading, ocond_d, Int.toNat_natCast, Nat.succ_eq_add_one, Nat.add_assoc, *]); done)) : p := h
theorem fr_Ub {p : Prop} (h : p := by first | assumption | exact Fr.refl _ _ | (simp (disch := omega) only [Fr_set, Fr_refl, *])) : p := h
theorem fl_Ub {p : Prop} (h : p := by first | with_unfolding_all rfl | exact Sl.flat (by assumption) | assumption) : p := h
theorem fll_Ub {p : Prop} (h : p := by first | with_unfolding_all rfl | ((repeat (refine flatL_k fl_Ub ?_)); with_unfolding_all rfl)) : p := h
theorem en_Ub {p : Prop} (h : p := by first | ((simp only [enc_int, enc_str, enc_u8, enc_bool, tak_s, tak_0, tak_n, drp_0, drp_s, drp_n, nth_s, nth_0, bsl_Sint, bsl_SReading, bsl_SLine, bld_Span, bld_spring_work, bld_spring_asked, enc_Line, enc_Reading, ocond_d, Int.toNat_natCast]); rfl) | ((simp only [enc_int, enc_str, enc_u8, enc_bool, tak_s, tak_0, tak_n, drp_0, drp_s, drp_n, nth_s, nth_0, bsl_Sint, bsl_SReading, bsl_SLine, bld_Span, bld_spring_work, bld_spring_asked, enc_Line, enc_Reading, ocond_d, Int.toNat_natCast]); done) | with_unfolding_all rfl) : p := h
theorem sM_Ub {p : Prop} (h : p := by (first | assumption | (simp (disch := omega) only [Tr.get_same, Tr.get_other, *]; rfl) | (simp (disch := omega) only [Tr.get_same, Tr.get_other, *]; done))) : p := h
theorem sS_Ub {p : Prop} (h : p := by first | assumption | exact s1_Ub) : p := h
theorem op_Ub {p : Prop} (h : p := by first | with_reducible exact fad_p _ _ _ | with_reducible exact iop_lss _ _ | with_reducible exact iop_leq _ _ | with_reducible exact iop_gtr _ _ | with_reducible exact iop_geq _ _ | with_reducible exact iop_eql _ _ | with_reducible exact iop_neq _ _ | with_reducible exact Sl.len (by assumption) | with_reducible exact lenS_s _ _ _ | with_reducible exact Sl.iad (by assumption) (by with_unfolding_all rfl) (by first | assumption | omega) | with_reducible exact Sl.fad (by assumption) (by first | assumption | omega) | with_reducible exact Sl.ld1 (by assumption) fr_Ub (by with_unfolding_all rfl) (by assumption) en_Ub | with_reducible exact Sl.ldN (by assumption) fr_Ub (by with_unfolding_all rfl) (by assumption) (by with_unfolding_all rfl) en_Ub | with_reducible exact zadd1 (by omega) | with_reducible exact zsub1 (by omega) (by omega) | with_reducible exact zaddI (by omega) (by omega) | with_reducible exact zsubI (by omega) (by omega) | with_reducible exact min_z | with_reducible exact max_z | with_reducible exact zmulI (by assumption) | with_reducible exact zmulK (by omega) (by omega) | with_reducible exact quo_z (by omega) (by omega) (by omega) | with_reducible exact cv_u8 (by omega) | with_reducible exact rem_z (by omega) (by omega) (by omega) | with_reducible exact neq_bool (by kernel_rfl) | with_reducible exact eql_u8 | with_reducible exact wntT_t (by assumption) | with_reducible exact wntT_f (by assumption) | with_reducible exact wntF_t (by assumption) | with_reducible exact wntF_f (by assumption) | with_reducible exact wnt_tt | with_reducible exact wnt_tf | with_reducible exact wnt_ft | with_reducible exact wnt_ff | with_reducible exact wnt_u _ _ | with_reducible exact pck_t _ _ | with_reducible exact pck_f _ _ | with_reducible exact pckT (by assumption) | with_reducible exact pckF (by assumption) | with_reducible exact wntT_t (by decide) | with_reducible exact wntT_f (by decide) | with_reducible exact wntF_t (by decide) | with_reducible exact wntF_f (by decide) | with_reducible exact pckT (by decide) | with_reducible exact pckF (by decide) | with_reducible exact wntN_tt (by decide) | with_reducible exact wntN_tf (by decide) | with_reducible exact wntN_ft (by decide) | with_reducible exact wntN_ff (by decide) | with_reducible exact pckNT (by decide) | with_reducible exact pckNF (by decide) | with_reducible exact wntN_tt (by assumption) | with_reducible exact wntN_tf (by assumption) | with_reducible exact wntN_ft (by assumption) | with_reducible exact wntN_ff (by assumption) | with_reducible exact pckNT (by assumption) | with_reducible exact pckNF (by assumption) | with_reducible exact wntB_tt (by assumption) | with_reducible exact wntB_tf (by assumption) | with_reducible exact wntB_ft (by assumption) | with_reducible exact wntB_ff (by assumption) | with_reducible exact pckBT (by assumption) | with_reducible exact pckBF (by assumption) | exact s2_Ub | exact s1_Ub) : p := h
theorem co_Ub {p : Prop} (h : p := by first | (simp only [impB_1, impB_0, offB_1, offB_0]; done) | ((try simp only [impB_1, impB_0, offB_1, offB_0]); first | with_reducible exact Sl.ag1 (by assumption) fr_Ub (by with_unfolding_all rfl) (by assumption) en_Ub | with_reducible exact Sl.agN (by assumption) fr_Ub (by with_unfolding_all rfl) (by assumption) (by with_unfolding_all rfl) en_Ub | ((with_reducible refine agL1_e ?_ ?_); (· exact s1_Ub); (· exact fl_Ub)) | ((with_reducible refine agLN_e ?_ ?_); (· exact s1_Ub); (· exact fll_Ub)) | ((with_reducible apply ag_bs); (· exact sM_Ub); (· rfl); (· exact sb_Ub); (· exact fll_Ub)) | ((with_reducible apply ag_al); (· exact sM_Ub); (· rfl); (· exact fll_Ub)) | ((with_reducible apply ag_bx); (· exact sM_Ub); (· rfl); (· rfl); (· exact fll_Ub)) | ((with_reducible apply ag_bd); (· rfl); (· exact s1_Ub); (· exact fll_Ub)) | exact s1_Ub)) : p := h
theorem gs_Ub {r p : Prop} (k : r) (h : Go.Ev.Im r p := by (first | with_reducible apply Im.runS | ((with_reducible apply Im.num); · (simp only [Nat.succ_eq_add_one, Nat.add_assoc, Nat.reduceAdd]; rfl)) | (with_reducible apply Im.unm) | (with_reducible apply Im.selT) | (with_reducible apply Im.selF) | ((with_reducible apply Im.cndT); · assumption) | ((with_reducible apply Im.cndF); · assumption) | ((with_reducible apply Im.cndT); · decide) | ((with_reducible apply Im.cndF); · decide) | ((with_reducible apply Im.cndNT); · decide) | ((with_reducible apply Im.cndNF); · decide) | ((with_reducible apply Im.cndBT); · exact rfl) | ((with_reducible apply Im.cndBF); · exact rfl) | ((with_reducible apply Im.cndNT); · assumption) | ((with_reducible apply Im.cndNF); · assumption) | ((with_reducible apply Im.cndBT); · assumption) | ((with_reducible apply Im.cndBF); · assumption) | ((with_reducible apply Im.bind); · exact op_Ub) | ((with_reducible apply Im.cond); · exact co_Ub) | ((with_reducible apply Im.runB); · exact op_Ub) | ((with_reducible apply Im.runC); · exact co_Ub) | ((with_reducible apply Im.runN); · (simp only [Nat.succ_eq_add_one, Nat.add_assoc, Nat.reduceAdd]; rfl)) | with_reducible apply Im.runR | ((with_reducible apply Im.runE (x := evBuildSlice _ _ _ _ _ _)); · exact sb_Ub)); (repeat (first | with_reducible apply Im.runS | ((with_reducible apply Im.num); · (simp only [Nat.succ_eq_add_one, Nat.add_assoc, Nat.reduceAdd]; rfl)) | (with_reducible apply Im.unm) | (with_reducible apply Im.selT) | (with_reducible apply Im.selF) | ((with_reducible apply Im.cndT); · assumption) | ((with_reducible apply Im.cndF); · assumption) | ((with_reducible apply Im.cndT); · decide) | ((with_reducible apply Im.cndF); · decide) | ((with_reducible apply Im.cndNT); · decide) | ((with_reducible apply Im.cndNF); · decide) | ((with_reducible apply Im.cndBT); · exact rfl) | ((with_reducible apply Im.cndBF); · exact rfl) | ((with_reducible apply Im.cndNT); · assumption) | ((with_reducible apply Im.cndNF); · assumption) | ((with_reducible apply Im.cndBT); · assumption) | ((with_reducible apply Im.cndBF); · assumption) | ((with_reducible apply Im.bind); · exact op_Ub) | ((with_reducible apply Im.cond); · exact co_Ub) | ((with_reducible apply Im.runB); · exact op_Ub) | ((with_reducible apply Im.runC); · exact co_Ub) | ((with_reducible apply Im.runN); · (simp only [Nat.succ_eq_add_one, Nat.add_assoc, Nat.reduceAdd]; rfl)) | with_reducible apply Im.runR | ((with_reducible apply Im.runE (x := evBuildSlice _ _ _ _ _ _)); · exact sb_Ub))); exact Go.Ev.Im.id) : p := h k
abbrev snil : Value := .slice none 0 0
def zS : Sp := ⟨0, 0, 0, 0, 0, 0, 0, [], []⟩
theorem c_cloneL (call : CallF) {v : Value} {L : List Ln} {h N} (hl : L.length < 1000) (hs : Sl h N v L) : Rn (s102 call v h N) fun v' h' N' => OwR N N' h' 73 v' L ∧ Gw h N h' N' :=
  Rn.eq (y := cloneF Pr 24 3 call v h N) rfl (clone_ok call (by kernel_rfl) (fun a n c => by kernel_rfl) bs0_SLine ap_SLine (by omega) hs)
theorem c_cloneR (call : CallF) {v : Value} {L : List Rd} {h N} (hl : L.length < 1000) (hs : Sl h N v L) : Rn (s103 call v h N) fun v' h' N' => OwR N N' h' 71 v' L ∧ Gw h N h' N' :=
  Rn.eq (y := cloneF Pr 25 3 call v h N) rfl (clone_ok call (by kernel_rfl) (fun a n c => by kernel_rfl) bs0_SReading ap_SReading (by omega) hs)
theorem over_blk (u v : Value) (i j : Nat) (h : Tr Ob) (N d : Nat) (hu : blkOf u = some j) (hv : blkOf v = some i) (hij : j ≠ i) (h1 : ∃ xs, cellsOf h j = some xs) (h2 : ∃ ys, cellsOf h i = some ys ∧ 1 ≤ ys.length) :
    cN (d + 1) (.func (.func 104) ⟨[]⟩ ⟨[]⟩) [u, v] h N = some (.bool false, h, N) := by
  obtain ⟨xs, h1⟩ := h1
  obtain ⟨ys, h2, h3⟩ := h2
  have e : ∃ z, ovOf Pr 104 = some z := ⟨5, by kernel_rfl⟩
  obtain ⟨z, e⟩ := e
  show ocond (Nat.beq 2 2) (evOver Pr 104 [u, v] h N) = _
  show evOver Pr 104 [u, v] h N = _
  unfold evOver
  rw [e, obind_s]
  show obind (blkOf u) _ = _
  rw [hu, obind_s, hv, obind_s]
  have hb : notB (Nat.beq j i) = true := by
    cases hb : Nat.beq j i with
    | true => exact absurd (Nat.eq_of_beq_eq_true hb) hij
    | false => rfl
  rw [hb, ocond_t, h1, obind_s, h2, obind_s, len_eq, Nat.ble_eq_true_of_le h3]
  rfl
theorem zer_rd : zer Pr 71 = some (Rwc.enc (⟨0, 0, 0, 0, 0⟩ : Rd)) := by kernel_rfl
theorem c_insert (d : Nat) {lo N k j c : Nat} {h : Tr Ob} {v : Value} {L : List Rd} {x : Rd} (o : OwR lo j h 71 v L) (hlo : lo ≤ j) (hj : j < N) (hl : L.length < 1000) (hk : k ≤ L.length) (hx : h.get j = some (.c [iS x.Number, iS x.Week, iS x.Bucket, iS x.Songs_Lo, iS x.Songs_Hi] 71)) :
    Rn (X83 (cN (d + 1)) [v, nS k, .slice (some ⟨j, 0, none⟩) 1 c] h N) fun v' h' N' => OwR lo N' h' 71 v' (L.take k ++ x :: L.drop k) ∧ Gl' lo h N h' N' :=
  ins_ok (α := Rd) (T := 25) (TI := 3) (fo := 104) (rot := fun call a b h N => s105 call a b h N) (cN (d + 1)) ap_SReading ⟨0, 0, 0, 0, 0⟩ zer_rd (by kernel_rfl) (fun a b c h N => rfl)
    (fun u v i j h N h1 h2 h3 h4 h5 => over_blk u v i j h N d h1 h2 h3 h4 h5) plain_Reading o hlo hj (by omega) hk hx
/-- Where a reading is put. -/
def atL (z : Int) : List Rd → Nat
  | [] => 0
  | y :: l => if y.Number < z then atL z l + 1 else 0
theorem atL_le (z : Int) : ∀ L, atL z L ≤ L.length
  | [] => Nat.le_refl _
  | y :: l => by
    have := atL_le z l
    simp only [atL]
    split
    · simp; omega
    · simp
def insL (L : List Rd) (x : Rd) : List Rd := L.take (atL x.Number L) ++ x :: L.drop (atL x.Number L)
theorem insL_len (L : List Rd) (x : Rd) : (insL L x).length = L.length + 1 := by
  have := atL_le x.Number L
  simp only [insL, List.length_append, List.length_take, List.length_cons, List.length_drop]; omega
def adS (s : Sp) (x : Rd) : Sp := { s with reads := insL s.reads x }
def adE (s : Sp) (x : Rd) : Int := if validB s then (if s.reads.length = 12 then 9 else if validB (adS s x) then 0 else 12) else 10
def adR (s : Sp) (x : Rd) : Sp := if adE s x = 0 then adS s x else zS
def ckE (s : Sp) : Int := if validB s then 0 else 10
section
variable {s : Sp} {b r : Value}
theorem c_Check (d : Nat) {h N} (nb : s.book.length < 1000) (nr : s.reads.length < 1000) (hb : Sl h N b s.book) (hr : Sl h N r s.reads) : Rn (s81 (cN (d + 3)) (.agg ⟨[iS s.weeks, iS s.most, iS s.fall, iS s.slo, iS s.shi, iS s.wlo, iS s.whi, b, r]⟩) h N) fun v h' N' => v = iS (ckE s) ∧ Gw h N h' N' := by
  unfold s81
  have cb := hb.flat; have cr := hr.flat; have x1 := flatV_one cb; have y1 := cel_flat cb; have x2 := flatV_one cr; have y2 := cel_flat cr
  try refine gs_Ub ?_
  refine Rn.call (c_begin d (q := qw 0 0) (L := []) nb nr (Sl.up (by assumption) fr_Ub (by omega)) (Sl.up (by assumption) fr_Ub (by omega)) (by simp) (Sl.nil _ _) (by simp)) ?_
  rintro _ h1 N1 ⟨⟨e0, hv, rfl⟩ | ⟨e0, rfl⟩, f1, o1, l1⟩
  · try refine gs_Ub ?_
    exact Rn.ret ⟨by unfold ckE; rw [hv]; rfl, (Gw.of fr_Ub (by omega))⟩
  · have e1 : beginS s (qw 0 0) [] = ckE s := rfl
    rw [e1]
    try refine gs_Ub ?_
    exact Rn.ret ⟨rfl, (Gw.of fr_Ub (by omega))⟩
theorem c_copied (call : CallF) {h N} (nb : s.book.length < 1000) (nr : s.reads.length < 1000) (hb : Sl h N b s.book) (hr : Sl h N r s.reads) :
    Rn (s82 call (.agg ⟨[iS s.weeks, iS s.most, iS s.fall, iS s.slo, iS s.shi, iS s.wlo, iS s.whi, b, r]⟩) h N) fun v h' N' => (∃ b' r' K, v = .agg ⟨[iS s.weeks, iS s.most, iS s.fall, iS s.slo, iS s.shi, iS s.wlo, iS s.whi, b', r']⟩ ∧ N ≤ K ∧ K ≤ N' ∧ OwR N K h' 73 b' s.book ∧ OwR K N' h' 71 r' s.reads) ∧ Gw h N h' N' := by
  unfold s82
  have cb := hb.flat; have cr := hr.flat; have x1 := flatV_one cb; have y1 := cel_flat cb; have x2 := flatV_one cr; have y2 := cel_flat cr
  try refine gs_Ub ?_
  refine Rn.call (c_cloneL call nb (Sl.up (by assumption) fr_Ub (by omega))) ?_
  rintro b' h1 N1 ⟨w1, f1, o1, l1⟩
  have s1 := w1.sl (Nat.le_refl _)
  have a1 := flatV_one s1.flat
  have b1 := cel_flat s1.flat
  try refine gs_Ub ?_
  refine Rn.call (c_cloneR call nr (Sl.up (by assumption) fr_Ub (by omega))) ?_
  rintro r' h2 N2 ⟨w2, f2, o2, l2⟩
  have s2 := w2.sl (Nat.le_refl _)
  have a2 := flatV_one s2.flat
  have b2 := cel_flat s2.flat
  try refine gs_Ub ?_
  refine Rn.ret ⟨⟨b', r', N1, rfl, by omega, by omega, ?_, ?_⟩, (Gw.of fr_Ub (by omega))⟩
  · exact (w1.keep fun j g1 g2 => sS_Ub).wide (by omega) (Nat.le_refl _)
  · exact w2.keep fun j g1 g2 => sS_Ub
theorem c_Add (d : Nat) {x : Rd} {h N} (nb : s.book.length < 1000) (nr : s.reads.length < 1000) (hb : Sl h N b s.book) (hr : Sl h N r s.reads) :
    Rn (s43 (cN (d + 3)) (.agg ⟨[iS s.weeks, iS s.most, iS s.fall, iS s.slo, iS s.shi, iS s.wlo, iS s.whi, b, r]⟩) (.agg ⟨[iS x.Number, iS x.Week, iS x.Bucket, iS x.Songs_Lo, iS x.Songs_Hi]⟩) h N) fun v h' N' =>
      (∃ b' r', v = .tuple ⟨[.agg ⟨[iS (adR s x).weeks, iS (adR s x).most, iS (adR s x).fall, iS (adR s x).slo, iS (adR s x).shi, iS (adR s x).wlo, iS (adR s x).whi, b', r']⟩, iS (adE s x)]⟩ ∧ Sl h' N' b' (adR s x).book ∧ Sl h' N' r' (adR s x).reads) ∧ Gw h N h' N' := by
  unfold s43
  have cb := hb.flat; have cr := hr.flat; have x1 := flatV_one cb; have y1 := cel_flat cb; have x2 := flatV_one cr; have y2 := cel_flat cr
  try refine gs_Ub ?_
  refine Rn.call (c_Check d nb nr (Sl.up (by assumption) fr_Ub (by omega)) (Sl.up (by assumption) fr_Ub (by omega))) ?_
  rintro _ h1 N1 ⟨rfl, f1, o1, l1⟩
  have zr : ∀ e : Int, e ≠ 0 → adE s x = e → adR s x = zS := fun e h1 h2 => if_neg (by rw [h2]; exact h1)
  cases hv : validB s with
  | false =>
    have e1 : adE s x = 10 := by unfold adE; rw [hv]; rfl
    have e2 : ckE s = 10 := by unfold ckE; rw [hv]; rfl
    rw [zr 10 (by decide) e1, e1, e2]
    clear zr e1 e2
    try refine gs_Ub ?_
    exact Rn.ret ⟨⟨snil, snil, rfl, Sl.nil _ _, Sl.nil _ _⟩, (Gw.of fr_Ub (by omega))⟩
  | true =>
    have hs := ok_of_valid hv
    have hn := hs.nr
    have e2 : ckE s = 0 := by unfold ckE; rw [hv]; rfl
    rw [e2]
    clear e2
    try refine gs_Ub ?_
    (first | with_reducible refine Rn.cnd (fun _ => ?_) (fun _ => ?_) | with_reducible refine Rn.cndN (fun _ => ?_) (fun _ => ?_) | with_reducible refine Rn.cndB (fun _ => ?_) (fun _ => ?_))
    · have e1 : adE s x = 9 := by unfold adE; rw [hv, if_pos rfl, if_pos (by omega)]
      rw [zr 9 (by decide) e1, e1]
      clear zr e1
      try refine gs_Ub ?_
      exact Rn.ret ⟨⟨snil, snil, rfl, Sl.nil _ _, Sl.nil _ _⟩, (Gw.of fr_Ub (by omega))⟩
    have hl12 : s.reads.length ≠ 12 := by omega
    try refine gs_Ub ?_
    refine Rn.loop4 (fun n p q t k g M => ∃ i : Nat, p = .pointer (some ⟨N, 0, none⟩) ∧ q = .pointer (some ⟨N + 1, 0, none⟩) ∧ t = .pointer (some ⟨N + 2, 0, none⟩) ∧ k = nS i ∧ i + n = s.reads.length ∧ Fr h N g ∧ N + 3 ≤ M ∧
      g.get N = some (.c [iS s.weeks, iS s.most, iS s.fall, iS s.slo, iS s.shi, iS s.wlo, iS s.whi, b, r] 27) ∧ g.get (N + 1) = some (.c [iS x.Number, iS x.Week, iS x.Bucket, iS x.Songs_Lo, iS x.Songs_Hi] 71) ∧ g.get (N + 2) = some (.c [iS 0, iS 0, iS 0, iS 0, iS 0, iS 0, iS 0, .slice none 0 0, .slice none 0 0] 27) ∧ i + atL x.Number (s.reads.drop i) = atL x.Number s.reads) s.reads.length (by omega) ⟨0, rfl, rfl, rfl, rfl, by omega, fr_Ub, by omega, sS_Ub, sS_Ub, sS_Ub, by simp⟩ ?_
    rintro n g ih _ _ _ _ h2 N2 ⟨i, rfl, rfl, rfl, rfl, e2, f2, l2, g1, g2, g3, q2⟩
    try refine gs_Ub ?_
    (first | with_reducible refine Rn.part (fun _ => ?_) (fun _ => ?_) | with_reducible refine Rn.partN (fun _ => ?_) (fun _ => ?_) | with_reducible refine Rn.partB (fun _ => ?_) (fun _ => ?_))
    · obtain ⟨y, hy⟩ := at_of (L := s.reads) (k := i) (by omega)
      rw [drop_at hy] at q2
      simp only [atL] at q2
      try refine gs_Ub ?_
      (first | with_reducible refine Rn.cnd (fun _ => ?_) (fun _ => ?_) | with_reducible refine Rn.cndN (fun _ => ?_) (fun _ => ?_) | with_reducible refine Rn.cndB (fun _ => ?_) (fun _ => ?_))
      · rw [if_pos (by assumption)] at q2
        try refine gs_Ub ?_
        exact ih (n - 1) (by omega) _ _ _ _ _ _ ⟨i + 1, rfl, rfl, rfl, rfl, by omega, fr_Ub, by omega, sS_Ub, sS_Ub, sS_Ub, by omega⟩
      · rw [if_neg (by assumption)] at q2
        have e : atL x.Number s.reads = i := by omega
        clear ih q2
        try refine gs_Ub ?_
        refine Rn.call (c_copied _ nb nr (Sl.up (by assumption) fr_Ub (by omega)) (Sl.up (by assumption) fr_Ub (by omega))) ?_
        rintro _ h3 N3 ⟨⟨b', r', K, rfl, k1, k2, q3, q4⟩, f3, o3, l3⟩
        have s1 := q3.sl k2
        have s2 := q4.sl (Nat.le_refl _)
        have a1 := flatV_one s1.flat
        have a2 := flatV_one s2.flat
        have b1 := cel_flat s1.flat
        have b2 := cel_flat s2.flat
        try refine gs_Ub ?_
        refine Rn.call (c_insert (d + 2) (lo := K) (x := x) (q4.keep fun j g1 g2 => sS_Ub) (by omega) (by omega) (by omega) (by have := atL_le x.Number s.reads; omega) sM_Ub) ?_
        rintro r'' h4 N4 ⟨q5, f5, o5, l5⟩
        have s5 := q5.sl (Nat.le_refl _)
        have a5 := flatV_one s5.flat
        have b5 := cel_flat s5.flat
        have q6 : OwR N2 K h4 73 b' s.book := q3.keep fun j g1 g2 => sS_Ub
        have s6 := q6.sl (N := N4) (by omega)
        have el : (s.reads.take i ++ x :: s.reads.drop i) = (adS s x).reads := by rw [← e]; rfl
        have ln := insL_len s.reads x
        rw [el] at q5 s5
        try refine gs_Ub ?_
        refine Rn.call (c_Check d (s := adS s x) nb (by show (insL _ _).length < _; omega) ((q6.keep fun j g1 g2 => sS_Ub).sl (by omega)) ((q5.keep fun j g1 g2 => sS_Ub).sl (by omega))) ?_
        rintro _ h7 N7 ⟨rfl, f7, o7, l7⟩
        cases hv2 : validB (adS s x) with
        | true =>
          have e1 : adE s x = 0 := by unfold adE; rw [hv, if_pos rfl, if_neg (by omega), hv2]; rfl
          have e2 : ckE (adS s x) = 0 := by unfold ckE; rw [hv2]; rfl
          have e3 : adR s x = adS s x := if_pos e1
          rw [e1, e2, e3]
          clear zr e1 e2 e3
          try refine gs_Ub ?_
          refine Rn.ret ⟨⟨b', r'', rfl, ?_, ?_⟩, (Gw.of fr_Ub (by omega))⟩
          · exact (q6.keep fun j g1 g2 => sS_Ub).sl (by omega)
          · exact (q5.keep fun j g1 g2 => sS_Ub).sl (by omega)
        | false =>
          have e1 : adE s x = 12 := by unfold adE; rw [hv, if_pos rfl, if_neg (by omega), hv2]; rfl
          have e2 : ckE (adS s x) = 10 := by unfold ckE; rw [hv2]; rfl
          rw [zr 12 (by decide) e1, e1, e2]
          clear zr e1 e2
          try refine gs_Ub ?_
          exact Rn.ret ⟨⟨snil, snil, rfl, Sl.nil _ _, Sl.nil _ _⟩, (Gw.of fr_Ub (by omega))⟩
    · rw [List.drop_eq_nil_of_le (by omega)] at q2
      have e : atL x.Number s.reads = i := by simp only [atL] at q2; omega
      clear ih q2
      try refine gs_Ub ?_
      refine Rn.call (c_copied _ nb nr (Sl.up (by assumption) fr_Ub (by omega)) (Sl.up (by assumption) fr_Ub (by omega))) ?_
      rintro _ h3 N3 ⟨⟨b', r', K, rfl, k1, k2, q3, q4⟩, f3, o3, l3⟩
      have s1 := q3.sl k2
      have s2 := q4.sl (Nat.le_refl _)
      have a1 := flatV_one s1.flat
      have a2 := flatV_one s2.flat
      have b1 := cel_flat s1.flat
      have b2 := cel_flat s2.flat
      try refine gs_Ub ?_
      refine Rn.call (c_insert (d + 2) (lo := K) (x := x) (q4.keep fun j g1 g2 => sS_Ub) (by omega) (by omega) (by omega) (by have := atL_le x.Number s.reads; omega) sM_Ub) ?_
      rintro r'' h4 N4 ⟨q5, f5, o5, l5⟩
      have s5 := q5.sl (Nat.le_refl _)
      have a5 := flatV_one s5.flat
      have b5 := cel_flat s5.flat
      have q6 : OwR N2 K h4 73 b' s.book := q3.keep fun j g1 g2 => sS_Ub
      have s6 := q6.sl (N := N4) (by omega)
      have el : (s.reads.take i ++ x :: s.reads.drop i) = (adS s x).reads := by rw [← e]; rfl
      have ln := insL_len s.reads x
      rw [el] at q5 s5
      try refine gs_Ub ?_
      refine Rn.call (c_Check d (s := adS s x) nb (by show (insL _ _).length < _; omega) ((q6.keep fun j g1 g2 => sS_Ub).sl (by omega)) ((q5.keep fun j g1 g2 => sS_Ub).sl (by omega))) ?_
      rintro _ h7 N7 ⟨rfl, f7, o7, l7⟩
      cases hv2 : validB (adS s x) with
      | true =>
        have e1 : adE s x = 0 := by unfold adE; rw [hv, if_pos rfl, if_neg (by omega), hv2]; rfl
        have e2 : ckE (adS s x) = 0 := by unfold ckE; rw [hv2]; rfl
        have e3 : adR s x = adS s x := if_pos e1
        rw [e1, e2, e3]
        clear zr e1 e2 e3
        try refine gs_Ub ?_
        refine Rn.ret ⟨⟨b', r'', rfl, ?_, ?_⟩, (Gw.of fr_Ub (by omega))⟩
        · exact (q6.keep fun j g1 g2 => sS_Ub).sl (by omega)
        · exact (q5.keep fun j g1 g2 => sS_Ub).sl (by omega)
      | false =>
        have e1 : adE s x = 12 := by unfold adE; rw [hv, if_pos rfl, if_neg (by omega), hv2]; rfl
        have e2 : ckE (adS s x) = 10 := by unfold ckE; rw [hv2]; rfl
        rw [zr 12 (by decide) e1, e1, e2]
        clear zr e1 e2
        try refine gs_Ub ?_
        exact Rn.ret ⟨⟨snil, snil, rfl, Sl.nil _ _, Sl.nil _ _⟩, (Gw.of fr_Ub (by omega))⟩
end
end Go.Proofs.Ytpilgokdbliklaa
end

section
namespace Go.Proofs.Ytpilgokdbliklaa
open Go.Ev Go.RowKit
set_option linter.unusedVariables false
set_option linter.unusedSimpArgs false
set_option linter.unusedSectionVars false
set_option maxRecDepth 100000
set_option maxHeartbeats 4000000
/-- One spring tells what another tells, and may be more. -/
structure Nar (s t : Sp) : Prop where
  w : t.weeks = s.weeks
  m : t.most = s.most
  f : t.fall = s.fall
  a : t.slo = s.slo
  b : t.shi = s.shi
  c : t.wlo = s.wlo
  d : t.whi = s.whi
  bk : ∀ x ∈ s.book, x ∈ t.book
  rd : ∀ x ∈ s.reads, x ∈ t.reads
def Les (f g : Bd) : Prop := ∀ j, (f j).1 ≤ (g j).1 ∧ (g j).2 ≤ (f j).2
theorem up_les {f g : Bd} (h : Les f g) (k : Nat) {u v : Int × Int} (h1 : u.1 ≤ v.1) (h2 : v.2 ≤ u.2) : Les (up f k u) (up g k v) := by
  intro j
  simp only [up]
  split
  · exact ⟨h1, h2⟩
  · exact h j
theorem fwd_les {fall : Int} {f g : Bd} (h : Les f g) : ∀ k, Les (fwdN fall k f) (fwdN fall k g)
  | 0 => h
  | k + 1 => by
    have i := fwd_les (fall := fall) h k
    have a := i k
    have c := i (k + 1)
    refine up_les i _ ?_ ?_
    · show max _ _ ≤ max _ _; omega
    · show min _ _ ≤ min _ _; omega
theorem bwd_les {fall : Int} {n : Nat} {f g : Bd} (h : Les f g) : ∀ k, Les (bwdN fall n k f) (bwdN fall n k g)
  | 0 => h
  | k + 1 => by
    have i := bwd_les (fall := fall) (n := n) h k
    have a := i (n - 2 - k)
    have c := i (n - 2 - k + 1)
    refine up_les i _ ?_ ?_
    · show max _ _ ≤ max _ _; omega
    · show min _ _ ≤ min _ _; omega
section
variable {s t : Sp}
theorem told_nar (h : Nar s t) (x : Rd) : toldB t x = toldB s x := by unfold toldB; rw [h.a, h.b, h.m]
theorem pre_les (h : Nar s t) (r : Int) : Les (preS s r) (preS t r) := by
  intro j
  have ei : iniN t.most t.weeks.toNat = iniN s.most s.weeks.toNat := by rw [h.m, h.w]
  constructor
  · obtain ⟨h1, h2⟩ := (pre_lo (s := t) r j _).1 (Int.le_refl _)
    unfold redS at h1
    rw [addR_lo] at h1
    refine (pre_lo r j _).2 ⟨?_, fun x hx => h2 x (h.bk x hx)⟩
    unfold redS
    rw [addR_lo, ← ei]
    exact ⟨h1.1, fun x hx hw => by rw [← told_nar h]; exact h1.2 x (h.rd x hx) hw⟩
  · obtain ⟨h1, h2⟩ := (pre_hi (s := t) r j _).1 (Int.le_refl _)
    unfold redS at h1
    rw [addR_hi] at h1
    refine (pre_hi r j _).2 ⟨?_, fun x hx => h2 x (h.bk x hx)⟩
    unfold redS
    rw [addR_hi, ← ei]
    exact ⟨h1.1, fun x hx hw => by rw [← told_nar h]; exact h1.2 x (h.rd x hx) hw⟩
theorem leaves_les (h : Nar s t) (r : Int) : Les (leavesS s r) (leavesS t r) := by
  unfold leavesS narS
  rw [h.f, h.w]
  exact bwd_les (fwd_les (pre_les h r) _) _
theorem rains_nar (h : Nar s t) {r : Int} (hr : r ∈ rainsS t) : r ∈ rainsS s := by
  unfold rainsS rainsN rainN at hr ⊢
  rw [h.c, h.d] at hr
  obtain ⟨h1, h2⟩ := List.mem_filter.1 hr
  refine List.mem_filter.2 ⟨h1, ?_⟩
  unfold okN at h2 ⊢
  rw [h.w] at h2
  simp only [List.all_eq_true, decide_eq_true_eq] at h2 ⊢
  intro k hk
  have := h2 k hk
  have := leaves_les h r k
  omega
theorem can_nar (h : Nar s t) (hc : canS t = true) : canS s = true := by
  unfold canS at hc ⊢
  cases hr : rainsS t with
  | nil => rw [hr] at hc; cases hc
  | cons x l =>
    have := rains_nar h (r := x) (by rw [hr]; simp)
    cases hs : rainsS s with
    | nil => rw [hs] at this; cases this
    | cons => rfl
theorem gvL_lo {w : Nat} {n : Int} : ∀ (L : List Int) (v : Int × Int), (gvL s w L v).1 ≤ n ↔ v.1 ≤ n ∨ ∃ r ∈ L, (leavesS s r w).1 ≤ n
  | [], v => by simp [gvL]
  | x :: L, v => by
    have := gvL_lo (w := w) (n := n) L (arS v (leavesS s x w))
    show (gvL s w L (arS v (leavesS s x w))).1 ≤ n ↔ _
    rw [this]
    have e : (arS v (leavesS s x w)).1 ≤ n ↔ v.1 ≤ n ∨ (leavesS s x w).1 ≤ n := by
      show min _ _ ≤ n ↔ _; omega
    rw [e]
    simp [or_assoc]
theorem gvL_hi {w : Nat} {n : Int} : ∀ (L : List Int) (v : Int × Int), n ≤ (gvL s w L v).2 ↔ n ≤ v.2 ∨ ∃ r ∈ L, n ≤ (leavesS s r w).2
  | [], v => by simp [gvL]
  | x :: L, v => by
    have := gvL_hi (w := w) (n := n) L (arS v (leavesS s x w))
    show n ≤ (gvL s w L (arS v (leavesS s x w))).2 ↔ _
    rw [this]
    have e : n ≤ (arS v (leavesS s x w)).2 ↔ n ≤ v.2 ∨ n ≤ (leavesS s x w).2 := by
      show n ≤ max _ _ ↔ _; omega
    rw [e]
    simp [or_assoc]
/-- What a spring that tells more gives is within. -/
theorem gv_nar (h : Nar s t) (hs : OkS s) (hc : canS t = true) {w : Nat} (hw : w < s.weeks.toNat) : (gvS s w).1 ≤ (gvS t w).1 ∧ (gvS t w).2 ≤ (gvS s w).2 := by
  have hb := gv_bd hs hw (can_nar h hc)
  constructor
  · rcases (gvL_lo (s := t) (w := w) (rainsS t) (t.most, 0)).1 (Int.le_refl (gvS t w).1) with h1 | ⟨r, hr, h1⟩
    · have : t.most = s.most := h.m
      have h1' : t.most ≤ (gvS t w).1 := h1
      omega
    · exact (gvL_lo _ _).2 (.inr ⟨r, rains_nar h hr, by have := leaves_les h r w; omega⟩)
  · rcases (gvL_hi (s := t) (w := w) (rainsS t) (t.most, 0)).1 (Int.le_refl (gvS t w).2) with h1 | ⟨r, hr, h1⟩
    · have h1' : (gvS t w).2 ≤ 0 := h1
      omega
    · exact (gvL_hi _ _).2 (.inr ⟨r, rains_nar h hr, by have := leaves_les h r w; omega⟩)
end
theorem rds_gt {w : Int} : ∀ (L : List Rd) (b : Int), rdsB w b L = true → ∀ x ∈ L, b < x.Number
  | [], _, _, x, hx => by cases hx
  | y :: l, b, h, x, hx => by
    simp only [rdsB, Bool.and_eq_true, decide_eq_true_eq] at h
    rcases List.mem_cons.1 hx with rfl | hx
    · exact h.1.1
    · have := rds_gt l _ h.2 x hx
      omega
theorem insL_cons (y : Rd) (l : List Rd) (x : Rd) : insL (y :: l) x = if y.Number < x.Number then y :: insL l x else x :: y :: l := by
  unfold insL
  simp only [atL]
  split
  · simp
  · simp
section
variable {s : Sp}
end
end Go.Proofs.Ytpilgokdbliklaa
end

section
namespace Go.Proofs.Ytpilgokdbliklaa
open Go.Ev Go.RowKit
set_option linter.unusedVariables false
set_option linter.unusedSimpArgs false
set_option linter.unusedSectionVars false
set_option maxRecDepth 100000
set_option maxHeartbeats 4000000
theorem s1_Vb {p : Prop} (h : p := by (simp (disch := omega) only [obind_s, orun_s, ocond_t, fad_p, ld1_e, ldN_e, sto_e, cellO_c, wrO_c, Tr.get_same, Tr.get_other, nth_0, nth_s, drp_0, drp_s, drp_n, tak_0, tak_s, tak_n, over_n, over_c, lay_0, lay_s, lay_n, len_n, len_c, app_n, app_c, reps_0, reps_s, cel_agg, cel_int, cel_bool, cel_str, cel_sl, cel_ptr, cel_map, cel_func, cel_nilf, fil_n, fil_c, beq_r, ble_d, allF_n, allF_c, one_int, one_bool, one_str, one_sl, one_ptr, one_map, one_func, one_nilf, Bool.and_true, Bool.true_and, Bool.not_true, Bool.not_false, iadA_z, Int.reduceToNat, Int.toNat_zero, fl1_a, flN_a, extr_t, unot, not_d, Nat.add_eq, Nat.mul_eq, Nat.mul_one, Nat.one_mul, Nat.zero_mul, Nat.reduceMul, Nat.zero_add, Nat.add_zero, Nat.le_refl, decide_true, Nat.reduceAdd, Nat.reduceLeDiff, bsl_Sint, bsl_SReading, bsl_SLine, bld_Span, bld_spring_work, bld_spring_asked, enc_Line, enc_Reading, ocond_d, Int.toNat_natCast, *]); first | done | fail) : p := h
theorem s2_Vb {p : Prop} (h : p := by (simp (disch := omega) only [obind_s, orun_s, ocond_t, fad_p, ld1_e, ldN_e, sto_e, cellO_c, wrO_c, Tr.get_same, Tr.get_other, nth_0, nth_s, drp_0, drp_s, drp_n, tak_0, tak_s, tak_n, over_n, over_c, lay_0, lay_s, lay_n, len_n, len_c, app_n, app_c, reps_0, reps_s, cel_agg, cel_int, cel_bool, cel_str, cel_sl, cel_ptr, cel_map, cel_func, cel_nilf, fil_n, fil_c, beq_r, ble_d, allF_n, allF_c, one_int, one_bool, one_str, one_sl, one_ptr, one_map, one_func, one_nilf, Bool.and_true, Bool.true_and, Bool.not_true, Bool.not_false, iadA_z, Int.reduceToNat, Int.toNat_zero, fl1_a, flN_a, extr_t, unot, not_d, Nat.add_eq, Nat.mul_eq, Nat.mul_one, Nat.one_mul, Nat.zero_mul, Nat.reduceMul, Nat.zero_add, Nat.add_zero, Nat.le_refl, decide_true, Nat.reduceAdd, Nat.reduceLeDiff, bsl_Sint, bsl_SReading, bsl_SLine, bld_Span, bld_spring_work, bld_spring_asked, enc_Line, enc_Reading, ocond_d, Int.toNat_natCast, *]); rfl) : p := h
theorem sb_Vb {p : Prop} (h : p := by first | ((simp (disch := omega) only [obind_s, orun_s, ocond_t, fad_p, ld1_e, ldN_e, sto_e, cellO_c, wrO_c, Tr.get_same, Tr.get_other, nth_0, nth_s, drp_0, drp_s, drp_n, tak_0, tak_s, tak_n, over_n, over_c, lay_0, lay_s, lay_n, len_n, len_c, app_n, app_c, reps_0, reps_s, cel_agg, cel_int, cel_bool, cel_str, cel_sl, cel_ptr, cel_map, cel_func, cel_nilf, fil_n, fil_c, beq_r, ble_d, allF_n, allF_c, one_int, one_bool, one_str, one_sl, one_ptr, one_map, one_func, one_nilf, Bool.and_true, Bool.true_and, Bool.not_true, Bool.not_false, iadA_z, Int.reduceToNat, Int.toNat_zero, fl1_a, flN_a, extr_t, unot, not_d, Nat.add_eq, Nat.mul_eq, Nat.mul_one, Nat.one_mul, Nat.zero_mul, Nat.reduceMul, Nat.zero_add, Nat.add_zero, Nat.le_refl, decide_true, Nat.reduceAdd, Nat.reduceLeDiff, bsl_Sint, bsl_SReading, bsl_SLine, bld_Span, bld_spring_work, bld_spring_asked, enc_Line, enc_Reading, ocond_d, Int.toNat_natCast, Nat.succ_eq_add_one, Nat.add_assoc, *]); rfl) | ((simp (disch := omega) only [obind_s, orun_s, ocond_t, fad_p, ld1_e, ldN_e, sto_e, cellO_c, wrO_c, Tr.get_same, Tr.get_other, nth_0, nth_s, drp_0, drp_s, drp_n, tak_0, tak_s, tak_n, over_n, over_c, lay_0, lay_s, lay_n, len_n, len_c, app_n, app_c, reps_0, reps_s, cel_agg, cel_int, cel_bool, cel_str, cel_sl, cel_ptr, cel_map, cel_func, cel_nilf, fil_n, fil_c, beq_r, ble_d, allF_n, allF_c, one_int, one_bool, one_str, one_sl, one_ptr, one_map, one_func, one_nilf, Bool.and_true, Bool.true_and, Bool.not_true, Bool.not_false, iadA_z, Int.reduceToNat, Int.toNat_zero, fl1_a, flN_a, extr_t, unot, not_d, Nat.add_eq, Nat.mul_eq, Nat.mul_one, Nat.one_mul, Nat.zero_mul, Nat.reduceMul, Nat.zero_add, Nat.add_zero, Nat.le_refl, decide_true, Nat.reduceAdd, Nat.reduceLeDiff, bsl_Sint, bsl_SReading, bsl_SLine, bld_Span, bld_spring_work, bld_spring_asked, enc_Line, enc_Reading, ocond_d, Int.toNat_natCast, Nat.succ_eq_add_one, Nat.add_assoc, *]); done)) : p := h
theorem fr_Vb {p : Prop} (h : p := by first | assumption | exact Fr.refl _ _ | (simp (disch := omega) only [Fr_set, Fr_refl, *])) : p := h
theorem fl_Vb {p : Prop} (h : p := by first | with_unfolding_all rfl | exact Sl.flat (by assumption) | assumption) : p := h
theorem fll_Vb {p : Prop} (h : p := by first | with_unfolding_all rfl | ((repeat (refine flatL_k fl_Vb ?_)); with_unfolding_all rfl)) : p := h
theorem en_Vb {p : Prop} (h : p := by first | ((simp only [enc_int, enc_str, enc_u8, enc_bool, tak_s, tak_0, tak_n, drp_0, drp_s, drp_n, nth_s, nth_0, bsl_Sint, bsl_SReading, bsl_SLine, bld_Span, bld_spring_work, bld_spring_asked, enc_Line, enc_Reading, ocond_d, Int.toNat_natCast]); rfl) | ((simp only [enc_int, enc_str, enc_u8, enc_bool, tak_s, tak_0, tak_n, drp_0, drp_s, drp_n, nth_s, nth_0, bsl_Sint, bsl_SReading, bsl_SLine, bld_Span, bld_spring_work, bld_spring_asked, enc_Line, enc_Reading, ocond_d, Int.toNat_natCast]); done) | with_unfolding_all rfl) : p := h
theorem sM_Vb {p : Prop} (h : p := by (first | assumption | (simp (disch := omega) only [Tr.get_same, Tr.get_other, *]; rfl) | (simp (disch := omega) only [Tr.get_same, Tr.get_other, *]; done))) : p := h
theorem op_Vb {p : Prop} (h : p := by first | with_reducible exact fad_p _ _ _ | with_reducible exact iop_lss _ _ | with_reducible exact iop_leq _ _ | with_reducible exact iop_gtr _ _ | with_reducible exact iop_geq _ _ | with_reducible exact iop_eql _ _ | with_reducible exact iop_neq _ _ | with_reducible exact Sl.len (by assumption) | with_reducible exact lenS_s _ _ _ | with_reducible exact Sl.iad (by assumption) (by with_unfolding_all rfl) (by first | assumption | omega) | with_reducible exact Sl.fad (by assumption) (by first | assumption | omega) | with_reducible exact Sl.ld1 (by assumption) fr_Vb (by with_unfolding_all rfl) (by assumption) en_Vb | with_reducible exact Sl.ldN (by assumption) fr_Vb (by with_unfolding_all rfl) (by assumption) (by with_unfolding_all rfl) en_Vb | with_reducible exact zadd1 (by omega) | with_reducible exact zsub1 (by omega) (by omega) | with_reducible exact zaddI (by omega) (by omega) | with_reducible exact zsubI (by omega) (by omega) | with_reducible exact min_z | with_reducible exact max_z | with_reducible exact zmulI (by assumption) | with_reducible exact zmulK (by omega) (by omega) | with_reducible exact quo_z (by omega) (by omega) (by omega) | with_reducible exact cv_u8 (by omega) | with_reducible exact rem_z (by omega) (by omega) (by omega) | with_reducible exact neq_bool (by kernel_rfl) | with_reducible exact eql_u8 | with_reducible exact wntT_t (by assumption) | with_reducible exact wntT_f (by assumption) | with_reducible exact wntF_t (by assumption) | with_reducible exact wntF_f (by assumption) | with_reducible exact wnt_tt | with_reducible exact wnt_tf | with_reducible exact wnt_ft | with_reducible exact wnt_ff | with_reducible exact wnt_u _ _ | with_reducible exact pck_t _ _ | with_reducible exact pck_f _ _ | with_reducible exact pckT (by assumption) | with_reducible exact pckF (by assumption) | with_reducible exact wntT_t (by decide) | with_reducible exact wntT_f (by decide) | with_reducible exact wntF_t (by decide) | with_reducible exact wntF_f (by decide) | with_reducible exact pckT (by decide) | with_reducible exact pckF (by decide) | with_reducible exact wntN_tt (by decide) | with_reducible exact wntN_tf (by decide) | with_reducible exact wntN_ft (by decide) | with_reducible exact wntN_ff (by decide) | with_reducible exact pckNT (by decide) | with_reducible exact pckNF (by decide) | with_reducible exact wntN_tt (by assumption) | with_reducible exact wntN_tf (by assumption) | with_reducible exact wntN_ft (by assumption) | with_reducible exact wntN_ff (by assumption) | with_reducible exact pckNT (by assumption) | with_reducible exact pckNF (by assumption) | with_reducible exact wntB_tt (by assumption) | with_reducible exact wntB_tf (by assumption) | with_reducible exact wntB_ft (by assumption) | with_reducible exact wntB_ff (by assumption) | with_reducible exact pckBT (by assumption) | with_reducible exact pckBF (by assumption) | exact s2_Vb | exact s1_Vb) : p := h
theorem co_Vb {p : Prop} (h : p := by first | (simp only [impB_1, impB_0, offB_1, offB_0]; done) | ((try simp only [impB_1, impB_0, offB_1, offB_0]); first | with_reducible exact Sl.ag1 (by assumption) fr_Vb (by with_unfolding_all rfl) (by assumption) en_Vb | with_reducible exact Sl.agN (by assumption) fr_Vb (by with_unfolding_all rfl) (by assumption) (by with_unfolding_all rfl) en_Vb | ((with_reducible refine agL1_e ?_ ?_); (· exact s1_Vb); (· exact fl_Vb)) | ((with_reducible refine agLN_e ?_ ?_); (· exact s1_Vb); (· exact fll_Vb)) | ((with_reducible apply ag_bs); (· exact sM_Vb); (· rfl); (· exact sb_Vb); (· exact fll_Vb)) | ((with_reducible apply ag_al); (· exact sM_Vb); (· rfl); (· exact fll_Vb)) | ((with_reducible apply ag_bx); (· exact sM_Vb); (· rfl); (· rfl); (· exact fll_Vb)) | ((with_reducible apply ag_bd); (· rfl); (· exact s1_Vb); (· exact fll_Vb)) | exact s1_Vb)) : p := h
theorem gs_Vb {r p : Prop} (k : r) (h : Go.Ev.Im r p := by (first | with_reducible apply Im.runS | ((with_reducible apply Im.num); · (simp only [Nat.succ_eq_add_one, Nat.add_assoc, Nat.reduceAdd]; rfl)) | (with_reducible apply Im.unm) | (with_reducible apply Im.selT) | (with_reducible apply Im.selF) | ((with_reducible apply Im.cndT); · assumption) | ((with_reducible apply Im.cndF); · assumption) | ((with_reducible apply Im.cndT); · decide) | ((with_reducible apply Im.cndF); · decide) | ((with_reducible apply Im.cndNT); · decide) | ((with_reducible apply Im.cndNF); · decide) | ((with_reducible apply Im.cndBT); · exact rfl) | ((with_reducible apply Im.cndBF); · exact rfl) | ((with_reducible apply Im.cndNT); · assumption) | ((with_reducible apply Im.cndNF); · assumption) | ((with_reducible apply Im.cndBT); · assumption) | ((with_reducible apply Im.cndBF); · assumption) | ((with_reducible apply Im.bind); · exact op_Vb) | ((with_reducible apply Im.cond); · exact co_Vb) | ((with_reducible apply Im.runB); · exact op_Vb) | ((with_reducible apply Im.runC); · exact co_Vb) | ((with_reducible apply Im.runN); · (simp only [Nat.succ_eq_add_one, Nat.add_assoc, Nat.reduceAdd]; rfl)) | with_reducible apply Im.runR | ((with_reducible apply Im.runE (x := evBuildSlice _ _ _ _ _ _)); · exact sb_Vb)); (repeat (first | with_reducible apply Im.runS | ((with_reducible apply Im.num); · (simp only [Nat.succ_eq_add_one, Nat.add_assoc, Nat.reduceAdd]; rfl)) | (with_reducible apply Im.unm) | (with_reducible apply Im.selT) | (with_reducible apply Im.selF) | ((with_reducible apply Im.cndT); · assumption) | ((with_reducible apply Im.cndF); · assumption) | ((with_reducible apply Im.cndT); · decide) | ((with_reducible apply Im.cndF); · decide) | ((with_reducible apply Im.cndNT); · decide) | ((with_reducible apply Im.cndNF); · decide) | ((with_reducible apply Im.cndBT); · exact rfl) | ((with_reducible apply Im.cndBF); · exact rfl) | ((with_reducible apply Im.cndNT); · assumption) | ((with_reducible apply Im.cndNF); · assumption) | ((with_reducible apply Im.cndBT); · assumption) | ((with_reducible apply Im.cndBF); · assumption) | ((with_reducible apply Im.bind); · exact op_Vb) | ((with_reducible apply Im.cond); · exact co_Vb) | ((with_reducible apply Im.runB); · exact op_Vb) | ((with_reducible apply Im.runC); · exact co_Vb) | ((with_reducible apply Im.runN); · (simp only [Nat.succ_eq_add_one, Nat.add_assoc, Nat.reduceAdd]; rfl)) | with_reducible apply Im.runR | ((with_reducible apply Im.runE (x := evBuildSlice _ _ _ _ _ _)); · exact sb_Vb))); exact Go.Ev.Im.id) : p := h k
/-- Is a span within another one? -/
def withB (a c p q : Int) : Bool := decide (p ≤ a) && decide (c ≤ q) && decide (a ≤ c)
theorem c_lwithin (call : CallF) {a c p q : Int} {h N} : Rn (s46 call (.agg ⟨[iS a, iS c]⟩) (.agg ⟨[iS p, iS q]⟩) h N) fun v h' N' => v = .bool (withB a c p q) ∧ Gw h N h' N' := by
  unfold s46 withB
  repeat' (first | refine gs_Vb ?_ | (first | with_reducible refine Rn.part (fun _ => ?_) (fun _ => ?_) | with_reducible refine Rn.partN (fun _ => ?_) (fun _ => ?_) | with_reducible refine Rn.partB (fun _ => ?_) (fun _ => ?_)) | (first | with_reducible refine Rn.cnd (fun _ => ?_) (fun _ => ?_) | with_reducible refine Rn.cndN (fun _ => ?_) (fun _ => ?_) | with_reducible refine Rn.cndB (fun _ => ?_) (fun _ => ?_)))
  all_goals exact Rn.ret ⟨congrArg Value.bool (by simp only [*, decide_true, decide_false, Bool.true_and, Bool.false_and, Bool.and_true, Bool.and_false]), (Gw.of fr_Vb (by omega))⟩
theorem c_has (call : CallF) {l : Value} {L : List Int} {n : Int} {h N} (hn : L.length < 1000) (hl : Sl h N l L) : Rn (s33 call l (iS n) h N) fun v h' N' => v = .bool (decide (n ∈ L)) ∧ Gw h N h' N' := by
  unfold s33
  have c1 := hl.flat
  have x1 := flatV_one c1
  have y1 := cel_flat c1
  try refine gs_Vb ?_
  refine Rn.loop4 (fun m a p q k g M => ∃ i : Nat, a = iS n ∧ l = p ∧ q = nS L.length ∧ k = nS i ∧ i + m = L.length ∧ Fr h N g ∧ N ≤ M ∧ (decide (n ∈ L.drop i) = decide (n ∈ L))) L.length (by omega) ⟨0, rfl, rfl, rfl, rfl, by omega, fr_Vb, by omega, rfl⟩ ?_
  rintro m g ih _ _ _ _ h2 N2 ⟨i, rfl, rfl, rfl, rfl, e2, f2, l2, q2⟩
  try refine gs_Vb ?_
  (first | with_reducible refine Rn.cnd (fun _ => ?_) (fun _ => ?_) | with_reducible refine Rn.cndN (fun _ => ?_) (fun _ => ?_) | with_reducible refine Rn.cndB (fun _ => ?_) (fun _ => ?_))
  · obtain ⟨y, hy⟩ := at_of (L := L) (k := i) (by omega)
    rw [drop_at hy] at q2
    try refine gs_Vb ?_
    (first | with_reducible refine Rn.cnd (fun _ => ?_) (fun _ => ?_) | with_reducible refine Rn.cndN (fun _ => ?_) (fun _ => ?_) | with_reducible refine Rn.cndB (fun _ => ?_) (fun _ => ?_))
    · try refine gs_Vb ?_
      refine Rn.ret ⟨?_, (Gw.of fr_Vb (by omega))⟩
      rw [← q2]
      simp [*]
    · have hne : ¬ n = y := by omega
      try refine gs_Vb ?_
      refine ih (m - 1) (by omega) _ _ _ _ _ _ ⟨i + 1, rfl, rfl, rfl, rfl, by omega, fr_Vb, by omega, ?_⟩
      rw [← q2]
      simp [hne]
  · rw [List.drop_eq_nil_of_le (by omega)] at q2
    try refine gs_Vb ?_
    refine Rn.ret ⟨?_, (Gw.of fr_Vb (by omega))⟩
    rw [← q2]
    simp
section
variable {s : Sp} {b r : Value}
end
end Go.Proofs.Ytpilgokdbliklaa
end

section
namespace Go.Proofs.Ytpilgokdbliklaa
open Go.Ev Go.RowKit
set_option linter.unusedVariables false
set_option linter.unusedSimpArgs false
set_option linter.unusedSectionVars false
set_option maxRecDepth 100000
set_option maxHeartbeats 4000000
theorem s1_Wa {p : Prop} (h : p := by (simp (disch := omega) only [obind_s, orun_s, ocond_t, fad_p, ld1_e, ldN_e, sto_e, cellO_c, wrO_c, Tr.get_same, Tr.get_other, nth_0, nth_s, drp_0, drp_s, drp_n, tak_0, tak_s, tak_n, over_n, over_c, lay_0, lay_s, lay_n, len_n, len_c, app_n, app_c, reps_0, reps_s, cel_agg, cel_int, cel_bool, cel_str, cel_sl, cel_ptr, cel_map, cel_func, cel_nilf, fil_n, fil_c, beq_r, ble_d, allF_n, allF_c, one_int, one_bool, one_str, one_sl, one_ptr, one_map, one_func, one_nilf, Bool.and_true, Bool.true_and, Bool.not_true, Bool.not_false, iadA_z, Int.reduceToNat, Int.toNat_zero, fl1_a, flN_a, extr_t, unot, not_d, Nat.add_eq, Nat.mul_eq, Nat.mul_one, Nat.one_mul, Nat.zero_mul, Nat.reduceMul, Nat.zero_add, Nat.add_zero, Nat.le_refl, decide_true, Nat.reduceAdd, Nat.reduceLeDiff, bsl_Sint, bsl_SReading, bsl_SLine, bld_Span, bld_spring_work, bld_spring_asked, enc_Line, enc_Reading, ocond_d, Int.toNat_natCast, *]); first | done | fail) : p := h
theorem s2_Wa {p : Prop} (h : p := by (simp (disch := omega) only [obind_s, orun_s, ocond_t, fad_p, ld1_e, ldN_e, sto_e, cellO_c, wrO_c, Tr.get_same, Tr.get_other, nth_0, nth_s, drp_0, drp_s, drp_n, tak_0, tak_s, tak_n, over_n, over_c, lay_0, lay_s, lay_n, len_n, len_c, app_n, app_c, reps_0, reps_s, cel_agg, cel_int, cel_bool, cel_str, cel_sl, cel_ptr, cel_map, cel_func, cel_nilf, fil_n, fil_c, beq_r, ble_d, allF_n, allF_c, one_int, one_bool, one_str, one_sl, one_ptr, one_map, one_func, one_nilf, Bool.and_true, Bool.true_and, Bool.not_true, Bool.not_false, iadA_z, Int.reduceToNat, Int.toNat_zero, fl1_a, flN_a, extr_t, unot, not_d, Nat.add_eq, Nat.mul_eq, Nat.mul_one, Nat.one_mul, Nat.zero_mul, Nat.reduceMul, Nat.zero_add, Nat.add_zero, Nat.le_refl, decide_true, Nat.reduceAdd, Nat.reduceLeDiff, bsl_Sint, bsl_SReading, bsl_SLine, bld_Span, bld_spring_work, bld_spring_asked, enc_Line, enc_Reading, ocond_d, Int.toNat_natCast, *]); rfl) : p := h
theorem sb_Wa {p : Prop} (h : p := by first | ((simp (disch := omega) only [obind_s, orun_s, ocond_t, fad_p, ld1_e, ldN_e, sto_e, cellO_c, wrO_c, Tr.get_same, Tr.get_other, nth_0, nth_s, drp_0, drp_s, drp_n, tak_0, tak_s, tak_n, over_n, over_c, lay_0, lay_s, lay_n, len_n, len_c, app_n, app_c, reps_0, reps_s, cel_agg, cel_int, cel_bool, cel_str, cel_sl, cel_ptr, cel_map, cel_func, cel_nilf, fil_n, fil_c, beq_r, ble_d, allF_n, allF_c, one_int, one_bool, one_str, one_sl, one_ptr, one_map, one_func, one_nilf, Bool.and_true, Bool.true_and, Bool.not_true, Bool.not_false, iadA_z, Int.reduceToNat, Int.toNat_zero, fl1_a, flN_a, extr_t, unot, not_d, Nat.add_eq, Nat.mul_eq, Nat.mul_one, Nat.one_mul, Nat.zero_mul, Nat.reduceMul, Nat.zero_add, Nat.add_zero, Nat.le_refl, decide_true, Nat.reduceAdd, Nat.reduceLeDiff, bsl_Sint, bsl_SReading, bsl_SLine, bld_Span, bld_spring_work, bld_spring_asked, enc_Line, enc_Reading, ocond_d, Int.toNat_natCast, Nat.succ_eq_add_one, Nat.add_assoc, *]); rfl) | ((simp (disch := omega) only [obind_s, orun_s, ocond_t, fad_p, ld1_e, ldN_e, sto_e, cellO_c, wrO_c, Tr.get_same, Tr.get_other, nth_0, nth_s, drp_0, drp_s, drp_n, tak_0, tak_s, tak_n, over_n, over_c, lay_0, lay_s, lay_n, len_n, len_c, app_n, app_c, reps_0, reps_s, cel_agg, cel_int, cel_bool, cel_str, cel_sl, cel_ptr, cel_map, cel_func, cel_nilf, fil_n, fil_c, beq_r, ble_d, allF_n, allF_c, one_int, one_bool, one_str, one_sl, one_ptr, one_map, one_func, one_nilf, Bool.and_true, Bool.true_and, Bool.not_true, Bool.not_false, iadA_z, Int.reduceToNat, Int.toNat_zero, fl1_a, flN_a, extr_t, unot, not_d, Nat.add_eq, Nat.mul_eq, Nat.mul_one, Nat.one_mul, Nat.zero_mul, Nat.reduceMul, Nat.zero_add, Nat.add_zero, Nat.le_refl, decide_true, Nat.reduceAdd, Nat.reduceLeDiff, bsl_Sint, bsl_SReading, bsl_SLine, bld_Span, bld_spring_work, bld_spring_asked, enc_Line, enc_Reading, ocond_d, Int.toNat_natCast, Nat.succ_eq_add_one, Nat.add_assoc, *]); done)) : p := h
theorem fr_Wa {p : Prop} (h : p := by first | assumption | exact Fr.refl _ _ | (simp (disch := omega) only [Fr_set, Fr_refl, *])) : p := h
theorem fl_Wa {p : Prop} (h : p := by first | with_unfolding_all rfl | exact Sl.flat (by assumption) | assumption) : p := h
theorem fll_Wa {p : Prop} (h : p := by first | with_unfolding_all rfl | ((repeat (refine flatL_k fl_Wa ?_)); with_unfolding_all rfl)) : p := h
theorem en_Wa {p : Prop} (h : p := by first | ((simp only [enc_int, enc_str, enc_u8, enc_bool, tak_s, tak_0, tak_n, drp_0, drp_s, drp_n, nth_s, nth_0, bsl_Sint, bsl_SReading, bsl_SLine, bld_Span, bld_spring_work, bld_spring_asked, enc_Line, enc_Reading, ocond_d, Int.toNat_natCast]); rfl) | ((simp only [enc_int, enc_str, enc_u8, enc_bool, tak_s, tak_0, tak_n, drp_0, drp_s, drp_n, nth_s, nth_0, bsl_Sint, bsl_SReading, bsl_SLine, bld_Span, bld_spring_work, bld_spring_asked, enc_Line, enc_Reading, ocond_d, Int.toNat_natCast]); done) | with_unfolding_all rfl) : p := h
theorem sM_Wa {p : Prop} (h : p := by (first | assumption | (simp (disch := omega) only [Tr.get_same, Tr.get_other, *]; rfl) | (simp (disch := omega) only [Tr.get_same, Tr.get_other, *]; done))) : p := h
theorem sS_Wa {p : Prop} (h : p := by first | assumption | exact s1_Wa) : p := h
theorem op_Wa {p : Prop} (h : p := by first | with_reducible exact fad_p _ _ _ | with_reducible exact iop_lss _ _ | with_reducible exact iop_leq _ _ | with_reducible exact iop_gtr _ _ | with_reducible exact iop_geq _ _ | with_reducible exact iop_eql _ _ | with_reducible exact iop_neq _ _ | with_reducible exact Sl.len (by assumption) | with_reducible exact lenS_s _ _ _ | with_reducible exact Sl.iad (by assumption) (by with_unfolding_all rfl) (by first | assumption | omega) | with_reducible exact Sl.fad (by assumption) (by first | assumption | omega) | with_reducible exact Sl.ld1 (by assumption) fr_Wa (by with_unfolding_all rfl) (by assumption) en_Wa | with_reducible exact Sl.ldN (by assumption) fr_Wa (by with_unfolding_all rfl) (by assumption) (by with_unfolding_all rfl) en_Wa | with_reducible exact zadd1 (by omega) | with_reducible exact zsub1 (by omega) (by omega) | with_reducible exact zaddI (by omega) (by omega) | with_reducible exact zsubI (by omega) (by omega) | with_reducible exact min_z | with_reducible exact max_z | with_reducible exact zmulI (by assumption) | with_reducible exact zmulK (by omega) (by omega) | with_reducible exact quo_z (by omega) (by omega) (by omega) | with_reducible exact cv_u8 (by omega) | with_reducible exact rem_z (by omega) (by omega) (by omega) | with_reducible exact neq_bool (by kernel_rfl) | with_reducible exact eql_u8 | with_reducible exact wntT_t (by assumption) | with_reducible exact wntT_f (by assumption) | with_reducible exact wntF_t (by assumption) | with_reducible exact wntF_f (by assumption) | with_reducible exact wnt_tt | with_reducible exact wnt_tf | with_reducible exact wnt_ft | with_reducible exact wnt_ff | with_reducible exact wnt_u _ _ | with_reducible exact pck_t _ _ | with_reducible exact pck_f _ _ | with_reducible exact pckT (by assumption) | with_reducible exact pckF (by assumption) | with_reducible exact wntT_t (by decide) | with_reducible exact wntT_f (by decide) | with_reducible exact wntF_t (by decide) | with_reducible exact wntF_f (by decide) | with_reducible exact pckT (by decide) | with_reducible exact pckF (by decide) | with_reducible exact wntN_tt (by decide) | with_reducible exact wntN_tf (by decide) | with_reducible exact wntN_ft (by decide) | with_reducible exact wntN_ff (by decide) | with_reducible exact pckNT (by decide) | with_reducible exact pckNF (by decide) | with_reducible exact wntN_tt (by assumption) | with_reducible exact wntN_tf (by assumption) | with_reducible exact wntN_ft (by assumption) | with_reducible exact wntN_ff (by assumption) | with_reducible exact pckNT (by assumption) | with_reducible exact pckNF (by assumption) | with_reducible exact wntB_tt (by assumption) | with_reducible exact wntB_tf (by assumption) | with_reducible exact wntB_ft (by assumption) | with_reducible exact wntB_ff (by assumption) | with_reducible exact pckBT (by assumption) | with_reducible exact pckBF (by assumption) | exact s2_Wa | exact s1_Wa) : p := h
theorem co_Wa {p : Prop} (h : p := by first | (simp only [impB_1, impB_0, offB_1, offB_0]; done) | ((try simp only [impB_1, impB_0, offB_1, offB_0]); first | with_reducible exact Sl.ag1 (by assumption) fr_Wa (by with_unfolding_all rfl) (by assumption) en_Wa | with_reducible exact Sl.agN (by assumption) fr_Wa (by with_unfolding_all rfl) (by assumption) (by with_unfolding_all rfl) en_Wa | ((with_reducible refine agL1_e ?_ ?_); (· exact s1_Wa); (· exact fl_Wa)) | ((with_reducible refine agLN_e ?_ ?_); (· exact s1_Wa); (· exact fll_Wa)) | ((with_reducible apply ag_bs); (· exact sM_Wa); (· rfl); (· exact sb_Wa); (· exact fll_Wa)) | ((with_reducible apply ag_al); (· exact sM_Wa); (· rfl); (· exact fll_Wa)) | ((with_reducible apply ag_bx); (· exact sM_Wa); (· rfl); (· rfl); (· exact fll_Wa)) | ((with_reducible apply ag_bd); (· rfl); (· exact s1_Wa); (· exact fll_Wa)) | exact s1_Wa)) : p := h
theorem gs_Wa {r p : Prop} (k : r) (h : Go.Ev.Im r p := by (first | with_reducible apply Im.runS | ((with_reducible apply Im.num); · (simp only [Nat.succ_eq_add_one, Nat.add_assoc, Nat.reduceAdd]; rfl)) | (with_reducible apply Im.unm) | (with_reducible apply Im.selT) | (with_reducible apply Im.selF) | ((with_reducible apply Im.cndT); · assumption) | ((with_reducible apply Im.cndF); · assumption) | ((with_reducible apply Im.cndT); · decide) | ((with_reducible apply Im.cndF); · decide) | ((with_reducible apply Im.cndNT); · decide) | ((with_reducible apply Im.cndNF); · decide) | ((with_reducible apply Im.cndBT); · exact rfl) | ((with_reducible apply Im.cndBF); · exact rfl) | ((with_reducible apply Im.cndNT); · assumption) | ((with_reducible apply Im.cndNF); · assumption) | ((with_reducible apply Im.cndBT); · assumption) | ((with_reducible apply Im.cndBF); · assumption) | ((with_reducible apply Im.bind); · exact op_Wa) | ((with_reducible apply Im.cond); · exact co_Wa) | ((with_reducible apply Im.runB); · exact op_Wa) | ((with_reducible apply Im.runC); · exact co_Wa) | ((with_reducible apply Im.runN); · (simp only [Nat.succ_eq_add_one, Nat.add_assoc, Nat.reduceAdd]; rfl)) | with_reducible apply Im.runR | ((with_reducible apply Im.runE (x := evBuildSlice _ _ _ _ _ _)); · exact sb_Wa)); (repeat (first | with_reducible apply Im.runS | ((with_reducible apply Im.num); · (simp only [Nat.succ_eq_add_one, Nat.add_assoc, Nat.reduceAdd]; rfl)) | (with_reducible apply Im.unm) | (with_reducible apply Im.selT) | (with_reducible apply Im.selF) | ((with_reducible apply Im.cndT); · assumption) | ((with_reducible apply Im.cndF); · assumption) | ((with_reducible apply Im.cndT); · decide) | ((with_reducible apply Im.cndF); · decide) | ((with_reducible apply Im.cndNT); · decide) | ((with_reducible apply Im.cndNF); · decide) | ((with_reducible apply Im.cndBT); · exact rfl) | ((with_reducible apply Im.cndBF); · exact rfl) | ((with_reducible apply Im.cndNT); · assumption) | ((with_reducible apply Im.cndNF); · assumption) | ((with_reducible apply Im.cndBT); · assumption) | ((with_reducible apply Im.cndBF); · assumption) | ((with_reducible apply Im.bind); · exact op_Wa) | ((with_reducible apply Im.cond); · exact co_Wa) | ((with_reducible apply Im.runB); · exact op_Wa) | ((with_reducible apply Im.runC); · exact co_Wa) | ((with_reducible apply Im.runN); · (simp only [Nat.succ_eq_add_one, Nat.add_assoc, Nat.reduceAdd]; rfl)) | with_reducible apply Im.runR | ((with_reducible apply Im.runE (x := evBuildSlice _ _ _ _ _ _)); · exact sb_Wa))); exact Go.Ev.Im.id) : p := h k
theorem mT : mapT Pr 167 = some (3, 4) := by kernel_rfl
theorem mK : Pr.underlying 3 = some (.int .i64) := by kernel_rfl
theorem mZ : zval Pr 4 = some (.bool false) := by kernel_rfl
theorem put_r {h : Tr Ob} {N i : Nat} {K : List Int} {z : Int} (m : Mp h i K) : Rn (evMapPut Pr 167 (.map (some i)) (iS z) (.bool true) h N) fun v h' N' => Mp h' i (if z ∈ K then K else K ++ [z]) ∧ Gx i h N h' N' := by
  obtain ⟨ob, e, m'⟩ := put_z (z := z) (N := N) mT mK m
  exact Rn.eq e (Rn.ret ⟨m' _ (Tr.get_same _ _ _), Gx.of (fun j _ hj => Tr.get_other _ _ hj) (Nat.le_refl _)⟩)
theorem del_r {h : Tr Ob} {N i : Nat} {K : List Int} {z : Int} (m : Mp h i K) : Rn (evDelete Pr 167 (.map (some i)) (iS z) h N) fun v h' N' => Mp h' i (K.erase z) ∧ Gx i h N h' N' := by
  obtain ⟨h', e, o, m'⟩ := del_z (z := z) (N := N) mT mK m
  exact Rn.eq e (Rn.ret ⟨m', Gx.of (fun j _ hj => o j hj) (Nat.le_refl _)⟩)
theorem c_without1 (call : CallF) {x : Rd} {h : Tr Ob} {N c i : Nat} {K : List Int} (hc : h.get c = some (.c [.map (some i)] 167)) (hcN : c < N) (hiN : i < N) (m : Mp h i K) :
    Rn (s109 call (.agg ⟨Rwc.enc x⟩) (.pointer (some ⟨c, 0, none⟩)) h N) fun v h' N' => v = .bool (decide (¬ x.Number ∈ K)) ∧ Gw h N h' N' := by
  unfold s109
  simp only [enc_Reading]
  try refine gs_Wa ?_
  refine Rn.bind (get_z mT mK mZ (m.keep sS_Wa)) ?_
  try refine gs_Wa ?_
  exact Rn.ret ⟨rfl, (Gw.of fr_Wa (by omega))⟩
theorem dyn_without1 (d : Nat) (st : Ev.St) (hst : lookS st 109 = none) (y p : Value) (h : Tr Ob) (N : Nat) : callW st (cN (d + 1)) (.func (.func 109) ⟨[]⟩ ⟨[p]⟩) [y] h N = s109 (cN d) y p h N := by
  show (Option.rec (motive := fun _ => OpR) (cN (d + 1) (.func (.func 109) ⟨[]⟩ ⟨[p]⟩) [y] h N) (fun F => F (cN (d + 1)) (app [] (app [y] [p])) h N) (lookS st 109)) = _
  rw [hst]; rfl
/-- The readings that have none of these numbers. -/
def woL (R : List Rd) (L : List Int) : List Rd := R.filter fun x => decide (x.Number ∉ L)
def woS (s : Sp) (L : List Int) : Sp := { s with reads := woL s.reads L }
theorem elz_rd : elz Pr 71 = some (Rwc.w Rd, Rwc.enc (⟨0, 0, 0, 0, 0⟩ : Rd)) := by kernel_rfl
section
variable {s : Sp} {b r : Value}
theorem c_without (d : Nat) {l : Value} {L : List Int} {h N} (nb : s.book.length < 1000) (nr : s.reads.length < 1000) (hb : Sl h N b s.book) (hr : Sl h N r s.reads) (hn : L.length < 1000) (hl : Sl h N l L) :
    Rn (s89 (cN (d + 2)) (.agg ⟨[iS s.weeks, iS s.most, iS s.fall, iS s.slo, iS s.shi, iS s.wlo, iS s.whi, b, r]⟩) l h N) fun v h' N' => (∃ b' r', v = .agg ⟨[iS s.weeks, iS s.most, iS s.fall, iS s.slo, iS s.shi, iS s.wlo, iS s.whi, b', r']⟩ ∧ WrR N N' h' b' s.book ∧ WrR N N' h' r' (woL s.reads L)) ∧ Gw h N h' N' := by
  unfold s89
  have cb := hb.flat; have cr := hr.flat; have x1 := flatV_one cb; have y1 := cel_flat cb; have x2 := flatV_one cr; have y2 := cel_flat cr
  have cl := hl.flat
  have x3 := flatV_one cl
  have y3 := cel_flat cl
  try refine gs_Wa ?_
  refine Rn.loop7 (fun n a1 a2 a3 a4 a5 a6 a7 g M => ∃ (i : Nat) (K : List Int), l = a1 ∧ a2 = .pointer (some ⟨N, 0, none⟩) ∧ a3 = .pointer (some ⟨N + 1, 0, none⟩) ∧ a4 = .pointer (some ⟨N + 3, 0, none⟩) ∧ r = a5 ∧ a6 = nS s.reads.length ∧ a7 = nS i ∧ i + n = s.reads.length ∧ Fr h N g ∧ N + 4 ≤ M ∧
    g.get N = some (.c [iS s.weeks, iS s.most, iS s.fall, iS s.slo, iS s.shi, iS s.wlo, iS s.whi, b, r] 106) ∧ g.get (N + 1) = some (.c [iS 0, iS 0, iS 0, iS 0, iS 0, iS 0, iS 0, .slice none 0 0, .slice none 0 0] 106) ∧ g.get (N + 3) = some (.c [.map (some (N + 2))] 167) ∧ Mp g (N + 2) K ∧ K.Nodup ∧ ∀ z, z ∈ K ↔ z ∈ (s.reads.take i).map (·.Number)) s.reads.length (by omega)
    ⟨0, [], rfl, rfl, rfl, rfl, rfl, rfl, rfl, by omega, fr_Wa, by omega, sS_Wa, sS_Wa, sS_Wa, Mp.nil (c := 0) sS_Wa, List.nodup_nil, by simp⟩ ?_
  rintro n g ih _ _ _ _ _ _ _ h2 N2 ⟨i, K, rfl, rfl, rfl, rfl, rfl, rfl, rfl, e2, f2, l2, g1, g2, g3, mp, nd, hK⟩
  try refine gs_Wa ?_
  (first | with_reducible refine Rn.cnd (fun _ => ?_) (fun _ => ?_) | with_reducible refine Rn.cndN (fun _ => ?_) (fun _ => ?_) | with_reducible refine Rn.cndB (fun _ => ?_) (fun _ => ?_))
  · obtain ⟨x, hx⟩ := at_of (L := s.reads) (k := i) (by omega)
    have hi : i < s.reads.length := by omega
    try refine gs_Wa ?_
    refine Rn.call (put_r (mp.keep sS_Wa)) ?_
    rintro _ h3 N3 ⟨mp3, f3, o3, l3⟩
    try refine gs_Wa ?_
    refine ih (n - 1) (by omega) _ _ _ _ _ _ _ _ _ ⟨i + 1, _, rfl, rfl, rfl, rfl, rfl, rfl, rfl, by omega, fr_Wa, by omega, (o3 (by omega) (by omega)).trans sS_Wa, (o3 (by omega) (by omega)).trans sS_Wa, (o3 (by omega) (by omega)).trans sS_Wa, mp3, ?_, ?_⟩
    · split
      · exact nd
      · rename_i hz
        exact List.nodup_append.2 ⟨nd, by simp, fun a ha c hc => by simp at hc; subst hc; exact fun e => hz (e ▸ ha)⟩
    · intro z
      rw [List.take_add_one, hx]
      have hz := hK z
      have hxK := hK x.Number
      split
      · rename_i hm
        simp only [Option.toList_some, List.map_append, List.mem_append, List.map_cons, List.map_nil, List.mem_singleton]
        constructor
        · exact fun h => .inl (hz.1 h)
        · rintro (h | h)
          · exact hz.2 h
          · rw [h]; exact hm
      · simp only [Option.toList_some, List.map_append, List.mem_append, List.map_cons, List.map_nil, List.mem_singleton, hz]
  · obtain rfl : i = s.reads.length := by omega
    rw [List.take_length] at hK
    clear ih
    try refine gs_Wa ?_
    refine Rn.loop6 (fun n a2 a3 a4 a1 a6 a7 g M => ∃ (i : Nat) (K : List Int), l = a1 ∧ a2 = .pointer (some ⟨N, 0, none⟩) ∧ a3 = .pointer (some ⟨N + 1, 0, none⟩) ∧ a4 = .pointer (some ⟨N + 3, 0, none⟩) ∧ a6 = nS L.length ∧ a7 = nS i ∧ i + n = L.length ∧ Fr h N g ∧ N + 4 ≤ M ∧
      g.get N = some (.c [iS s.weeks, iS s.most, iS s.fall, iS s.slo, iS s.shi, iS s.wlo, iS s.whi, b, r] 106) ∧ g.get (N + 1) = some (.c [iS 0, iS 0, iS 0, iS 0, iS 0, iS 0, iS 0, .slice none 0 0, .slice none 0 0] 106) ∧ g.get (N + 3) = some (.c [.map (some (N + 2))] 167) ∧ Mp g (N + 2) K ∧ K.Nodup ∧ ∀ z, z ∈ K ↔ z ∈ s.reads.map (·.Number) ∧ z ∉ L.take i) L.length (by omega)
      ⟨0, K, rfl, rfl, rfl, rfl, rfl, rfl, by omega, fr_Wa, by omega, sS_Wa, sS_Wa, sS_Wa, mp, nd, by simpa using hK⟩ ?_
    clear hK mp nd g1 g2 g3 f2 l2
    rintro n g ih _ _ _ _ _ _ h3 N3 ⟨i, K, rfl, rfl, rfl, rfl, rfl, rfl, e2, f2, l2, g1, g2, g3, mp, nd, hK⟩
    try refine gs_Wa ?_
    (first | with_reducible refine Rn.cnd (fun _ => ?_) (fun _ => ?_) | with_reducible refine Rn.cndN (fun _ => ?_) (fun _ => ?_) | with_reducible refine Rn.cndB (fun _ => ?_) (fun _ => ?_))
    · obtain ⟨x, hx⟩ := at_of (L := L) (k := i) (by omega)
      have hi : i < L.length := by omega
      try refine gs_Wa ?_
      refine Rn.call (del_r (z := x) (mp.keep sS_Wa)) ?_
      rintro _ h4 N4 ⟨mp3, f3, o3, l3⟩
      try refine gs_Wa ?_
      refine ih (n - 1) (by omega) _ _ _ _ _ _ _ _ ⟨i + 1, _, rfl, rfl, rfl, rfl, rfl, rfl, by omega, fr_Wa, by omega, (o3 (by omega) (by omega)).trans sS_Wa, (o3 (by omega) (by omega)).trans sS_Wa, (o3 (by omega) (by omega)).trans sS_Wa, mp3, nd.erase _, ?_⟩
      intro z
      rw [nd.mem_erase_iff, hK z, List.take_add_one, hx]
      simp only [Option.toList_some, List.mem_append, List.mem_singleton, not_or]
      constructor
      · rintro ⟨h1, h2, h3⟩; exact ⟨h2, h3, h1⟩
      · rintro ⟨h2, h3, h1⟩; exact ⟨h1, h2, h3⟩
    · obtain rfl : i = L.length := by omega
      rw [List.take_length] at hK
      clear ih
      try refine gs_Wa ?_
      refine Rn.call (c_copied _ nb nr (Sl.up (by assumption) fr_Wa (by omega)) (Sl.up (by assumption) fr_Wa (by omega))) ?_
      rintro _ h4 N4 ⟨⟨b', r', K1, rfl, k1, k2, q1, q2⟩, f4, o4, l4⟩
      have s1 := q1.sl k2
      have s2 := q2.sl (Nat.le_refl _)
      have c1 := flatV_one s1.flat
      have c2 := flatV_one s2.flat
      have d1 := cel_flat s1.flat
      have d2 := cel_flat s2.flat
      have m4 : Mp h4 (N + 2) K := mp.keep sS_Wa
      have g4 : h4.get (N + 3) = some (.c [.map (some (N + 2))] 167) := sS_Wa
      have ef : s.reads.filter (fun x => !(fun x : Rd => decide (¬ x.Number ∈ K)) x) = woL s.reads L := by
        unfold woL
        refine List.filter_congr fun x hx => ?_
        have hz := hK x.Number
        have hm : x.Number ∈ s.reads.map (·.Number) := List.mem_map.2 ⟨x, hx, rfl⟩
        by_cases hxL : x.Number ∈ L
        · have : ¬ x.Number ∈ K := fun h => (hz.1 h).2 hxL
          simp [hxL, this]
        · have : x.Number ∈ K := hz.2 ⟨hm, hxL⟩
          simp [hxL, this]
      try refine gs_Wa ?_
      have w : ∃ i, N ≤ i ∧ i < N4 ∧ (K1 ≤ i ∨ i = N) ∧ ∀ h' : Tr Ob, (∀ j, K1 ≤ j → j < N4 → h'.get j = h4.get j) → Ow h' 71 r' s.reads i := by
        rcases q2 with ⟨rfl, e⟩ | ⟨i, g1, g2, o⟩
        · rw [e]; exact ⟨N, by omega, by omega, .inr rfl, fun h' _ => Ow.nil _ _ _⟩
        · exact ⟨i, by omega, g2, .inl g1, fun h' hk => o.keep (hk i g1 g2)⟩
      obtain ⟨i, i1, i2, i3, w⟩ := w
      refine Rn.call (Rn.eq (y := delF Pr 25 71 5 (Rwc.enc (⟨0, 0, 0, 0, 0⟩ : Rd)) [(107, F107)] (cN (d + 2)) r' (.func (.func 109) ⟨[]⟩ ⟨[.pointer (some ⟨N + 3, 0, none⟩)]⟩) _ _) rfl
        (delX_ok (α := Rd) (i := i) rfl ap_SReading ⟨0, 0, 0, 0, 0⟩ elz_rd (cN (d + 2)) (fun x => decide (¬ x.Number ∈ K)) (by omega) (w _ fun j g1 g2 => sS_Wa) (by omega) (fun x hx h5 N5 f5 l5 => ?_) (fun x hx h5 N5 f5 l5 => ?_))) ?_
      · rw [dyn_without1 _ _ rfl]
        exact c_without1 _ (c := N + 3) (i := N + 2) ((f5 _ (by omega) (by omega)).trans sS_Wa) (by omega) (by omega) (m4.keep ((f5 _ (by omega) (by omega)).trans sS_Wa))
      · rw [dyn_without1 _ _ rfl]
        exact c_without1 _ (c := N + 3) (i := N + 2) ((f5 _ (by omega) (by omega)).trans sS_Wa) (by omega) (by omega) (m4.keep ((f5 _ (by omega) (by omega)).trans sS_Wa))
      rintro r'' h5 N5 ⟨q3, f5, o5, l5⟩
      have q4 : Sl h5 N5 b' s.book := (q1.keep fun j g1 g2 => (o5 (by omega) (by omega)).trans sS_Wa).sl (by omega)
      rw [ef] at q3
      have s3 := q3.sl (N := N5) (by omega)
      have c3 := flatV_one s3.flat
      have d3 := cel_flat s3.flat
      try refine gs_Wa ?_
      refine Rn.ret ⟨⟨b', r'', rfl, ?_, ?_⟩, (Gw.of fr_Wa (by omega))⟩
      · refine (WrR.of (q1.keep fun j g1 g2 => ?_)).wide (by omega) (by omega)
        have e := (o5 (j := j) (by omega) (by omega)).trans (show _ = h4.get j from sS_Wa)
        exact sS_Wa
      · exact (q3.keep fun j g1 g2 => sS_Wa).wide (by omega) (by omega)
end
end Go.Proofs.Ytpilgokdbliklaa
end

section
namespace Go.Proofs.Ytpilgokdbliklaa
open Go.Ev Go.RowKit
set_option linter.unusedVariables false
set_option linter.unusedSimpArgs false
set_option linter.unusedSectionVars false
set_option maxRecDepth 100000
set_option maxHeartbeats 4000000
theorem s1_Wb {p : Prop} (h : p := by (simp (disch := omega) only [obind_s, orun_s, ocond_t, fad_p, ld1_e, ldN_e, sto_e, cellO_c, wrO_c, Tr.get_same, Tr.get_other, nth_0, nth_s, drp_0, drp_s, drp_n, tak_0, tak_s, tak_n, over_n, over_c, lay_0, lay_s, lay_n, len_n, len_c, app_n, app_c, reps_0, reps_s, cel_agg, cel_int, cel_bool, cel_str, cel_sl, cel_ptr, cel_map, cel_func, cel_nilf, fil_n, fil_c, beq_r, ble_d, allF_n, allF_c, one_int, one_bool, one_str, one_sl, one_ptr, one_map, one_func, one_nilf, Bool.and_true, Bool.true_and, Bool.not_true, Bool.not_false, iadA_z, Int.reduceToNat, Int.toNat_zero, fl1_a, flN_a, extr_t, unot, not_d, Nat.add_eq, Nat.mul_eq, Nat.mul_one, Nat.one_mul, Nat.zero_mul, Nat.reduceMul, Nat.zero_add, Nat.add_zero, Nat.le_refl, decide_true, Nat.reduceAdd, Nat.reduceLeDiff, bsl_Sint, bsl_SReading, bsl_SLine, bld_Span, bld_spring_work, bld_spring_asked, enc_Line, enc_Reading, ocond_d, Int.toNat_natCast, *]); first | done | fail) : p := h
theorem s2_Wb {p : Prop} (h : p := by (simp (disch := omega) only [obind_s, orun_s, ocond_t, fad_p, ld1_e, ldN_e, sto_e, cellO_c, wrO_c, Tr.get_same, Tr.get_other, nth_0, nth_s, drp_0, drp_s, drp_n, tak_0, tak_s, tak_n, over_n, over_c, lay_0, lay_s, lay_n, len_n, len_c, app_n, app_c, reps_0, reps_s, cel_agg, cel_int, cel_bool, cel_str, cel_sl, cel_ptr, cel_map, cel_func, cel_nilf, fil_n, fil_c, beq_r, ble_d, allF_n, allF_c, one_int, one_bool, one_str, one_sl, one_ptr, one_map, one_func, one_nilf, Bool.and_true, Bool.true_and, Bool.not_true, Bool.not_false, iadA_z, Int.reduceToNat, Int.toNat_zero, fl1_a, flN_a, extr_t, unot, not_d, Nat.add_eq, Nat.mul_eq, Nat.mul_one, Nat.one_mul, Nat.zero_mul, Nat.reduceMul, Nat.zero_add, Nat.add_zero, Nat.le_refl, decide_true, Nat.reduceAdd, Nat.reduceLeDiff, bsl_Sint, bsl_SReading, bsl_SLine, bld_Span, bld_spring_work, bld_spring_asked, enc_Line, enc_Reading, ocond_d, Int.toNat_natCast, *]); rfl) : p := h
theorem sb_Wb {p : Prop} (h : p := by first | ((simp (disch := omega) only [obind_s, orun_s, ocond_t, fad_p, ld1_e, ldN_e, sto_e, cellO_c, wrO_c, Tr.get_same, Tr.get_other, nth_0, nth_s, drp_0, drp_s, drp_n, tak_0, tak_s, tak_n, over_n, over_c, lay_0, lay_s, lay_n, len_n, len_c, app_n, app_c, reps_0, reps_s, cel_agg, cel_int, cel_bool, cel_str, cel_sl, cel_ptr, cel_map, cel_func, cel_nilf, fil_n, fil_c, beq_r, ble_d, allF_n, allF_c, one_int, one_bool, one_str, one_sl, one_ptr, one_map, one_func, one_nilf, Bool.and_true, Bool.true_and, Bool.not_true, Bool.not_false, iadA_z, Int.reduceToNat, Int.toNat_zero, fl1_a, flN_a, extr_t, unot, not_d, Nat.add_eq, Nat.mul_eq, Nat.mul_one, Nat.one_mul, Nat.zero_mul, Nat.reduceMul, Nat.zero_add, Nat.add_zero, Nat.le_refl, decide_true, Nat.reduceAdd, Nat.reduceLeDiff, bsl_Sint, bsl_SReading, bsl_SLine, bld_Span, bld_spring_work, bld_spring_asked, enc_Line, enc_Reading, ocond_d, Int.toNat_natCast, Nat.succ_eq_add_one, Nat.add_assoc, *]); rfl) | ((simp (disch := omega) only [obind_s, orun_s, ocond_t, fad_p, ld1_e, ldN_e, sto_e, cellO_c, wrO_c, Tr.get_same, Tr.get_other, nth_0, nth_s, drp_0, drp_s, drp_n, tak_0, tak_s, tak_n, over_n, over_c, lay_0, lay_s, lay_n, len_n, len_c, app_n, app_c, reps_0, reps_s, cel_agg, cel_int, cel_bool, cel_str, cel_sl, cel_ptr, cel_map, cel_func, cel_nilf, fil_n, fil_c, beq_r, ble_d, allF_n, allF_c, one_int, one_bool, one_str, one_sl, one_ptr, one_map, one_func, one_nilf, Bool.and_true, Bool.true_and, Bool.not_true, Bool.not_false, iadA_z, Int.reduceToNat, Int.toNat_zero, fl1_a, flN_a, extr_t, unot, not_d, Nat.add_eq, Nat.mul_eq, Nat.mul_one, Nat.one_mul, Nat.zero_mul, Nat.reduceMul, Nat.zero_add, Nat.add_zero, Nat.le_refl, decide_true, Nat.reduceAdd, Nat.reduceLeDiff, bsl_Sint, bsl_SReading, bsl_SLine, bld_Span, bld_spring_work, bld_spring_asked, enc_Line, enc_Reading, ocond_d, Int.toNat_natCast, Nat.succ_eq_add_one, Nat.add_assoc, *]); done)) : p := h
theorem fr_Wb {p : Prop} (h : p := by first | assumption | exact Fr.refl _ _ | (simp (disch := omega) only [Fr_set, Fr_refl, *])) : p := h
theorem fl_Wb {p : Prop} (h : p := by first | with_unfolding_all rfl | exact Sl.flat (by assumption) | assumption) : p := h
theorem fll_Wb {p : Prop} (h : p := by first | with_unfolding_all rfl | ((repeat (refine flatL_k fl_Wb ?_)); with_unfolding_all rfl)) : p := h
theorem en_Wb {p : Prop} (h : p := by first | ((simp only [enc_int, enc_str, enc_u8, enc_bool, tak_s, tak_0, tak_n, drp_0, drp_s, drp_n, nth_s, nth_0, bsl_Sint, bsl_SReading, bsl_SLine, bld_Span, bld_spring_work, bld_spring_asked, enc_Line, enc_Reading, ocond_d, Int.toNat_natCast]); rfl) | ((simp only [enc_int, enc_str, enc_u8, enc_bool, tak_s, tak_0, tak_n, drp_0, drp_s, drp_n, nth_s, nth_0, bsl_Sint, bsl_SReading, bsl_SLine, bld_Span, bld_spring_work, bld_spring_asked, enc_Line, enc_Reading, ocond_d, Int.toNat_natCast]); done) | with_unfolding_all rfl) : p := h
theorem sM_Wb {p : Prop} (h : p := by (first | assumption | (simp (disch := omega) only [Tr.get_same, Tr.get_other, *]; rfl) | (simp (disch := omega) only [Tr.get_same, Tr.get_other, *]; done))) : p := h
theorem sS_Wb {p : Prop} (h : p := by first | assumption | exact s1_Wb) : p := h
theorem op_Wb {p : Prop} (h : p := by first | with_reducible exact fad_p _ _ _ | with_reducible exact iop_lss _ _ | with_reducible exact iop_leq _ _ | with_reducible exact iop_gtr _ _ | with_reducible exact iop_geq _ _ | with_reducible exact iop_eql _ _ | with_reducible exact iop_neq _ _ | with_reducible exact Sl.len (by assumption) | with_reducible exact lenS_s _ _ _ | with_reducible exact Sl.iad (by assumption) (by with_unfolding_all rfl) (by first | assumption | omega) | with_reducible exact Sl.fad (by assumption) (by first | assumption | omega) | with_reducible exact Sl.ld1 (by assumption) fr_Wb (by with_unfolding_all rfl) (by assumption) en_Wb | with_reducible exact Sl.ldN (by assumption) fr_Wb (by with_unfolding_all rfl) (by assumption) (by with_unfolding_all rfl) en_Wb | with_reducible exact zadd1 (by omega) | with_reducible exact zsub1 (by omega) (by omega) | with_reducible exact zaddI (by omega) (by omega) | with_reducible exact zsubI (by omega) (by omega) | with_reducible exact min_z | with_reducible exact max_z | with_reducible exact zmulI (by assumption) | with_reducible exact zmulK (by omega) (by omega) | with_reducible exact quo_z (by omega) (by omega) (by omega) | with_reducible exact cv_u8 (by omega) | with_reducible exact rem_z (by omega) (by omega) (by omega) | with_reducible exact neq_bool (by kernel_rfl) | with_reducible exact eql_u8 | with_reducible exact wntT_t (by assumption) | with_reducible exact wntT_f (by assumption) | with_reducible exact wntF_t (by assumption) | with_reducible exact wntF_f (by assumption) | with_reducible exact wnt_tt | with_reducible exact wnt_tf | with_reducible exact wnt_ft | with_reducible exact wnt_ff | with_reducible exact wnt_u _ _ | with_reducible exact pck_t _ _ | with_reducible exact pck_f _ _ | with_reducible exact pckT (by assumption) | with_reducible exact pckF (by assumption) | with_reducible exact wntT_t (by decide) | with_reducible exact wntT_f (by decide) | with_reducible exact wntF_t (by decide) | with_reducible exact wntF_f (by decide) | with_reducible exact pckT (by decide) | with_reducible exact pckF (by decide) | with_reducible exact wntN_tt (by decide) | with_reducible exact wntN_tf (by decide) | with_reducible exact wntN_ft (by decide) | with_reducible exact wntN_ff (by decide) | with_reducible exact pckNT (by decide) | with_reducible exact pckNF (by decide) | with_reducible exact wntN_tt (by assumption) | with_reducible exact wntN_tf (by assumption) | with_reducible exact wntN_ft (by assumption) | with_reducible exact wntN_ff (by assumption) | with_reducible exact pckNT (by assumption) | with_reducible exact pckNF (by assumption) | with_reducible exact wntB_tt (by assumption) | with_reducible exact wntB_tf (by assumption) | with_reducible exact wntB_ft (by assumption) | with_reducible exact wntB_ff (by assumption) | with_reducible exact pckBT (by assumption) | with_reducible exact pckBF (by assumption) | exact s2_Wb | exact s1_Wb) : p := h
theorem co_Wb {p : Prop} (h : p := by first | (simp only [impB_1, impB_0, offB_1, offB_0]; done) | ((try simp only [impB_1, impB_0, offB_1, offB_0]); first | with_reducible exact Sl.ag1 (by assumption) fr_Wb (by with_unfolding_all rfl) (by assumption) en_Wb | with_reducible exact Sl.agN (by assumption) fr_Wb (by with_unfolding_all rfl) (by assumption) (by with_unfolding_all rfl) en_Wb | ((with_reducible refine agL1_e ?_ ?_); (· exact s1_Wb); (· exact fl_Wb)) | ((with_reducible refine agLN_e ?_ ?_); (· exact s1_Wb); (· exact fll_Wb)) | ((with_reducible apply ag_bs); (· exact sM_Wb); (· rfl); (· exact sb_Wb); (· exact fll_Wb)) | ((with_reducible apply ag_al); (· exact sM_Wb); (· rfl); (· exact fll_Wb)) | ((with_reducible apply ag_bx); (· exact sM_Wb); (· rfl); (· rfl); (· exact fll_Wb)) | ((with_reducible apply ag_bd); (· rfl); (· exact s1_Wb); (· exact fll_Wb)) | exact s1_Wb)) : p := h
theorem gs_Wb {r p : Prop} (k : r) (h : Go.Ev.Im r p := by (first | with_reducible apply Im.runS | ((with_reducible apply Im.num); · (simp only [Nat.succ_eq_add_one, Nat.add_assoc, Nat.reduceAdd]; rfl)) | (with_reducible apply Im.unm) | (with_reducible apply Im.selT) | (with_reducible apply Im.selF) | ((with_reducible apply Im.cndT); · assumption) | ((with_reducible apply Im.cndF); · assumption) | ((with_reducible apply Im.cndT); · decide) | ((with_reducible apply Im.cndF); · decide) | ((with_reducible apply Im.cndNT); · decide) | ((with_reducible apply Im.cndNF); · decide) | ((with_reducible apply Im.cndBT); · exact rfl) | ((with_reducible apply Im.cndBF); · exact rfl) | ((with_reducible apply Im.cndNT); · assumption) | ((with_reducible apply Im.cndNF); · assumption) | ((with_reducible apply Im.cndBT); · assumption) | ((with_reducible apply Im.cndBF); · assumption) | ((with_reducible apply Im.bind); · exact op_Wb) | ((with_reducible apply Im.cond); · exact co_Wb) | ((with_reducible apply Im.runB); · exact op_Wb) | ((with_reducible apply Im.runC); · exact co_Wb) | ((with_reducible apply Im.runN); · (simp only [Nat.succ_eq_add_one, Nat.add_assoc, Nat.reduceAdd]; rfl)) | with_reducible apply Im.runR | ((with_reducible apply Im.runE (x := evBuildSlice _ _ _ _ _ _)); · exact sb_Wb)); (repeat (first | with_reducible apply Im.runS | ((with_reducible apply Im.num); · (simp only [Nat.succ_eq_add_one, Nat.add_assoc, Nat.reduceAdd]; rfl)) | (with_reducible apply Im.unm) | (with_reducible apply Im.selT) | (with_reducible apply Im.selF) | ((with_reducible apply Im.cndT); · assumption) | ((with_reducible apply Im.cndF); · assumption) | ((with_reducible apply Im.cndT); · decide) | ((with_reducible apply Im.cndF); · decide) | ((with_reducible apply Im.cndNT); · decide) | ((with_reducible apply Im.cndNF); · decide) | ((with_reducible apply Im.cndBT); · exact rfl) | ((with_reducible apply Im.cndBF); · exact rfl) | ((with_reducible apply Im.cndNT); · assumption) | ((with_reducible apply Im.cndNF); · assumption) | ((with_reducible apply Im.cndBT); · assumption) | ((with_reducible apply Im.cndBF); · assumption) | ((with_reducible apply Im.bind); · exact op_Wb) | ((with_reducible apply Im.cond); · exact co_Wb) | ((with_reducible apply Im.runB); · exact op_Wb) | ((with_reducible apply Im.runC); · exact co_Wb) | ((with_reducible apply Im.runN); · (simp only [Nat.succ_eq_add_one, Nat.add_assoc, Nat.reduceAdd]; rfl)) | with_reducible apply Im.runR | ((with_reducible apply Im.runE (x := evBuildSlice _ _ _ _ _ _)); · exact sb_Wb))); exact Go.Ev.Im.id) : p := h k
def stB (R : List Rd) : Int → List Int → Bool
  | _, [] => true
  | p, n :: l => decide (p < n) && R.any (fun x => decide (x.Number = n)) && stB R n l
def stE (s : Sp) (L : List Int) : Int := if validB s then (if stB s.reads 0 L then 0 else 12) else 10
def stR (s : Sp) (L : List Int) : Sp := if stE s L = 0 then woS s L else zS
theorem c_strike1 (call : CallF) {x : Rd} {n : Int} {h : Tr Ob} {N c : Nat} (hc : h.get c = some (.c [iS n] 3)) (hcN : c < N) :
    Rn (s87 call (.agg ⟨Rwc.enc x⟩) (.pointer (some ⟨c, 0, none⟩)) h N) fun v h' N' => v = .bool (decide (x.Number = n)) ∧ Gw h N h' N' := by
  unfold s87
  simp only [enc_Reading]
  try refine gs_Wb ?_
  exact Rn.ret ⟨rfl, (Gw.of fr_Wb (by omega))⟩
theorem dyn_strike1 (d : Nat) (st : Ev.St) (hst : lookS st 87 = none) (y p : Value) (h : Tr Ob) (N : Nat) : callW st (cN (d + 1)) (.func (.func 87) ⟨[]⟩ ⟨[p]⟩) [y] h N = s87 (cN d) y p h N := by
  show (Option.rec (motive := fun _ => OpR) (cN (d + 1) (.func (.func 87) ⟨[]⟩ ⟨[p]⟩) [y] h N) (fun F => F (cN (d + 1)) (app [] (app [y] [p])) h N) (lookS st 87)) = _
  rw [hst]; rfl
theorem idxP_any {α : Type} [Rwc α] {p : α → Bool} (L : List α) : decide (0 ≤ idxP p L 0) = L.any p := by
  rcases idxP_spec p L 0 with ⟨h1, h2⟩ | ⟨j, h1, h2, ⟨x, h3, h4⟩, _⟩
  · rw [h1, h2]; rfl
  · rw [h1, decide_eq_true (by omega)]
    exact (List.any_eq_true.2 ⟨x, List.mem_of_getElem? h3, h4⟩).symm
theorem c_containsR (call : CallF) {fv v : Value} {L : List Rd} {h N} (p : Rd → Bool) (hl : L.length < 1000) (hs : Sl h N v L)
    (hp : ∀ x ∈ L, ∀ h1 N1, Fr h N h1 → N ≤ N1 → Rn (callW [] call fv [.agg ⟨Rwc.enc x⟩] h1 N1) fun u h2 N2 => u = .bool (p x) ∧ Gw h1 N1 h2 N2) :
    Rn (s88 call v fv h N) fun u h' N' => u = .bool (L.any p) ∧ Gw h N h' N' := by
  unfold s88
  refine Rn.call (Rn.eq (y := idxF 5 call v fv h N) rfl (idxF_ok rfl call p (by omega) hs hp)) ?_
  rintro _ h1 N1 ⟨rfl, f1, o1, l1⟩
  try refine gs_Wb ?_
  exact Rn.ret ⟨by rw [idxP_any], ⟨f1, o1, l1⟩⟩
section
variable {s : Sp} {b r : Value}
theorem c_Strike (d : Nat) {l : Value} {L : List Int} {h N} (nb : s.book.length < 1000) (nr : s.reads.length < 1000) (hb : Sl h N b s.book) (hr : Sl h N r s.reads) (hn : L.length < 1000) (hl : Sl h N l L) :
    Rn (s49 (cN (d + 3)) (.agg ⟨[iS s.weeks, iS s.most, iS s.fall, iS s.slo, iS s.shi, iS s.wlo, iS s.whi, b, r]⟩) l h N) fun v h' N' =>
      (∃ b' r', v = .tuple ⟨[.agg ⟨[iS (stR s L).weeks, iS (stR s L).most, iS (stR s L).fall, iS (stR s L).slo, iS (stR s L).shi, iS (stR s L).wlo, iS (stR s L).whi, b', r']⟩, iS (stE s L)]⟩ ∧ Sl h' N' b' (stR s L).book ∧ Sl h' N' r' (stR s L).reads) ∧ Gw h N h' N' := by
  unfold s49
  have cb := hb.flat; have cr := hr.flat; have x1 := flatV_one cb; have y1 := cel_flat cb; have x2 := flatV_one cr; have y2 := cel_flat cr
  have cl := hl.flat
  have x3 := flatV_one cl
  have y3 := cel_flat cl
  have zr : ∀ e : Int, e ≠ 0 → stE s L = e → stR s L = zS := fun e h1 h2 => if_neg (by rw [h2]; exact h1)
  try refine gs_Wb ?_
  refine Rn.call (c_begin d (q := qw 0 0) (L := []) nb nr (Sl.up (by assumption) fr_Wb (by omega)) (Sl.up (by assumption) fr_Wb (by omega)) (by simp) (Sl.nil _ _) (by simp)) ?_
  rintro _ h1 N1 ⟨⟨e0, hv, rfl⟩ | ⟨e0, rfl⟩, f1, o1, l1⟩
  · have hs := ok_of_valid hv
    try refine gs_Wb ?_
    refine Rn.loop7 (fun n a1 a2 a3 a4 a5 a6 a7 g M => ∃ (i : Nat) (p : Int), l = a1 ∧ a2 = .pointer (some ⟨N + 1, 0, none⟩) ∧ a3 = .pointer (some ⟨N1, 0, none⟩) ∧ a4 = iS p ∧ l = a5 ∧ a6 = nS L.length ∧ a7 = nS i ∧ i + n = L.length ∧ Fr h N g ∧ N1 + 1 ≤ M ∧
      g.get (N + 1) = some (.c [iS 0, iS 0, iS 0, iS 0, iS 0, iS 0, iS 0, .slice none 0 0, .slice none 0 0] 27) ∧ g.get N1 = some (.c [iS s.weeks, iS s.most, iS s.fall, iS s.slo, iS s.shi, iS s.wlo, iS s.whi, b, r] 106) ∧ stB s.reads 0 L = stB s.reads p (L.drop i)) L.length (by omega)
      ⟨0, 0, rfl, rfl, rfl, rfl, rfl, rfl, rfl, by omega, fr_Wb, by omega, sS_Wb, sS_Wb, rfl⟩ ?_
    rintro n g ih _ _ _ _ _ _ _ h2 N2 ⟨i, p, rfl, rfl, rfl, rfl, q0, rfl, rfl, e2, f2, l2, g1, g2, hB⟩
    subst q0
    try refine gs_Wb ?_
    (first | with_reducible refine Rn.cnd (fun _ => ?_) (fun _ => ?_) | with_reducible refine Rn.cndN (fun _ => ?_) (fun _ => ?_) | with_reducible refine Rn.cndB (fun _ => ?_) (fun _ => ?_))
    · obtain ⟨x, hx⟩ := at_of (L := L) (k := i) (by omega)
      have hi : i < L.length := by omega
      rw [drop_at hx] at hB
      simp only [stB] at hB
      by_cases hxp : x ≤ p
      · rw [decide_eq_false (by omega)] at hB
        have e1 : stE s L = 12 := by unfold stE; rw [hv, if_pos rfl, hB]; rfl
        rw [zr 12 (by decide) e1, e1]
        clear zr e1 ih
        try refine gs_Wb ?_
        exact Rn.ret ⟨⟨snil, snil, rfl, Sl.nil _ _, Sl.nil _ _⟩, (Gw.of fr_Wb (by omega))⟩
      · try refine gs_Wb ?_
        refine Rn.call (c_containsR _ (fun y => decide (y.Number = x)) (by omega) (Sl.up (by assumption) fr_Wb (by omega)) (fun y hy h3 N3 f3 l3 => ?_)) ?_
        · rw [dyn_strike1 _ _ rfl]
          exact c_strike1 _ (c := N2) ((f3 _ (by omega)).trans sS_Wb) (by omega)
        rintro _ h3 N3 ⟨rfl, f3, o3, l3⟩
        rw [decide_eq_true (by omega)] at hB
        cases hA : s.reads.any (fun y => decide (y.Number = x)) with
        | false =>
          rw [hA] at hB
          have e1 : stE s L = 12 := by unfold stE; rw [hv, if_pos rfl, hB]; rfl
          rw [zr 12 (by decide) e1, e1]
          clear zr e1 ih
          try refine gs_Wb ?_
          exact Rn.ret ⟨⟨snil, snil, rfl, Sl.nil _ _, Sl.nil _ _⟩, (Gw.of fr_Wb (by omega))⟩
        | true =>
          rw [hA] at hB
          clear zr
          try refine gs_Wb ?_
          exact ih (n - 1) (by omega) _ _ _ _ _ _ _ _ _ ⟨i + 1, x, rfl, rfl, rfl, rfl, rfl, rfl, rfl, by omega, fr_Wb, by omega, sS_Wb, sS_Wb, hB⟩
    · rw [List.drop_eq_nil_of_le (by omega)] at hB
      have e1 : stE s L = 0 := by unfold stE; rw [hv, if_pos rfl, hB]; rfl
      have e2 : stR s L = woS s L := if_pos e1
      rw [e1, e2]
      try refine gs_Wb ?_
      refine Rn.call (c_without (d + 1) nb nr (Sl.up (by assumption) fr_Wb (by omega)) (Sl.up (by assumption) fr_Wb (by omega)) hn (Sl.up (by assumption) fr_Wb (by omega))) ?_
      rintro _ h3 N3 ⟨⟨b', r', rfl, q1, q2⟩, f3, o3, l3⟩
      have k1 := q1.sl (Nat.le_refl _)
      have k2 := q2.sl (Nat.le_refl _)
      have c1 := flatV_one k1.flat
      have c2 := flatV_one k2.flat
      have d1 := cel_flat k1.flat
      have d2 := cel_flat k2.flat
      try refine gs_Wb ?_
      refine Rn.ret ⟨⟨b', r', rfl, ?_, ?_⟩, (Gw.of fr_Wb (by omega))⟩
      · exact (q1.keep fun j g1 g2 => sS_Wb).sl (by omega)
      · exact (q2.keep fun j g1 g2 => sS_Wb).sl (by omega)
  · have e1 : stE s L = 10 := by
      have : beginS s (qw 0 0) [] = if validB s then 0 else 10 := rfl
      rw [this] at e0
      unfold stE
      cases hv : validB s with
      | false => rfl
      | true => rw [hv] at e0; exact absurd rfl e0
    have e2 : beginS s (qw 0 0) [] = 10 := by
      have : beginS s (qw 0 0) [] = if validB s then 0 else 10 := rfl
      rw [this] at e0 ⊢
      cases hv : validB s with
      | false => rfl
      | true => rw [hv] at e0; exact absurd rfl e0
    rw [zr 10 (by decide) e1, e1, e2]
    try refine gs_Wb ?_
    exact Rn.ret ⟨⟨snil, snil, rfl, Sl.nil _ _, Sl.nil _ _⟩, (Gw.of fr_Wb (by omega))⟩
end
end Go.Proofs.Ytpilgokdbliklaa
end

section
namespace Go.Proofs.Ytpilgokdbliklaa
open Go.Ev Go.RowKit
set_option linter.unusedVariables false
set_option linter.unusedSimpArgs false
set_option linter.unusedSectionVars false
set_option maxRecDepth 100000
set_option maxHeartbeats 4000000
theorem s1_Wc {p : Prop} (h : p := by (simp (disch := omega) only [obind_s, orun_s, ocond_t, fad_p, ld1_e, ldN_e, sto_e, cellO_c, wrO_c, Tr.get_same, Tr.get_other, nth_0, nth_s, drp_0, drp_s, drp_n, tak_0, tak_s, tak_n, over_n, over_c, lay_0, lay_s, lay_n, len_n, len_c, app_n, app_c, reps_0, reps_s, cel_agg, cel_int, cel_bool, cel_str, cel_sl, cel_ptr, cel_map, cel_func, cel_nilf, fil_n, fil_c, beq_r, ble_d, allF_n, allF_c, one_int, one_bool, one_str, one_sl, one_ptr, one_map, one_func, one_nilf, Bool.and_true, Bool.true_and, Bool.not_true, Bool.not_false, iadA_z, Int.reduceToNat, Int.toNat_zero, fl1_a, flN_a, extr_t, unot, not_d, Nat.add_eq, Nat.mul_eq, Nat.mul_one, Nat.one_mul, Nat.zero_mul, Nat.reduceMul, Nat.zero_add, Nat.add_zero, Nat.le_refl, decide_true, Nat.reduceAdd, Nat.reduceLeDiff, bsl_Sint, bsl_SReading, bsl_SLine, bld_Span, bld_spring_work, bld_spring_asked, enc_Line, enc_Reading, ocond_d, Int.toNat_natCast, *]); first | done | fail) : p := h
theorem s2_Wc {p : Prop} (h : p := by (simp (disch := omega) only [obind_s, orun_s, ocond_t, fad_p, ld1_e, ldN_e, sto_e, cellO_c, wrO_c, Tr.get_same, Tr.get_other, nth_0, nth_s, drp_0, drp_s, drp_n, tak_0, tak_s, tak_n, over_n, over_c, lay_0, lay_s, lay_n, len_n, len_c, app_n, app_c, reps_0, reps_s, cel_agg, cel_int, cel_bool, cel_str, cel_sl, cel_ptr, cel_map, cel_func, cel_nilf, fil_n, fil_c, beq_r, ble_d, allF_n, allF_c, one_int, one_bool, one_str, one_sl, one_ptr, one_map, one_func, one_nilf, Bool.and_true, Bool.true_and, Bool.not_true, Bool.not_false, iadA_z, Int.reduceToNat, Int.toNat_zero, fl1_a, flN_a, extr_t, unot, not_d, Nat.add_eq, Nat.mul_eq, Nat.mul_one, Nat.one_mul, Nat.zero_mul, Nat.reduceMul, Nat.zero_add, Nat.add_zero, Nat.le_refl, decide_true, Nat.reduceAdd, Nat.reduceLeDiff, bsl_Sint, bsl_SReading, bsl_SLine, bld_Span, bld_spring_work, bld_spring_asked, enc_Line, enc_Reading, ocond_d, Int.toNat_natCast, *]); rfl) : p := h
theorem sb_Wc {p : Prop} (h : p := by first | ((simp (disch := omega) only [obind_s, orun_s, ocond_t, fad_p, ld1_e, ldN_e, sto_e, cellO_c, wrO_c, Tr.get_same, Tr.get_other, nth_0, nth_s, drp_0, drp_s, drp_n, tak_0, tak_s, tak_n, over_n, over_c, lay_0, lay_s, lay_n, len_n, len_c, app_n, app_c, reps_0, reps_s, cel_agg, cel_int, cel_bool, cel_str, cel_sl, cel_ptr, cel_map, cel_func, cel_nilf, fil_n, fil_c, beq_r, ble_d, allF_n, allF_c, one_int, one_bool, one_str, one_sl, one_ptr, one_map, one_func, one_nilf, Bool.and_true, Bool.true_and, Bool.not_true, Bool.not_false, iadA_z, Int.reduceToNat, Int.toNat_zero, fl1_a, flN_a, extr_t, unot, not_d, Nat.add_eq, Nat.mul_eq, Nat.mul_one, Nat.one_mul, Nat.zero_mul, Nat.reduceMul, Nat.zero_add, Nat.add_zero, Nat.le_refl, decide_true, Nat.reduceAdd, Nat.reduceLeDiff, bsl_Sint, bsl_SReading, bsl_SLine, bld_Span, bld_spring_work, bld_spring_asked, enc_Line, enc_Reading, ocond_d, Int.toNat_natCast, Nat.succ_eq_add_one, Nat.add_assoc, *]); rfl) | ((simp (disch := omega) only [obind_s, orun_s, ocond_t, fad_p, ld1_e, ldN_e, sto_e, cellO_c, wrO_c, Tr.get_same, Tr.get_other, nth_0, nth_s, drp_0, drp_s, drp_n, tak_0, tak_s, tak_n, over_n, over_c, lay_0, lay_s, lay_n, len_n, len_c, app_n, app_c, reps_0, reps_s, cel_agg, cel_int, cel_bool, cel_str, cel_sl, cel_ptr, cel_map, cel_func, cel_nilf, fil_n, fil_c, beq_r, ble_d, allF_n, allF_c, one_int, one_bool, one_str, one_sl, one_ptr, one_map, one_func, one_nilf, Bool.and_true, Bool.true_and, Bool.not_true, Bool.not_false, iadA_z, Int.reduceToNat, Int.toNat_zero, fl1_a, flN_a, extr_t, unot, not_d, Nat.add_eq, Nat.mul_eq, Nat.mul_one, Nat.one_mul, Nat.zero_mul, Nat.reduceMul, Nat.zero_add, Nat.add_zero, Nat.le_refl, decide_true, Nat.reduceAdd, Nat.reduceLeDiff, bsl_Sint, bsl_SReading, bsl_SLine, bld_Span, bld_spring_work, bld_spring_asked, enc_Line, enc_Reading, ocond_d, Int.toNat_natCast, Nat.succ_eq_add_one, Nat.add_assoc, *]); done)) : p := h
theorem fr_Wc {p : Prop} (h : p := by first | assumption | exact Fr.refl _ _ | (simp (disch := omega) only [Fr_set, Fr_refl, *])) : p := h
theorem fl_Wc {p : Prop} (h : p := by first | with_unfolding_all rfl | exact Sl.flat (by assumption) | assumption) : p := h
theorem fll_Wc {p : Prop} (h : p := by first | with_unfolding_all rfl | ((repeat (refine flatL_k fl_Wc ?_)); with_unfolding_all rfl)) : p := h
theorem en_Wc {p : Prop} (h : p := by first | ((simp only [enc_int, enc_str, enc_u8, enc_bool, tak_s, tak_0, tak_n, drp_0, drp_s, drp_n, nth_s, nth_0, bsl_Sint, bsl_SReading, bsl_SLine, bld_Span, bld_spring_work, bld_spring_asked, enc_Line, enc_Reading, ocond_d, Int.toNat_natCast]); rfl) | ((simp only [enc_int, enc_str, enc_u8, enc_bool, tak_s, tak_0, tak_n, drp_0, drp_s, drp_n, nth_s, nth_0, bsl_Sint, bsl_SReading, bsl_SLine, bld_Span, bld_spring_work, bld_spring_asked, enc_Line, enc_Reading, ocond_d, Int.toNat_natCast]); done) | with_unfolding_all rfl) : p := h
theorem sM_Wc {p : Prop} (h : p := by (first | assumption | (simp (disch := omega) only [Tr.get_same, Tr.get_other, *]; rfl) | (simp (disch := omega) only [Tr.get_same, Tr.get_other, *]; done))) : p := h
theorem sS_Wc {p : Prop} (h : p := by first | assumption | exact s1_Wc) : p := h
theorem op_Wc {p : Prop} (h : p := by first | with_reducible exact fad_p _ _ _ | with_reducible exact iop_lss _ _ | with_reducible exact iop_leq _ _ | with_reducible exact iop_gtr _ _ | with_reducible exact iop_geq _ _ | with_reducible exact iop_eql _ _ | with_reducible exact iop_neq _ _ | with_reducible exact Sl.len (by assumption) | with_reducible exact lenS_s _ _ _ | with_reducible exact Sl.iad (by assumption) (by with_unfolding_all rfl) (by first | assumption | omega) | with_reducible exact Sl.fad (by assumption) (by first | assumption | omega) | with_reducible exact Sl.ld1 (by assumption) fr_Wc (by with_unfolding_all rfl) (by assumption) en_Wc | with_reducible exact Sl.ldN (by assumption) fr_Wc (by with_unfolding_all rfl) (by assumption) (by with_unfolding_all rfl) en_Wc | with_reducible exact zadd1 (by omega) | with_reducible exact zsub1 (by omega) (by omega) | with_reducible exact zaddI (by omega) (by omega) | with_reducible exact zsubI (by omega) (by omega) | with_reducible exact min_z | with_reducible exact max_z | with_reducible exact zmulI (by assumption) | with_reducible exact zmulK (by omega) (by omega) | with_reducible exact quo_z (by omega) (by omega) (by omega) | with_reducible exact cv_u8 (by omega) | with_reducible exact rem_z (by omega) (by omega) (by omega) | with_reducible exact neq_bool (by kernel_rfl) | with_reducible exact eql_u8 | with_reducible exact wntT_t (by assumption) | with_reducible exact wntT_f (by assumption) | with_reducible exact wntF_t (by assumption) | with_reducible exact wntF_f (by assumption) | with_reducible exact wnt_tt | with_reducible exact wnt_tf | with_reducible exact wnt_ft | with_reducible exact wnt_ff | with_reducible exact wnt_u _ _ | with_reducible exact pck_t _ _ | with_reducible exact pck_f _ _ | with_reducible exact pckT (by assumption) | with_reducible exact pckF (by assumption) | with_reducible exact wntT_t (by decide) | with_reducible exact wntT_f (by decide) | with_reducible exact wntF_t (by decide) | with_reducible exact wntF_f (by decide) | with_reducible exact pckT (by decide) | with_reducible exact pckF (by decide) | with_reducible exact wntN_tt (by decide) | with_reducible exact wntN_tf (by decide) | with_reducible exact wntN_ft (by decide) | with_reducible exact wntN_ff (by decide) | with_reducible exact pckNT (by decide) | with_reducible exact pckNF (by decide) | with_reducible exact wntN_tt (by assumption) | with_reducible exact wntN_tf (by assumption) | with_reducible exact wntN_ft (by assumption) | with_reducible exact wntN_ff (by assumption) | with_reducible exact pckNT (by assumption) | with_reducible exact pckNF (by assumption) | with_reducible exact wntB_tt (by assumption) | with_reducible exact wntB_tf (by assumption) | with_reducible exact wntB_ft (by assumption) | with_reducible exact wntB_ff (by assumption) | with_reducible exact pckBT (by assumption) | with_reducible exact pckBF (by assumption) | exact s2_Wc | exact s1_Wc) : p := h
theorem co_Wc {p : Prop} (h : p := by first | (simp only [impB_1, impB_0, offB_1, offB_0]; done) | ((try simp only [impB_1, impB_0, offB_1, offB_0]); first | with_reducible exact Sl.ag1 (by assumption) fr_Wc (by with_unfolding_all rfl) (by assumption) en_Wc | with_reducible exact Sl.agN (by assumption) fr_Wc (by with_unfolding_all rfl) (by assumption) (by with_unfolding_all rfl) en_Wc | ((with_reducible refine agL1_e ?_ ?_); (· exact s1_Wc); (· exact fl_Wc)) | ((with_reducible refine agLN_e ?_ ?_); (· exact s1_Wc); (· exact fll_Wc)) | ((with_reducible apply ag_bs); (· exact sM_Wc); (· rfl); (· exact sb_Wc); (· exact fll_Wc)) | ((with_reducible apply ag_al); (· exact sM_Wc); (· rfl); (· exact fll_Wc)) | ((with_reducible apply ag_bx); (· exact sM_Wc); (· rfl); (· rfl); (· exact fll_Wc)) | ((with_reducible apply ag_bd); (· rfl); (· exact s1_Wc); (· exact fll_Wc)) | exact s1_Wc)) : p := h
theorem gs_Wc {r p : Prop} (k : r) (h : Go.Ev.Im r p := by (first | with_reducible apply Im.runS | ((with_reducible apply Im.num); · (simp only [Nat.succ_eq_add_one, Nat.add_assoc, Nat.reduceAdd]; rfl)) | (with_reducible apply Im.unm) | (with_reducible apply Im.selT) | (with_reducible apply Im.selF) | ((with_reducible apply Im.cndT); · assumption) | ((with_reducible apply Im.cndF); · assumption) | ((with_reducible apply Im.cndT); · decide) | ((with_reducible apply Im.cndF); · decide) | ((with_reducible apply Im.cndNT); · decide) | ((with_reducible apply Im.cndNF); · decide) | ((with_reducible apply Im.cndBT); · exact rfl) | ((with_reducible apply Im.cndBF); · exact rfl) | ((with_reducible apply Im.cndNT); · assumption) | ((with_reducible apply Im.cndNF); · assumption) | ((with_reducible apply Im.cndBT); · assumption) | ((with_reducible apply Im.cndBF); · assumption) | ((with_reducible apply Im.bind); · exact op_Wc) | ((with_reducible apply Im.cond); · exact co_Wc) | ((with_reducible apply Im.runB); · exact op_Wc) | ((with_reducible apply Im.runC); · exact co_Wc) | ((with_reducible apply Im.runN); · (simp only [Nat.succ_eq_add_one, Nat.add_assoc, Nat.reduceAdd]; rfl)) | with_reducible apply Im.runR | ((with_reducible apply Im.runE (x := evBuildSlice _ _ _ _ _ _)); · exact sb_Wc)); (repeat (first | with_reducible apply Im.runS | ((with_reducible apply Im.num); · (simp only [Nat.succ_eq_add_one, Nat.add_assoc, Nat.reduceAdd]; rfl)) | (with_reducible apply Im.unm) | (with_reducible apply Im.selT) | (with_reducible apply Im.selF) | ((with_reducible apply Im.cndT); · assumption) | ((with_reducible apply Im.cndF); · assumption) | ((with_reducible apply Im.cndT); · decide) | ((with_reducible apply Im.cndF); · decide) | ((with_reducible apply Im.cndNT); · decide) | ((with_reducible apply Im.cndNF); · decide) | ((with_reducible apply Im.cndBT); · exact rfl) | ((with_reducible apply Im.cndBF); · exact rfl) | ((with_reducible apply Im.cndNT); · assumption) | ((with_reducible apply Im.cndNF); · assumption) | ((with_reducible apply Im.cndBT); · assumption) | ((with_reducible apply Im.cndBF); · assumption) | ((with_reducible apply Im.bind); · exact op_Wc) | ((with_reducible apply Im.cond); · exact co_Wc) | ((with_reducible apply Im.runB); · exact op_Wc) | ((with_reducible apply Im.runC); · exact co_Wc) | ((with_reducible apply Im.runN); · (simp only [Nat.succ_eq_add_one, Nat.add_assoc, Nat.reduceAdd]; rfl)) | with_reducible apply Im.runR | ((with_reducible apply Im.runE (x := evBuildSlice _ _ _ _ _ _)); · exact sb_Wc))); exact Go.Ev.Im.id) : p := h k
theorem rds_mono {w : Int} : ∀ (R : List Rd) (b c : Int), b ≤ c → rdsB w c R = true → rdsB w b R = true
  | [], _, _, _, _ => rfl
  | y :: l, b, c, h, h1 => by
    simp only [rdsB, Bool.and_eq_true, decide_eq_true_eq] at h1 ⊢
    exact ⟨⟨by omega, h1.1.2⟩, h1.2⟩
theorem wo_rds {w : Int} {L : List Int} : ∀ (R : List Rd) (b : Int), rdsB w b R = true → rdsB w b (woL R L) = true
  | [], _, _ => rfl
  | y :: l, b, h => by
    simp only [rdsB, Bool.and_eq_true, decide_eq_true_eq] at h
    have ih := wo_rds (L := L) l y.Number h.2
    unfold woL at ih ⊢
    rw [List.filter_cons]
    split
    · simp only [rdsB, Bool.and_eq_true, decide_eq_true_eq]
      exact ⟨h.1, ih⟩
    · exact rds_mono _ b y.Number (by omega) ih
theorem wo_valid {s : Sp} {L : List Int} (hv : validB s = true) : validB (woS s L) = true := by
  simp only [validB, readsB, Bool.and_eq_true, decide_eq_true_eq] at hv ⊢
  obtain ⟨⟨h1, h2⟩, h3, h4⟩ := hv
  refine ⟨⟨h1, h2⟩, ?_, wo_rds _ 0 h4⟩
  exact Nat.le_trans (List.length_filter_le _ _) h3
theorem wo_nar (s : Sp) (L : List Int) : Nar (woS s L) s := ⟨rfl, rfl, rfl, rfl, rfl, rfl, rfl, fun _ h => h, fun x hx => (List.mem_filter.1 hx).1⟩
theorem wo_len (s : Sp) (L : List Int) : (woS s L).reads.length ≤ s.reads.length := List.length_filter_le _ _
/-- Put back where it was. -/
theorem ins_wo {w : Int} {x : Rd} : ∀ (R : List Rd) (b : Int), rdsB w b R = true → x ∈ R → insL (woL R [x.Number]) x = R
  | [], _, _, h => by cases h
  | y :: l, b, h, hx => by
    simp only [rdsB, Bool.and_eq_true, decide_eq_true_eq] at h
    have hg := rds_gt l _ h.2
    rcases List.mem_cons.1 hx with rfl | hx
    · have e : woL (x :: l) [x.Number] = l := by
        unfold woL
        rw [List.filter_cons, if_neg (by simp)]
        refine List.filter_eq_self.2 fun z hz => ?_
        have := hg z hz
        simp; omega
      rw [e]
      cases l with
      | nil => rfl
      | cons z l =>
        have := hg z (by simp)
        rw [insL_cons, if_neg (by omega)]
    · have hn := hg x hx
      have e : woL (y :: l) [x.Number] = y :: woL l [x.Number] := by
        unfold woL
        rw [List.filter_cons, if_pos (by simp; omega)]
      rw [e, insL_cons, if_pos (by omega), ins_wo l _ h.2 hx]
/-- The readings on which a week rests, of some first ones. -/
def reL (s : Sp) (w : Int) (R : List Rd) : List Int := (R.filter fun x => !decide (gvS (woS s [x.Number]) w.toNat = gvS s w.toNat)).map (·.Number)
def reT (s : Sp) (w : Int) : List Int := if erS s w = 0 then reL s w s.reads else []
theorem reL_snoc {s : Sp} {w : Int} {R : List Rd} {x : Rd} : reL s w (R ++ [x]) = if gvS (woS s [x.Number]) w.toNat = gvS s w.toNat then reL s w R else reL s w R ++ [x.Number] := by
  unfold reL
  rw [List.filter_append, List.map_append, List.filter_cons]
  split <;> rename_i h
  · rw [if_neg (by simpa using h)]; rfl
  · rw [if_pos (by simpa using h)]; simp
theorem span_eq {u v : Int × Int} : ((⟨u.1, u.2⟩ : YSpan) = ⟨v.1, v.2⟩) ↔ u = v := by
  constructor
  · intro h
    have h1 := congrArg YSpan.Lo h
    have h2 := congrArg YSpan.Hi h
    exact Prod.ext h1 h2
  · rintro rfl; rfl
section
variable {s : Sp} {b r : Value}
theorem c_Rests (d : Nat) {w : Int} {h N} (nb : s.book.length < 1000) (nr : s.reads.length < 1000) (hb : Sl h N b s.book) (hr : Sl h N r s.reads) : Rn (s52 (cN (d + 3)) (.agg ⟨[iS s.weeks, iS s.most, iS s.fall, iS s.slo, iS s.shi, iS s.wlo, iS s.whi, b, r]⟩) (iS w) h N) fun v h' N' => (∃ p, v = .tuple ⟨[p, iS (erS s w)]⟩ ∧ Sl h' N' p (reT s w)) ∧ Gw h N h' N' := by
  unfold s52
  have cb := hb.flat; have cr := hr.flat; have x1 := flatV_one cb; have y1 := cel_flat cb; have x2 := flatV_one cr; have y2 := cel_flat cr
  try refine gs_Wc ?_
  refine Rn.call (c_begin d (q := qw w 0) (L := [1, 4]) nb nr (Sl.up (by assumption) fr_Wc (by omega)) (Sl.up (by assumption) fr_Wc (by omega)) (by simp) (Sl.lit _ sM_Wc (by omega) rfl rfl) (by simp)) ?_
  rintro _ h1 N1 ⟨⟨e0, hv, rfl⟩ | ⟨e0, rfl⟩, f1, o1, l1⟩
  · have e1 : erS s w = 0 := e0
    obtain ⟨_, k1, k2, k3⟩ := er_ok e1
    have hs := ok_of_valid hv
    have w2 := hs.ok.w1
    have hnr := hs.nr
    have e2 : reT s w = reL s w s.reads := if_pos e1
    rw [e1, e2]
    clear e1 e2
    try refine gs_Wc ?_
    refine Rn.call (c_gives (d + 1) hs ⟨k1, k2⟩ (Sl.up (by assumption) fr_Wc (by omega)) (Sl.up (by assumption) fr_Wc (by omega))) ?_
    rintro _ h2 N2 ⟨rfl, f2, o2, l2⟩
    try refine gs_Wc ?_
    refine Rn.loop7 (fun n a1 a2 a3 a4 a5 a6 a7 g M => ∃ (i : Nat), a1 = iS w ∧ a2 = .pointer (some ⟨N1, 0, none⟩) ∧ a4 = .pointer (some ⟨N2, 0, none⟩) ∧ r = a5 ∧ a6 = nS s.reads.length ∧ a7 = nS i ∧ i + n = s.reads.length ∧ Fr h N g ∧ N2 + 1 ≤ M ∧
      g.get N1 = some (.c [iS s.weeks, iS s.most, iS s.fall, iS s.slo, iS s.shi, iS s.wlo, iS s.whi, b, r] 106) ∧ g.get N2 = some (.c [iS (gvS s w.toNat).1, iS (gvS s w.toNat).2] 23) ∧ OwZ g M 3 a3 (reL s w (s.reads.take i)) (fun j => N2 + 1 ≤ j)) s.reads.length (by omega)
      ⟨0, rfl, rfl, rfl, rfl, rfl, rfl, by omega, fr_Wc, by omega, sS_Wc, sS_Wc, .inl ⟨rfl, rfl⟩⟩ ?_
    rintro n g ih _ _ v _ _ _ _ h3 N3 ⟨i, rfl, rfl, rfl, rfl, rfl, rfl, e2, f3, l3, g1, g2, g3⟩
    have cv := g3.sl.flat
    have x4 := flatV_one cv
    have y4 := cel_flat cv
    try refine gs_Wc ?_
    (first | with_reducible refine Rn.cnd (fun _ => ?_) (fun _ => ?_) | with_reducible refine Rn.cndN (fun _ => ?_) (fun _ => ?_) | with_reducible refine Rn.cndB (fun _ => ?_) (fun _ => ?_))
    · obtain ⟨x, hx⟩ := at_of (L := s.reads) (k := i) (by omega)
      have hi : i < s.reads.length := by omega
      have ek := reL_snoc (s := s) (w := w) (R := s.reads.take i) (x := x)
      have et : s.reads.take i ++ [x] = s.reads.take (i + 1) := by rw [List.take_add_one, hx]; rfl
      rw [et] at ek
      have hlen : (reL s w (s.reads.take i)).length ≤ i := by
        unfold reL
        rw [List.length_map]
        refine Nat.le_trans (List.length_filter_le _ _) ?_
        rw [List.length_take]; omega
      try refine gs_Wc ?_
      refine Rn.call (c_without (d + 1) (L := [x.Number]) nb nr (Sl.up (by assumption) fr_Wc (by omega)) (Sl.up (by assumption) fr_Wc (by omega)) (by simp) (Sl.lit _ sM_Wc (by omega) rfl rfl)) ?_
      rintro _ h4 N4 ⟨⟨b', r', rfl, q1, q2⟩, f4, o4, l4⟩
      have k4 := q1.sl (Nat.le_refl _)
      have k5 := q2.sl (Nat.le_refl _)
      have c1 := flatV_one k4.flat
      have c2 := flatV_one k5.flat
      have d1 := cel_flat k4.flat
      have d2 := cel_flat k5.flat
      have hsu := ok_of_valid (wo_valid (L := [x.Number]) hv)
      try refine gs_Wc ?_
      refine Rn.call (c_gives (d + 1) (s := woS s [x.Number]) (w := w) hsu ⟨k1, k2⟩ (Sl.up (by assumption) fr_Wc (by omega)) (Sl.up (by assumption) fr_Wc (by omega))) ?_
      rintro _ h5 N5 ⟨rfl, f5, o5, l5⟩
      have ex : ∃ j, N2 + 1 ≤ j ∧ j < N5 ∧ ∀ h' : Tr Ob, (∀ k, N2 + 1 ≤ k → k < N3 → h'.get k = h3.get k) → Ow h' 3 v (reL s w (s.reads.take i)) j := by
        rcases g3 with ⟨rfl, e⟩ | ⟨j, p, hj, o⟩
        · rw [e]; exact ⟨N3, by omega, by omega, fun h' _ => Ow.nil _ _ _⟩
        · exact ⟨j, p, by omega, fun h' hk => o.keep (hk j p hj)⟩
      obtain ⟨j, j1, j2, own⟩ := ex
      try refine gs_Wc ?_
      refine Rn.bind (neqE_Span _ _ ⟨_, _⟩ ⟨_, _⟩) ?_
      by_cases hE : gvS (woS s [x.Number]) w.toNat = gvS s w.toNat
      · have hd := decide_eq_true (span_eq.2 hE)
        rw [if_pos hE] at ek
        simp only [hd]
        try refine gs_Wc ?_
        unfold jnR
        try refine gs_Wc ?_
        exact ih (n - 1) (by omega) _ _ _ _ _ _ _ _ _ ⟨i + 1, rfl, rfl, rfl, rfl, rfl, rfl, by omega, fr_Wc, by omega, sS_Wc, sS_Wc, .inr ⟨j, by omega, j2, by rw [ek]; exact own _ (fun k k1 k2 => sS_Wc)⟩⟩
      · have hd := decide_eq_false (fun h => hE (span_eq.1 h))
        rw [if_neg hE] at ek
        simp only [hd]
        try refine gs_Wc ?_
        unfold jnR
        try refine gs_Wc ?_
        refine Rn.call (Ow.app (α := Int) (K := [x.Number]) (i := j) ap_Sint (own _ fun k g1 g2 => sS_Wc) (by omega) (Sl.lit [x.Number] sM_Wc (by omega : N5 < N5 + 1) rfl rfl) (Fr.refl _ _) (by simp; omega)) ?_
        rintro v2 h6 N6 ⟨j', w6, e6, e6', f6, o6, l6⟩
        have cv2 := (w6.sl e6').flat
        have x5 := flatV_one cv2
        have y5 := cel_flat cv2
        try refine gs_Wc ?_
        exact ih (n - 1) (by omega) _ _ _ _ _ _ _ _ _ ⟨i + 1, rfl, rfl, rfl, rfl, rfl, rfl, by omega, fr_Wc, by omega, sS_Wc, sS_Wc, .inr ⟨j', by omega, e6', by rw [ek]; exact w6⟩⟩
    · obtain rfl : i = s.reads.length := by omega
      rw [List.take_length] at g3
      try refine gs_Wc ?_
      exact Rn.ret ⟨⟨_, rfl, g3.sl⟩, (Gw.of fr_Wc (by omega))⟩
  · have e1 : beginS s (qw w 0) [1, 4] = erS s w := rfl
    rw [e1] at e0 ⊢
    have e2 : reT s w = [] := if_neg e0
    rw [e2]
    try refine gs_Wc ?_
    exact Rn.ret ⟨⟨_, rfl, Sl.nil _ _⟩, (Gw.of fr_Wc (by omega))⟩
/-- Springs alike. -/
theorem c_Same (call : CallF) {b' r' : Value} {h N} (nb : s.book.length < 1000) (nr : s.reads.length < 1000) (hb : Sl h N b s.book) (hr : Sl h N r s.reads) (hb' : Sl h N b' s.book) (hr' : Sl h N r' s.reads) : Rn (s27 call (.agg ⟨[iS s.weeks, iS s.most, iS s.fall, iS s.slo, iS s.shi, iS s.wlo, iS s.whi, b', r']⟩) (.agg ⟨[iS s.weeks, iS s.most, iS s.fall, iS s.slo, iS s.shi, iS s.wlo, iS s.whi, b, r]⟩) h N) fun v h' N' => v = .bool true ∧ Gw h N h' N' := by
  unfold s27
  have cb := hb.flat; have cr := hr.flat; have x1 := flatV_one cb; have y1 := cel_flat cb; have x2 := flatV_one cr; have y2 := cel_flat cr
  have cb' := hb'.flat
  have cr' := hr'.flat
  have x3 := flatV_one cb'
  have y3 := cel_flat cb'
  have x4 := flatV_one cr'
  have y4 := cel_flat cr'
  have n1 : ∀ u v, evBin Pr .neq 23 u v (.agg ⟨[iS s.slo, iS s.shi]⟩) (.agg ⟨[iS s.slo, iS s.shi]⟩) = some (.bool false) := fun u v => by
    rw [neqE_Span u v ⟨s.slo, s.shi⟩ ⟨s.slo, s.shi⟩, decide_eq_true rfl]; rfl
  have n2 : ∀ u v, evBin Pr .neq 23 u v (.agg ⟨[iS s.wlo, iS s.whi]⟩) (.agg ⟨[iS s.wlo, iS s.whi]⟩) = some (.bool false) := fun u v => by
    rw [neqE_Span u v ⟨s.wlo, s.whi⟩ ⟨s.wlo, s.whi⟩, decide_eq_true rfl]; rfl
  have z1 : ¬ s.weeks ≠ s.weeks := fun h => h rfl
  have z2 : ¬ s.most ≠ s.most := fun h => h rfl
  have z3 : ¬ s.fall ≠ s.fall := fun h => h rfl
  have z4 : ¬ (s.book.length : Int) ≠ (s.book.length : Int) := fun h => h rfl
  have z5 : ¬ (s.reads.length : Int) ≠ (s.reads.length : Int) := fun h => h rfl
  try refine gs_Wc ?_
  refine Rn.loop3 (fun n a1 a2 a3 g M => ∃ i : Nat, a1 = .pointer (some ⟨N, 0, none⟩) ∧ a2 = .pointer (some ⟨N + 1, 0, none⟩) ∧ a3 = nS i ∧ i + n = s.book.length ∧ Fr h N g ∧ N + 2 ≤ M ∧ g.get N = some (.c [iS s.weeks, iS s.most, iS s.fall, iS s.slo, iS s.shi, iS s.wlo, iS s.whi, b', r'] 27) ∧ g.get (N + 1) = some (.c [iS s.weeks, iS s.most, iS s.fall, iS s.slo, iS s.shi, iS s.wlo, iS s.whi, b, r] 27)) s.book.length (by omega) ⟨0, rfl, rfl, rfl, by omega, fr_Wc, by omega, sS_Wc, sS_Wc⟩ ?_
  rintro n g ih _ _ _ h2 N2 ⟨i, rfl, rfl, rfl, e2, f2, l2, g1, g2⟩
  try refine gs_Wc ?_
  (first | with_reducible refine Rn.cnd (fun _ => ?_) (fun _ => ?_) | with_reducible refine Rn.cndN (fun _ => ?_) (fun _ => ?_) | with_reducible refine Rn.cndB (fun _ => ?_) (fun _ => ?_))
  · obtain ⟨x, hx⟩ := at_of (L := s.book) (k := i) (by omega)
    have hi : i < s.book.length := by omega
    have n3 : ∀ u v, evBin Pr .neq 73 u v (.agg ⟨[iS x.Rain_Lo, iS x.Rain_Hi, iS x.Week, iS x.Gives_Lo, iS x.Gives_Hi]⟩) (.agg ⟨[iS x.Rain_Lo, iS x.Rain_Hi, iS x.Week, iS x.Gives_Lo, iS x.Gives_Hi]⟩) = some (.bool false) := fun u v => by
      rw [neqE_Line u v x x, decide_eq_true rfl]; rfl
    try refine gs_Wc ?_
    exact ih (n - 1) (by omega) _ _ _ _ _ ⟨i + 1, rfl, rfl, rfl, by omega, fr_Wc, by omega, sS_Wc, sS_Wc⟩
  · clear ih
    try refine gs_Wc ?_
    refine Rn.loop3 (fun n a1 a2 a3 g M => ∃ i : Nat, a1 = .pointer (some ⟨N, 0, none⟩) ∧ a2 = .pointer (some ⟨N + 1, 0, none⟩) ∧ a3 = nS i ∧ i + n = s.reads.length ∧ Fr h N g ∧ N + 2 ≤ M ∧ g.get N = some (.c [iS s.weeks, iS s.most, iS s.fall, iS s.slo, iS s.shi, iS s.wlo, iS s.whi, b', r'] 27) ∧ g.get (N + 1) = some (.c [iS s.weeks, iS s.most, iS s.fall, iS s.slo, iS s.shi, iS s.wlo, iS s.whi, b, r] 27)) s.reads.length (by omega) ⟨0, rfl, rfl, rfl, by omega, fr_Wc, by omega, sS_Wc, sS_Wc⟩ ?_
    clear f2 l2 g1 g2 e2
    rintro n g ih _ _ _ h2 N2 ⟨i, rfl, rfl, rfl, e2, f2, l2, g1, g2⟩
    try refine gs_Wc ?_
    (first | with_reducible refine Rn.cnd (fun _ => ?_) (fun _ => ?_) | with_reducible refine Rn.cndN (fun _ => ?_) (fun _ => ?_) | with_reducible refine Rn.cndB (fun _ => ?_) (fun _ => ?_))
    · obtain ⟨x, hx⟩ := at_of (L := s.reads) (k := i) (by omega)
      have hi : i < s.reads.length := by omega
      have n3 : ∀ u v, evBin Pr .neq 71 u v (.agg ⟨[iS x.Number, iS x.Week, iS x.Bucket, iS x.Songs_Lo, iS x.Songs_Hi]⟩) (.agg ⟨[iS x.Number, iS x.Week, iS x.Bucket, iS x.Songs_Lo, iS x.Songs_Hi]⟩) = some (.bool false) := fun u v => by
        rw [neqE_Reading u v x x, decide_eq_true rfl]; rfl
      try refine gs_Wc ?_
      exact ih (n - 1) (by omega) _ _ _ _ _ ⟨i + 1, rfl, rfl, rfl, by omega, fr_Wc, by omega, sS_Wc, sS_Wc⟩
    · try refine gs_Wc ?_
      exact Rn.ret ⟨rfl, (Gw.of fr_Wc (by omega))⟩
end
end Go.Proofs.Ytpilgokdbliklaa
end

section
namespace Go.Proofs.Ytpilgokdbliklaa
open Go.Ev Go.RowKit
set_option linter.unusedVariables false
set_option linter.unusedSimpArgs false
set_option linter.unusedSectionVars false
set_option maxRecDepth 100000
set_option maxHeartbeats 4000000
theorem s1_Wd {p : Prop} (h : p := by (simp (disch := omega) only [obind_s, orun_s, ocond_t, fad_p, ld1_e, ldN_e, sto_e, cellO_c, wrO_c, Tr.get_same, Tr.get_other, nth_0, nth_s, drp_0, drp_s, drp_n, tak_0, tak_s, tak_n, over_n, over_c, lay_0, lay_s, lay_n, len_n, len_c, app_n, app_c, reps_0, reps_s, cel_agg, cel_int, cel_bool, cel_str, cel_sl, cel_ptr, cel_map, cel_func, cel_nilf, fil_n, fil_c, beq_r, ble_d, allF_n, allF_c, one_int, one_bool, one_str, one_sl, one_ptr, one_map, one_func, one_nilf, Bool.and_true, Bool.true_and, Bool.not_true, Bool.not_false, iadA_z, Int.reduceToNat, Int.toNat_zero, fl1_a, flN_a, extr_t, unot, not_d, Nat.add_eq, Nat.mul_eq, Nat.mul_one, Nat.one_mul, Nat.zero_mul, Nat.reduceMul, Nat.zero_add, Nat.add_zero, Nat.le_refl, decide_true, Nat.reduceAdd, Nat.reduceLeDiff, bsl_Sint, bsl_SReading, bsl_SLine, bld_Span, bld_spring_work, bld_spring_asked, enc_Line, enc_Reading, ocond_d, Int.toNat_natCast, *]); first | done | fail) : p := h
theorem s2_Wd {p : Prop} (h : p := by (simp (disch := omega) only [obind_s, orun_s, ocond_t, fad_p, ld1_e, ldN_e, sto_e, cellO_c, wrO_c, Tr.get_same, Tr.get_other, nth_0, nth_s, drp_0, drp_s, drp_n, tak_0, tak_s, tak_n, over_n, over_c, lay_0, lay_s, lay_n, len_n, len_c, app_n, app_c, reps_0, reps_s, cel_agg, cel_int, cel_bool, cel_str, cel_sl, cel_ptr, cel_map, cel_func, cel_nilf, fil_n, fil_c, beq_r, ble_d, allF_n, allF_c, one_int, one_bool, one_str, one_sl, one_ptr, one_map, one_func, one_nilf, Bool.and_true, Bool.true_and, Bool.not_true, Bool.not_false, iadA_z, Int.reduceToNat, Int.toNat_zero, fl1_a, flN_a, extr_t, unot, not_d, Nat.add_eq, Nat.mul_eq, Nat.mul_one, Nat.one_mul, Nat.zero_mul, Nat.reduceMul, Nat.zero_add, Nat.add_zero, Nat.le_refl, decide_true, Nat.reduceAdd, Nat.reduceLeDiff, bsl_Sint, bsl_SReading, bsl_SLine, bld_Span, bld_spring_work, bld_spring_asked, enc_Line, enc_Reading, ocond_d, Int.toNat_natCast, *]); rfl) : p := h
theorem sb_Wd {p : Prop} (h : p := by first | ((simp (disch := omega) only [obind_s, orun_s, ocond_t, fad_p, ld1_e, ldN_e, sto_e, cellO_c, wrO_c, Tr.get_same, Tr.get_other, nth_0, nth_s, drp_0, drp_s, drp_n, tak_0, tak_s, tak_n, over_n, over_c, lay_0, lay_s, lay_n, len_n, len_c, app_n, app_c, reps_0, reps_s, cel_agg, cel_int, cel_bool, cel_str, cel_sl, cel_ptr, cel_map, cel_func, cel_nilf, fil_n, fil_c, beq_r, ble_d, allF_n, allF_c, one_int, one_bool, one_str, one_sl, one_ptr, one_map, one_func, one_nilf, Bool.and_true, Bool.true_and, Bool.not_true, Bool.not_false, iadA_z, Int.reduceToNat, Int.toNat_zero, fl1_a, flN_a, extr_t, unot, not_d, Nat.add_eq, Nat.mul_eq, Nat.mul_one, Nat.one_mul, Nat.zero_mul, Nat.reduceMul, Nat.zero_add, Nat.add_zero, Nat.le_refl, decide_true, Nat.reduceAdd, Nat.reduceLeDiff, bsl_Sint, bsl_SReading, bsl_SLine, bld_Span, bld_spring_work, bld_spring_asked, enc_Line, enc_Reading, ocond_d, Int.toNat_natCast, Nat.succ_eq_add_one, Nat.add_assoc, *]); rfl) | ((simp (disch := omega) only [obind_s, orun_s, ocond_t, fad_p, ld1_e, ldN_e, sto_e, cellO_c, wrO_c, Tr.get_same, Tr.get_other, nth_0, nth_s, drp_0, drp_s, drp_n, tak_0, tak_s, tak_n, over_n, over_c, lay_0, lay_s, lay_n, len_n, len_c, app_n, app_c, reps_0, reps_s, cel_agg, cel_int, cel_bool, cel_str, cel_sl, cel_ptr, cel_map, cel_func, cel_nilf, fil_n, fil_c, beq_r, ble_d, allF_n, allF_c, one_int, one_bool, one_str, one_sl, one_ptr, one_map, one_func, one_nilf, Bool.and_true, Bool.true_and, Bool.not_true, Bool.not_false, iadA_z, Int.reduceToNat, Int.toNat_zero, fl1_a, flN_a, extr_t, unot, not_d, Nat.add_eq, Nat.mul_eq, Nat.mul_one, Nat.one_mul, Nat.zero_mul, Nat.reduceMul, Nat.zero_add, Nat.add_zero, Nat.le_refl, decide_true, Nat.reduceAdd, Nat.reduceLeDiff, bsl_Sint, bsl_SReading, bsl_SLine, bld_Span, bld_spring_work, bld_spring_asked, enc_Line, enc_Reading, ocond_d, Int.toNat_natCast, Nat.succ_eq_add_one, Nat.add_assoc, *]); done)) : p := h
theorem fr_Wd {p : Prop} (h : p := by first | assumption | exact Fr.refl _ _ | (simp (disch := omega) only [Fr_set, Fr_refl, *])) : p := h
theorem fl_Wd {p : Prop} (h : p := by first | with_unfolding_all rfl | exact Sl.flat (by assumption) | assumption) : p := h
theorem fll_Wd {p : Prop} (h : p := by first | with_unfolding_all rfl | ((repeat (refine flatL_k fl_Wd ?_)); with_unfolding_all rfl)) : p := h
theorem en_Wd {p : Prop} (h : p := by first | ((simp only [enc_int, enc_str, enc_u8, enc_bool, tak_s, tak_0, tak_n, drp_0, drp_s, drp_n, nth_s, nth_0, bsl_Sint, bsl_SReading, bsl_SLine, bld_Span, bld_spring_work, bld_spring_asked, enc_Line, enc_Reading, ocond_d, Int.toNat_natCast]); rfl) | ((simp only [enc_int, enc_str, enc_u8, enc_bool, tak_s, tak_0, tak_n, drp_0, drp_s, drp_n, nth_s, nth_0, bsl_Sint, bsl_SReading, bsl_SLine, bld_Span, bld_spring_work, bld_spring_asked, enc_Line, enc_Reading, ocond_d, Int.toNat_natCast]); done) | with_unfolding_all rfl) : p := h
theorem sM_Wd {p : Prop} (h : p := by (first | assumption | (simp (disch := omega) only [Tr.get_same, Tr.get_other, *]; rfl) | (simp (disch := omega) only [Tr.get_same, Tr.get_other, *]; done))) : p := h
theorem sS_Wd {p : Prop} (h : p := by first | assumption | exact s1_Wd) : p := h
theorem op_Wd {p : Prop} (h : p := by first | with_reducible exact fad_p _ _ _ | with_reducible exact iop_lss _ _ | with_reducible exact iop_leq _ _ | with_reducible exact iop_gtr _ _ | with_reducible exact iop_geq _ _ | with_reducible exact iop_eql _ _ | with_reducible exact iop_neq _ _ | with_reducible exact Sl.len (by assumption) | with_reducible exact lenS_s _ _ _ | with_reducible exact Sl.iad (by assumption) (by with_unfolding_all rfl) (by first | assumption | omega) | with_reducible exact Sl.fad (by assumption) (by first | assumption | omega) | with_reducible exact Sl.ld1 (by assumption) fr_Wd (by with_unfolding_all rfl) (by assumption) en_Wd | with_reducible exact Sl.ldN (by assumption) fr_Wd (by with_unfolding_all rfl) (by assumption) (by with_unfolding_all rfl) en_Wd | with_reducible exact zadd1 (by omega) | with_reducible exact zsub1 (by omega) (by omega) | with_reducible exact zaddI (by omega) (by omega) | with_reducible exact zsubI (by omega) (by omega) | with_reducible exact min_z | with_reducible exact max_z | with_reducible exact zmulI (by assumption) | with_reducible exact zmulK (by omega) (by omega) | with_reducible exact quo_z (by omega) (by omega) (by omega) | with_reducible exact cv_u8 (by omega) | with_reducible exact rem_z (by omega) (by omega) (by omega) | with_reducible exact neq_bool (by kernel_rfl) | with_reducible exact eql_u8 | with_reducible exact wntT_t (by assumption) | with_reducible exact wntT_f (by assumption) | with_reducible exact wntF_t (by assumption) | with_reducible exact wntF_f (by assumption) | with_reducible exact wnt_tt | with_reducible exact wnt_tf | with_reducible exact wnt_ft | with_reducible exact wnt_ff | with_reducible exact wnt_u _ _ | with_reducible exact pck_t _ _ | with_reducible exact pck_f _ _ | with_reducible exact pckT (by assumption) | with_reducible exact pckF (by assumption) | with_reducible exact wntT_t (by decide) | with_reducible exact wntT_f (by decide) | with_reducible exact wntF_t (by decide) | with_reducible exact wntF_f (by decide) | with_reducible exact pckT (by decide) | with_reducible exact pckF (by decide) | with_reducible exact wntN_tt (by decide) | with_reducible exact wntN_tf (by decide) | with_reducible exact wntN_ft (by decide) | with_reducible exact wntN_ff (by decide) | with_reducible exact pckNT (by decide) | with_reducible exact pckNF (by decide) | with_reducible exact wntN_tt (by assumption) | with_reducible exact wntN_tf (by assumption) | with_reducible exact wntN_ft (by assumption) | with_reducible exact wntN_ff (by assumption) | with_reducible exact pckNT (by assumption) | with_reducible exact pckNF (by assumption) | with_reducible exact wntB_tt (by assumption) | with_reducible exact wntB_tf (by assumption) | with_reducible exact wntB_ft (by assumption) | with_reducible exact wntB_ff (by assumption) | with_reducible exact pckBT (by assumption) | with_reducible exact pckBF (by assumption) | exact s2_Wd | exact s1_Wd) : p := h
theorem co_Wd {p : Prop} (h : p := by first | (simp only [impB_1, impB_0, offB_1, offB_0]; done) | ((try simp only [impB_1, impB_0, offB_1, offB_0]); first | with_reducible exact Sl.ag1 (by assumption) fr_Wd (by with_unfolding_all rfl) (by assumption) en_Wd | with_reducible exact Sl.agN (by assumption) fr_Wd (by with_unfolding_all rfl) (by assumption) (by with_unfolding_all rfl) en_Wd | ((with_reducible refine agL1_e ?_ ?_); (· exact s1_Wd); (· exact fl_Wd)) | ((with_reducible refine agLN_e ?_ ?_); (· exact s1_Wd); (· exact fll_Wd)) | ((with_reducible apply ag_bs); (· exact sM_Wd); (· rfl); (· exact sb_Wd); (· exact fll_Wd)) | ((with_reducible apply ag_al); (· exact sM_Wd); (· rfl); (· exact fll_Wd)) | ((with_reducible apply ag_bx); (· exact sM_Wd); (· rfl); (· rfl); (· exact fll_Wd)) | ((with_reducible apply ag_bd); (· rfl); (· exact s1_Wd); (· exact fll_Wd)) | exact s1_Wd)) : p := h
theorem gs_Wd {r p : Prop} (k : r) (h : Go.Ev.Im r p := by (first | with_reducible apply Im.runS | ((with_reducible apply Im.num); · (simp only [Nat.succ_eq_add_one, Nat.add_assoc, Nat.reduceAdd]; rfl)) | (with_reducible apply Im.unm) | (with_reducible apply Im.selT) | (with_reducible apply Im.selF) | ((with_reducible apply Im.cndT); · assumption) | ((with_reducible apply Im.cndF); · assumption) | ((with_reducible apply Im.cndT); · decide) | ((with_reducible apply Im.cndF); · decide) | ((with_reducible apply Im.cndNT); · decide) | ((with_reducible apply Im.cndNF); · decide) | ((with_reducible apply Im.cndBT); · exact rfl) | ((with_reducible apply Im.cndBF); · exact rfl) | ((with_reducible apply Im.cndNT); · assumption) | ((with_reducible apply Im.cndNF); · assumption) | ((with_reducible apply Im.cndBT); · assumption) | ((with_reducible apply Im.cndBF); · assumption) | ((with_reducible apply Im.bind); · exact op_Wd) | ((with_reducible apply Im.cond); · exact co_Wd) | ((with_reducible apply Im.runB); · exact op_Wd) | ((with_reducible apply Im.runC); · exact co_Wd) | ((with_reducible apply Im.runN); · (simp only [Nat.succ_eq_add_one, Nat.add_assoc, Nat.reduceAdd]; rfl)) | with_reducible apply Im.runR | ((with_reducible apply Im.runE (x := evBuildSlice _ _ _ _ _ _)); · exact sb_Wd)); (repeat (first | with_reducible apply Im.runS | ((with_reducible apply Im.num); · (simp only [Nat.succ_eq_add_one, Nat.add_assoc, Nat.reduceAdd]; rfl)) | (with_reducible apply Im.unm) | (with_reducible apply Im.selT) | (with_reducible apply Im.selF) | ((with_reducible apply Im.cndT); · assumption) | ((with_reducible apply Im.cndF); · assumption) | ((with_reducible apply Im.cndT); · decide) | ((with_reducible apply Im.cndF); · decide) | ((with_reducible apply Im.cndNT); · decide) | ((with_reducible apply Im.cndNF); · decide) | ((with_reducible apply Im.cndBT); · exact rfl) | ((with_reducible apply Im.cndBF); · exact rfl) | ((with_reducible apply Im.cndNT); · assumption) | ((with_reducible apply Im.cndNF); · assumption) | ((with_reducible apply Im.cndBT); · assumption) | ((with_reducible apply Im.cndBF); · assumption) | ((with_reducible apply Im.bind); · exact op_Wd) | ((with_reducible apply Im.cond); · exact co_Wd) | ((with_reducible apply Im.runB); · exact op_Wd) | ((with_reducible apply Im.runC); · exact co_Wd) | ((with_reducible apply Im.runN); · (simp only [Nat.succ_eq_add_one, Nat.add_assoc, Nat.reduceAdd]; rfl)) | with_reducible apply Im.runR | ((with_reducible apply Im.runE (x := evBuildSlice _ _ _ _ _ _)); · exact sb_Wd))); exact Go.Ev.Im.id) : p := h k
theorem st_one {s : Sp} {x : Rd} (hv : validB s = true) (hx : x ∈ s.reads) : stE s [x.Number] = 0 := by
  have h1 := ((ok_of_valid hv).reads x hx).n1
  have h2 : s.reads.any (fun y => decide (y.Number = x.Number)) = true := List.any_eq_true.2 ⟨x, hx, by simp⟩
  unfold stE
  rw [hv, if_pos rfl]
  simp only [stB, h2]
  rw [decide_eq_true (by omega : 0 < x.Number)]; rfl
theorem ad_back {s : Sp} {x : Rd} (hv : validB s = true) (hx : x ∈ s.reads) : adS (woS s [x.Number]) x = s ∧ adE (woS s [x.Number]) x = 0 := by
  have hv0 := hv
  simp only [validB, readsB, Bool.and_eq_true, decide_eq_true_eq] at hv0
  have e : adS (woS s [x.Number]) x = s := by
    unfold adS woS
    show { s with reads := insL (woL s.reads [x.Number]) x } = s
    rw [ins_wo _ _ hv0.2.2 hx]
  refine ⟨e, ?_⟩
  have hl : (woS s [x.Number]).reads.length ≠ 12 := by
    have h1 := insL_len (woL s.reads [x.Number]) x
    rw [ins_wo _ _ hv0.2.2 hx] at h1
    show (woL s.reads [x.Number]).length ≠ 12
    omega
  unfold adE
  rw [wo_valid hv, if_pos rfl, if_neg hl, e, hv]; rfl
theorem rds_uni {w : Int} : ∀ (R : List Rd) (b : Int), rdsB w b R = true → ∀ x ∈ R, ∀ y ∈ R, x.Number = y.Number → x = y
  | [], _, _, _, hx, _, _, _ => by cases hx
  | z :: l, b, h, x, hx, y, hy, e => by
    simp only [rdsB, Bool.and_eq_true, decide_eq_true_eq] at h
    have hg := rds_gt l _ h.2
    rcases List.mem_cons.1 hx with hx' | hx' <;> rcases List.mem_cons.1 hy with hy' | hy'
    · rw [hx', hy']
    · have := hg y hy'; rw [← hx'] at this; omega
    · have := hg x hx'; rw [← hy'] at this; omega
    · exact rds_uni l _ h.2 x hx' y hy' e
theorem reL_mem {s : Sp} {w : Int} {x : Rd} (hv : validB s = true) (hx : x ∈ s.reads) : x.Number ∈ reL s w s.reads ↔ ¬ gvS (woS s [x.Number]) w.toNat = gvS s w.toNat := by
  have hv0 := hv
  simp only [validB, readsB, Bool.and_eq_true, decide_eq_true_eq] at hv0
  unfold reL
  rw [List.mem_map]
  constructor
  · rintro ⟨y, hy, e⟩
    obtain ⟨h1, h2⟩ := List.mem_filter.1 hy
    obtain rfl := rds_uni _ _ hv0.2.2 y h1 x hx e
    simpa using h2
  · intro h
    exact ⟨x, List.mem_filter.2 ⟨hx, by simpa using h⟩, rfl⟩
theorem reL_inc {s : Sp} {w : Int} (hv : validB s = true) {k : Nat} {a c : Int} (h1 : (reL s w s.reads)[k]? = some a) (h2 : (reL s w s.reads)[k + 1]? = some c) : a < c := by
  have hv0 := hv
  simp only [validB, readsB, Bool.and_eq_true, decide_eq_true_eq] at hv0
  have key : ∀ (R : List Rd) (b : Int), rdsB s.weeks b R = true → List.Pairwise (fun x y : Rd => x.Number < y.Number) R := by
    intro R
    induction R with
    | nil => intro _ _; exact List.Pairwise.nil
    | cons z l ih =>
      intro b h
      simp only [rdsB, Bool.and_eq_true, decide_eq_true_eq] at h
      exact List.Pairwise.cons (fun y hy => rds_gt l _ h.2 y hy) (ih _ h.2)
  have hp : List.Pairwise (fun a c : Int => a < c) (reL s w s.reads) := by
    unfold reL
    rw [List.pairwise_map]
    exact (key _ _ hv0.2.2).filter _
  rw [List.pairwise_iff_getElem] at hp
  have l2 := lt_of_at h2
  have := hp k (k + 1) (by omega) l2 (by omega)
  rw [List.getElem?_eq_getElem (by omega)] at h1 h2
  cases h1; cases h2
  exact this
theorem eql_bool {P : Program} {T : TypeId} {x y : Operand} {a b : Bool} (hT : P.underlying T = some .bool) : evBin P .eql T x y (.bool a) (.bool b) = some (.bool (decide (a = b))) := by
  have g : still P (do eqGuard .eql T x y (.bool a) (.bool b); binOp .eql T (.bool a) (.bool b)) = some (.bool (decide (a = b))) := by
    have h1 := still_bool (P := P) (d := 9999) (i := a) (j := b) hT
    show obind (some ()) (fun _ => still P (Value.bool <$> Op.equalIn (9999 + 1) T _ _)) = _
    rw [obind_s, map_eq_pure_bind, still_bnd, h1]
    rfl
  show oor (ocond (scal _) (ocond (scal _) (obind (still P _) fun r => ocond (scal r) (some r)))) _ = _
  rw [g]
  rfl
section
variable {s : Sp} {b r : Value}
theorem r_rests (d : Nat) {p q : Int} {h N} (hb : Sl h N b s.book) (hr : Sl h N r s.reads) (hp : 0 ≤ p ∧ p < 256) (hq : 0 ≤ q ∧ q < 256) :
    Rn (s11 (cN (d + 3)) (.agg ⟨[iS s.weeks, iS s.most, iS s.fall, iS s.slo, iS s.shi, iS s.wlo, iS s.whi, b, r]⟩) (.int .u8 p) (.int .u8 q) h N) fun v h' N' => v = .bool true := by
  unfold s11
  have cb := hb.flat; have cr := hr.flat; have x1 := flatV_one cb; have y1 := cel_flat cb; have x2 := flatV_one cr; have y2 := cel_flat cr
  try refine gs_Wd ?_
  refine Rn.runE (show X28 _ [] _ _ = some (.bool true, _, _) from rfl) ?_
  try refine gs_Wd ?_
  refine Rn.call (c_ready _ (Sl.up (by assumption) fr_Wd (by omega)) (Sl.up (by assumption) fr_Wd (by omega))) ?_
  rintro _ h1 N1 ⟨rfl, f1, o1, l1⟩
  try refine gs_Wd ?_
  refine Rn.partN (fun hrd => ?_) (fun hrd => ?_)
  rotate_left
  · try refine gs_Wd ?_
    exact Rn.ret rfl
  obtain ⟨hv, nb, nr⟩ := ready_ok hrd
  have hs := ok_of_valid hv
  try refine gs_Wd ?_
  refine Rn.call (c_rTrue _ hs (Sl.up (by assumption) fr_Wd (by omega)) (Sl.up (by assumption) fr_Wd (by omega))) ?_
  rintro _ h2 N2 ⟨rfl, f2, o2, l2⟩
  try refine gs_Wd ?_
  refine Rn.partN (fun hc => ?_) (fun hc => ?_)
  rotate_left
  · try refine gs_Wd ?_
    exact Rn.ret rfl
  by_cases hz : (s.reads.length : Int) = 0
  · try refine gs_Wd ?_
    exact Rn.ret rfl
  have w1 := hs.ok.w1
  have w2 := hs.ok.w2
  have hnr := hs.nr
  have u1 := Int.emod_nonneg p (b := s.weeks) (by omega)
  have u2 := Int.emod_lt_of_pos p (b := s.weeks) (by omega)
  have u3 := Int.emod_nonneg q (b := (s.reads.length : Int)) (by omega)
  have u4 := Int.emod_lt_of_pos q (b := (s.reads.length : Int)) (by omega)
  obtain ⟨k, hk⟩ : ∃ k : Nat, q % (s.reads.length : Int) = (k : Int) := ⟨(q % (s.reads.length : Int)).toNat, by omega⟩
  have hkl : k < s.reads.length := by omega
  obtain ⟨x, hx⟩ := at_of hkl
  have hxm := List.mem_of_getElem? hx
  try refine gs_Wd ?_
  rw [show Value.int IntKind.i64 (q % (s.reads.length : Int)) = nS k from congrArg (Value.int .i64) hk]
  generalize p % s.weeks = w at u1 u2 ⊢
  clear hk u3 u4
  try refine gs_Wd ?_
  refine Rn.call (c_Gives d nb nr (Sl.up (by assumption) fr_Wd (by omega)) (Sl.up (by assumption) fr_Wd (by omega))) ?_
  rintro _ h3 N3 ⟨rfl, f3, o3, l3⟩
  have e1 : erS s w = 0 := er_0 hv hc ⟨u1, by omega⟩
  have e2 : gE s w = gvS s w.toNat := if_pos e1
  rw [e1, e2]
  try refine gs_Wd ?_
  refine Rn.call (c_Rests d nb nr (Sl.up (by assumption) fr_Wd (by omega)) (Sl.up (by assumption) fr_Wd (by omega))) ?_
  rintro _ h4 N4 ⟨⟨l, rfl, hl⟩, f4, o4, l4⟩
  have e3 : reT s w = reL s w s.reads := if_pos e1
  rw [e3] at hl
  rw [e1]
  have cl := hl.flat
  have x3 := flatV_one cl
  have y3 := cel_flat cl
  clear e1 e2 e3
  try refine gs_Wd ?_
  refine Rn.call (c_Strike d (L := [x.Number]) nb nr (Sl.up (by assumption) fr_Wd (by omega)) (Sl.up (by assumption) fr_Wd (by omega)) (by simp) (Sl.lit _ sM_Wd (by omega) rfl rfl)) ?_
  rintro _ h5 N5 ⟨⟨b', r', rfl, k1, k2⟩, f5, o5, l5⟩
  have e1 := st_one hv hxm
  have e2 : stR s [x.Number] = woS s [x.Number] := if_pos e1
  rw [e2] at k1 k2
  rw [e1, e2]
  clear e1 e2
  have c1 := k1.flat
  have c2 := k2.flat
  have x4 := flatV_one c1
  have y4 := cel_flat c1
  have x5 := flatV_one c2
  have y5 := cel_flat c2
  have hvu := wo_valid (L := [x.Number]) hv
  have hsu := ok_of_valid hvu
  have hnu := wo_nar s [x.Number]
  have nbu : (woS s [x.Number]).book.length < 1000 := nb
  have nru : (woS s [x.Number]).reads.length < 1000 := by have := wo_len s [x.Number]; omega
  have hcu := can_nar hnu hc
  have hgu := gv_nar hnu hsu hc (w := w.toNat) (by show w.toNat < s.weeks.toNat; omega)
  have hgs := gv_bd hs (w := w.toNat) (by omega) hc
  obtain ⟨hb1, hb2⟩ := ad_back hv hxm
  have hmem := reL_mem (w := w) hv hxm
  have hinc := fun {k a c} => reL_inc (s := s) (w := w) hv (k := k) (a := a) (c := c)
  have hrl : (reL s w s.reads).length ≤ s.reads.length := by
    unfold reL
    rw [List.length_map]
    exact List.length_filter_le _ _
  generalize reL s w s.reads = L at *
  try refine gs_Wd ?_
  refine Rn.call (c_Gives d (s := woS s [x.Number]) nbu nru (Sl.up (by assumption) fr_Wd (by omega)) (Sl.up (by assumption) fr_Wd (by omega))) ?_
  rintro _ h6 N6 ⟨rfl, f6, o6, l6⟩
  have e1 : erS (woS s [x.Number]) w = 0 := er_0 hvu hcu ⟨u1, by show w ≤ s.weeks - 1; omega⟩
  have e2 : gE (woS s [x.Number]) w = gvS (woS s [x.Number]) w.toNat := if_pos e1
  rw [e1, e2]
  clear e1 e2
  try refine gs_Wd ?_
  refine Rn.call (c_lwithin _) ?_
  rintro _ h7 N7 ⟨rfl, f7, o7, l7⟩
  have qw : withB (gvS s w.toNat).1 (gvS s w.toNat).2 (gvS (woS s [x.Number]) w.toNat).1 (gvS (woS s [x.Number]) w.toNat).2 = true := by
    unfold withB
    simp only [Bool.and_eq_true, decide_eq_true_eq]
    omega
  rw [qw]
  have n1 : ∀ u v, evBin Pr .neq 23 u v (.agg ⟨[iS (gvS (woS s [x.Number]) w.toNat).1, iS (gvS (woS s [x.Number]) w.toNat).2]⟩) (.agg ⟨[iS (gvS s w.toNat).1, iS (gvS s w.toNat).2]⟩) = some (.bool (decide (x.Number ∈ L))) := fun u v => by
    rw [neqE_Span u v ⟨_, _⟩ ⟨_, _⟩]
    by_cases hE : gvS (woS s [x.Number]) w.toNat = gvS s w.toNat
    · rw [decide_eq_true (span_eq.2 hE), decide_eq_false (fun h => (hmem.1 h) hE)]; rfl
    · rw [decide_eq_false (fun h => hE (span_eq.1 h)), decide_eq_true (hmem.2 hE)]; rfl
  have n2 : ∀ u v c, evBin Pr .eql 4 u v (.bool c) (.bool c) = some (.bool true) := fun u v c => by
    rw [eql_bool (by kernel_rfl), decide_eq_true rfl]
  have m0 : h7.get N = some (.c [iS s.weeks, iS s.most, iS s.fall, iS s.slo, iS s.shi, iS s.wlo, iS s.whi, b, r] 27) := sS_Wd
  have m1 : h7.get N2 = some (.c [iS x.Number, iS x.Week, iS x.Bucket, iS x.Songs_Lo, iS x.Songs_Hi] 71) := sS_Wd
  have m2 : h7.get N3 = some (.c [iS (gvS s w.toNat).1, iS (gvS s w.toNat).2] 23) := sS_Wd
  have m3 : h7.get N5 = some (.c [iS (woS s [x.Number]).weeks, iS (woS s [x.Number]).most, iS (woS s [x.Number]).fall, iS (woS s [x.Number]).slo, iS (woS s [x.Number]).shi, iS (woS s [x.Number]).wlo, iS (woS s [x.Number]).whi, b', r'] 27) := sS_Wd
  have m4 : h7.get N6 = some (.c [iS (gvS (woS s [x.Number]) w.toNat).1, iS (gvS (woS s [x.Number]) w.toNat).2] 23) := sS_Wd
  have s0 : Sl h7 N7 b s.book := (Sl.up (by assumption) fr_Wd (by omega))
  have s1 : Sl h7 N7 r s.reads := (Sl.up (by assumption) fr_Wd (by omega))
  have s2 : Sl h7 N7 l L := (Sl.up (by assumption) fr_Wd (by omega))
  have s3 : Sl h7 N7 b' (woS s [x.Number]).book := (Sl.up (by assumption) fr_Wd (by omega))
  have s4 : Sl h7 N7 r' (woS s [x.Number]).reads := (Sl.up (by assumption) fr_Wd (by omega))
  have lN : N < N7 := by omega
  have lN2 : N2 < N7 := by omega
  have lN3 : N3 < N7 := by omega
  have lN5 : N5 < N7 := by omega
  have lN6 : N6 < N7 := by omega
  try refine gs_Wd ?_
  clear f1 o1 l1 f2 o2 l2 f3 o3 l3 f4 o4 l4 f5 o5 l5 f6 o6 l6 f7 o7 l7 hb hr hl k1 k2 qw
  refine Rn.loop10 (fun n a1 a2 a3 a4 a5 a6 a7 a8 a9 a10 g M => ∃ i : Nat, a1 = .pointer (some ⟨N, 0, none⟩) ∧ a2 = .bool true ∧ a3 = .pointer (some ⟨N2, 0, none⟩) ∧ a4 = .pointer (some ⟨N3, 0, none⟩) ∧ l = a5 ∧ a6 = .pointer (some ⟨N5, 0, none⟩) ∧ a7 = .pointer (some ⟨N6, 0, none⟩) ∧ l = a8 ∧ a9 = nS L.length ∧ a10 = nS i ∧ i + n = L.length ∧ Fr h7 N7 g ∧ N7 ≤ M) L.length (by omega)
    ⟨0, rfl, rfl, rfl, rfl, rfl, rfl, rfl, rfl, rfl, rfl, by omega, Fr.refl _ _, Nat.le_refl _⟩ ?_
  rintro n g ih _ _ _ _ _ _ _ _ _ _ h8 N8 ⟨i, rfl, rfl, rfl, rfl, q5, rfl, rfl, q8, rfl, rfl, e2, f8, l8⟩
  subst q5
  subst q8
  have p0 := (f8 _ lN).trans m0
  have p1 := (f8 _ lN2).trans m1
  have p2 := (f8 _ lN3).trans m2
  have p3 := (f8 _ lN5).trans m3
  have p4 := (f8 _ lN6).trans m4
  clear m0 m1 m2 m3 m4
  try refine gs_Wd ?_
  (first | with_reducible refine Rn.cnd (fun _ => ?_) (fun _ => ?_) | with_reducible refine Rn.cndN (fun _ => ?_) (fun _ => ?_) | with_reducible refine Rn.cndB (fun _ => ?_) (fun _ => ?_))
  · obtain ⟨y, hy⟩ := at_of (L := L) (k := i) (by omega)
    have hi : i < L.length := by omega
    by_cases hi0 : 0 < (i : Int)
    · obtain ⟨j, rfl⟩ : ∃ j, i = j + 1 := ⟨i - 1, by omega⟩
      obtain ⟨z, hz⟩ := at_of (L := L) (k := j) (by omega)
      have hj : j < L.length := by omega
      have hlt := hinc hz hy
      have hnl : ¬ y ≤ z := by omega
      have hz' : L[j + 1 - 1]? = some z := hz
      try refine gs_Wd ?_
      exact ih (n - 1) (by omega) _ _ _ _ _ _ _ _ _ _ _ _ ⟨j + 1 + 1, rfl, rfl, rfl, rfl, rfl, rfl, rfl, rfl, rfl, rfl, by omega, fr_Wd, by omega⟩
    · try refine gs_Wd ?_
      exact ih (n - 1) (by omega) _ _ _ _ _ _ _ _ _ _ _ _ ⟨i + 1, rfl, rfl, rfl, rfl, rfl, rfl, rfl, rfl, rfl, rfl, by omega, fr_Wd, by omega⟩
  · clear ih
    try refine gs_Wd ?_
    refine Rn.call (c_Add d (s := woS s [x.Number]) (x := x) nbu nru (Sl.up (by assumption) fr_Wd (by omega)) (Sl.up (by assumption) fr_Wd (by omega))) ?_
    rintro _ h9 N9 ⟨⟨b'', r'', rfl, k1, k2⟩, f9, o9, l9⟩
    have e3 : adR (woS s [x.Number]) x = s := (if_pos hb2).trans hb1
    rw [e3] at k1 k2
    rw [hb2, e3]
    have c3 := k1.flat
    have c4 := k2.flat
    have x6 := flatV_one c3
    have y6 := cel_flat c3
    have x7 := flatV_one c4
    have y7 := cel_flat c4
    try refine gs_Wd ?_
    refine Rn.call (c_has _ (L := L) (by omega) (Sl.up (by assumption) fr_Wd (by omega))) ?_
    rintro _ h10 N10 ⟨rfl, f10, o10, l10⟩
    try refine gs_Wd ?_
    refine Rn.call (c_Same _ nb nr (Sl.up (by assumption) fr_Wd (by omega)) (Sl.up (by assumption) fr_Wd (by omega)) (Sl.up (by assumption) fr_Wd (by omega)) (Sl.up (by assumption) fr_Wd (by omega))) ?_
    rintro _ h11 N11 ⟨rfl, f11, o11, l11⟩
    try refine gs_Wd ?_
    exact Rn.ret rfl
end
end Go.Proofs.Ytpilgokdbliklaa
end

