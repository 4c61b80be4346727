/-
  What the functions of the law return.
  Conditions: none.
-/
import Derived.Test.YtpilgokdbliklaaLd

section
namespace Go.Proofs.Ytpilgokdbliklaa
open Go.Ev Go.RowKit
set_option linter.unusedVariables false
set_option linter.unusedSimpArgs false
set_option linter.unusedSectionVars false
set_option maxRecDepth 100000
set_option maxHeartbeats 4000000
theorem s1_Eb {p : Prop} (h : p := by (simp (disch := omega) only [obind_s, orun_s, ocond_t, fad_p, ld1_e, ldN_e, sto_e, cellO_c, wrO_c, Tr.get_same, Tr.get_other, nth_0, nth_s, drp_0, drp_s, drp_n, tak_0, tak_s, tak_n, over_n, over_c, lay_0, lay_s, lay_n, len_n, len_c, app_n, app_c, reps_0, reps_s, cel_agg, cel_int, cel_bool, cel_str, cel_sl, cel_ptr, cel_map, cel_func, cel_nilf, fil_n, fil_c, beq_r, ble_d, allF_n, allF_c, one_int, one_bool, one_str, one_sl, one_ptr, one_map, one_func, one_nilf, Bool.and_true, Bool.true_and, Bool.not_true, Bool.not_false, iadA_z, Int.reduceToNat, Int.toNat_zero, fl1_a, flN_a, extr_t, unot, not_d, Nat.add_eq, Nat.mul_eq, Nat.mul_one, Nat.one_mul, Nat.zero_mul, Nat.reduceMul, Nat.zero_add, Nat.add_zero, Nat.le_refl, decide_true, Nat.reduceAdd, Nat.reduceLeDiff, bsl_Sint, bsl_SReading, bsl_SLine, bs0_SLine, bs0_SReading, bld_Span, bld_Line, bld_spring_work, bld_spring_asked, enc_Line, enc_Reading, ocond_d, Int.toNat_natCast, *]); first | done | fail) : p := h
theorem s2_Eb {p : Prop} (h : p := by (simp (disch := omega) only [obind_s, orun_s, ocond_t, fad_p, ld1_e, ldN_e, sto_e, cellO_c, wrO_c, Tr.get_same, Tr.get_other, nth_0, nth_s, drp_0, drp_s, drp_n, tak_0, tak_s, tak_n, over_n, over_c, lay_0, lay_s, lay_n, len_n, len_c, app_n, app_c, reps_0, reps_s, cel_agg, cel_int, cel_bool, cel_str, cel_sl, cel_ptr, cel_map, cel_func, cel_nilf, fil_n, fil_c, beq_r, ble_d, allF_n, allF_c, one_int, one_bool, one_str, one_sl, one_ptr, one_map, one_func, one_nilf, Bool.and_true, Bool.true_and, Bool.not_true, Bool.not_false, iadA_z, Int.reduceToNat, Int.toNat_zero, fl1_a, flN_a, extr_t, unot, not_d, Nat.add_eq, Nat.mul_eq, Nat.mul_one, Nat.one_mul, Nat.zero_mul, Nat.reduceMul, Nat.zero_add, Nat.add_zero, Nat.le_refl, decide_true, Nat.reduceAdd, Nat.reduceLeDiff, bsl_Sint, bsl_SReading, bsl_SLine, bs0_SLine, bs0_SReading, bld_Span, bld_Line, bld_spring_work, bld_spring_asked, enc_Line, enc_Reading, ocond_d, Int.toNat_natCast, *]); rfl) : p := h
theorem sb_Eb {p : Prop} (h : p := by first | ((simp (disch := omega) only [obind_s, orun_s, ocond_t, fad_p, ld1_e, ldN_e, sto_e, cellO_c, wrO_c, Tr.get_same, Tr.get_other, nth_0, nth_s, drp_0, drp_s, drp_n, tak_0, tak_s, tak_n, over_n, over_c, lay_0, lay_s, lay_n, len_n, len_c, app_n, app_c, reps_0, reps_s, cel_agg, cel_int, cel_bool, cel_str, cel_sl, cel_ptr, cel_map, cel_func, cel_nilf, fil_n, fil_c, beq_r, ble_d, allF_n, allF_c, one_int, one_bool, one_str, one_sl, one_ptr, one_map, one_func, one_nilf, Bool.and_true, Bool.true_and, Bool.not_true, Bool.not_false, iadA_z, Int.reduceToNat, Int.toNat_zero, fl1_a, flN_a, extr_t, unot, not_d, Nat.add_eq, Nat.mul_eq, Nat.mul_one, Nat.one_mul, Nat.zero_mul, Nat.reduceMul, Nat.zero_add, Nat.add_zero, Nat.le_refl, decide_true, Nat.reduceAdd, Nat.reduceLeDiff, bsl_Sint, bsl_SReading, bsl_SLine, bs0_SLine, bs0_SReading, bld_Span, bld_Line, bld_spring_work, bld_spring_asked, enc_Line, enc_Reading, ocond_d, Int.toNat_natCast, Nat.succ_eq_add_one, Nat.add_assoc, *]); rfl) | ((simp (disch := omega) only [obind_s, orun_s, ocond_t, fad_p, ld1_e, ldN_e, sto_e, cellO_c, wrO_c, Tr.get_same, Tr.get_other, nth_0, nth_s, drp_0, drp_s, drp_n, tak_0, tak_s, tak_n, over_n, over_c, lay_0, lay_s, lay_n, len_n, len_c, app_n, app_c, reps_0, reps_s, cel_agg, cel_int, cel_bool, cel_str, cel_sl, cel_ptr, cel_map, cel_func, cel_nilf, fil_n, fil_c, beq_r, ble_d, allF_n, allF_c, one_int, one_bool, one_str, one_sl, one_ptr, one_map, one_func, one_nilf, Bool.and_true, Bool.true_and, Bool.not_true, Bool.not_false, iadA_z, Int.reduceToNat, Int.toNat_zero, fl1_a, flN_a, extr_t, unot, not_d, Nat.add_eq, Nat.mul_eq, Nat.mul_one, Nat.one_mul, Nat.zero_mul, Nat.reduceMul, Nat.zero_add, Nat.add_zero, Nat.le_refl, decide_true, Nat.reduceAdd, Nat.reduceLeDiff, bsl_Sint, bsl_SReading, bsl_SLine, bs0_SLine, bs0_SReading, bld_Span, bld_Line, bld_spring_work, bld_spring_asked, enc_Line, enc_Reading, ocond_d, Int.toNat_natCast, Nat.succ_eq_add_one, Nat.add_assoc, *]); done)) : p := h
theorem fr_Eb {p : Prop} (h : p := by first | assumption | exact Fr.refl _ _ | (simp (disch := omega) only [Fr_set, Fr_refl, *])) : p := h
theorem fl_Eb {p : Prop} (h : p := by first | with_unfolding_all rfl | exact Sl.flat (by assumption) | assumption) : p := h
theorem fll_Eb {p : Prop} (h : p := by first | with_unfolding_all rfl | ((repeat (refine flatL_k fl_Eb ?_)); with_unfolding_all rfl)) : p := h
theorem en_Eb {p : Prop} (h : p := by first | ((simp only [enc_int, enc_str, enc_u8, enc_bool, tak_s, tak_0, tak_n, drp_0, drp_s, drp_n, nth_s, nth_0, bsl_Sint, bsl_SReading, bsl_SLine, bs0_SLine, bs0_SReading, bld_Span, bld_Line, bld_spring_work, bld_spring_asked, enc_Line, enc_Reading, ocond_d, Int.toNat_natCast]); rfl) | ((simp only [enc_int, enc_str, enc_u8, enc_bool, tak_s, tak_0, tak_n, drp_0, drp_s, drp_n, nth_s, nth_0, bsl_Sint, bsl_SReading, bsl_SLine, bs0_SLine, bs0_SReading, bld_Span, bld_Line, bld_spring_work, bld_spring_asked, enc_Line, enc_Reading, ocond_d, Int.toNat_natCast]); done) | with_unfolding_all rfl) : p := h
theorem sM_Eb {p : Prop} (h : p := by (first | assumption | (simp (disch := omega) only [Tr.get_same, Tr.get_other, *]; rfl) | (simp (disch := omega) only [Tr.get_same, Tr.get_other, *]; done))) : p := h
theorem sS_Eb {p : Prop} (h : p := by first | assumption | exact s1_Eb) : p := h
theorem op_Eb {p : Prop} (h : p := by first | with_reducible exact fad_p _ _ _ | with_reducible exact iop_lss _ _ | with_reducible exact iop_leq _ _ | with_reducible exact iop_gtr _ _ | with_reducible exact iop_geq _ _ | with_reducible exact iop_eql _ _ | with_reducible exact iop_neq _ _ | with_reducible exact Sl.len (by assumption) | with_reducible exact lenS_s _ _ _ | with_reducible exact Sl.iad (by assumption) (by with_unfolding_all rfl) (by first | assumption | omega) | with_reducible exact Sl.fad (by assumption) (by first | assumption | omega) | with_reducible exact Sl.ld1 (by assumption) fr_Eb (by with_unfolding_all rfl) (by assumption) en_Eb | with_reducible exact Sl.ldN (by assumption) fr_Eb (by with_unfolding_all rfl) (by assumption) (by with_unfolding_all rfl) en_Eb | with_reducible exact zadd1 (by omega) | with_reducible exact zsub1 (by omega) (by omega) | with_reducible exact zaddI (by omega) (by omega) | with_reducible exact zsubI (by omega) (by omega) | with_reducible exact min_z | with_reducible exact max_z | with_reducible exact zmulI (by assumption) | with_reducible exact zmulK (by omega) (by omega) | with_reducible exact quo_z (by omega) (by omega) (by omega) | with_reducible exact cv_u8 (by omega) | with_reducible exact rem_z (by omega) (by omega) (by omega) | with_reducible exact neq_bool (by kernel_rfl) | with_reducible exact eql_u8 | with_reducible exact wntT_t (by assumption) | with_reducible exact wntT_f (by assumption) | with_reducible exact wntF_t (by assumption) | with_reducible exact wntF_f (by assumption) | with_reducible exact wnt_tt | with_reducible exact wnt_tf | with_reducible exact wnt_ft | with_reducible exact wnt_ff | with_reducible exact wnt_u _ _ | with_reducible exact pck_t _ _ | with_reducible exact pck_f _ _ | with_reducible exact pckT (by assumption) | with_reducible exact pckF (by assumption) | with_reducible exact wntT_t (by decide) | with_reducible exact wntT_f (by decide) | with_reducible exact wntF_t (by decide) | with_reducible exact wntF_f (by decide) | with_reducible exact pckT (by decide) | with_reducible exact pckF (by decide) | with_reducible exact wntN_tt (by decide) | with_reducible exact wntN_tf (by decide) | with_reducible exact wntN_ft (by decide) | with_reducible exact wntN_ff (by decide) | with_reducible exact pckNT (by decide) | with_reducible exact pckNF (by decide) | with_reducible exact wntN_tt (by assumption) | with_reducible exact wntN_tf (by assumption) | with_reducible exact wntN_ft (by assumption) | with_reducible exact wntN_ff (by assumption) | with_reducible exact pckNT (by assumption) | with_reducible exact pckNF (by assumption) | with_reducible exact wntB_tt (by assumption) | with_reducible exact wntB_tf (by assumption) | with_reducible exact wntB_ft (by assumption) | with_reducible exact wntB_ff (by assumption) | with_reducible exact pckBT (by assumption) | with_reducible exact pckBF (by assumption) | exact s2_Eb | exact s1_Eb) : p := h
theorem co_Eb {p : Prop} (h : p := by first | (simp only [impB_1, impB_0, offB_1, offB_0]; done) | ((try simp only [impB_1, impB_0, offB_1, offB_0]); first | with_reducible exact Sl.ag1 (by assumption) fr_Eb (by with_unfolding_all rfl) (by assumption) en_Eb | with_reducible exact Sl.agN (by assumption) fr_Eb (by with_unfolding_all rfl) (by assumption) (by with_unfolding_all rfl) en_Eb | ((with_reducible refine agL1_e ?_ ?_); (· exact s1_Eb); (· exact fl_Eb)) | ((with_reducible refine agLN_e ?_ ?_); (· exact s1_Eb); (· exact fll_Eb)) | ((with_reducible apply ag_bs); (· exact sM_Eb); (· rfl); (· exact sb_Eb); (· exact fll_Eb)) | ((with_reducible apply ag_al); (· exact sM_Eb); (· rfl); (· exact fll_Eb)) | ((with_reducible apply ag_bx); (· exact sM_Eb); (· rfl); (· rfl); (· exact fll_Eb)) | ((with_reducible apply ag_bd); (· rfl); (· exact s1_Eb); (· exact fll_Eb)) | exact s1_Eb)) : p := h
theorem gs_Eb {r p : Prop} (k : r) (h : Go.Ev.Im r p := by (first | with_reducible apply Im.runS | ((with_reducible apply Im.num); · (simp only [Nat.succ_eq_add_one, Nat.add_assoc, Nat.reduceAdd]; rfl)) | (with_reducible apply Im.unm) | (with_reducible apply Im.selT) | (with_reducible apply Im.selF) | ((with_reducible apply Im.cndT); · assumption) | ((with_reducible apply Im.cndF); · assumption) | ((with_reducible apply Im.cndT); · decide) | ((with_reducible apply Im.cndF); · decide) | ((with_reducible apply Im.cndNT); · decide) | ((with_reducible apply Im.cndNF); · decide) | ((with_reducible apply Im.cndBT); · exact rfl) | ((with_reducible apply Im.cndBF); · exact rfl) | ((with_reducible apply Im.cndNT); · assumption) | ((with_reducible apply Im.cndNF); · assumption) | ((with_reducible apply Im.cndBT); · assumption) | ((with_reducible apply Im.cndBF); · assumption) | ((with_reducible apply Im.bind); · exact op_Eb) | ((with_reducible apply Im.cond); · exact co_Eb) | ((with_reducible apply Im.runB); · exact op_Eb) | ((with_reducible apply Im.runC); · exact co_Eb) | ((with_reducible apply Im.runN); · (simp only [Nat.succ_eq_add_one, Nat.add_assoc, Nat.reduceAdd]; rfl)) | with_reducible apply Im.runR | ((with_reducible apply Im.runE (x := evBuildSlice _ _ _ _ _ _)); · exact sb_Eb)); (repeat (first | with_reducible apply Im.runS | ((with_reducible apply Im.num); · (simp only [Nat.succ_eq_add_one, Nat.add_assoc, Nat.reduceAdd]; rfl)) | (with_reducible apply Im.unm) | (with_reducible apply Im.selT) | (with_reducible apply Im.selF) | ((with_reducible apply Im.cndT); · assumption) | ((with_reducible apply Im.cndF); · assumption) | ((with_reducible apply Im.cndT); · decide) | ((with_reducible apply Im.cndF); · decide) | ((with_reducible apply Im.cndNT); · decide) | ((with_reducible apply Im.cndNF); · decide) | ((with_reducible apply Im.cndBT); · exact rfl) | ((with_reducible apply Im.cndBF); · exact rfl) | ((with_reducible apply Im.cndNT); · assumption) | ((with_reducible apply Im.cndNF); · assumption) | ((with_reducible apply Im.cndBT); · assumption) | ((with_reducible apply Im.cndBF); · assumption) | ((with_reducible apply Im.bind); · exact op_Eb) | ((with_reducible apply Im.cond); · exact co_Eb) | ((with_reducible apply Im.runB); · exact op_Eb) | ((with_reducible apply Im.runC); · exact co_Eb) | ((with_reducible apply Im.runN); · (simp only [Nat.succ_eq_add_one, Nat.add_assoc, Nat.reduceAdd]; rfl)) | with_reducible apply Im.runR | ((with_reducible apply Im.runE (x := evBuildSlice _ _ _ _ _ _)); · exact sb_Eb))); exact Go.Ev.Im.id) : p := h k
section
variable {s : Sp} {b r : Value}
theorem c_rTwin (call : CallF) {h N} (nb : s.book.length < 1000) (nr : s.reads.length < 1000) (hb : Sl h N b s.book) (hr : Sl h N r s.reads) :
    Rn (s13 call (.agg ⟨[iS s.weeks, iS s.most, iS s.fall, iS s.slo, iS s.shi, iS s.wlo, iS s.whi, b, r]⟩) h N) fun v h' N' => (∃ b' r', v = .agg ⟨[iS s.weeks, iS s.most, iS s.fall, iS s.slo, iS s.shi, iS s.wlo, iS s.whi, b', r']⟩ ∧ OwR N N' h' 73 b' s.book ∧ OwR N N' h' 71 r' s.reads) ∧ Gw h N h' N' := by
  unfold s13
  have cb := hb.flat; have cr := hr.flat; have x1 := flatV_one cb; have y1 := cel_flat cb; have x2 := flatV_one cr; have y2 := cel_flat cr
  try refine gs_Eb ?_
  refine Rn.call (Ow.app (α := Ln) (L := []) (K := s.book) (i := N + 2) ap_SLine (.inr (.inl ⟨rfl, sM_Eb⟩)) (by omega) hb fr_Eb (by simp; omega)) ?_
  rintro p' h1 N1 ⟨i1, w1, e1, e2, f1, o1, l1⟩
  rw [List.nil_append] at w1
  have s1 := w1.sl (N := N1) e2
  have a1 := flatV_one s1.flat
  have c1 := cel_flat s1.flat
  try refine gs_Eb ?_
  refine Rn.call (Ow.app (α := Rd) (L := []) (K := s.reads) (i := N + 3) ap_SReading (.inr (.inl ⟨rfl, sM_Eb⟩)) (by omega) hr fr_Eb (by simp; omega)) ?_
  rintro l' h2 N2 ⟨i2, w2, e3, e4, f2, o2, l2⟩
  rw [List.nil_append] at w2
  have s2 := w2.sl (N := N2) e4
  have a2 := flatV_one s2.flat
  have c2 := cel_flat s2.flat
  try refine gs_Eb ?_
  refine Rn.ret ⟨⟨p', l', rfl, ?_, ?_⟩, (Gw.of fr_Eb (by omega))⟩
  · exact .inr ⟨i1, by omega, by omega, w1.keep sS_Eb⟩
  · exact .inr ⟨i2, by omega, by omega, w2.keep sS_Eb⟩
end
end Go.Proofs.Ytpilgokdbliklaa
end

section
namespace Go.Proofs.Ytpilgokdbliklaa
open Go.Ev Go.RowKit
set_option linter.unusedVariables false
set_option linter.unusedSimpArgs false
set_option linter.unusedSectionVars false
set_option maxRecDepth 100000
set_option maxHeartbeats 4000000
theorem s1_Fa {p : Prop} (h : p := by (simp (disch := omega) only [obind_s, orun_s, ocond_t, fad_p, ld1_e, ldN_e, sto_e, cellO_c, wrO_c, Tr.get_same, Tr.get_other, nth_0, nth_s, drp_0, drp_s, drp_n, tak_0, tak_s, tak_n, over_n, over_c, lay_0, lay_s, lay_n, len_n, len_c, app_n, app_c, reps_0, reps_s, cel_agg, cel_int, cel_bool, cel_str, cel_sl, cel_ptr, cel_map, cel_func, cel_nilf, fil_n, fil_c, beq_r, ble_d, allF_n, allF_c, one_int, one_bool, one_str, one_sl, one_ptr, one_map, one_func, one_nilf, Bool.and_true, Bool.true_and, Bool.not_true, Bool.not_false, iadA_z, Int.reduceToNat, Int.toNat_zero, fl1_a, flN_a, extr_t, unot, not_d, Nat.add_eq, Nat.mul_eq, Nat.mul_one, Nat.one_mul, Nat.zero_mul, Nat.reduceMul, Nat.zero_add, Nat.add_zero, Nat.le_refl, decide_true, Nat.reduceAdd, Nat.reduceLeDiff, bsl_Sint, bld_Span, bld_spring_work, bld_spring_asked, enc_Line, enc_Reading, ocond_d, Int.toNat_natCast, bsl_Saguadorref01_left, enc_Lf, le_lo, le_hi, le_laylo, le_layhi, le_len, le_self, le_tak, le_over, up_same, up_up, Nat.add_sub_cancel, *]); first | done | fail) : p := h
theorem s2_Fa {p : Prop} (h : p := by (simp (disch := omega) only [obind_s, orun_s, ocond_t, fad_p, ld1_e, ldN_e, sto_e, cellO_c, wrO_c, Tr.get_same, Tr.get_other, nth_0, nth_s, drp_0, drp_s, drp_n, tak_0, tak_s, tak_n, over_n, over_c, lay_0, lay_s, lay_n, len_n, len_c, app_n, app_c, reps_0, reps_s, cel_agg, cel_int, cel_bool, cel_str, cel_sl, cel_ptr, cel_map, cel_func, cel_nilf, fil_n, fil_c, beq_r, ble_d, allF_n, allF_c, one_int, one_bool, one_str, one_sl, one_ptr, one_map, one_func, one_nilf, Bool.and_true, Bool.true_and, Bool.not_true, Bool.not_false, iadA_z, Int.reduceToNat, Int.toNat_zero, fl1_a, flN_a, extr_t, unot, not_d, Nat.add_eq, Nat.mul_eq, Nat.mul_one, Nat.one_mul, Nat.zero_mul, Nat.reduceMul, Nat.zero_add, Nat.add_zero, Nat.le_refl, decide_true, Nat.reduceAdd, Nat.reduceLeDiff, bsl_Sint, bld_Span, bld_spring_work, bld_spring_asked, enc_Line, enc_Reading, ocond_d, Int.toNat_natCast, bsl_Saguadorref01_left, enc_Lf, le_lo, le_hi, le_laylo, le_layhi, le_len, le_self, le_tak, le_over, up_same, up_up, Nat.add_sub_cancel, *]); rfl) : p := h
theorem sb_Fa {p : Prop} (h : p := by first | ((simp (disch := omega) only [obind_s, orun_s, ocond_t, fad_p, ld1_e, ldN_e, sto_e, cellO_c, wrO_c, Tr.get_same, Tr.get_other, nth_0, nth_s, drp_0, drp_s, drp_n, tak_0, tak_s, tak_n, over_n, over_c, lay_0, lay_s, lay_n, len_n, len_c, app_n, app_c, reps_0, reps_s, cel_agg, cel_int, cel_bool, cel_str, cel_sl, cel_ptr, cel_map, cel_func, cel_nilf, fil_n, fil_c, beq_r, ble_d, allF_n, allF_c, one_int, one_bool, one_str, one_sl, one_ptr, one_map, one_func, one_nilf, Bool.and_true, Bool.true_and, Bool.not_true, Bool.not_false, iadA_z, Int.reduceToNat, Int.toNat_zero, fl1_a, flN_a, extr_t, unot, not_d, Nat.add_eq, Nat.mul_eq, Nat.mul_one, Nat.one_mul, Nat.zero_mul, Nat.reduceMul, Nat.zero_add, Nat.add_zero, Nat.le_refl, decide_true, Nat.reduceAdd, Nat.reduceLeDiff, bsl_Sint, bld_Span, bld_spring_work, bld_spring_asked, enc_Line, enc_Reading, ocond_d, Int.toNat_natCast, bsl_Saguadorref01_left, enc_Lf, le_lo, le_hi, le_laylo, le_layhi, le_len, le_self, le_tak, le_over, up_same, up_up, Nat.add_sub_cancel, Nat.succ_eq_add_one, Nat.add_assoc, *]); rfl) | ((simp (disch := omega) only [obind_s, orun_s, ocond_t, fad_p, ld1_e, ldN_e, sto_e, cellO_c, wrO_c, Tr.get_same, Tr.get_other, nth_0, nth_s, drp_0, drp_s, drp_n, tak_0, tak_s, tak_n, over_n, over_c, lay_0, lay_s, lay_n, len_n, len_c, app_n, app_c, reps_0, reps_s, cel_agg, cel_int, cel_bool, cel_str, cel_sl, cel_ptr, cel_map, cel_func, cel_nilf, fil_n, fil_c, beq_r, ble_d, allF_n, allF_c, one_int, one_bool, one_str, one_sl, one_ptr, one_map, one_func, one_nilf, Bool.and_true, Bool.true_and, Bool.not_true, Bool.not_false, iadA_z, Int.reduceToNat, Int.toNat_zero, fl1_a, flN_a, extr_t, unot, not_d, Nat.add_eq, Nat.mul_eq, Nat.mul_one, Nat.one_mul, Nat.zero_mul, Nat.reduceMul, Nat.zero_add, Nat.add_zero, Nat.le_refl, decide_true, Nat.reduceAdd, Nat.reduceLeDiff, bsl_Sint, bld_Span, bld_spring_work, bld_spring_asked, enc_Line, enc_Reading, ocond_d, Int.toNat_natCast, bsl_Saguadorref01_left, enc_Lf, le_lo, le_hi, le_laylo, le_layhi, le_len, le_self, le_tak, le_over, up_same, up_up, Nat.add_sub_cancel, Nat.succ_eq_add_one, Nat.add_assoc, *]); done)) : p := h
theorem fr_Fa {p : Prop} (h : p := by first | assumption | exact Fr.refl _ _ | (simp (disch := omega) only [Fr_set, Fr_refl, *])) : p := h
theorem fl_Fa {p : Prop} (h : p := by first | with_unfolding_all rfl | exact Sl.flat (by assumption) | assumption) : p := h
theorem fll_Fa {p : Prop} (h : p := by first | with_unfolding_all rfl | ((repeat (refine flatL_k fl_Fa ?_)); with_unfolding_all rfl)) : p := h
theorem en_Fa {p : Prop} (h : p := by first | ((simp only [enc_int, enc_str, enc_u8, enc_bool, tak_s, tak_0, tak_n, drp_0, drp_s, drp_n, nth_s, nth_0, bsl_Sint, bld_Span, bld_spring_work, bld_spring_asked, enc_Line, enc_Reading, ocond_d, Int.toNat_natCast, bsl_Saguadorref01_left, enc_Lf, le_lo, le_hi, le_laylo, le_layhi, le_len, le_self, le_tak, le_over, up_same, up_up, Nat.add_sub_cancel]); rfl) | ((simp only [enc_int, enc_str, enc_u8, enc_bool, tak_s, tak_0, tak_n, drp_0, drp_s, drp_n, nth_s, nth_0, bsl_Sint, bld_Span, bld_spring_work, bld_spring_asked, enc_Line, enc_Reading, ocond_d, Int.toNat_natCast, bsl_Saguadorref01_left, enc_Lf, le_lo, le_hi, le_laylo, le_layhi, le_len, le_self, le_tak, le_over, up_same, up_up, Nat.add_sub_cancel]); done) | with_unfolding_all rfl) : p := h
theorem sM_Fa {p : Prop} (h : p := by (first | assumption | (simp (disch := omega) only [Tr.get_same, Tr.get_other, *]; rfl) | (simp (disch := omega) only [Tr.get_same, Tr.get_other, *]; done))) : p := h
theorem sS_Fa {p : Prop} (h : p := by first | assumption | exact s1_Fa) : p := h
theorem op_Fa {p : Prop} (h : p := by first | with_reducible exact fad_p _ _ _ | with_reducible exact iop_lss _ _ | with_reducible exact iop_leq _ _ | with_reducible exact iop_gtr _ _ | with_reducible exact iop_geq _ _ | with_reducible exact iop_eql _ _ | with_reducible exact iop_neq _ _ | with_reducible exact Sl.len (by assumption) | with_reducible exact lenS_s _ _ _ | with_reducible exact Sl.iad (by assumption) (by with_unfolding_all rfl) (by first | assumption | omega) | with_reducible exact Sl.fad (by assumption) (by first | assumption | omega) | with_reducible exact Sl.ld1 (by assumption) fr_Fa (by with_unfolding_all rfl) (by assumption) en_Fa | with_reducible exact Sl.ldN (by assumption) fr_Fa (by with_unfolding_all rfl) (by assumption) (by with_unfolding_all rfl) en_Fa | with_reducible exact zadd1 (by omega) | with_reducible exact zsub1 (by omega) (by omega) | with_reducible exact zaddI (by omega) (by omega) | with_reducible exact zsubI (by omega) (by omega) | with_reducible exact min_z | with_reducible exact max_z | with_reducible exact zmulI (by assumption) | with_reducible exact zmulK (by omega) (by omega) | with_reducible exact quo_z (by omega) (by omega) (by omega) | with_reducible exact cv_u8 (by omega) | with_reducible exact rem_z (by omega) (by omega) (by omega) | with_reducible exact neq_bool (by kernel_rfl) | with_reducible exact eql_u8 | with_reducible exact wntT_t (by assumption) | with_reducible exact wntT_f (by assumption) | with_reducible exact wntF_t (by assumption) | with_reducible exact wntF_f (by assumption) | with_reducible exact wnt_tt | with_reducible exact wnt_tf | with_reducible exact wnt_ft | with_reducible exact wnt_ff | with_reducible exact wnt_u _ _ | with_reducible exact pck_t _ _ | with_reducible exact pck_f _ _ | with_reducible exact pckT (by assumption) | with_reducible exact pckF (by assumption) | with_reducible exact wntT_t (by decide) | with_reducible exact wntT_f (by decide) | with_reducible exact wntF_t (by decide) | with_reducible exact wntF_f (by decide) | with_reducible exact pckT (by decide) | with_reducible exact pckF (by decide) | with_reducible exact wntN_tt (by decide) | with_reducible exact wntN_tf (by decide) | with_reducible exact wntN_ft (by decide) | with_reducible exact wntN_ff (by decide) | with_reducible exact pckNT (by decide) | with_reducible exact pckNF (by decide) | with_reducible exact wntN_tt (by assumption) | with_reducible exact wntN_tf (by assumption) | with_reducible exact wntN_ft (by assumption) | with_reducible exact wntN_ff (by assumption) | with_reducible exact pckNT (by assumption) | with_reducible exact pckNF (by assumption) | with_reducible exact wntB_tt (by assumption) | with_reducible exact wntB_tf (by assumption) | with_reducible exact wntB_ft (by assumption) | with_reducible exact wntB_ff (by assumption) | with_reducible exact pckBT (by assumption) | with_reducible exact pckBF (by assumption) | exact s2_Fa | exact s1_Fa) : p := h
theorem co_Fa {p : Prop} (h : p := by first | (simp only [impB_1, impB_0, offB_1, offB_0]; done) | ((try simp only [impB_1, impB_0, offB_1, offB_0]); first | with_reducible exact Sl.ag1 (by assumption) fr_Fa (by with_unfolding_all rfl) (by assumption) en_Fa | with_reducible exact Sl.agN (by assumption) fr_Fa (by with_unfolding_all rfl) (by assumption) (by with_unfolding_all rfl) en_Fa | ((with_reducible refine agL1_e ?_ ?_); (· exact s1_Fa); (· exact fl_Fa)) | ((with_reducible refine agLN_e ?_ ?_); (· exact s1_Fa); (· exact fll_Fa)) | ((with_reducible apply ag_bs); (· exact sM_Fa); (· rfl); (· exact sb_Fa); (· exact fll_Fa)) | ((with_reducible apply ag_al); (· exact sM_Fa); (· rfl); (· exact fll_Fa)) | ((with_reducible apply ag_bx); (· exact sM_Fa); (· rfl); (· rfl); (· exact fll_Fa)) | ((with_reducible apply ag_bd); (· rfl); (· exact s1_Fa); (· exact fll_Fa)) | exact s1_Fa)) : p := h
theorem gs_Fa {r p : Prop} (k : r) (h : Go.Ev.Im r p := by (first | with_reducible apply Im.runS | ((with_reducible apply Im.num); · (simp only [Nat.succ_eq_add_one, Nat.add_assoc, Nat.reduceAdd]; rfl)) | (with_reducible apply Im.unm) | (with_reducible apply Im.selT) | (with_reducible apply Im.selF) | ((with_reducible apply Im.cndT); · assumption) | ((with_reducible apply Im.cndF); · assumption) | ((with_reducible apply Im.cndT); · decide) | ((with_reducible apply Im.cndF); · decide) | ((with_reducible apply Im.cndNT); · decide) | ((with_reducible apply Im.cndNF); · decide) | ((with_reducible apply Im.cndBT); · exact rfl) | ((with_reducible apply Im.cndBF); · exact rfl) | ((with_reducible apply Im.cndNT); · assumption) | ((with_reducible apply Im.cndNF); · assumption) | ((with_reducible apply Im.cndBT); · assumption) | ((with_reducible apply Im.cndBF); · assumption) | ((with_reducible apply Im.bind); · exact op_Fa) | ((with_reducible apply Im.cond); · exact co_Fa) | ((with_reducible apply Im.runB); · exact op_Fa) | ((with_reducible apply Im.runC); · exact co_Fa) | ((with_reducible apply Im.runN); · (simp only [Nat.succ_eq_add_one, Nat.add_assoc, Nat.reduceAdd]; rfl)) | with_reducible apply Im.runR | ((with_reducible apply Im.runE (x := evBuildSlice _ _ _ _ _ _)); · exact sb_Fa)); (repeat (first | with_reducible apply Im.runS | ((with_reducible apply Im.num); · (simp only [Nat.succ_eq_add_one, Nat.add_assoc, Nat.reduceAdd]; rfl)) | (with_reducible apply Im.unm) | (with_reducible apply Im.selT) | (with_reducible apply Im.selF) | ((with_reducible apply Im.cndT); · assumption) | ((with_reducible apply Im.cndF); · assumption) | ((with_reducible apply Im.cndT); · decide) | ((with_reducible apply Im.cndF); · decide) | ((with_reducible apply Im.cndNT); · decide) | ((with_reducible apply Im.cndNF); · decide) | ((with_reducible apply Im.cndBT); · exact rfl) | ((with_reducible apply Im.cndBF); · exact rfl) | ((with_reducible apply Im.cndNT); · assumption) | ((with_reducible apply Im.cndNF); · assumption) | ((with_reducible apply Im.cndBT); · assumption) | ((with_reducible apply Im.cndBF); · assumption) | ((with_reducible apply Im.bind); · exact op_Fa) | ((with_reducible apply Im.cond); · exact co_Fa) | ((with_reducible apply Im.runB); · exact op_Fa) | ((with_reducible apply Im.runC); · exact co_Fa) | ((with_reducible apply Im.runN); · (simp only [Nat.succ_eq_add_one, Nat.add_assoc, Nat.reduceAdd]; rfl)) | with_reducible apply Im.runR | ((with_reducible apply Im.runE (x := evBuildSlice _ _ _ _ _ _)); · exact sb_Fa))); exact Go.Ev.Im.id) : p := h k
theorem lfs_base {s : Sp} (hs : OkS s) : lfs s (baseS s) (rainsS s) = (rainsS s).map fun r => (⟨leavesS s r⟩ : Lf) := by
  unfold lfs
  refine List.map_congr_left fun r hr => ?_
  have : leavesF s (baseS s) r = leavesS s r := (leaves_same hs r).2 (rains_mem hr).1
  rw [this]
theorem hlB_gv (s : Sp) (w : Nat) : ∀ (L : List Int) (v : Int × Int), hlB (L.map fun r => leavesS s r) v w = gvL s w L v
  | [], v => rfl
  | r :: L, v => hlB_gv s w L (arS v (leavesS s r w))
theorem hull_gv {s : Sp} (hs : OkS s) {x0 : Lf} {L : List Lf} (h : lfs s (baseS s) (rainsS s) = x0 :: L) {w : Nat} (hw : w < s.weeks.toNat) : hlB ((x0 :: L).map (·.f)) (x0.f w) w = gvS s w := by
  rw [← h]
  rw [lfs_base hs] at h ⊢
  rw [List.map_map]
  cases hR : rainsS s with
  | nil => rw [hR] at h; cases h
  | cons r0 L0 =>
    rw [hR] at h
    have e0 : x0 = ⟨leavesS s r0⟩ := by
      simp only [List.map_cons, List.cons.injEq] at h
      exact h.1.symm
    have := hull_eq hw hR
    rw [← this, e0, ← hR]
    exact hlB_gv s w (rainsS s) _
theorem can_lfs {s : Sp} (hc : canS s = true) (f : Bd) : ∃ x0 L, lfs s f (rainsS s) = x0 :: L := by
  obtain ⟨r, hr⟩ := can_ex hc
  cases hR : rainsS s with
  | nil => rw [hR] at hr; cases hr
  | cons r0 L0 => exact ⟨_, _, rfl⟩
theorem can_len {s : Sp} : ((rainsS s).length : Int) = 0 ↔ canS s = false := by
  unfold canS
  cases rainsS s with
  | nil => simp
  | cons => simp; omega
section
variable {s : Sp} {b r : Value}
theorem c_rtold (call : CallF) {w : Int} {h N} (nb : s.book.length < 1000) (nr : s.reads.length < 1000) (hb : Sl h N b s.book) (hr : Sl h N r s.reads) :
    Rn (s55 call (.agg ⟨[iS s.weeks, iS s.most, iS s.fall, iS s.slo, iS s.shi, iS s.wlo, iS s.whi, b, r]⟩) (iS w) h N) fun v h' N' => (∃ p q, v = .tuple ⟨[p, q, iS (erS s w)]⟩ ∧ flatV p = true ∧ flatV q = true ∧ (erS s w = 0 → Sl h' N' p (rainsS s) ∧ Sl h' N' q (lfs s (baseS s) (rainsS s)))) ∧ Gw h N h' N' := by
  unfold s55
  have cb := hb.flat; have cr := hr.flat; have x1 := flatV_one cb; have y1 := cel_flat cb; have x2 := flatV_one cr; have y2 := cel_flat cr
  rw [er_eq]
  try refine gs_Fa ?_
  refine Rn.call (c_rSpring call nb nr (Sl.up (by assumption) fr_Fa (by omega)) (Sl.up (by assumption) fr_Fa (by omega))) ?_
  rintro _ h1 N1 ⟨rfl, f1, o1, l1⟩
  cases hv : validB s with
  | false =>
    rw [if_neg (by decide)]
    try refine gs_Fa ?_
    exact Rn.ret ⟨⟨_, _, rfl, rfl, rfl, fun h => absurd h (by decide)⟩, (Gw.of fr_Fa (by omega))⟩
  | true =>
    rw [if_pos rfl]
    have hs := ok_of_valid hv
    have w1 := hs.ok.w1
    have w2 := hs.ok.w2
    try refine gs_Fa ?_
    refine Rn.call (c_rwithin _) ?_
    rintro _ h2 N2 ⟨rfl, f2, o2, l2⟩
    have ew : inS 0 (s.weeks - 1) w = isWeekB s.weeks w := rfl
    rw [ew]
    cases hw : isWeekB s.weeks w with
    | false =>
      rw [if_neg (by decide)]
      try refine gs_Fa ?_
      exact Rn.ret ⟨⟨_, _, rfl, rfl, rfl, fun h => absurd h (by decide)⟩, (Gw.of fr_Fa (by omega))⟩
    | true =>
      rw [if_pos rfl]
      clear ew
      try refine gs_Fa ?_
      refine Rn.call (c_rrains call hs (Sl.up (by assumption) fr_Fa (by omega)) (Sl.up (by assumption) fr_Fa (by omega))) ?_
      rintro _ h3 N3 ⟨⟨p, q, rfl, k1, k2⟩, f3, o3, l3⟩
      have c1 := k1.flat
      have c2 := k2.flat
      have x3 := flatV_one c1
      have y3 := cel_flat c1
      have x4 := flatV_one c2
      have y4 := cel_flat c2
      have hlen := can_len (s := s)
      cases hc : canS s with
      | false =>
        rw [if_neg (by decide)]
        have hl := hlen.2 hc
        clear hlen
        try refine gs_Fa ?_
        exact Rn.ret ⟨⟨_, _, rfl, rfl, rfl, fun h => absurd h (by decide)⟩, (Gw.of fr_Fa (by omega))⟩
      | true =>
        rw [if_pos rfl]
        have hl : ¬ ((rainsS s).length : Int) = 0 := fun h => by rw [hlen.1 h] at hc; cases hc
        clear hlen
        try refine gs_Fa ?_
        exact Rn.ret ⟨⟨p, q, rfl, c1, c2, fun _ => ⟨k1, k2⟩⟩, (Gw.of fr_Fa (by omega))⟩
theorem c_rGives (call : CallF) {w : Int} {h N} (nb : s.book.length < 1000) (nr : s.reads.length < 1000) (hb : Sl h N b s.book) (hr : Sl h N r s.reads) : Rn (s67 call (.agg ⟨[iS s.weeks, iS s.most, iS s.fall, iS s.slo, iS s.shi, iS s.wlo, iS s.whi, b, r]⟩) (iS w) h N) fun v h' N' => v = .tuple ⟨[.agg ⟨[iS (gE s w).1, iS (gE s w).2]⟩, iS (erS s w)]⟩ ∧ Gw h N h' N' := by
  unfold s67
  have cb := hb.flat; have cr := hr.flat; have x1 := flatV_one cb; have y1 := cel_flat cb; have x2 := flatV_one cr; have y2 := cel_flat cr
  try refine gs_Fa ?_
  refine Rn.call (c_rtold call nb nr (Sl.up (by assumption) fr_Fa (by omega)) (Sl.up (by assumption) fr_Fa (by omega))) ?_
  rintro _ h1 N1 ⟨⟨p, q, rfl, c1, c2, k⟩, f1, o1, l1⟩
  have x3 := flatV_one c1
  have y3 := cel_flat c1
  have x4 := flatV_one c2
  have y4 := cel_flat c2
  by_cases he : erS s w = 0
  · have eg : gE s w = gvS s w.toNat := if_pos he
    obtain ⟨hv, q1, q2, hc⟩ := er_ok he
    have hs := ok_of_valid hv
    have w2 := hs.ok.w2
    have hrl := rains_len hs
    obtain ⟨s1, s2⟩ := k he
    rw [eg]
    obtain ⟨x0, L, eL⟩ := can_lfs hc (baseS s)
    have hg := hull_gv hs eL (w := w.toNat) (by omega)
    have hn : L.length < 100 := by
      have := congrArg List.length eL
      simp [lfs] at this
      omega
    rw [eL] at s2
    rw [show w = ((w.toNat : Nat) : Int) by omega] at he ⊢
    have hw10 : w.toNat < 10 := by omega
    generalize w.toNat = j at *
    rw [he]
    try refine gs_Fa ?_
    refine Rn.call (c_hull call (f0 := x0) (L := L) hn hw10 (s2.up fr_Fa (by omega))) ?_
    rintro _ h2 N2 ⟨rfl, f2, o2, l2⟩
    rw [hg]
    try refine gs_Fa ?_
    exact Rn.ret ⟨by rw [Int.toNat_natCast], (Gw.of fr_Fa (by omega))⟩
  · have eg : gE s w = (0, 0) := if_neg he
    rw [eg]
    try refine gs_Fa ?_
    exact Rn.ret ⟨rfl, (Gw.of fr_Fa (by omega))⟩
theorem er0_beg : erS s 0 = beginS s (qw 0 0) [4] := by
  rw [er_eq, beg_c]
  cases hv : validB s with
  | false => rfl
  | true =>
    have hs := ok_of_valid hv
    have w1 := hs.ok.w1
    have : isWeekB s.weeks 0 = true := by simp only [isWeekB, inS, Bool.and_eq_true, decide_eq_true_eq]; omega
    rw [this]; rfl
theorem c_rFails (call : CallF) {need : Int} {h N} (nb : s.book.length < 1000) (nr : s.reads.length < 1000) (hb : Sl h N b s.book) (hr : Sl h N r s.reads) : Rn (s15 call (.agg ⟨[iS s.weeks, iS s.most, iS s.fall, iS s.slo, iS s.shi, iS s.wlo, iS s.whi, b, r]⟩) (iS need) h N) fun v h' N' => v = .tuple ⟨[iS (shW s (loP need)), iS (shE s (loP need))]⟩ ∧ Gw h N h' N' := by
  unfold s15
  have cb := hb.flat; have cr := hr.flat; have x1 := flatV_one cb; have y1 := cel_flat cb; have x2 := flatV_one cr; have y2 := cel_flat cr
  try refine gs_Fa ?_
  refine Rn.call (c_rtold call (w := 0) nb nr (Sl.up (by assumption) fr_Fa (by omega)) (Sl.up (by assumption) fr_Fa (by omega))) ?_
  rintro _ h1 N1 ⟨⟨p, q, rfl, c1, c2, k⟩, f1, o1, l1⟩
  have x3 := flatV_one c1
  have y3 := cel_flat c1
  have x4 := flatV_one c2
  have y4 := cel_flat c2
  by_cases he : erS s 0 = 0
  · obtain ⟨hv, q1, q2, hc⟩ := er_ok he
    have hs := ok_of_valid hv
    have w2 := hs.ok.w2
    have hrl := rains_len hs
    obtain ⟨s1, s2⟩ := k he
    obtain ⟨x0, L, eL⟩ := can_lfs hc (baseS s)
    have hg := fun w => hull_gv hs eL (w := w)
    have hn : L.length < 100 := by
      have := congrArg List.length eL
      simp [lfs] at this
      omega
    rw [eL] at s2
    have e0 := he
    rw [er0_beg] at e0
    have e1 : ∀ p, shW s p = (((shS s p).getD 0 : Nat) : Int) := fun p => if_pos e0
    have e2 : ∀ p, shE s p = if (shS s p).isSome then 0 else 6 := fun p => if_pos e0
    rw [e1, e2, he]
    have m0 : h1.get N = some (.c [iS s.weeks, iS s.most, iS s.fall, iS s.slo, iS s.shi, iS s.wlo, iS s.whi, b, r] 27) := sS_Fa
    try refine gs_Fa ?_
    refine Rn.loop4 (fun m a1 a2 a3 a4 g M => ∃ i : Nat, a1 = iS need ∧ a2 = .pointer (some ⟨N, 0, none⟩) ∧ q = a3 ∧ a4 = nS i ∧ (i : Int) + m = s.weeks ∧ Fr h1 N1 g ∧ N1 ≤ M ∧ ∀ j, j < i → ¬ (gvS s j).1 < need) s.weeks.toNat (by omega)
      ⟨0, rfl, rfl, rfl, rfl, by omega, Fr.refl _ _, Nat.le_refl _, fun j hj => by omega⟩ ?_
    rintro m g ih _ _ _ _ h2 N2 ⟨i, rfl, rfl, z0, rfl, e3, f2, l2, q5⟩
    subst z0
    have p0 := (f2 N (by omega)).trans m0
    have gwf : Fr h N h2 := fun k hk => (f2 k (by omega)).trans (show h1.get k = h.get k from sS_Fa)
    try refine gs_Fa ?_
    (first | with_reducible refine Rn.cnd (fun _ => ?_) (fun _ => ?_) | with_reducible refine Rn.cndN (fun _ => ?_) (fun _ => ?_) | with_reducible refine Rn.cndB (fun _ => ?_) (fun _ => ?_))
    · have hi : i < 10 := by omega
      try refine gs_Fa ?_
      refine Rn.call (c_hull call (f0 := x0) (L := L) hn hi (Sl.up (by assumption) fr_Fa (by omega))) ?_
      rintro _ h3 N3 ⟨rfl, f3, o3, l3⟩
      rw [hg i (by omega)]
      by_cases hlt : (gvS s i).1 < need
      · have e4 : shS s (loP need) = some i := by
          unfold shS
          rw [List.find?_range_eq_some]
          refine ⟨decide_eq_true hlt, List.mem_range.2 (by omega), fun j hj => ?_⟩
          unfold loP
          rw [Bool.not_eq_true', decide_eq_false_iff_not]; exact q5 j hj
        rw [e4]
        try refine gs_Fa ?_
        exact Rn.ret ⟨rfl, Gw.of (fun k hk => (show _ = h2.get k from sS_Fa).trans (gwf k hk)) (by omega)⟩
      · try refine gs_Fa ?_
        exact ih (m - 1) (by omega) _ _ _ _ _ _ ⟨i + 1, rfl, rfl, rfl, rfl, by omega, fr_Fa, by omega, fun j hj => by
          rcases Nat.lt_or_ge j i with h | h
          · exact q5 j h
          · obtain rfl : j = i := by omega
            exact hlt⟩
    · have e4 : shS s (loP need) = none := by
        unfold shS
        rw [List.find?_range_eq_none]
        intro j hj
        unfold loP
        rw [Bool.not_eq_true', decide_eq_false_iff_not]; exact q5 j (by omega)
      rw [e4]
      try refine gs_Fa ?_
      exact Rn.ret ⟨rfl, Gw.of gwf (by omega)⟩
  · have e0 := he
    rw [er0_beg] at e0
    have e1 : ∀ p, shW s p = 0 := fun p => if_neg e0
    have e2 : ∀ p, shE s p = erS s 0 := fun p => (if_neg e0).trans er0_beg.symm
    rw [e1, e2]
    try refine gs_Fa ?_
    exact Rn.ret ⟨rfl, (Gw.of fr_Fa (by omega))⟩
theorem c_rSurely (call : CallF) {need : Int} {h N} (nb : s.book.length < 1000) (nr : s.reads.length < 1000) (hb : Sl h N b s.book) (hr : Sl h N r s.reads) : Rn (s17 call (.agg ⟨[iS s.weeks, iS s.most, iS s.fall, iS s.slo, iS s.shi, iS s.wlo, iS s.whi, b, r]⟩) (iS need) h N) fun v h' N' => v = .tuple ⟨[iS (shW s (hiP need)), iS (shE s (hiP need))]⟩ ∧ Gw h N h' N' := by
  unfold s17
  have cb := hb.flat; have cr := hr.flat; have x1 := flatV_one cb; have y1 := cel_flat cb; have x2 := flatV_one cr; have y2 := cel_flat cr
  try refine gs_Fa ?_
  refine Rn.call (c_rtold call (w := 0) nb nr (Sl.up (by assumption) fr_Fa (by omega)) (Sl.up (by assumption) fr_Fa (by omega))) ?_
  rintro _ h1 N1 ⟨⟨p, q, rfl, c1, c2, k⟩, f1, o1, l1⟩
  have x3 := flatV_one c1
  have y3 := cel_flat c1
  have x4 := flatV_one c2
  have y4 := cel_flat c2
  by_cases he : erS s 0 = 0
  · obtain ⟨hv, q1, q2, hc⟩ := er_ok he
    have hs := ok_of_valid hv
    have w2 := hs.ok.w2
    have hrl := rains_len hs
    obtain ⟨s1, s2⟩ := k he
    obtain ⟨x0, L, eL⟩ := can_lfs hc (baseS s)
    have hg := fun w => hull_gv hs eL (w := w)
    have hn : L.length < 100 := by
      have := congrArg List.length eL
      simp [lfs] at this
      omega
    rw [eL] at s2
    have e0 := he
    rw [er0_beg] at e0
    have e1 : ∀ p, shW s p = (((shS s p).getD 0 : Nat) : Int) := fun p => if_pos e0
    have e2 : ∀ p, shE s p = if (shS s p).isSome then 0 else 6 := fun p => if_pos e0
    rw [e1, e2, he]
    have m0 : h1.get N = some (.c [iS s.weeks, iS s.most, iS s.fall, iS s.slo, iS s.shi, iS s.wlo, iS s.whi, b, r] 27) := sS_Fa
    try refine gs_Fa ?_
    refine Rn.loop4 (fun m a1 a2 a3 a4 g M => ∃ i : Nat, a1 = iS need ∧ a2 = .pointer (some ⟨N, 0, none⟩) ∧ q = a3 ∧ a4 = nS i ∧ (i : Int) + m = s.weeks ∧ Fr h1 N1 g ∧ N1 ≤ M ∧ ∀ j, j < i → ¬ (gvS s j).2 < need) s.weeks.toNat (by omega)
      ⟨0, rfl, rfl, rfl, rfl, by omega, Fr.refl _ _, Nat.le_refl _, fun j hj => by omega⟩ ?_
    rintro m g ih _ _ _ _ h2 N2 ⟨i, rfl, rfl, z0, rfl, e3, f2, l2, q5⟩
    subst z0
    have p0 := (f2 N (by omega)).trans m0
    have gwf : Fr h N h2 := fun k hk => (f2 k (by omega)).trans (show h1.get k = h.get k from sS_Fa)
    try refine gs_Fa ?_
    (first | with_reducible refine Rn.cnd (fun _ => ?_) (fun _ => ?_) | with_reducible refine Rn.cndN (fun _ => ?_) (fun _ => ?_) | with_reducible refine Rn.cndB (fun _ => ?_) (fun _ => ?_))
    · have hi : i < 10 := by omega
      try refine gs_Fa ?_
      refine Rn.call (c_hull call (f0 := x0) (L := L) hn hi (Sl.up (by assumption) fr_Fa (by omega))) ?_
      rintro _ h3 N3 ⟨rfl, f3, o3, l3⟩
      rw [hg i (by omega)]
      by_cases hlt : (gvS s i).2 < need
      · have e4 : shS s (hiP need) = some i := by
          unfold shS
          rw [List.find?_range_eq_some]
          refine ⟨decide_eq_true hlt, List.mem_range.2 (by omega), fun j hj => ?_⟩
          unfold hiP
          rw [Bool.not_eq_true', decide_eq_false_iff_not]; exact q5 j hj
        rw [e4]
        try refine gs_Fa ?_
        exact Rn.ret ⟨rfl, Gw.of (fun k hk => (show _ = h2.get k from sS_Fa).trans (gwf k hk)) (by omega)⟩
      · try refine gs_Fa ?_
        exact ih (m - 1) (by omega) _ _ _ _ _ _ ⟨i + 1, rfl, rfl, rfl, rfl, by omega, fr_Fa, by omega, fun j hj => by
          rcases Nat.lt_or_ge j i with h | h
          · exact q5 j h
          · obtain rfl : j = i := by omega
            exact hlt⟩
    · have e4 : shS s (hiP need) = none := by
        unfold shS
        rw [List.find?_range_eq_none]
        intro j hj
        unfold hiP
        rw [Bool.not_eq_true', decide_eq_false_iff_not]; exact q5 j (by omega)
      rw [e4]
      try refine gs_Fa ?_
      exact Rn.ret ⟨rfl, Gw.of gwf (by omega)⟩
  · have e0 := he
    rw [er0_beg] at e0
    have e1 : ∀ p, shW s p = 0 := fun p => if_neg e0
    have e2 : ∀ p, shE s p = erS s 0 := fun p => (if_neg e0).trans er0_beg.symm
    rw [e1, e2]
    try refine gs_Fa ?_
    exact Rn.ret ⟨rfl, (Gw.of fr_Fa (by omega))⟩
theorem c_rFill (call : CallF) {w k : Int} {h N} (nb : s.book.length < 1000) (nr : s.reads.length < 1000) (hb : Sl h N b s.book) (hr : Sl h N r s.reads) : Rn (s23 call (.agg ⟨[iS s.weeks, iS s.most, iS s.fall, iS s.slo, iS s.shi, iS s.wlo, iS s.whi, b, r]⟩) (iS w) (iS k) h N) fun v h' N' => v = .tuple ⟨[.agg ⟨[iS (fG s w k).1, iS (fG s w k).2]⟩, iS (fE s w k)]⟩ ∧ Gw h N h' N' := by
  unfold s23
  have cb := hb.flat; have cr := hr.flat; have x1 := flatV_one cb; have y1 := cel_flat cb; have x2 := flatV_one cr; have y2 := cel_flat cr
  have zg : ∀ e : Int, e ≠ 0 → fE s w k = e → fG s w k = (0, 0) := fun e h1 h2 => if_neg (by rw [h2]; exact h1)
  have be : ∀ e : Int, e ≠ 0 → beF s w k = e → fE s w k = e := fun e h1 h2 => by unfold fE; rw [h2, if_neg h1]
  try refine gs_Fa ?_
  refine Rn.call (c_rSpring call nb nr (Sl.up (by assumption) fr_Fa (by omega)) (Sl.up (by assumption) fr_Fa (by omega))) ?_
  rintro _ h1 N1 ⟨rfl, f1, o1, l1⟩
  cases hv : validB s with
  | false =>
    have e1 := be 10 (by decide) (by rw [beF_eq, hv]; rfl)
    rw [zg 10 (by decide) e1, e1]
    clear zg be e1
    try refine gs_Fa ?_
    exact Rn.ret ⟨rfl, (Gw.of fr_Fa (by omega))⟩
  | true =>
    have hs := ok_of_valid hv
    have w1 := hs.ok.w1
    have w2 := hs.ok.w2
    have m2 := hs.ok.m2
    try refine gs_Fa ?_
    refine Rn.call (c_rwithin _) ?_
    rintro _ h2 N2 ⟨rfl, f2, o2, l2⟩
    have ew : inS 0 (s.weeks - 1) w = isWeekB s.weeks w := rfl
    rw [ew]
    clear ew
    cases hw : isWeekB s.weeks w with
    | false =>
      have e1 := be 11 (by decide) (by rw [beF_eq, hv, hw]; rfl)
      rw [zg 11 (by decide) e1, e1]
      clear zg be e1
      try refine gs_Fa ?_
      exact Rn.ret ⟨rfl, (Gw.of fr_Fa (by omega))⟩
    | true =>
      try refine gs_Fa ?_
      refine Rn.call (c_rwithin _) ?_
      rintro _ h3 N3 ⟨rfl, f3, o3, l3⟩
      cases hk : inS 1 40 k with
      | false =>
        have e1 := be 14 (by decide) (by rw [beF_eq, hv, hw, hk]; rfl)
        rw [zg 14 (by decide) e1, e1]
        clear zg be e1
        try refine gs_Fa ?_
        exact Rn.ret ⟨rfl, (Gw.of fr_Fa (by omega))⟩
      | true =>
        try refine gs_Fa ?_
        refine Rn.call (c_rGives call nb nr (Sl.up (by assumption) fr_Fa (by omega)) (Sl.up (by assumption) fr_Fa (by omega))) ?_
        rintro _ h4 N4 ⟨rfl, f4, o4, l4⟩
        cases hc : canS s with
        | false =>
          have e1 := be 8 (by decide) (by rw [beF_eq, hv, hw, hk, hc]; rfl)
          have e2 : erS s w = 8 := by rw [er_eq, hv, hw, hc]; rfl
          rw [zg 8 (by decide) e1, e1, e2]
          clear zg be e1 e2
          generalize gE s w = G
          try refine gs_Fa ?_
          exact Rn.ret ⟨rfl, (Gw.of fr_Fa (by omega))⟩
        | true =>
          have e0 : beF s w k = 0 := by rw [beF_eq, hv, hw, hk, hc]; rfl
          have e2 : erS s w = 0 := by rw [er_eq, hv, hw, hc]; rfl
          have e3 : gE s w = gvS s w.toNat := if_pos e2
          simp only [isWeekB, inS, Bool.and_eq_true, decide_eq_true_eq] at hw hk
          have hgb := gv_bd hs (w := w.toNat) (by omega) hc
          by_cases hz : (gvS s w.toNat).1 = 0
          · have e1 : fE s w k = 6 := by unfold fE; rw [if_pos e0, if_pos hz]
            rw [zg 6 (by decide) e1, e1, e2, e3]
            clear zg be e1 e2 e3 e0
            try refine gs_Fa ?_
            exact Rn.ret ⟨rfl, (Gw.of fr_Fa (by omega))⟩
          · have e1 : fE s w k = 0 := by unfold fE; rw [if_pos e0, if_neg hz]
            have e4 : fG s w k = (3600 * k / (gvS s w.toNat).2, upS (3600 * k) (gvS s w.toNat).1) := if_pos e1
            rw [e4, e1, e2, e3]
            clear zg be e1 e2 e3 e0 e4
            generalize gvS s w.toNat = G at *
            try refine gs_Fa ?_
            exact Rn.ret ⟨rfl, (Gw.of fr_Fa (by omega))⟩
end
end Go.Proofs.Ytpilgokdbliklaa
end

section
namespace Go.Proofs.Ytpilgokdbliklaa
open Go.Ev Go.RowKit
set_option linter.unusedVariables false
set_option linter.unusedSimpArgs false
set_option linter.unusedSectionVars false
set_option maxRecDepth 100000
set_option maxHeartbeats 4000000
theorem s1_Fb {p : Prop} (h : p := by (simp (disch := omega) only [obind_s, orun_s, ocond_t, fad_p, ld1_e, ldN_e, sto_e, cellO_c, wrO_c, Tr.get_same, Tr.get_other, nth_0, nth_s, drp_0, drp_s, drp_n, tak_0, tak_s, tak_n, over_n, over_c, lay_0, lay_s, lay_n, len_n, len_c, app_n, app_c, reps_0, reps_s, cel_agg, cel_int, cel_bool, cel_str, cel_sl, cel_ptr, cel_map, cel_func, cel_nilf, fil_n, fil_c, beq_r, ble_d, allF_n, allF_c, one_int, one_bool, one_str, one_sl, one_ptr, one_map, one_func, one_nilf, Bool.and_true, Bool.true_and, Bool.not_true, Bool.not_false, iadA_z, Int.reduceToNat, Int.toNat_zero, fl1_a, flN_a, extr_t, unot, not_d, Nat.add_eq, Nat.mul_eq, Nat.mul_one, Nat.one_mul, Nat.zero_mul, Nat.reduceMul, Nat.zero_add, Nat.add_zero, Nat.le_refl, decide_true, Nat.reduceAdd, Nat.reduceLeDiff, bsl_Sint, bs0_Sint, bld_Span, bld_spring_work, bld_spring_asked, enc_Line, enc_Reading, ocond_d, Int.toNat_natCast, bsl_Saguadorref01_left, enc_Lf, le_lo, le_hi, le_laylo, le_layhi, le_len, le_self, le_tak, le_over, up_same, up_up, Nat.add_sub_cancel, *]); first | done | fail) : p := h
theorem s2_Fb {p : Prop} (h : p := by (simp (disch := omega) only [obind_s, orun_s, ocond_t, fad_p, ld1_e, ldN_e, sto_e, cellO_c, wrO_c, Tr.get_same, Tr.get_other, nth_0, nth_s, drp_0, drp_s, drp_n, tak_0, tak_s, tak_n, over_n, over_c, lay_0, lay_s, lay_n, len_n, len_c, app_n, app_c, reps_0, reps_s, cel_agg, cel_int, cel_bool, cel_str, cel_sl, cel_ptr, cel_map, cel_func, cel_nilf, fil_n, fil_c, beq_r, ble_d, allF_n, allF_c, one_int, one_bool, one_str, one_sl, one_ptr, one_map, one_func, one_nilf, Bool.and_true, Bool.true_and, Bool.not_true, Bool.not_false, iadA_z, Int.reduceToNat, Int.toNat_zero, fl1_a, flN_a, extr_t, unot, not_d, Nat.add_eq, Nat.mul_eq, Nat.mul_one, Nat.one_mul, Nat.zero_mul, Nat.reduceMul, Nat.zero_add, Nat.add_zero, Nat.le_refl, decide_true, Nat.reduceAdd, Nat.reduceLeDiff, bsl_Sint, bs0_Sint, bld_Span, bld_spring_work, bld_spring_asked, enc_Line, enc_Reading, ocond_d, Int.toNat_natCast, bsl_Saguadorref01_left, enc_Lf, le_lo, le_hi, le_laylo, le_layhi, le_len, le_self, le_tak, le_over, up_same, up_up, Nat.add_sub_cancel, *]); rfl) : p := h
theorem sb_Fb {p : Prop} (h : p := by first | ((simp (disch := omega) only [obind_s, orun_s, ocond_t, fad_p, ld1_e, ldN_e, sto_e, cellO_c, wrO_c, Tr.get_same, Tr.get_other, nth_0, nth_s, drp_0, drp_s, drp_n, tak_0, tak_s, tak_n, over_n, over_c, lay_0, lay_s, lay_n, len_n, len_c, app_n, app_c, reps_0, reps_s, cel_agg, cel_int, cel_bool, cel_str, cel_sl, cel_ptr, cel_map, cel_func, cel_nilf, fil_n, fil_c, beq_r, ble_d, allF_n, allF_c, one_int, one_bool, one_str, one_sl, one_ptr, one_map, one_func, one_nilf, Bool.and_true, Bool.true_and, Bool.not_true, Bool.not_false, iadA_z, Int.reduceToNat, Int.toNat_zero, fl1_a, flN_a, extr_t, unot, not_d, Nat.add_eq, Nat.mul_eq, Nat.mul_one, Nat.one_mul, Nat.zero_mul, Nat.reduceMul, Nat.zero_add, Nat.add_zero, Nat.le_refl, decide_true, Nat.reduceAdd, Nat.reduceLeDiff, bsl_Sint, bs0_Sint, bld_Span, bld_spring_work, bld_spring_asked, enc_Line, enc_Reading, ocond_d, Int.toNat_natCast, bsl_Saguadorref01_left, enc_Lf, le_lo, le_hi, le_laylo, le_layhi, le_len, le_self, le_tak, le_over, up_same, up_up, Nat.add_sub_cancel, Nat.succ_eq_add_one, Nat.add_assoc, *]); rfl) | ((simp (disch := omega) only [obind_s, orun_s, ocond_t, fad_p, ld1_e, ldN_e, sto_e, cellO_c, wrO_c, Tr.get_same, Tr.get_other, nth_0, nth_s, drp_0, drp_s, drp_n, tak_0, tak_s, tak_n, over_n, over_c, lay_0, lay_s, lay_n, len_n, len_c, app_n, app_c, reps_0, reps_s, cel_agg, cel_int, cel_bool, cel_str, cel_sl, cel_ptr, cel_map, cel_func, cel_nilf, fil_n, fil_c, beq_r, ble_d, allF_n, allF_c, one_int, one_bool, one_str, one_sl, one_ptr, one_map, one_func, one_nilf, Bool.and_true, Bool.true_and, Bool.not_true, Bool.not_false, iadA_z, Int.reduceToNat, Int.toNat_zero, fl1_a, flN_a, extr_t, unot, not_d, Nat.add_eq, Nat.mul_eq, Nat.mul_one, Nat.one_mul, Nat.zero_mul, Nat.reduceMul, Nat.zero_add, Nat.add_zero, Nat.le_refl, decide_true, Nat.reduceAdd, Nat.reduceLeDiff, bsl_Sint, bs0_Sint, bld_Span, bld_spring_work, bld_spring_asked, enc_Line, enc_Reading, ocond_d, Int.toNat_natCast, bsl_Saguadorref01_left, enc_Lf, le_lo, le_hi, le_laylo, le_layhi, le_len, le_self, le_tak, le_over, up_same, up_up, Nat.add_sub_cancel, Nat.succ_eq_add_one, Nat.add_assoc, *]); done)) : p := h
theorem fr_Fb {p : Prop} (h : p := by first | assumption | exact Fr.refl _ _ | (simp (disch := omega) only [Fr_set, Fr_refl, *])) : p := h
theorem fl_Fb {p : Prop} (h : p := by first | with_unfolding_all rfl | exact Sl.flat (by assumption) | assumption) : p := h
theorem fll_Fb {p : Prop} (h : p := by first | with_unfolding_all rfl | ((repeat (refine flatL_k fl_Fb ?_)); with_unfolding_all rfl)) : p := h
theorem en_Fb {p : Prop} (h : p := by first | ((simp only [enc_int, enc_str, enc_u8, enc_bool, tak_s, tak_0, tak_n, drp_0, drp_s, drp_n, nth_s, nth_0, bsl_Sint, bs0_Sint, bld_Span, bld_spring_work, bld_spring_asked, enc_Line, enc_Reading, ocond_d, Int.toNat_natCast, bsl_Saguadorref01_left, enc_Lf, le_lo, le_hi, le_laylo, le_layhi, le_len, le_self, le_tak, le_over, up_same, up_up, Nat.add_sub_cancel]); rfl) | ((simp only [enc_int, enc_str, enc_u8, enc_bool, tak_s, tak_0, tak_n, drp_0, drp_s, drp_n, nth_s, nth_0, bsl_Sint, bs0_Sint, bld_Span, bld_spring_work, bld_spring_asked, enc_Line, enc_Reading, ocond_d, Int.toNat_natCast, bsl_Saguadorref01_left, enc_Lf, le_lo, le_hi, le_laylo, le_layhi, le_len, le_self, le_tak, le_over, up_same, up_up, Nat.add_sub_cancel]); done) | with_unfolding_all rfl) : p := h
theorem sM_Fb {p : Prop} (h : p := by (first | assumption | (simp (disch := omega) only [Tr.get_same, Tr.get_other, *]; rfl) | (simp (disch := omega) only [Tr.get_same, Tr.get_other, *]; done))) : p := h
theorem sS_Fb {p : Prop} (h : p := by first | assumption | exact s1_Fb) : p := h
theorem sR_Fb {p : Prop} (h : p := by first | assumption | exact s1_Fb | exact s2_Fb | with_unfolding_all rfl) : p := h
theorem op_Fb {p : Prop} (h : p := by first | with_reducible exact fad_p _ _ _ | with_reducible exact iop_lss _ _ | with_reducible exact iop_leq _ _ | with_reducible exact iop_gtr _ _ | with_reducible exact iop_geq _ _ | with_reducible exact iop_eql _ _ | with_reducible exact iop_neq _ _ | with_reducible exact Sl.len (by assumption) | with_reducible exact lenS_s _ _ _ | with_reducible exact Sl.iad (by assumption) (by with_unfolding_all rfl) (by first | assumption | omega) | with_reducible exact Sl.fad (by assumption) (by first | assumption | omega) | with_reducible exact Sl.ld1 (by assumption) fr_Fb (by with_unfolding_all rfl) (by assumption) en_Fb | with_reducible exact Sl.ldN (by assumption) fr_Fb (by with_unfolding_all rfl) (by assumption) (by with_unfolding_all rfl) en_Fb | with_reducible exact zadd1 (by omega) | with_reducible exact zsub1 (by omega) (by omega) | with_reducible exact zaddI (by omega) (by omega) | with_reducible exact zsubI (by omega) (by omega) | with_reducible exact min_z | with_reducible exact max_z | with_reducible exact zmulI (by assumption) | with_reducible exact zmulK (by omega) (by omega) | with_reducible exact quo_z (by omega) (by omega) (by omega) | with_reducible exact cv_u8 (by omega) | with_reducible exact rem_z (by omega) (by omega) (by omega) | with_reducible exact neq_bool (by kernel_rfl) | with_reducible exact eql_u8 | with_reducible exact wntT_t (by assumption) | with_reducible exact wntT_f (by assumption) | with_reducible exact wntF_t (by assumption) | with_reducible exact wntF_f (by assumption) | with_reducible exact wnt_tt | with_reducible exact wnt_tf | with_reducible exact wnt_ft | with_reducible exact wnt_ff | with_reducible exact wnt_u _ _ | with_reducible exact pck_t _ _ | with_reducible exact pck_f _ _ | with_reducible exact pckT (by assumption) | with_reducible exact pckF (by assumption) | with_reducible exact wntT_t (by decide) | with_reducible exact wntT_f (by decide) | with_reducible exact wntF_t (by decide) | with_reducible exact wntF_f (by decide) | with_reducible exact pckT (by decide) | with_reducible exact pckF (by decide) | with_reducible exact wntN_tt (by decide) | with_reducible exact wntN_tf (by decide) | with_reducible exact wntN_ft (by decide) | with_reducible exact wntN_ff (by decide) | with_reducible exact pckNT (by decide) | with_reducible exact pckNF (by decide) | with_reducible exact wntN_tt (by assumption) | with_reducible exact wntN_tf (by assumption) | with_reducible exact wntN_ft (by assumption) | with_reducible exact wntN_ff (by assumption) | with_reducible exact pckNT (by assumption) | with_reducible exact pckNF (by assumption) | with_reducible exact wntB_tt (by assumption) | with_reducible exact wntB_tf (by assumption) | with_reducible exact wntB_ft (by assumption) | with_reducible exact wntB_ff (by assumption) | with_reducible exact pckBT (by assumption) | with_reducible exact pckBF (by assumption) | exact s2_Fb | exact s1_Fb) : p := h
theorem co_Fb {p : Prop} (h : p := by first | (simp only [impB_1, impB_0, offB_1, offB_0]; done) | ((try simp only [impB_1, impB_0, offB_1, offB_0]); first | with_reducible exact Sl.ag1 (by assumption) fr_Fb (by with_unfolding_all rfl) (by assumption) en_Fb | with_reducible exact Sl.agN (by assumption) fr_Fb (by with_unfolding_all rfl) (by assumption) (by with_unfolding_all rfl) en_Fb | ((with_reducible refine agL1_e ?_ ?_); (· exact s1_Fb); (· exact fl_Fb)) | ((with_reducible refine agLN_e ?_ ?_); (· exact s1_Fb); (· exact fll_Fb)) | ((with_reducible apply ag_bs); (· exact sM_Fb); (· rfl); (· exact sb_Fb); (· exact fll_Fb)) | ((with_reducible apply ag_al); (· exact sM_Fb); (· rfl); (· exact fll_Fb)) | ((with_reducible apply ag_bx); (· exact sM_Fb); (· rfl); (· rfl); (· exact fll_Fb)) | ((with_reducible apply ag_bd); (· rfl); (· exact s1_Fb); (· exact fll_Fb)) | exact s1_Fb)) : p := h
theorem gs_Fb {r p : Prop} (k : r) (h : Go.Ev.Im r p := by (first | with_reducible apply Im.runS | ((with_reducible apply Im.num); · (simp only [Nat.succ_eq_add_one, Nat.add_assoc, Nat.reduceAdd]; rfl)) | (with_reducible apply Im.unm) | (with_reducible apply Im.selT) | (with_reducible apply Im.selF) | ((with_reducible apply Im.cndT); · assumption) | ((with_reducible apply Im.cndF); · assumption) | ((with_reducible apply Im.cndT); · decide) | ((with_reducible apply Im.cndF); · decide) | ((with_reducible apply Im.cndNT); · decide) | ((with_reducible apply Im.cndNF); · decide) | ((with_reducible apply Im.cndBT); · exact rfl) | ((with_reducible apply Im.cndBF); · exact rfl) | ((with_reducible apply Im.cndNT); · assumption) | ((with_reducible apply Im.cndNF); · assumption) | ((with_reducible apply Im.cndBT); · assumption) | ((with_reducible apply Im.cndBF); · assumption) | ((with_reducible apply Im.bind); · exact op_Fb) | ((with_reducible apply Im.cond); · exact co_Fb) | ((with_reducible apply Im.runB); · exact op_Fb) | ((with_reducible apply Im.runC); · exact co_Fb) | ((with_reducible apply Im.runN); · (simp only [Nat.succ_eq_add_one, Nat.add_assoc, Nat.reduceAdd]; rfl)) | with_reducible apply Im.runR | ((with_reducible apply Im.runE (x := evBuildSlice _ _ _ _ _ _)); · exact sb_Fb)); (repeat (first | with_reducible apply Im.runS | ((with_reducible apply Im.num); · (simp only [Nat.succ_eq_add_one, Nat.add_assoc, Nat.reduceAdd]; rfl)) | (with_reducible apply Im.unm) | (with_reducible apply Im.selT) | (with_reducible apply Im.selF) | ((with_reducible apply Im.cndT); · assumption) | ((with_reducible apply Im.cndF); · assumption) | ((with_reducible apply Im.cndT); · decide) | ((with_reducible apply Im.cndF); · decide) | ((with_reducible apply Im.cndNT); · decide) | ((with_reducible apply Im.cndNF); · decide) | ((with_reducible apply Im.cndBT); · exact rfl) | ((with_reducible apply Im.cndBF); · exact rfl) | ((with_reducible apply Im.cndNT); · assumption) | ((with_reducible apply Im.cndNF); · assumption) | ((with_reducible apply Im.cndBT); · assumption) | ((with_reducible apply Im.cndBF); · assumption) | ((with_reducible apply Im.bind); · exact op_Fb) | ((with_reducible apply Im.cond); · exact co_Fb) | ((with_reducible apply Im.runB); · exact op_Fb) | ((with_reducible apply Im.runC); · exact co_Fb) | ((with_reducible apply Im.runN); · (simp only [Nat.succ_eq_add_one, Nat.add_assoc, Nat.reduceAdd]; rfl)) | with_reducible apply Im.runR | ((with_reducible apply Im.runE (x := evBuildSlice _ _ _ _ _ _)); · exact sb_Fb))); exact Go.Ev.Im.id) : p := h k
theorem sameI_step {A B : List Int} {i : Nat} {x y : Int} (hx : A[i]? = some x) (hy : B[i]? = some y) : decide (A.drop i = B.drop i) = (decide (x = y) && decide (A.drop (i + 1) = B.drop (i + 1))) := by
  rw [drop_at hx, drop_at hy, Bool.eq_iff_iff]; simp
theorem r_sameInts (call : CallF) {a b : Value} {A B : List Int} {h N} (ha : A.length < 100000) (hb : B.length < 100000) (hA : Sl h N a A) (hB : Sl h N b B) : Rn (s26 call a b h N) fun v h' N' => v = .bool (decide (A = B)) ∧ Gw h N h' N' := by
  unfold s26
  try refine gs_Fb ?_
  (first | with_reducible refine Rn.cnd (fun _ => ?_) (fun _ => ?_) | with_reducible refine Rn.cndN (fun _ => ?_) (fun _ => ?_) | with_reducible refine Rn.cndB (fun _ => ?_) (fun _ => ?_))
  · exact Rn.ret ⟨congrArg Value.bool (decide_eq_false (fun e => by subst e; omega)).symm, (Gw.of fr_Fb (by omega))⟩
  refine Rn.loop3 (fun n u w j g M => ∃ i : Nat, a = u ∧ b = w ∧ j = nS i ∧ i + n = A.length ∧ Fr h N g ∧ N ≤ M ∧ decide (A.drop i = B.drop i) = decide (A = B)) A.length (by omega) ⟨0, rfl, rfl, rfl, by omega, fr_Fb, by omega, rfl⟩ ?_
  rintro n g ih _ _ _ h1 N1 ⟨i, rfl, rfl, rfl, e1, f1, l1, q1⟩
  try refine gs_Fb ?_
  (first | with_reducible refine Rn.cnd (fun _ => ?_) (fun _ => ?_) | with_reducible refine Rn.cndN (fun _ => ?_) (fun _ => ?_) | with_reducible refine Rn.cndB (fun _ => ?_) (fun _ => ?_))
  · obtain ⟨x, hx⟩ := at_of (L := A) (k := i) (by omega)
    obtain ⟨y, hy⟩ := at_of (L := B) (k := i) (by omega)
    rw [sameI_step hx hy] at q1
    repeat' (first | refine gs_Fb ?_ | (first | with_reducible refine Rn.part (fun _ => ?_) (fun _ => ?_) | with_reducible refine Rn.partN (fun _ => ?_) (fun _ => ?_) | with_reducible refine Rn.partB (fun _ => ?_) (fun _ => ?_)) | (first | with_reducible refine Rn.cnd (fun _ => ?_) (fun _ => ?_) | with_reducible refine Rn.cndN (fun _ => ?_) (fun _ => ?_) | with_reducible refine Rn.cndB (fun _ => ?_) (fun _ => ?_)))
    · rw [decide_eq_false ‹x ≠ y›] at q1
      exact Rn.ret ⟨congrArg Value.bool q1, (Gw.of fr_Fb (by omega))⟩
    · rw [decide_eq_true (by omega : x = y)] at q1
      exact ih (n - 1) (by omega) _ _ _ _ _ ⟨i + 1, rfl, rfl, rfl, by omega, fr_Fb, by omega, q1⟩
  · try refine gs_Fb ?_
    rw [List.drop_eq_nil_of_le (by omega), List.drop_eq_nil_of_le (by omega)] at q1
    exact Rn.ret ⟨congrArg Value.bool q1, (Gw.of fr_Fb (by omega))⟩
theorem sl_window {h : Tr Ob} {N m d n c : Nat} {v : Value} {L : List Lf} {x : Lf} {K : List Int} (s : Sl h N v L) (hx : L[m]? = some x) (hd : d + n ≤ 20) (hK : encs K = ((leC x.f).drop d).take n) (hn : K.length = n) :
    ∃ i o, ptr 20 v m d = .pointer (some ⟨i, o, none⟩) ∧ Sl h N (.slice (some ⟨i, o, none⟩) n c) K := by
  have hk := lt_of_at hx
  have hsh := s.sh
  obtain ⟨i0, o0, e0, ys0, f1, f2⟩ := s.cells (d := d) (Fr.refl _ _) (rfl : 20 = Rwc.w Lf) hx
  obtain ⟨p, c0, rfl, hh⟩ := Shows.at_ s.sh
  rcases hh with hh | ⟨i, off, sp, ys, rfl, k2, k3, k4⟩
  · omega
  have e1 : ptr 20 (.slice (some ⟨i, off, sp⟩) L.length c0) m d = .pointer (some ⟨i, off + m * 20 + d, none⟩) := rfl
  rw [e1] at e0
  cases e0
  refine ⟨_, _, e1, ⟨⟨?_, _, _, by rw [hn], .inr ⟨_, _, _, ys0, rfl, k2, f1, ?_⟩⟩, fun n c e => by cases e⟩⟩
  · rw [encs_len]
  · rw [hK, show K.length * Rwc.w Int = n by rw [hn]; exact Nat.mul_one n]
    have f2' : ys0.take (20 - d) = (leC x.f).drop d := f2
    rw [← f2', List.take_take, Nat.min_eq_left (by omega)]
theorem sl_arr {i o n : Nat} (hn : n ≤ 10) : evSlice Pr 102 (.pointer (some ⟨i, o, none⟩)) none (some (nS n)) none = some (.slice (some ⟨i, o, none⟩) n 10) := by
  have e1 : Go.Sx.sizeB Pr 3 = some 1 := by kernel_rfl
  have e2 : Pr.underlying 102 = some (.array 10 3) := by rfl
  show evSliceA Pr 102 (.pointer (some ⟨i, o, none⟩)) none (some (nS n)) none = _
  unfold evSliceA
  simp only [e2, e1, obind_s, natOf_some hn, fN_eq, show natOf none 0 n = some 0 from rfl]
  rfl
theorem gi_lo (f : Bd) {n : Nat} (hn : n ≤ 10) : encs (giL (fun v => v.1) f n) = ((leC f).drop 0).take n := by
  rcases Nat.lt_or_ge n 10 with h | h
  · exact ten (p := fun n => encs (giL (fun v => v.1) f n) = ((leC f).drop 0).take n) rfl rfl rfl rfl rfl rfl rfl rfl rfl rfl n h
  · obtain rfl : n = 10 := by omega
    rfl
theorem gi_hi (f : Bd) {n : Nat} (hn : n ≤ 10) : encs (giL (fun v => v.2) f n) = ((leC f).drop 10).take n := by
  rcases Nat.lt_or_ge n 10 with h | h
  · exact ten (p := fun n => encs (giL (fun v => v.2) f n) = ((leC f).drop 10).take n) rfl rfl rfl rfl rfl rfl rfl rfl rfl rfl n h
  · obtain rfl : n = 10 := by omega
    rfl
/-- The best so far. -/
def BsP (κ : Int → Int) (S : Nat → Int) (z : Int) (i m : Nat) (l : Int) : Prop := (i = 0 ∧ m = 0 ∧ l = z) ∨ (m < i ∧ l = S m ∧ (∀ j, j < i → κ (S m) ≤ κ (S j)) ∧ ∀ j, j < m → κ (S m) < κ (S j))
theorem BsP.take {κ : Int → Int} {S : Nat → Int} {z : Int} {i m : Nat} {l : Int} (h : BsP κ S z i m l) (hi : i = 0 ∨ κ (S i) < κ l) : BsP κ S z (i + 1) i (S i) := by
  refine .inr ⟨by omega, rfl, fun j hj => ?_, fun j hj => ?_⟩
  · rcases Nat.lt_or_ge j i with h1 | h1
    · rcases h with ⟨rfl, _⟩ | ⟨_, rfl, q, _⟩
      · omega
      · have := q j h1
        rcases hi with h2 | h2 <;> omega
    · obtain rfl : j = i := by omega
      exact Int.le_refl _
  · rcases h with ⟨rfl, _⟩ | ⟨_, rfl, q, _⟩
    · omega
    · have := q j hj
      rcases hi with h2 | h2 <;> omega
theorem BsP.pass {κ : Int → Int} {S : Nat → Int} {z : Int} {i m : Nat} {l : Int} (h : BsP κ S z i m l) (h0 : 0 < i) (hi : ¬ κ (S i) < κ l) : BsP κ S z (i + 1) m l := by
  rcases h with ⟨rfl, _⟩ | ⟨h1, rfl, q1, q2⟩
  · omega
  · refine .inr ⟨by omega, rfl, fun j hj => ?_, q2⟩
    rcases Nat.lt_or_ge j i with h | h
    · exact q1 j h
    · obtain rfl : j = i := by omega
      omega
theorem suL_pos {f : Int × Int → Int} {g : Bd} : ∀ {n : Nat}, (∀ k, k < n → 0 ≤ f (g k)) → 0 ≤ suL f g n
  | 0, _ => Int.le_refl _
  | n + 1, h => by
    have a := suL_pos (n := n) fun k hk => h k (by omega)
    have c := h n (by omega)
    show 0 ≤ suL f g n + f (g n)
    omega
section
variable {s : Sp} {b r : Value}
theorem c_rPoor (call : CallF) {h N} (nb : s.book.length < 1000) (nr : s.reads.length < 1000) (hb : Sl h N b s.book) (hr : Sl h N r s.reads) : Rn (s19 call (.agg ⟨[iS s.weeks, iS s.most, iS s.fall, iS s.slo, iS s.shi, iS s.wlo, iS s.whi, b, r]⟩) h N) fun v h' N' => (∃ rain p, v = .tuple ⟨[iS rain, p, iS (exE s)]⟩ ∧ flatV p = true ∧ (exE s = 0 → ExOk (fun v => v.1) (fun z => z) s h' N' rain p) ∧ (exE s ≠ 0 → rain = 0 ∧ p = .slice none 0 0)) ∧ Gw h N h' N' := by
  unfold s19
  have cb := hb.flat; have cr := hr.flat; have x1 := flatV_one cb; have y1 := cel_flat cb; have x2 := flatV_one cr; have y2 := cel_flat cr
  have ex : exE s = erS s 0 := er0_beg.symm
  rw [ex]
  try refine gs_Fb ?_
  refine Rn.call (c_rtold call (w := 0) nb nr (Sl.up (by assumption) fr_Fb (by omega)) (Sl.up (by assumption) fr_Fb (by omega))) ?_
  rintro _ h1 N1 ⟨⟨p, q, rfl, c1, c2, k⟩, f1, o1, l1⟩
  have x3 := flatV_one c1
  have y3 := cel_flat c1
  have x4 := flatV_one c2
  have y4 := cel_flat c2
  by_cases he : erS s 0 = 0
  · obtain ⟨hv, q1, q2, hc⟩ := er_ok he
    have hs := ok_of_valid hv
    have w1 := hs.ok.w1
    have w2 := hs.ok.w2
    have hrl := rains_len hs
    obtain ⟨s1, s2⟩ := k he
    rw [lfs_base hs] at s2
    rw [he]
    have hll : ((rainsS s).map fun r => (⟨leavesS s r⟩ : Lf)).length = (rainsS s).length := by simp
    have hne : 0 < (rainsS s).length := by
      obtain ⟨r, hr⟩ := can_ex hc
      exact List.length_pos_of_mem hr
    have hat : ∀ (i : Nat) (x : Lf), ((rainsS s).map fun r => (⟨leavesS s r⟩ : Lf))[i]? = some x → ∃ r, (rainsS s)[i]? = some r ∧ x = (⟨leavesS s r⟩ : Lf) ∧ okN s (leavesS s r) = true := by
      intro i x hx
      rw [List.getElem?_map] at hx
      cases hr : (rainsS s)[i]? with
      | none => rw [hr] at hx; cases hx
      | some r => rw [hr] at hx; cases hx; exact ⟨r, rfl, rfl, (rains_mem (List.mem_of_getElem? hr)).1⟩
    generalize ((rainsS s).map fun r => (⟨leavesS s r⟩ : Lf)) = Q at *
    obtain ⟨S, hS⟩ : ∃ S : Nat → Int, ∀ (i : Nat) (r : Int), (rainsS s)[i]? = some r → S i = suL (fun v => v.1) (leavesS s r) s.weeks.toNat :=
      ⟨fun i => suL (fun v => v.1) (leavesS s ((rainsS s).getD i 0)) s.weeks.toNat, fun i r hr => by
        show suL _ (leavesS s ((rainsS s).getD i 0)) _ = _
        rw [List.getD_eq_getElem?_getD, hr]; rfl⟩
    have m0 : h1.get N = some (.c [iS s.weeks, iS s.most, iS s.fall, iS s.slo, iS s.shi, iS s.wlo, iS s.whi, b, r] 27) := sS_Fb
    have gw1 : ∀ g : Tr Ob, Fr h1 N1 g → Fr h N g := fun g hg k hk => (hg k (by omega)).trans (show h1.get k = h.get k from sS_Fb)
    try refine gs_Fb ?_
    refine Rn.loop8 (fun m a1 a2 a3 a4 a5 a6 a7 a8 g M => ∃ (i z : Nat) (l : Int), a1 = .pointer (some ⟨N, 0, none⟩) ∧ p = a2 ∧ q = a3 ∧ a4 = nS z ∧ a5 = iS l ∧ q = a6 ∧ a7 = nS Q.length ∧ a8 = nS i ∧ i + m = Q.length ∧ Fr h1 N1 g ∧ N1 ≤ M ∧ BsP (fun z => z) S (0) i z l) Q.length (by omega)
      ⟨0, 0, 0, rfl, rfl, rfl, rfl, rfl, rfl, rfl, rfl, by omega, Fr.refl _ _, Nat.le_refl _, .inl ⟨rfl, rfl, rfl⟩⟩ ?_
    rintro m g ih _ _ _ _ _ _ _ _ h2 N2 ⟨i, z, l, rfl, y0, y1, rfl, rfl, y2, rfl, rfl, e2, f2, l2, bs⟩
    subst y0
    subst y1
    cases y2
    have p0 := (f2 N (by omega)).trans m0
    try refine gs_Fb ?_
    (first | with_reducible refine Rn.cnd (fun _ => ?_) (fun _ => ?_) | with_reducible refine Rn.cndN (fun _ => ?_) (fun _ => ?_) | with_reducible refine Rn.cndB (fun _ => ?_) (fun _ => ?_))
    · obtain ⟨x, hx⟩ := at_of (L := Q) (k := i) (by omega)
      have hi : i < Q.length := by omega
      obtain ⟨r', hr', rfl, hok⟩ := hat i x hx
      have hSi := hS i r' hr'
      have hbo := leaves_ok hs r'
      have hbd : ∀ k, -1000000 ≤ (leavesS s r' k).1 ∧ (leavesS s r' k).1 ≤ 1000000 := fun k => by have := hbo k; omega
      have hsu := suL_bd (f := fun v => v.1) (g := leavesS s r') hbd
      have hps : i = 0 → (True) := fun h => trivial
      clear hok
      generalize leavesS s r' = F at *
      try refine gs_Fb ?_
      refine Rn.loop12 (fun m' c1 c2 c3 c4 c5 c6 c7 c8 c9 c10 c11 c12 g' M' => ∃ j : Nat, c1 = .pointer (some ⟨N, 0, none⟩) ∧ p = c2 ∧ q = c3 ∧ c4 = nS z ∧ c5 = iS l ∧ c6 = nS i ∧ c7 = .pointer (some ⟨N2, 0, none⟩) ∧ c8 = iS (suL (fun v => v.1) F j) ∧ c9 = nS j ∧ q = c10 ∧ c11 = nS Q.length ∧ c12 = nS i ∧ (j : Int) + m' = s.weeks ∧ Fr h2 N2 g' ∧ N2 + 1 ≤ M' ∧ g'.get N2 = some (.c (leC F) 104)) s.weeks.toNat (by omega)
        ⟨0, rfl, rfl, rfl, rfl, rfl, rfl, rfl, rfl, rfl, rfl, rfl, rfl, by omega, fr_Fb, by omega, sR_Fb⟩ ?_
      rintro m' g' ih' _ _ _ _ _ _ _ _ _ _ _ _ h3 N3 ⟨j, rfl, y0, y1, rfl, rfl, rfl, rfl, rfl, rfl, y2, rfl, rfl, e3, f3, l3, g3⟩
      subst y0
      subst y1
      cases y2
      have p1 := (f3 N (by omega)).trans p0
      have f4 : Fr h1 N1 h3 := f2.trans f3 (by omega)
      try refine gs_Fb ?_
      (first | with_reducible refine Rn.cnd (fun _ => ?_) (fun _ => ?_) | with_reducible refine Rn.cndN (fun _ => ?_) (fun _ => ?_) | with_reducible refine Rn.cndB (fun _ => ?_) (fun _ => ?_))
      · have hj : j < 10 := by omega
        have hsj := hsu j
        have hbj := hbd j
        have es : suL (fun v => v.1) F (j + 1) = suL (fun v => v.1) F j + (F j).1 := rfl
        generalize suL (fun v => v.1) F j = X at *
        try refine gs_Fb ?_
        exact ih' (m' - 1) (by omega) _ _ _ _ _ _ _ _ _ _ _ _ _ _ ⟨j + 1, rfl, rfl, rfl, rfl, rfl, rfl, rfl, by rw [es], rfl, rfl, rfl, rfl, by omega, fr_Fb, by omega, sS_Fb⟩
      · obtain rfl : j = s.weeks.toNat := by omega
        clear ih'
        unfold jnR
        rw [← hSi]
        by_cases hi0 : (i : Int) = 0
        · try refine gs_Fb ?_
          exact ih (m - 1) (by omega) _ _ _ _ _ _ _ _ _ _ ⟨i + 1, i, S i, rfl, rfl, rfl, rfl, rfl, rfl, rfl, rfl, by omega, f4, by omega, bs.take (.inl (by omega))⟩
        · by_cases hlt : S i < l
          · try refine gs_Fb ?_
            exact ih (m - 1) (by omega) _ _ _ _ _ _ _ _ _ _ ⟨i + 1, i, S i, rfl, rfl, rfl, rfl, rfl, rfl, rfl, rfl, by omega, f4, by omega, bs.take (.inr hlt)⟩
          · try refine gs_Fb ?_
            exact ih (m - 1) (by omega) _ _ _ _ _ _ _ _ _ _ ⟨i + 1, z, l, rfl, rfl, rfl, rfl, rfl, rfl, rfl, rfl, by omega, f4, by omega, bs.pass (by omega) hlt⟩
    · obtain rfl : i = Q.length := by omega
      clear ih
      rcases bs with ⟨e0, _⟩ | ⟨b1, rfl, b2, b3⟩
      · omega
      obtain ⟨x, hx⟩ := at_of (L := Q) (k := z) (by omega)
      have hz : z < Q.length := by omega
      obtain ⟨r', hr', rfl, hok⟩ := hat z x hx
      have hzr : z < (rainsS s).length := by omega
      have hSz := hS z r' hr'
      obtain ⟨wi, wo, we, ws⟩ := sl_window (d := 0 + 0) (n := s.weeks.toNat) (c := 10) (K := giL (fun v => v.1) (leavesS s r') s.weeks.toNat) (s2.up f2 (by omega)) hx (by omega) (gi_lo _ (by omega)) (giL_len _ _ _)
      have esl : evSlice Pr 102 (ptr 20 q z (0 + 0)) none (some (iS s.weeks)) none = some (.slice (some ⟨wi, wo, none⟩) s.weeks.toNat 10) := by
        rw [we, show iS s.weeks = nS s.weeks.toNat from congrArg (Value.int .i64) (Int.toNat_of_nonneg (by omega)).symm]
        exact sl_arr (by omega)
      have s3 := s1.up f2 (by omega : N1 ≤ N2)
      have s4 := s2.up f2 (by omega : N1 ≤ N2)
      clear s1 s2
      try refine gs_Fb ?_
      refine Rn.bind esl ?_
      clear esl
      try refine gs_Fb ?_
      refine Rn.call (Ow.app (α := Int) (L := []) (K := giL (fun v => v.1) (leavesS s r') s.weeks.toNat) (i := N2) ap_Sint (.inr (.inl ⟨rfl, sM_Fb⟩)) (by omega) ws fr_Fb (by rw [giL_len]; simp; omega)) ?_
      rintro v5 h5 N5 ⟨i5, w5, e5, e5', f5, o5, l5⟩
      rw [List.nil_append] at w5
      have c5 := (w5.sl e5').flat
      try refine gs_Fb ?_
      refine Rn.ret ⟨⟨r', v5, rfl, c5, fun _ => ⟨⟨z, hr', fun j r hr => ?_, fun j r hj hr => ?_⟩, w5.sl e5'⟩, fun h => absurd rfl h⟩, Gw.of (gw1 h5 fun k hk => (show _ = h2.get k from sS_Fb).trans (f2 k hk)) (by omega)⟩
      · have := b2 j (by have := lt_of_at hr; omega)
        rw [hSz, hS j r hr] at this
        exact this
      · have := b3 j hj
        rw [hSz, hS j r hr] at this
        exact this
  · try refine gs_Fb ?_
    exact Rn.ret ⟨⟨0, _, rfl, rfl, fun h => absurd h he, fun _ => ⟨rfl, rfl⟩⟩, (Gw.of fr_Fb (by omega))⟩
theorem c_rRich (call : CallF) {h N} (nb : s.book.length < 1000) (nr : s.reads.length < 1000) (hb : Sl h N b s.book) (hr : Sl h N r s.reads) : Rn (s21 call (.agg ⟨[iS s.weeks, iS s.most, iS s.fall, iS s.slo, iS s.shi, iS s.wlo, iS s.whi, b, r]⟩) h N) fun v h' N' => (∃ rain p, v = .tuple ⟨[iS rain, p, iS (exE s)]⟩ ∧ flatV p = true ∧ (exE s = 0 → ExOk (fun v => v.2) (fun z => -z) s h' N' rain p) ∧ (exE s ≠ 0 → rain = 0 ∧ p = .slice none 0 0)) ∧ Gw h N h' N' := by
  unfold s21
  have cb := hb.flat; have cr := hr.flat; have x1 := flatV_one cb; have y1 := cel_flat cb; have x2 := flatV_one cr; have y2 := cel_flat cr
  have ex : exE s = erS s 0 := er0_beg.symm
  rw [ex]
  try refine gs_Fb ?_
  refine Rn.call (c_rtold call (w := 0) nb nr (Sl.up (by assumption) fr_Fb (by omega)) (Sl.up (by assumption) fr_Fb (by omega))) ?_
  rintro _ h1 N1 ⟨⟨p, q, rfl, c1, c2, k⟩, f1, o1, l1⟩
  have x3 := flatV_one c1
  have y3 := cel_flat c1
  have x4 := flatV_one c2
  have y4 := cel_flat c2
  by_cases he : erS s 0 = 0
  · obtain ⟨hv, q1, q2, hc⟩ := er_ok he
    have hs := ok_of_valid hv
    have w1 := hs.ok.w1
    have w2 := hs.ok.w2
    have hrl := rains_len hs
    obtain ⟨s1, s2⟩ := k he
    rw [lfs_base hs] at s2
    rw [he]
    have hll : ((rainsS s).map fun r => (⟨leavesS s r⟩ : Lf)).length = (rainsS s).length := by simp
    have hne : 0 < (rainsS s).length := by
      obtain ⟨r, hr⟩ := can_ex hc
      exact List.length_pos_of_mem hr
    have hat : ∀ (i : Nat) (x : Lf), ((rainsS s).map fun r => (⟨leavesS s r⟩ : Lf))[i]? = some x → ∃ r, (rainsS s)[i]? = some r ∧ x = (⟨leavesS s r⟩ : Lf) ∧ okN s (leavesS s r) = true := by
      intro i x hx
      rw [List.getElem?_map] at hx
      cases hr : (rainsS s)[i]? with
      | none => rw [hr] at hx; cases hx
      | some r => rw [hr] at hx; cases hx; exact ⟨r, rfl, rfl, (rains_mem (List.mem_of_getElem? hr)).1⟩
    generalize ((rainsS s).map fun r => (⟨leavesS s r⟩ : Lf)) = Q at *
    obtain ⟨S, hS⟩ : ∃ S : Nat → Int, ∀ (i : Nat) (r : Int), (rainsS s)[i]? = some r → S i = suL (fun v => v.2) (leavesS s r) s.weeks.toNat :=
      ⟨fun i => suL (fun v => v.2) (leavesS s ((rainsS s).getD i 0)) s.weeks.toNat, fun i r hr => by
        show suL _ (leavesS s ((rainsS s).getD i 0)) _ = _
        rw [List.getD_eq_getElem?_getD, hr]; rfl⟩
    have m0 : h1.get N = some (.c [iS s.weeks, iS s.most, iS s.fall, iS s.slo, iS s.shi, iS s.wlo, iS s.whi, b, r] 27) := sS_Fb
    have gw1 : ∀ g : Tr Ob, Fr h1 N1 g → Fr h N g := fun g hg k hk => (hg k (by omega)).trans (show h1.get k = h.get k from sS_Fb)
    try refine gs_Fb ?_
    refine Rn.loop8 (fun m a1 a2 a3 a4 a5 a6 a7 a8 g M => ∃ (i z : Nat) (l : Int), a1 = .pointer (some ⟨N, 0, none⟩) ∧ p = a2 ∧ q = a3 ∧ a4 = nS z ∧ a5 = iS l ∧ q = a6 ∧ a7 = nS Q.length ∧ a8 = nS i ∧ i + m = Q.length ∧ Fr h1 N1 g ∧ N1 ≤ M ∧ BsP (fun z => -z) S (-1) i z l) Q.length (by omega)
      ⟨0, 0, -1, rfl, rfl, rfl, rfl, rfl, rfl, rfl, rfl, by omega, Fr.refl _ _, Nat.le_refl _, .inl ⟨rfl, rfl, rfl⟩⟩ ?_
    rintro m g ih _ _ _ _ _ _ _ _ h2 N2 ⟨i, z, l, rfl, y0, y1, rfl, rfl, y2, rfl, rfl, e2, f2, l2, bs⟩
    subst y0
    subst y1
    cases y2
    have p0 := (f2 N (by omega)).trans m0
    try refine gs_Fb ?_
    (first | with_reducible refine Rn.cnd (fun _ => ?_) (fun _ => ?_) | with_reducible refine Rn.cndN (fun _ => ?_) (fun _ => ?_) | with_reducible refine Rn.cndB (fun _ => ?_) (fun _ => ?_))
    · obtain ⟨x, hx⟩ := at_of (L := Q) (k := i) (by omega)
      have hi : i < Q.length := by omega
      obtain ⟨r', hr', rfl, hok⟩ := hat i x hx
      have hSi := hS i r' hr'
      have hbo := leaves_ok hs r'
      have hbd : ∀ k, -1000000 ≤ (leavesS s r' k).2 ∧ (leavesS s r' k).2 ≤ 1000000 := fun k => by have := hbo k; omega
      have hsu := suL_bd (f := fun v => v.2) (g := leavesS s r') hbd
      have hps : i = 0 → (0 ≤ S i) := fun h => by rw [hSi]; exact suL_pos fun k hk => by have := leaves_bd hok hk; omega
      clear hok
      generalize leavesS s r' = F at *
      try refine gs_Fb ?_
      refine Rn.loop12 (fun m' c1 c2 c3 c4 c5 c6 c7 c8 c9 c10 c11 c12 g' M' => ∃ j : Nat, c1 = .pointer (some ⟨N, 0, none⟩) ∧ p = c2 ∧ q = c3 ∧ c4 = nS z ∧ c5 = iS l ∧ c6 = nS i ∧ c7 = .pointer (some ⟨N2, 0, none⟩) ∧ c8 = iS (suL (fun v => v.2) F j) ∧ c9 = nS j ∧ q = c10 ∧ c11 = nS Q.length ∧ c12 = nS i ∧ (j : Int) + m' = s.weeks ∧ Fr h2 N2 g' ∧ N2 + 1 ≤ M' ∧ g'.get N2 = some (.c (leC F) 104)) s.weeks.toNat (by omega)
        ⟨0, rfl, rfl, rfl, rfl, rfl, rfl, rfl, rfl, rfl, rfl, rfl, rfl, by omega, fr_Fb, by omega, sR_Fb⟩ ?_
      rintro m' g' ih' _ _ _ _ _ _ _ _ _ _ _ _ h3 N3 ⟨j, rfl, y0, y1, rfl, rfl, rfl, rfl, rfl, rfl, y2, rfl, rfl, e3, f3, l3, g3⟩
      subst y0
      subst y1
      cases y2
      have p1 := (f3 N (by omega)).trans p0
      have f4 : Fr h1 N1 h3 := f2.trans f3 (by omega)
      try refine gs_Fb ?_
      (first | with_reducible refine Rn.cnd (fun _ => ?_) (fun _ => ?_) | with_reducible refine Rn.cndN (fun _ => ?_) (fun _ => ?_) | with_reducible refine Rn.cndB (fun _ => ?_) (fun _ => ?_))
      · have hj : j < 10 := by omega
        have hsj := hsu j
        have hbj := hbd j
        have es : suL (fun v => v.2) F (j + 1) = suL (fun v => v.2) F j + (F j).2 := rfl
        generalize suL (fun v => v.2) F j = X at *
        try refine gs_Fb ?_
        exact ih' (m' - 1) (by omega) _ _ _ _ _ _ _ _ _ _ _ _ _ _ ⟨j + 1, rfl, rfl, rfl, rfl, rfl, rfl, rfl, by rw [es], rfl, rfl, rfl, rfl, by omega, fr_Fb, by omega, sS_Fb⟩
      · obtain rfl : j = s.weeks.toNat := by omega
        clear ih'
        unfold jnR
        rw [← hSi]
        have hlb : i = 0 → l = -1 := fun h => by
          rcases bs with ⟨_, _, e⟩ | ⟨h1, _⟩
          · exact e
          · omega
        by_cases hlt : l < S i
        · try refine gs_Fb ?_
          exact ih (m - 1) (by omega) _ _ _ _ _ _ _ _ _ _ ⟨i + 1, i, S i, rfl, rfl, rfl, rfl, rfl, rfl, rfl, rfl, by omega, f4, by omega, bs.take (.inr (by show -(S i) < -l; omega))⟩
        · try refine gs_Fb ?_
          exact ih (m - 1) (by omega) _ _ _ _ _ _ _ _ _ _ ⟨i + 1, z, l, rfl, rfl, rfl, rfl, rfl, rfl, rfl, rfl, by omega, f4, by omega, bs.pass (by
            rcases Nat.eq_zero_or_pos i with h | h
            · have := hlb h
              have := hps h
              omega
            · exact h) (by show ¬ -(S i) < -l; omega)⟩
    · obtain rfl : i = Q.length := by omega
      clear ih
      rcases bs with ⟨e0, _⟩ | ⟨b1, rfl, b2, b3⟩
      · omega
      obtain ⟨x, hx⟩ := at_of (L := Q) (k := z) (by omega)
      have hz : z < Q.length := by omega
      obtain ⟨r', hr', rfl, hok⟩ := hat z x hx
      have hzr : z < (rainsS s).length := by omega
      have hSz := hS z r' hr'
      obtain ⟨wi, wo, we, ws⟩ := sl_window (d := 0 + 10) (n := s.weeks.toNat) (c := 10) (K := giL (fun v => v.2) (leavesS s r') s.weeks.toNat) (s2.up f2 (by omega)) hx (by omega) (gi_hi _ (by omega)) (giL_len _ _ _)
      have esl : evSlice Pr 102 (ptr 20 q z (0 + 10)) none (some (iS s.weeks)) none = some (.slice (some ⟨wi, wo, none⟩) s.weeks.toNat 10) := by
        rw [we, show iS s.weeks = nS s.weeks.toNat from congrArg (Value.int .i64) (Int.toNat_of_nonneg (by omega)).symm]
        exact sl_arr (by omega)
      have s3 := s1.up f2 (by omega : N1 ≤ N2)
      have s4 := s2.up f2 (by omega : N1 ≤ N2)
      clear s1 s2
      try refine gs_Fb ?_
      refine Rn.bind esl ?_
      clear esl
      try refine gs_Fb ?_
      refine Rn.call (Ow.app (α := Int) (L := []) (K := giL (fun v => v.2) (leavesS s r') s.weeks.toNat) (i := N2) ap_Sint (.inr (.inl ⟨rfl, sM_Fb⟩)) (by omega) ws fr_Fb (by rw [giL_len]; simp; omega)) ?_
      rintro v5 h5 N5 ⟨i5, w5, e5, e5', f5, o5, l5⟩
      rw [List.nil_append] at w5
      have c5 := (w5.sl e5').flat
      try refine gs_Fb ?_
      refine Rn.ret ⟨⟨r', v5, rfl, c5, fun _ => ⟨⟨z, hr', fun j r hr => ?_, fun j r hj hr => ?_⟩, w5.sl e5'⟩, fun h => absurd rfl h⟩, Gw.of (gw1 h5 fun k hk => (show _ = h2.get k from sS_Fb).trans (f2 k hk)) (by omega)⟩
      · have := b2 j (by have := lt_of_at hr; omega)
        rw [hSz, hS j r hr] at this
        exact this
      · have := b3 j hj
        rw [hSz, hS j r hr] at this
        exact this
  · try refine gs_Fb ?_
    exact Rn.ret ⟨⟨0, _, rfl, rfl, fun h => absurd h he, fun _ => ⟨rfl, rfl⟩⟩, (Gw.of fr_Fb (by omega))⟩
end
end Go.Proofs.Ytpilgokdbliklaa
end

section
namespace Go.Proofs.Ytpilgokdbliklaa
open Go.Ev Go.RowKit
set_option linter.unusedVariables false
set_option linter.unusedSimpArgs false
set_option linter.unusedSectionVars false
set_option maxRecDepth 100000
set_option maxHeartbeats 4000000
theorem s1_Fc {p : Prop} (h : p := by (simp (disch := omega) only [obind_s, orun_s, ocond_t, fad_p, ld1_e, ldN_e, sto_e, cellO_c, wrO_c, Tr.get_same, Tr.get_other, nth_0, nth_s, drp_0, drp_s, drp_n, tak_0, tak_s, tak_n, over_n, over_c, lay_0, lay_s, lay_n, len_n, len_c, app_n, app_c, reps_0, reps_s, cel_agg, cel_int, cel_bool, cel_str, cel_sl, cel_ptr, cel_map, cel_func, cel_nilf, fil_n, fil_c, beq_r, ble_d, allF_n, allF_c, one_int, one_bool, one_str, one_sl, one_ptr, one_map, one_func, one_nilf, Bool.and_true, Bool.true_and, Bool.not_true, Bool.not_false, iadA_z, Int.reduceToNat, Int.toNat_zero, fl1_a, flN_a, extr_t, unot, not_d, Nat.add_eq, Nat.mul_eq, Nat.mul_one, Nat.one_mul, Nat.zero_mul, Nat.reduceMul, Nat.zero_add, Nat.add_zero, Nat.le_refl, decide_true, Nat.reduceAdd, Nat.reduceLeDiff, bsl_Sint, bs0_Sint, bld_Span, bld_spring_work, bld_spring_asked, enc_Line, enc_Reading, ocond_d, Int.toNat_natCast, *]); first | done | fail) : p := h
theorem s2_Fc {p : Prop} (h : p := by (simp (disch := omega) only [obind_s, orun_s, ocond_t, fad_p, ld1_e, ldN_e, sto_e, cellO_c, wrO_c, Tr.get_same, Tr.get_other, nth_0, nth_s, drp_0, drp_s, drp_n, tak_0, tak_s, tak_n, over_n, over_c, lay_0, lay_s, lay_n, len_n, len_c, app_n, app_c, reps_0, reps_s, cel_agg, cel_int, cel_bool, cel_str, cel_sl, cel_ptr, cel_map, cel_func, cel_nilf, fil_n, fil_c, beq_r, ble_d, allF_n, allF_c, one_int, one_bool, one_str, one_sl, one_ptr, one_map, one_func, one_nilf, Bool.and_true, Bool.true_and, Bool.not_true, Bool.not_false, iadA_z, Int.reduceToNat, Int.toNat_zero, fl1_a, flN_a, extr_t, unot, not_d, Nat.add_eq, Nat.mul_eq, Nat.mul_one, Nat.one_mul, Nat.zero_mul, Nat.reduceMul, Nat.zero_add, Nat.add_zero, Nat.le_refl, decide_true, Nat.reduceAdd, Nat.reduceLeDiff, bsl_Sint, bs0_Sint, bld_Span, bld_spring_work, bld_spring_asked, enc_Line, enc_Reading, ocond_d, Int.toNat_natCast, *]); rfl) : p := h
theorem sb_Fc {p : Prop} (h : p := by first | ((simp (disch := omega) only [obind_s, orun_s, ocond_t, fad_p, ld1_e, ldN_e, sto_e, cellO_c, wrO_c, Tr.get_same, Tr.get_other, nth_0, nth_s, drp_0, drp_s, drp_n, tak_0, tak_s, tak_n, over_n, over_c, lay_0, lay_s, lay_n, len_n, len_c, app_n, app_c, reps_0, reps_s, cel_agg, cel_int, cel_bool, cel_str, cel_sl, cel_ptr, cel_map, cel_func, cel_nilf, fil_n, fil_c, beq_r, ble_d, allF_n, allF_c, one_int, one_bool, one_str, one_sl, one_ptr, one_map, one_func, one_nilf, Bool.and_true, Bool.true_and, Bool.not_true, Bool.not_false, iadA_z, Int.reduceToNat, Int.toNat_zero, fl1_a, flN_a, extr_t, unot, not_d, Nat.add_eq, Nat.mul_eq, Nat.mul_one, Nat.one_mul, Nat.zero_mul, Nat.reduceMul, Nat.zero_add, Nat.add_zero, Nat.le_refl, decide_true, Nat.reduceAdd, Nat.reduceLeDiff, bsl_Sint, bs0_Sint, bld_Span, bld_spring_work, bld_spring_asked, enc_Line, enc_Reading, ocond_d, Int.toNat_natCast, Nat.succ_eq_add_one, Nat.add_assoc, *]); rfl) | ((simp (disch := omega) only [obind_s, orun_s, ocond_t, fad_p, ld1_e, ldN_e, sto_e, cellO_c, wrO_c, Tr.get_same, Tr.get_other, nth_0, nth_s, drp_0, drp_s, drp_n, tak_0, tak_s, tak_n, over_n, over_c, lay_0, lay_s, lay_n, len_n, len_c, app_n, app_c, reps_0, reps_s, cel_agg, cel_int, cel_bool, cel_str, cel_sl, cel_ptr, cel_map, cel_func, cel_nilf, fil_n, fil_c, beq_r, ble_d, allF_n, allF_c, one_int, one_bool, one_str, one_sl, one_ptr, one_map, one_func, one_nilf, Bool.and_true, Bool.true_and, Bool.not_true, Bool.not_false, iadA_z, Int.reduceToNat, Int.toNat_zero, fl1_a, flN_a, extr_t, unot, not_d, Nat.add_eq, Nat.mul_eq, Nat.mul_one, Nat.one_mul, Nat.zero_mul, Nat.reduceMul, Nat.zero_add, Nat.add_zero, Nat.le_refl, decide_true, Nat.reduceAdd, Nat.reduceLeDiff, bsl_Sint, bs0_Sint, bld_Span, bld_spring_work, bld_spring_asked, enc_Line, enc_Reading, ocond_d, Int.toNat_natCast, Nat.succ_eq_add_one, Nat.add_assoc, *]); done)) : p := h
theorem fr_Fc {p : Prop} (h : p := by first | assumption | exact Fr.refl _ _ | (simp (disch := omega) only [Fr_set, Fr_refl, *])) : p := h
theorem fl_Fc {p : Prop} (h : p := by first | with_unfolding_all rfl | exact Sl.flat (by assumption) | assumption) : p := h
theorem fll_Fc {p : Prop} (h : p := by first | with_unfolding_all rfl | ((repeat (refine flatL_k fl_Fc ?_)); with_unfolding_all rfl)) : p := h
theorem en_Fc {p : Prop} (h : p := by first | ((simp only [enc_int, enc_str, enc_u8, enc_bool, tak_s, tak_0, tak_n, drp_0, drp_s, drp_n, nth_s, nth_0, bsl_Sint, bs0_Sint, bld_Span, bld_spring_work, bld_spring_asked, enc_Line, enc_Reading, ocond_d, Int.toNat_natCast]); rfl) | ((simp only [enc_int, enc_str, enc_u8, enc_bool, tak_s, tak_0, tak_n, drp_0, drp_s, drp_n, nth_s, nth_0, bsl_Sint, bs0_Sint, bld_Span, bld_spring_work, bld_spring_asked, enc_Line, enc_Reading, ocond_d, Int.toNat_natCast]); done) | with_unfolding_all rfl) : p := h
theorem sM_Fc {p : Prop} (h : p := by (first | assumption | (simp (disch := omega) only [Tr.get_same, Tr.get_other, *]; rfl) | (simp (disch := omega) only [Tr.get_same, Tr.get_other, *]; done))) : p := h
theorem sS_Fc {p : Prop} (h : p := by first | assumption | exact s1_Fc) : p := h
theorem op_Fc {p : Prop} (h : p := by first | with_reducible exact fad_p _ _ _ | with_reducible exact iop_lss _ _ | with_reducible exact iop_leq _ _ | with_reducible exact iop_gtr _ _ | with_reducible exact iop_geq _ _ | with_reducible exact iop_eql _ _ | with_reducible exact iop_neq _ _ | with_reducible exact Sl.len (by assumption) | with_reducible exact lenS_s _ _ _ | with_reducible exact Sl.iad (by assumption) (by with_unfolding_all rfl) (by first | assumption | omega) | with_reducible exact Sl.fad (by assumption) (by first | assumption | omega) | with_reducible exact Sl.ld1 (by assumption) fr_Fc (by with_unfolding_all rfl) (by assumption) en_Fc | with_reducible exact Sl.ldN (by assumption) fr_Fc (by with_unfolding_all rfl) (by assumption) (by with_unfolding_all rfl) en_Fc | with_reducible exact zadd1 (by omega) | with_reducible exact zsub1 (by omega) (by omega) | with_reducible exact zaddI (by omega) (by omega) | with_reducible exact zsubI (by omega) (by omega) | with_reducible exact min_z | with_reducible exact max_z | with_reducible exact zmulI (by assumption) | with_reducible exact zmulK (by omega) (by omega) | with_reducible exact quo_z (by omega) (by omega) (by omega) | with_reducible exact cv_u8 (by omega) | with_reducible exact rem_z (by omega) (by omega) (by omega) | with_reducible exact neq_bool (by kernel_rfl) | with_reducible exact eql_u8 | with_reducible exact wntT_t (by assumption) | with_reducible exact wntT_f (by assumption) | with_reducible exact wntF_t (by assumption) | with_reducible exact wntF_f (by assumption) | with_reducible exact wnt_tt | with_reducible exact wnt_tf | with_reducible exact wnt_ft | with_reducible exact wnt_ff | with_reducible exact wnt_u _ _ | with_reducible exact pck_t _ _ | with_reducible exact pck_f _ _ | with_reducible exact pckT (by assumption) | with_reducible exact pckF (by assumption) | with_reducible exact wntT_t (by decide) | with_reducible exact wntT_f (by decide) | with_reducible exact wntF_t (by decide) | with_reducible exact wntF_f (by decide) | with_reducible exact pckT (by decide) | with_reducible exact pckF (by decide) | with_reducible exact wntN_tt (by decide) | with_reducible exact wntN_tf (by decide) | with_reducible exact wntN_ft (by decide) | with_reducible exact wntN_ff (by decide) | with_reducible exact pckNT (by decide) | with_reducible exact pckNF (by decide) | with_reducible exact wntN_tt (by assumption) | with_reducible exact wntN_tf (by assumption) | with_reducible exact wntN_ft (by assumption) | with_reducible exact wntN_ff (by assumption) | with_reducible exact pckNT (by assumption) | with_reducible exact pckNF (by assumption) | with_reducible exact wntB_tt (by assumption) | with_reducible exact wntB_tf (by assumption) | with_reducible exact wntB_ft (by assumption) | with_reducible exact wntB_ff (by assumption) | with_reducible exact pckBT (by assumption) | with_reducible exact pckBF (by assumption) | exact s2_Fc | exact s1_Fc) : p := h
theorem co_Fc {p : Prop} (h : p := by first | (simp only [impB_1, impB_0, offB_1, offB_0]; done) | ((try simp only [impB_1, impB_0, offB_1, offB_0]); first | with_reducible exact Sl.ag1 (by assumption) fr_Fc (by with_unfolding_all rfl) (by assumption) en_Fc | with_reducible exact Sl.agN (by assumption) fr_Fc (by with_unfolding_all rfl) (by assumption) (by with_unfolding_all rfl) en_Fc | ((with_reducible refine agL1_e ?_ ?_); (· exact s1_Fc); (· exact fl_Fc)) | ((with_reducible refine agLN_e ?_ ?_); (· exact s1_Fc); (· exact fll_Fc)) | ((with_reducible apply ag_bs); (· exact sM_Fc); (· rfl); (· exact sb_Fc); (· exact fll_Fc)) | ((with_reducible apply ag_al); (· exact sM_Fc); (· rfl); (· exact fll_Fc)) | ((with_reducible apply ag_bx); (· exact sM_Fc); (· rfl); (· rfl); (· exact fll_Fc)) | ((with_reducible apply ag_bd); (· rfl); (· exact s1_Fc); (· exact fll_Fc)) | exact s1_Fc)) : p := h
theorem gs_Fc {r p : Prop} (k : r) (h : Go.Ev.Im r p := by (first | with_reducible apply Im.runS | ((with_reducible apply Im.num); · (simp only [Nat.succ_eq_add_one, Nat.add_assoc, Nat.reduceAdd]; rfl)) | (with_reducible apply Im.unm) | (with_reducible apply Im.selT) | (with_reducible apply Im.selF) | ((with_reducible apply Im.cndT); · assumption) | ((with_reducible apply Im.cndF); · assumption) | ((with_reducible apply Im.cndT); · decide) | ((with_reducible apply Im.cndF); · decide) | ((with_reducible apply Im.cndNT); · decide) | ((with_reducible apply Im.cndNF); · decide) | ((with_reducible apply Im.cndBT); · exact rfl) | ((with_reducible apply Im.cndBF); · exact rfl) | ((with_reducible apply Im.cndNT); · assumption) | ((with_reducible apply Im.cndNF); · assumption) | ((with_reducible apply Im.cndBT); · assumption) | ((with_reducible apply Im.cndBF); · assumption) | ((with_reducible apply Im.bind); · exact op_Fc) | ((with_reducible apply Im.cond); · exact co_Fc) | ((with_reducible apply Im.runB); · exact op_Fc) | ((with_reducible apply Im.runC); · exact co_Fc) | ((with_reducible apply Im.runN); · (simp only [Nat.succ_eq_add_one, Nat.add_assoc, Nat.reduceAdd]; rfl)) | with_reducible apply Im.runR | ((with_reducible apply Im.runE (x := evBuildSlice _ _ _ _ _ _)); · exact sb_Fc)); (repeat (first | with_reducible apply Im.runS | ((with_reducible apply Im.num); · (simp only [Nat.succ_eq_add_one, Nat.add_assoc, Nat.reduceAdd]; rfl)) | (with_reducible apply Im.unm) | (with_reducible apply Im.selT) | (with_reducible apply Im.selF) | ((with_reducible apply Im.cndT); · assumption) | ((with_reducible apply Im.cndF); · assumption) | ((with_reducible apply Im.cndT); · decide) | ((with_reducible apply Im.cndF); · decide) | ((with_reducible apply Im.cndNT); · decide) | ((with_reducible apply Im.cndNF); · decide) | ((with_reducible apply Im.cndBT); · exact rfl) | ((with_reducible apply Im.cndBF); · exact rfl) | ((with_reducible apply Im.cndNT); · assumption) | ((with_reducible apply Im.cndNF); · assumption) | ((with_reducible apply Im.cndBT); · assumption) | ((with_reducible apply Im.cndBF); · assumption) | ((with_reducible apply Im.bind); · exact op_Fc) | ((with_reducible apply Im.cond); · exact co_Fc) | ((with_reducible apply Im.runB); · exact op_Fc) | ((with_reducible apply Im.runC); · exact co_Fc) | ((with_reducible apply Im.runN); · (simp only [Nat.succ_eq_add_one, Nat.add_assoc, Nat.reduceAdd]; rfl)) | with_reducible apply Im.runR | ((with_reducible apply Im.runE (x := evBuildSlice _ _ _ _ _ _)); · exact sb_Fc))); exact Go.Ev.Im.id) : p := h k
theorem lk_one {s : Sp} {w l w' l' : Int} (a : LkOk s w l) (c : LkOk s w' l') : w = w' ∧ l = l' := by
  obtain ⟨k, rfl, k1, rfl, k2, k3⟩ := a.at_
  obtain ⟨j, rfl, j1, rfl, j2, j3⟩ := c.at_
  have : k = j := by
    rcases Nat.lt_trichotomy k j with h | h | h
    · have := j3 k h; have := k2 j j1; omega
    · exact h
    · have := k3 j h; have := j2 k k1; omega
  subst this
  exact ⟨rfl, rfl⟩
theorem ex_one {s : Sp} {f : Int × Int → Int} {κ : Int → Int} {h h' : Tr Ob} {N N' : Nat} {r r' : Int} {p p' : Value} (a : ExOk f κ s h N r p) (c : ExOk f κ s h' N' r' p') : r = r' := by
  obtain ⟨k, k1, k2, k3⟩ := a.at_
  obtain ⟨j, j1, j2, j3⟩ := c.at_
  have : k = j := by
    rcases Nat.lt_trichotomy k j with h | h | h
    · have := j3 k r h k1; have := k2 j r' j1; omega
    · exact h
    · have := k3 j r' h j1; have := j2 k r k1; omega
  subst this
  rw [k1] at j1
  cases j1; rfl
section
variable {s : Sp} {b r : Value}
theorem c_extreme0 (d : Nat) {fv bv : Value} {h N} (nb : s.book.length < 1000) (nr : s.reads.length < 1000) (hb : Sl h N b s.book) (hr : Sl h N r s.reads) (ff : flatV fv = true) (fb : flatV bv = true) (he : exE s ≠ 0) :
    Rn (s58 (cN (d + 3)) (.agg ⟨[iS s.weeks, iS s.most, iS s.fall, iS s.slo, iS s.shi, iS s.wlo, iS s.whi, b, r]⟩) fv bv h N) fun v h' N' => v = .tuple ⟨[iS 0, .slice none 0 0, iS (exE s)]⟩ ∧ Gw h N h' N' := by
  unfold s58
  have cb := hb.flat; have cr := hr.flat; have x1 := flatV_one cb; have y1 := cel_flat cb; have x2 := flatV_one cr; have y2 := cel_flat cr
  try refine gs_Fc ?_
  refine Rn.call (c_begin d (q := qw 0 0) (L := [4]) nb nr (Sl.up (by assumption) fr_Fc (by omega)) (Sl.up (by assumption) fr_Fc (by omega)) (by simp) (Sl.lit _ sM_Fc (by omega) rfl rfl) (by simp)) ?_
  rintro _ h1 N1 ⟨⟨e0, hv, rfl⟩ | ⟨e0, rfl⟩, f1, o1, l1⟩
  · exact absurd e0 he
  · have e1 : beginS s (qw 0 0) [4] = exE s := rfl
    rw [e1] at e0 ⊢
    try refine gs_Fc ?_
    exact Rn.ret ⟨rfl, (Gw.of fr_Fc (by omega))⟩
theorem c_Poor0 (d : Nat) {h N} (nb : s.book.length < 1000) (nr : s.reads.length < 1000) (hb : Sl h N b s.book) (hr : Sl h N r s.reads) (he : exE s ≠ 0) : Rn (s18 (cN (d + 3)) (.agg ⟨[iS s.weeks, iS s.most, iS s.fall, iS s.slo, iS s.shi, iS s.wlo, iS s.whi, b, r]⟩) h N) fun v h' N' => v = .tuple ⟨[iS 0, .slice none 0 0, iS (exE s)]⟩ ∧ Gw h N h' N' := by
  unfold s18
  have cb := hb.flat; have cr := hr.flat; have x1 := flatV_one cb; have y1 := cel_flat cb; have x2 := flatV_one cr; have y2 := cel_flat cr
  try refine gs_Fc ?_
  refine Rn.call (c_extreme0 d nb nr (Sl.up (by assumption) fr_Fc (by omega)) (Sl.up (by assumption) fr_Fc (by omega)) rfl rfl he) ?_
  rintro _ h1 N1 ⟨rfl, f1, o1, l1⟩
  try refine gs_Fc ?_
  exact Rn.ret ⟨rfl, (Gw.of fr_Fc (by omega))⟩
theorem c_Rich0 (d : Nat) {h N} (nb : s.book.length < 1000) (nr : s.reads.length < 1000) (hb : Sl h N b s.book) (hr : Sl h N r s.reads) (he : exE s ≠ 0) : Rn (s20 (cN (d + 3)) (.agg ⟨[iS s.weeks, iS s.most, iS s.fall, iS s.slo, iS s.shi, iS s.wlo, iS s.whi, b, r]⟩) h N) fun v h' N' => v = .tuple ⟨[iS 0, .slice none 0 0, iS (exE s)]⟩ ∧ Gw h N h' N' := by
  unfold s20
  have cb := hb.flat; have cr := hr.flat; have x1 := flatV_one cb; have y1 := cel_flat cb; have x2 := flatV_one cr; have y2 := cel_flat cr
  try refine gs_Fc ?_
  refine Rn.call (c_extreme0 d nb nr (Sl.up (by assumption) fr_Fc (by omega)) (Sl.up (by assumption) fr_Fc (by omega)) rfl rfl he) ?_
  rintro _ h1 N1 ⟨rfl, f1, o1, l1⟩
  try refine gs_Fc ?_
  exact Rn.ret ⟨rfl, (Gw.of fr_Fc (by omega))⟩
theorem c_rLook (call : CallF) {h N} (nb : s.book.length < 1000) (nr : s.reads.length < 1000) (hb : Sl h N b s.book) (hr : Sl h N r s.reads) : Rn (s25 call (.agg ⟨[iS s.weeks, iS s.most, iS s.fall, iS s.slo, iS s.shi, iS s.wlo, iS s.whi, b, r]⟩) h N) fun v h' N' => (∃ w l : Int, v = .tuple ⟨[iS w, iS l, iS (exE s)]⟩ ∧ (exE s = 0 → LkOk s w l) ∧ (exE s ≠ 0 → w = 0 ∧ l = 0)) ∧ Gw h N h' N' := by
  unfold s25
  have cb := hb.flat; have cr := hr.flat; have x1 := flatV_one cb; have y1 := cel_flat cb; have x2 := flatV_one cr; have y2 := cel_flat cr
  have ex : exE s = erS s 0 := er0_beg.symm
  rw [ex]
  try refine gs_Fc ?_
  refine Rn.call (c_rtold call (w := 0) nb nr (Sl.up (by assumption) fr_Fc (by omega)) (Sl.up (by assumption) fr_Fc (by omega))) ?_
  rintro _ h1 N1 ⟨⟨p, q, rfl, c1, c2, k⟩, f1, o1, l1⟩
  have x3 := flatV_one c1
  have y3 := cel_flat c1
  have x4 := flatV_one c2
  have y4 := cel_flat c2
  by_cases he : erS s 0 = 0
  · obtain ⟨hv, q1, q2, hc⟩ := er_ok he
    have hs := ok_of_valid hv
    have w1 := hs.ok.w1
    have w2 := hs.ok.w2
    rw [he]
    clear k
    try refine gs_Fc ?_
    refine Rn.call (c_Left call (w := 0) hs (by omega) (Sl.up (by assumption) fr_Fc (by omega)) (Sl.up (by assumption) fr_Fc (by omega))) ?_
    rintro _ h2 N2 ⟨rfl, f2, o2, l2⟩
    try refine gs_Fc ?_
    have m0 : h2.get N = some (.c [iS s.weeks, iS s.most, iS s.fall, iS s.slo, iS s.shi, iS s.wlo, iS s.whi, b, r] 27) := sS_Fc
    have s0 : Sl h2 N2 b s.book := (Sl.up (by assumption) fr_Fc (by omega))
    have s1 : Sl h2 N2 r s.reads := (Sl.up (by assumption) fr_Fc (by omega))
    have g0 : Fr h N h2 := fr_Fc
    have lN : N < N2 := by omega
    clear f1 o1 l1 f2 o2 l2
    refine Rn.loop4 (fun m a1 a2 a3 a4 g M => ∃ j k : Nat, a1 = .pointer (some ⟨N, 0, none⟩) ∧ a2 = nS k ∧ a3 = iS (leftS s k) ∧ a4 = nS (j + 1) ∧ ((j + 1 : Nat) : Int) + m = s.weeks ∧ Fr h2 N2 g ∧ N2 ≤ M ∧ k < j + 1 ∧ (∀ i, i < j + 1 → leftS s k ≤ leftS s i) ∧ ∀ i, i < k → leftS s k < leftS s i) (s.weeks - 1).toNat (by omega)
      ⟨0, 0, rfl, rfl, rfl, rfl, by omega, Fr.refl _ _, Nat.le_refl _, by omega, fun i hi => by obtain rfl : i = 0 := by omega
                                                                                                exact Int.le_refl _, fun i hi => by omega⟩ ?_
    rintro m g ih _ _ _ _ h3 N3 ⟨j, k, rfl, rfl, rfl, rfl, e3, f3, l3, k1, k2, k3⟩
    have p0 := (f3 N lN).trans m0
    try refine gs_Fc ?_
    (first | with_reducible refine Rn.cnd (fun _ => ?_) (fun _ => ?_) | with_reducible refine Rn.cndN (fun _ => ?_) (fun _ => ?_) | with_reducible refine Rn.cndB (fun _ => ?_) (fun _ => ?_))
    · have hj : j + 1 < s.weeks.toNat := by omega
      try refine gs_Fc ?_
      refine Rn.call (c_Left call (w := j + 1) hs hj (Sl.up (by assumption) fr_Fc (by omega)) (Sl.up (by assumption) fr_Fc (by omega))) ?_
      rintro _ h4 N4 ⟨rfl, f4, o4, l4⟩
      unfold jnR
      by_cases hlt : leftS s (j + 1) < leftS s k
      · try refine gs_Fc ?_
        exact ih (m - 1) (by omega) _ _ _ _ _ _ ⟨j + 1, j + 1, rfl, rfl, rfl, rfl, by omega, fr_Fc, by omega, by omega, fun i hi => by
          rcases Nat.lt_or_ge i (j + 1) with h | h
          · have := k2 i h; omega
          · obtain rfl : i = j + 1 := by omega
            exact Int.le_refl _, fun i hi => by have := k2 i hi; omega⟩
      · try refine gs_Fc ?_
        exact ih (m - 1) (by omega) _ _ _ _ _ _ ⟨j + 1, k, rfl, rfl, rfl, rfl, by omega, fr_Fc, by omega, by omega, fun i hi => by
          rcases Nat.lt_or_ge i (j + 1) with h | h
          · exact k2 i h
          · obtain rfl : i = j + 1 := by omega
            omega, k3⟩
    · have ej : j + 1 = s.weeks.toNat := by omega
      clear ih
      rw [ej] at k1 k2
      try refine gs_Fc ?_
      exact Rn.ret ⟨⟨_, _, rfl, fun _ => ⟨k, rfl, k1, rfl, k2, k3⟩, fun h => absurd rfl h⟩, Gw.of (fun z hz => (f3 z (by omega)).trans (g0 z hz)) (by omega)⟩
  · try refine gs_Fc ?_
    exact Rn.ret ⟨⟨0, 0, rfl, fun h => absurd h he, fun _ => ⟨rfl, rfl⟩⟩, (Gw.of fr_Fc (by omega))⟩
end
end Go.Proofs.Ytpilgokdbliklaa
end

section
namespace Go.Proofs.Ytpilgokdbliklaa
open Go.Ev Go.RowKit
set_option linter.unusedVariables false
set_option linter.unusedSimpArgs false
set_option linter.unusedSectionVars false
set_option maxRecDepth 100000
set_option maxHeartbeats 4000000
theorem s1_Fd {p : Prop} (h : p := by (simp (disch := omega) only [obind_s, orun_s, ocond_t, fad_p, ld1_e, ldN_e, sto_e, cellO_c, wrO_c, Tr.get_same, Tr.get_other, nth_0, nth_s, drp_0, drp_s, drp_n, tak_0, tak_s, tak_n, over_n, over_c, lay_0, lay_s, lay_n, len_n, len_c, app_n, app_c, reps_0, reps_s, cel_agg, cel_int, cel_bool, cel_str, cel_sl, cel_ptr, cel_map, cel_func, cel_nilf, fil_n, fil_c, beq_r, ble_d, allF_n, allF_c, one_int, one_bool, one_str, one_sl, one_ptr, one_map, one_func, one_nilf, Bool.and_true, Bool.true_and, Bool.not_true, Bool.not_false, iadA_z, Int.reduceToNat, Int.toNat_zero, fl1_a, flN_a, extr_t, unot, not_d, Nat.add_eq, Nat.mul_eq, Nat.mul_one, Nat.one_mul, Nat.zero_mul, Nat.reduceMul, Nat.zero_add, Nat.add_zero, Nat.le_refl, decide_true, Nat.reduceAdd, Nat.reduceLeDiff, bsl_Sint, bs0_Sint, bld_Span, bld_spring_work, bld_spring_asked, enc_Line, enc_Reading, ocond_d, Int.toNat_natCast, *]); first | done | fail) : p := h
theorem s2_Fd {p : Prop} (h : p := by (simp (disch := omega) only [obind_s, orun_s, ocond_t, fad_p, ld1_e, ldN_e, sto_e, cellO_c, wrO_c, Tr.get_same, Tr.get_other, nth_0, nth_s, drp_0, drp_s, drp_n, tak_0, tak_s, tak_n, over_n, over_c, lay_0, lay_s, lay_n, len_n, len_c, app_n, app_c, reps_0, reps_s, cel_agg, cel_int, cel_bool, cel_str, cel_sl, cel_ptr, cel_map, cel_func, cel_nilf, fil_n, fil_c, beq_r, ble_d, allF_n, allF_c, one_int, one_bool, one_str, one_sl, one_ptr, one_map, one_func, one_nilf, Bool.and_true, Bool.true_and, Bool.not_true, Bool.not_false, iadA_z, Int.reduceToNat, Int.toNat_zero, fl1_a, flN_a, extr_t, unot, not_d, Nat.add_eq, Nat.mul_eq, Nat.mul_one, Nat.one_mul, Nat.zero_mul, Nat.reduceMul, Nat.zero_add, Nat.add_zero, Nat.le_refl, decide_true, Nat.reduceAdd, Nat.reduceLeDiff, bsl_Sint, bs0_Sint, bld_Span, bld_spring_work, bld_spring_asked, enc_Line, enc_Reading, ocond_d, Int.toNat_natCast, *]); rfl) : p := h
theorem sb_Fd {p : Prop} (h : p := by first | ((simp (disch := omega) only [obind_s, orun_s, ocond_t, fad_p, ld1_e, ldN_e, sto_e, cellO_c, wrO_c, Tr.get_same, Tr.get_other, nth_0, nth_s, drp_0, drp_s, drp_n, tak_0, tak_s, tak_n, over_n, over_c, lay_0, lay_s, lay_n, len_n, len_c, app_n, app_c, reps_0, reps_s, cel_agg, cel_int, cel_bool, cel_str, cel_sl, cel_ptr, cel_map, cel_func, cel_nilf, fil_n, fil_c, beq_r, ble_d, allF_n, allF_c, one_int, one_bool, one_str, one_sl, one_ptr, one_map, one_func, one_nilf, Bool.and_true, Bool.true_and, Bool.not_true, Bool.not_false, iadA_z, Int.reduceToNat, Int.toNat_zero, fl1_a, flN_a, extr_t, unot, not_d, Nat.add_eq, Nat.mul_eq, Nat.mul_one, Nat.one_mul, Nat.zero_mul, Nat.reduceMul, Nat.zero_add, Nat.add_zero, Nat.le_refl, decide_true, Nat.reduceAdd, Nat.reduceLeDiff, bsl_Sint, bs0_Sint, bld_Span, bld_spring_work, bld_spring_asked, enc_Line, enc_Reading, ocond_d, Int.toNat_natCast, Nat.succ_eq_add_one, Nat.add_assoc, *]); rfl) | ((simp (disch := omega) only [obind_s, orun_s, ocond_t, fad_p, ld1_e, ldN_e, sto_e, cellO_c, wrO_c, Tr.get_same, Tr.get_other, nth_0, nth_s, drp_0, drp_s, drp_n, tak_0, tak_s, tak_n, over_n, over_c, lay_0, lay_s, lay_n, len_n, len_c, app_n, app_c, reps_0, reps_s, cel_agg, cel_int, cel_bool, cel_str, cel_sl, cel_ptr, cel_map, cel_func, cel_nilf, fil_n, fil_c, beq_r, ble_d, allF_n, allF_c, one_int, one_bool, one_str, one_sl, one_ptr, one_map, one_func, one_nilf, Bool.and_true, Bool.true_and, Bool.not_true, Bool.not_false, iadA_z, Int.reduceToNat, Int.toNat_zero, fl1_a, flN_a, extr_t, unot, not_d, Nat.add_eq, Nat.mul_eq, Nat.mul_one, Nat.one_mul, Nat.zero_mul, Nat.reduceMul, Nat.zero_add, Nat.add_zero, Nat.le_refl, decide_true, Nat.reduceAdd, Nat.reduceLeDiff, bsl_Sint, bs0_Sint, bld_Span, bld_spring_work, bld_spring_asked, enc_Line, enc_Reading, ocond_d, Int.toNat_natCast, Nat.succ_eq_add_one, Nat.add_assoc, *]); done)) : p := h
theorem fr_Fd {p : Prop} (h : p := by first | assumption | exact Fr.refl _ _ | (simp (disch := omega) only [Fr_set, Fr_refl, *])) : p := h
theorem fl_Fd {p : Prop} (h : p := by first | with_unfolding_all rfl | exact Sl.flat (by assumption) | assumption) : p := h
theorem fll_Fd {p : Prop} (h : p := by first | with_unfolding_all rfl | ((repeat (refine flatL_k fl_Fd ?_)); with_unfolding_all rfl)) : p := h
theorem en_Fd {p : Prop} (h : p := by first | ((simp only [enc_int, enc_str, enc_u8, enc_bool, tak_s, tak_0, tak_n, drp_0, drp_s, drp_n, nth_s, nth_0, bsl_Sint, bs0_Sint, bld_Span, bld_spring_work, bld_spring_asked, enc_Line, enc_Reading, ocond_d, Int.toNat_natCast]); rfl) | ((simp only [enc_int, enc_str, enc_u8, enc_bool, tak_s, tak_0, tak_n, drp_0, drp_s, drp_n, nth_s, nth_0, bsl_Sint, bs0_Sint, bld_Span, bld_spring_work, bld_spring_asked, enc_Line, enc_Reading, ocond_d, Int.toNat_natCast]); done) | with_unfolding_all rfl) : p := h
theorem sM_Fd {p : Prop} (h : p := by (first | assumption | (simp (disch := omega) only [Tr.get_same, Tr.get_other, *]; rfl) | (simp (disch := omega) only [Tr.get_same, Tr.get_other, *]; done))) : p := h
theorem op_Fd {p : Prop} (h : p := by first | with_reducible exact fad_p _ _ _ | with_reducible exact iop_lss _ _ | with_reducible exact iop_leq _ _ | with_reducible exact iop_gtr _ _ | with_reducible exact iop_geq _ _ | with_reducible exact iop_eql _ _ | with_reducible exact iop_neq _ _ | with_reducible exact Sl.len (by assumption) | with_reducible exact lenS_s _ _ _ | with_reducible exact Sl.iad (by assumption) (by with_unfolding_all rfl) (by first | assumption | omega) | with_reducible exact Sl.fad (by assumption) (by first | assumption | omega) | with_reducible exact Sl.ld1 (by assumption) fr_Fd (by with_unfolding_all rfl) (by assumption) en_Fd | with_reducible exact Sl.ldN (by assumption) fr_Fd (by with_unfolding_all rfl) (by assumption) (by with_unfolding_all rfl) en_Fd | with_reducible exact zadd1 (by omega) | with_reducible exact zsub1 (by omega) (by omega) | with_reducible exact zaddI (by omega) (by omega) | with_reducible exact zsubI (by omega) (by omega) | with_reducible exact min_z | with_reducible exact max_z | with_reducible exact zmulI (by assumption) | with_reducible exact zmulK (by omega) (by omega) | with_reducible exact quo_z (by omega) (by omega) (by omega) | with_reducible exact cv_u8 (by omega) | with_reducible exact rem_z (by omega) (by omega) (by omega) | with_reducible exact neq_bool (by kernel_rfl) | with_reducible exact eql_u8 | with_reducible exact wntT_t (by assumption) | with_reducible exact wntT_f (by assumption) | with_reducible exact wntF_t (by assumption) | with_reducible exact wntF_f (by assumption) | with_reducible exact wnt_tt | with_reducible exact wnt_tf | with_reducible exact wnt_ft | with_reducible exact wnt_ff | with_reducible exact wnt_u _ _ | with_reducible exact pck_t _ _ | with_reducible exact pck_f _ _ | with_reducible exact pckT (by assumption) | with_reducible exact pckF (by assumption) | with_reducible exact wntT_t (by decide) | with_reducible exact wntT_f (by decide) | with_reducible exact wntF_t (by decide) | with_reducible exact wntF_f (by decide) | with_reducible exact pckT (by decide) | with_reducible exact pckF (by decide) | with_reducible exact wntN_tt (by decide) | with_reducible exact wntN_tf (by decide) | with_reducible exact wntN_ft (by decide) | with_reducible exact wntN_ff (by decide) | with_reducible exact pckNT (by decide) | with_reducible exact pckNF (by decide) | with_reducible exact wntN_tt (by assumption) | with_reducible exact wntN_tf (by assumption) | with_reducible exact wntN_ft (by assumption) | with_reducible exact wntN_ff (by assumption) | with_reducible exact pckNT (by assumption) | with_reducible exact pckNF (by assumption) | with_reducible exact wntB_tt (by assumption) | with_reducible exact wntB_tf (by assumption) | with_reducible exact wntB_ft (by assumption) | with_reducible exact wntB_ff (by assumption) | with_reducible exact pckBT (by assumption) | with_reducible exact pckBF (by assumption) | exact s2_Fd | exact s1_Fd) : p := h
theorem co_Fd {p : Prop} (h : p := by first | (simp only [impB_1, impB_0, offB_1, offB_0]; done) | ((try simp only [impB_1, impB_0, offB_1, offB_0]); first | with_reducible exact Sl.ag1 (by assumption) fr_Fd (by with_unfolding_all rfl) (by assumption) en_Fd | with_reducible exact Sl.agN (by assumption) fr_Fd (by with_unfolding_all rfl) (by assumption) (by with_unfolding_all rfl) en_Fd | ((with_reducible refine agL1_e ?_ ?_); (· exact s1_Fd); (· exact fl_Fd)) | ((with_reducible refine agLN_e ?_ ?_); (· exact s1_Fd); (· exact fll_Fd)) | ((with_reducible apply ag_bs); (· exact sM_Fd); (· rfl); (· exact sb_Fd); (· exact fll_Fd)) | ((with_reducible apply ag_al); (· exact sM_Fd); (· rfl); (· exact fll_Fd)) | ((with_reducible apply ag_bx); (· exact sM_Fd); (· rfl); (· rfl); (· exact fll_Fd)) | ((with_reducible apply ag_bd); (· rfl); (· exact s1_Fd); (· exact fll_Fd)) | exact s1_Fd)) : p := h
theorem gs_Fd {r p : Prop} (k : r) (h : Go.Ev.Im r p := by (first | with_reducible apply Im.runS | ((with_reducible apply Im.num); · (simp only [Nat.succ_eq_add_one, Nat.add_assoc, Nat.reduceAdd]; rfl)) | (with_reducible apply Im.unm) | (with_reducible apply Im.selT) | (with_reducible apply Im.selF) | ((with_reducible apply Im.cndT); · assumption) | ((with_reducible apply Im.cndF); · assumption) | ((with_reducible apply Im.cndT); · decide) | ((with_reducible apply Im.cndF); · decide) | ((with_reducible apply Im.cndNT); · decide) | ((with_reducible apply Im.cndNF); · decide) | ((with_reducible apply Im.cndBT); · exact rfl) | ((with_reducible apply Im.cndBF); · exact rfl) | ((with_reducible apply Im.cndNT); · assumption) | ((with_reducible apply Im.cndNF); · assumption) | ((with_reducible apply Im.cndBT); · assumption) | ((with_reducible apply Im.cndBF); · assumption) | ((with_reducible apply Im.bind); · exact op_Fd) | ((with_reducible apply Im.cond); · exact co_Fd) | ((with_reducible apply Im.runB); · exact op_Fd) | ((with_reducible apply Im.runC); · exact co_Fd) | ((with_reducible apply Im.runN); · (simp only [Nat.succ_eq_add_one, Nat.add_assoc, Nat.reduceAdd]; rfl)) | with_reducible apply Im.runR | ((with_reducible apply Im.runE (x := evBuildSlice _ _ _ _ _ _)); · exact sb_Fd)); (repeat (first | with_reducible apply Im.runS | ((with_reducible apply Im.num); · (simp only [Nat.succ_eq_add_one, Nat.add_assoc, Nat.reduceAdd]; rfl)) | (with_reducible apply Im.unm) | (with_reducible apply Im.selT) | (with_reducible apply Im.selF) | ((with_reducible apply Im.cndT); · assumption) | ((with_reducible apply Im.cndF); · assumption) | ((with_reducible apply Im.cndT); · decide) | ((with_reducible apply Im.cndF); · decide) | ((with_reducible apply Im.cndNT); · decide) | ((with_reducible apply Im.cndNF); · decide) | ((with_reducible apply Im.cndBT); · exact rfl) | ((with_reducible apply Im.cndBF); · exact rfl) | ((with_reducible apply Im.cndNT); · assumption) | ((with_reducible apply Im.cndNF); · assumption) | ((with_reducible apply Im.cndBT); · assumption) | ((with_reducible apply Im.cndBF); · assumption) | ((with_reducible apply Im.bind); · exact op_Fd) | ((with_reducible apply Im.cond); · exact co_Fd) | ((with_reducible apply Im.runB); · exact op_Fd) | ((with_reducible apply Im.runC); · exact co_Fd) | ((with_reducible apply Im.runN); · (simp only [Nat.succ_eq_add_one, Nat.add_assoc, Nat.reduceAdd]; rfl)) | with_reducible apply Im.runR | ((with_reducible apply Im.runE (x := evBuildSlice _ _ _ _ _ _)); · exact sb_Fd))); exact Go.Ev.Im.id) : p := h k
/-- What is told of the truth at one end, or nothing. -/
def ExU (f : Int × Int → Int) (κ : Int → Int) (s : Sp) (rain : Int) (A : List Int) : Prop :=
  (exE s = 0 ∧ A = giL f (leavesS s rain) s.weeks.toNat ∧ s.weeks ≤ 10 ∧ ∃ h N p, ExOk f κ s h N rain p) ∨ (exE s ≠ 0 ∧ rain = 0 ∧ A = [])
theorem exU_one {f : Int × Int → Int} {κ : Int → Int} {s : Sp} {r r' : Int} {A A' : List Int} (a : ExU f κ s r A) (c : ExU f κ s r' A') : r = r' ∧ A = A' := by
  rcases a with ⟨a1, rfl, _, h, N, p, a2⟩ | ⟨a1, rfl, rfl⟩ <;> rcases c with ⟨c1, rfl, _, h', N', p', c2⟩ | ⟨c1, rfl, rfl⟩
  · have := ex_one a2 c2
    subst this
    exact ⟨rfl, rfl⟩
  · exact absurd a1 c1
  · exact absurd c1 a1
  · exact ⟨rfl, rfl⟩
theorem exU_len {f : Int × Int → Int} {κ : Int → Int} {s : Sp} {r : Int} {A : List Int} (a : ExU f κ s r A) : A.length < 100 := by
  rcases a with ⟨a1, rfl, h, _⟩ | ⟨a1, rfl, rfl⟩
  · rw [giL_len]; omega
  · simp
def exO (f : Int × Int → Int) (κ : Int → Int) (s : Sp) (h : Tr Ob) (N : Nat) (v : Value) (h' : Tr Ob) (N' : Nat) : Prop := (∃ rain p A, v = .tuple ⟨[iS rain, p, iS (exE s)]⟩ ∧ Sl h' N' p A ∧ ExU f κ s rain A) ∧ Gw h N h' N'
theorem ex_weeks {s : Sp} (he : exE s = 0) : s.weeks ≤ 10 := by
  have h : beginS s (qw 0 0) [4] = 0 := he
  cases hv : validB s with
  | true => exact (ok_of_valid hv).ok.w2
  | false => rw [beg_c, hv] at h; cases h
section
variable {s : Sp} {b r : Value}
theorem c_PoorU (d : Nat) {h N} (nb : s.book.length < 1000) (nr : s.reads.length < 1000) (hb : Sl h N b s.book) (hr : Sl h N r s.reads) : Rn (s18 (cN (d + 3)) (.agg ⟨[iS s.weeks, iS s.most, iS s.fall, iS s.slo, iS s.shi, iS s.wlo, iS s.whi, b, r]⟩) h N) (exO (fun v => v.1) (fun z => z) s h N) := by
  by_cases he : exE s = 0
  · obtain ⟨v, h', N', e, ⟨rain, p, rfl, fp, E⟩, g⟩ := c_Poor d nb nr hb hr
    exact ⟨_, _, _, e, ⟨rain, p, _, rfl, (E he).sl, .inl ⟨he, rfl, ex_weeks he, _, _, _, E he⟩⟩, g⟩
  · obtain ⟨v, h', N', e, rfl, g⟩ := c_Poor0 d nb nr hb hr he
    exact ⟨_, _, _, e, ⟨0, _, _, rfl, Sl.nil _ _, .inr ⟨he, rfl, rfl⟩⟩, g⟩
theorem c_RichU (d : Nat) {h N} (nb : s.book.length < 1000) (nr : s.reads.length < 1000) (hb : Sl h N b s.book) (hr : Sl h N r s.reads) : Rn (s20 (cN (d + 3)) (.agg ⟨[iS s.weeks, iS s.most, iS s.fall, iS s.slo, iS s.shi, iS s.wlo, iS s.whi, b, r]⟩) h N) (exO (fun v => v.2) (fun z => -z) s h N) := by
  by_cases he : exE s = 0
  · obtain ⟨v, h', N', e, ⟨rain, p, rfl, fp, E⟩, g⟩ := c_Rich d nb nr hb hr
    exact ⟨_, _, _, e, ⟨rain, p, _, rfl, (E he).sl, .inl ⟨he, rfl, ex_weeks he, _, _, _, E he⟩⟩, g⟩
  · obtain ⟨v, h', N', e, rfl, g⟩ := c_Rich0 d nb nr hb hr he
    exact ⟨_, _, _, e, ⟨0, _, _, rfl, Sl.nil _ _, .inr ⟨he, rfl, rfl⟩⟩, g⟩
theorem c_rPoorU (call : CallF) {h N} (nb : s.book.length < 1000) (nr : s.reads.length < 1000) (hb : Sl h N b s.book) (hr : Sl h N r s.reads) : Rn (s19 call (.agg ⟨[iS s.weeks, iS s.most, iS s.fall, iS s.slo, iS s.shi, iS s.wlo, iS s.whi, b, r]⟩) h N) (exO (fun v => v.1) (fun z => z) s h N) := by
  obtain ⟨v, h', N', e, ⟨rain, p, rfl, fp, E, Z⟩, g⟩ := c_rPoor call nb nr hb hr
  by_cases he : exE s = 0
  · exact ⟨_, _, _, e, ⟨rain, p, _, rfl, (E he).sl, .inl ⟨he, rfl, ex_weeks he, _, _, _, E he⟩⟩, g⟩
  · obtain ⟨rfl, rfl⟩ := Z he
    exact ⟨_, _, _, e, ⟨0, _, _, rfl, Sl.nil _ _, .inr ⟨he, rfl, rfl⟩⟩, g⟩
theorem c_rRichU (call : CallF) {h N} (nb : s.book.length < 1000) (nr : s.reads.length < 1000) (hb : Sl h N b s.book) (hr : Sl h N r s.reads) : Rn (s21 call (.agg ⟨[iS s.weeks, iS s.most, iS s.fall, iS s.slo, iS s.shi, iS s.wlo, iS s.whi, b, r]⟩) h N) (exO (fun v => v.2) (fun z => -z) s h N) := by
  obtain ⟨v, h', N', e, ⟨rain, p, rfl, fp, E, Z⟩, g⟩ := c_rRich call nb nr hb hr
  by_cases he : exE s = 0
  · exact ⟨_, _, _, e, ⟨rain, p, _, rfl, (E he).sl, .inl ⟨he, rfl, ex_weeks he, _, _, _, E he⟩⟩, g⟩
  · obtain ⟨rfl, rfl⟩ := Z he
    exact ⟨_, _, _, e, ⟨0, _, _, rfl, Sl.nil _ _, .inr ⟨he, rfl, rfl⟩⟩, g⟩
theorem r_fails (d : Nat) {need week bucket : Int} {h N} (hb : Sl h N b s.book) (hr : Sl h N r s.reads) :
    Rn (s3 (cN (d + 3)) (.agg ⟨[iS s.weeks, iS s.most, iS s.fall, iS s.slo, iS s.shi, iS s.wlo, iS s.whi, b, r]⟩) (iS need) (iS week) (iS bucket) h N) fun v h' N' => v = .bool true := by
  unfold s3
  have cb := hb.flat; have cr := hr.flat; have x1 := flatV_one cb; have y1 := cel_flat cb; have x2 := flatV_one cr; have y2 := cel_flat cr
  try refine gs_Fd ?_
  refine Rn.call (c_rGreat _ (Sl.up (by assumption) fr_Fd (by omega)) (Sl.up (by assumption) fr_Fd (by omega))) ?_
  rintro _ h1 N1 ⟨rfl, f1, o1, l1⟩
  cases hg : greatB s with
  | true =>
    try refine gs_Fd ?_
    exact Rn.ret rfl
  | false =>
  simp only [greatB, Bool.or_eq_false_iff, decide_eq_false_iff_not] at hg
  have nb : s.book.length < 1000 := by omega
  have nr : s.reads.length < 1000 := by omega
  try refine gs_Fd ?_
  refine Rn.call (c_rTwin _ nb nr (Sl.up (by assumption) fr_Fd (by omega)) (Sl.up (by assumption) fr_Fd (by omega))) ?_
  rintro _ h2 N2 ⟨⟨b', r', rfl, w1, w2⟩, f2, o2, l2⟩
  have s1 := w1.sl (Nat.le_refl _)
  have s2 := w2.sl (Nat.le_refl _)
  have a1 := flatV_one s1.flat
  have c1 := cel_flat s1.flat
  have a2 := flatV_one s2.flat
  have c2 := cel_flat s2.flat
  clear w1 w2
  try refine gs_Fd ?_
  refine Rn.call (c_Fails d nb nr (Sl.up (by assumption) fr_Fd (by omega)) (Sl.up (by assumption) fr_Fd (by omega))) ?_
  rintro _ h3 N3 ⟨rfl, f3, o3, l3⟩
  try refine gs_Fd ?_
  refine Rn.call (c_rFails _ nb nr (Sl.up (by assumption) fr_Fd (by omega)) (Sl.up (by assumption) fr_Fd (by omega))) ?_
  rintro _ h4 N4 ⟨rfl, f4, o4, l4⟩
  generalize shW s (loP need) = A1
  generalize shE s (loP need) = A2
  try refine gs_Fd ?_
  refine Rn.call (c_Surely d nb nr (Sl.up (by assumption) fr_Fd (by omega)) (Sl.up (by assumption) fr_Fd (by omega))) ?_
  rintro _ h5 N5 ⟨rfl, f5, o5, l5⟩
  try refine gs_Fd ?_
  refine Rn.call (c_rSurely _ nb nr (Sl.up (by assumption) fr_Fd (by omega)) (Sl.up (by assumption) fr_Fd (by omega))) ?_
  rintro _ h6 N6 ⟨rfl, f6, o6, l6⟩
  generalize shW s (hiP need) = A3
  generalize shE s (hiP need) = A4
  have n1 : ¬ A1 ≠ A1 := fun h => h rfl
  have n2 : ¬ A2 ≠ A2 := fun h => h rfl
  have n3 : ¬ A3 ≠ A3 := fun h => h rfl
  have n4 : ¬ A4 ≠ A4 := fun h => h rfl
  try refine gs_Fd ?_
  clear n1 n2 n3 n4
  refine Rn.call (c_PoorU d nb nr (Sl.up (by assumption) fr_Fd (by omega)) (Sl.up (by assumption) fr_Fd (by omega))) ?_
  rintro _ h7 N7 ⟨⟨ra, pa, LA, rfl, ua, EA⟩, f7, o7, l7⟩
  have z1 := ua.flat
  have z2 := flatV_one z1
  have z3 := cel_flat z1
  try refine gs_Fd ?_
  refine Rn.call (c_rPoorU _ nb nr (Sl.up (by assumption) fr_Fd (by omega)) (Sl.up (by assumption) fr_Fd (by omega))) ?_
  rintro _ h8 N8 ⟨⟨ra', pb, LB, rfl, ub, EB⟩, f8, o8, l8⟩
  obtain ⟨q1, q2⟩ := exU_one EA EB
  subst q1
  subst q2
  have hLA := exU_len EA
  clear EA EB
  have z4 := ub.flat
  have z5 := flatV_one z4
  have z6 := cel_flat z4
  try refine gs_Fd ?_
  refine Rn.call (c_RichU d nb nr (Sl.up (by assumption) fr_Fd (by omega)) (Sl.up (by assumption) fr_Fd (by omega))) ?_
  rintro _ h9 N9 ⟨⟨rb, pc, LC, rfl, uc, EC⟩, f9, o9, l9⟩
  have z7 := uc.flat
  have z8 := flatV_one z7
  have z9 := cel_flat z7
  try refine gs_Fd ?_
  refine Rn.call (c_rRichU _ nb nr (Sl.up (by assumption) fr_Fd (by omega)) (Sl.up (by assumption) fr_Fd (by omega))) ?_
  rintro _ h10 N10 ⟨⟨rb', pd, LD, rfl, ud, ED⟩, f10, o10, l10⟩
  obtain ⟨q1, q2⟩ := exU_one EC ED
  subst q1
  subst q2
  have hLC := exU_len EC
  clear EC ED
  have z10 := ud.flat
  have z11 := flatV_one z10
  have z12 := cel_flat z10
  try refine gs_Fd ?_
  refine Rn.call (c_Fill d nb nr (Sl.up (by assumption) fr_Fd (by omega)) (Sl.up (by assumption) fr_Fd (by omega))) ?_
  rintro _ h11 N11 ⟨rfl, f11, o11, l11⟩
  try refine gs_Fd ?_
  refine Rn.call (c_rFill _ nb nr (Sl.up (by assumption) fr_Fd (by omega)) (Sl.up (by assumption) fr_Fd (by omega))) ?_
  rintro _ h12 N12 ⟨rfl, f12, o12, l12⟩
  try refine gs_Fd ?_
  refine Rn.call (c_Look d nb nr (Sl.up (by assumption) fr_Fd (by omega)) (Sl.up (by assumption) fr_Fd (by omega))) ?_
  rintro _ h13 N13 ⟨⟨lw, ll, rfl, EE, EZ⟩, f13, o13, l13⟩
  try refine gs_Fd ?_
  refine Rn.call (c_rLook _ nb nr (Sl.up (by assumption) fr_Fd (by omega)) (Sl.up (by assumption) fr_Fd (by omega))) ?_
  rintro _ h14 N14 ⟨⟨lw', ll', rfl, EE', EZ'⟩, f14, o14, l14⟩
  obtain ⟨q1, q2⟩ : lw = lw' ∧ ll = ll' := by
    by_cases he : exE s = 0
    · exact lk_one (EE he) (EE' he)
    · obtain ⟨rfl, rfl⟩ := EZ he
      obtain ⟨rfl, rfl⟩ := EZ' he
      exact ⟨rfl, rfl⟩
  subst q1
  subst q2
  clear EE EZ EE' EZ'
  generalize exE s = E at *
  generalize fE s week bucket = FE at *
  generalize fG s week bucket = FG at *
  have e1 : ra = ra := rfl
  have e2 : rb = rb := rfl
  have e3 : E = E := rfl
  have e4 : FE = FE := rfl
  have e5 : lw = lw := rfl
  have e6 : ll = ll := rfl
  have nsp : ∀ u v, evBin Pr .eql 23 u v (.agg ⟨[iS FG.1, iS FG.2]⟩) (.agg ⟨[iS FG.1, iS FG.2]⟩) = some (.bool true) := fun u v => by
    rw [eqlE_Span u v ⟨FG.1, FG.2⟩ ⟨FG.1, FG.2⟩, decide_eq_true rfl]
  try refine gs_Fd ?_
  refine Rn.call (r_sameInts _ (A := LA) (B := LA) (by omega) (by omega) (Sl.up (by assumption) fr_Fd (by omega)) (Sl.up (by assumption) fr_Fd (by omega))) ?_
  rintro _ h15 N15 ⟨rfl, f15, o15, l15⟩
  rw [decide_eq_true rfl]
  try refine gs_Fd ?_
  refine Rn.call (r_sameInts _ (A := LC) (B := LC) (by omega) (by omega) (Sl.up (by assumption) fr_Fd (by omega)) (Sl.up (by assumption) fr_Fd (by omega))) ?_
  rintro _ h16 N16 ⟨rfl, f16, o16, l16⟩
  rw [decide_eq_true rfl]
  try refine gs_Fd ?_
  refine Rn.call (c_Same _ nb nr (Sl.up (by assumption) fr_Fd (by omega)) (Sl.up (by assumption) fr_Fd (by omega)) (Sl.up (by assumption) fr_Fd (by omega)) (Sl.up (by assumption) fr_Fd (by omega))) ?_
  rintro _ h17 N17 ⟨rfl, f17, o17, l17⟩
  try refine gs_Fd ?_
  exact Rn.ret rfl
end
end Go.Proofs.Ytpilgokdbliklaa
end

