/-
  A truth that flows from week to week is told: the law SpringTruth on quick forms.
  Conditions: none.
-/
import Derived.Test.YtpilgokdbliklaaLc

namespace Go.Proofs.Ytpilgokdbliklaa
open Go.Ev Go.RowKit
set_option linter.unusedVariables false
set_option linter.unusedSimpArgs false
set_option linter.unusedSectionVars false
set_option maxRecDepth 100000
set_option maxHeartbeats 4000000
theorem s1_Zf {p : Prop} (h : p := by (simp (disch := omega) only [obind_s, orun_s, ocond_t, fad_p, ld1_e, ldN_e, sto_e, cellO_c, wrO_c, Tr.get_same, Tr.get_other, nth_0, nth_s, drp_0, drp_s, drp_n, tak_0, tak_s, tak_n, over_n, over_c, lay_0, lay_s, lay_n, len_n, len_c, app_n, app_c, reps_0, reps_s, cel_agg, cel_int, cel_bool, cel_str, cel_sl, cel_ptr, cel_map, cel_func, cel_nilf, fil_n, fil_c, beq_r, ble_d, allF_n, allF_c, one_int, one_bool, one_str, one_sl, one_ptr, one_map, one_func, one_nilf, Bool.and_true, Bool.true_and, Bool.not_true, Bool.not_false, iadA_z, Int.reduceToNat, Int.toNat_zero, fl1_a, flN_a, extr_t, unot, not_d, Nat.add_eq, Nat.mul_eq, Nat.mul_one, Nat.one_mul, Nat.zero_mul, Nat.reduceMul, Nat.zero_add, Nat.add_zero, Nat.le_refl, decide_true, Nat.reduceAdd, Nat.reduceLeDiff, bsl_Sint, bld_Span, bld_spring_work, bld_spring_asked, enc_Line, enc_Reading, ocond_d, Int.toNat_natCast, *]); first | done | fail) : p := h
theorem s2_Zf {p : Prop} (h : p := by (simp (disch := omega) only [obind_s, orun_s, ocond_t, fad_p, ld1_e, ldN_e, sto_e, cellO_c, wrO_c, Tr.get_same, Tr.get_other, nth_0, nth_s, drp_0, drp_s, drp_n, tak_0, tak_s, tak_n, over_n, over_c, lay_0, lay_s, lay_n, len_n, len_c, app_n, app_c, reps_0, reps_s, cel_agg, cel_int, cel_bool, cel_str, cel_sl, cel_ptr, cel_map, cel_func, cel_nilf, fil_n, fil_c, beq_r, ble_d, allF_n, allF_c, one_int, one_bool, one_str, one_sl, one_ptr, one_map, one_func, one_nilf, Bool.and_true, Bool.true_and, Bool.not_true, Bool.not_false, iadA_z, Int.reduceToNat, Int.toNat_zero, fl1_a, flN_a, extr_t, unot, not_d, Nat.add_eq, Nat.mul_eq, Nat.mul_one, Nat.one_mul, Nat.zero_mul, Nat.reduceMul, Nat.zero_add, Nat.add_zero, Nat.le_refl, decide_true, Nat.reduceAdd, Nat.reduceLeDiff, bsl_Sint, bld_Span, bld_spring_work, bld_spring_asked, enc_Line, enc_Reading, ocond_d, Int.toNat_natCast, *]); rfl) : p := h
theorem sb_Zf {p : Prop} (h : p := by first | ((simp (disch := omega) only [obind_s, orun_s, ocond_t, fad_p, ld1_e, ldN_e, sto_e, cellO_c, wrO_c, Tr.get_same, Tr.get_other, nth_0, nth_s, drp_0, drp_s, drp_n, tak_0, tak_s, tak_n, over_n, over_c, lay_0, lay_s, lay_n, len_n, len_c, app_n, app_c, reps_0, reps_s, cel_agg, cel_int, cel_bool, cel_str, cel_sl, cel_ptr, cel_map, cel_func, cel_nilf, fil_n, fil_c, beq_r, ble_d, allF_n, allF_c, one_int, one_bool, one_str, one_sl, one_ptr, one_map, one_func, one_nilf, Bool.and_true, Bool.true_and, Bool.not_true, Bool.not_false, iadA_z, Int.reduceToNat, Int.toNat_zero, fl1_a, flN_a, extr_t, unot, not_d, Nat.add_eq, Nat.mul_eq, Nat.mul_one, Nat.one_mul, Nat.zero_mul, Nat.reduceMul, Nat.zero_add, Nat.add_zero, Nat.le_refl, decide_true, Nat.reduceAdd, Nat.reduceLeDiff, bsl_Sint, bld_Span, bld_spring_work, bld_spring_asked, enc_Line, enc_Reading, ocond_d, Int.toNat_natCast, Nat.succ_eq_add_one, Nat.add_assoc, *]); rfl) | ((simp (disch := omega) only [obind_s, orun_s, ocond_t, fad_p, ld1_e, ldN_e, sto_e, cellO_c, wrO_c, Tr.get_same, Tr.get_other, nth_0, nth_s, drp_0, drp_s, drp_n, tak_0, tak_s, tak_n, over_n, over_c, lay_0, lay_s, lay_n, len_n, len_c, app_n, app_c, reps_0, reps_s, cel_agg, cel_int, cel_bool, cel_str, cel_sl, cel_ptr, cel_map, cel_func, cel_nilf, fil_n, fil_c, beq_r, ble_d, allF_n, allF_c, one_int, one_bool, one_str, one_sl, one_ptr, one_map, one_func, one_nilf, Bool.and_true, Bool.true_and, Bool.not_true, Bool.not_false, iadA_z, Int.reduceToNat, Int.toNat_zero, fl1_a, flN_a, extr_t, unot, not_d, Nat.add_eq, Nat.mul_eq, Nat.mul_one, Nat.one_mul, Nat.zero_mul, Nat.reduceMul, Nat.zero_add, Nat.add_zero, Nat.le_refl, decide_true, Nat.reduceAdd, Nat.reduceLeDiff, bsl_Sint, bld_Span, bld_spring_work, bld_spring_asked, enc_Line, enc_Reading, ocond_d, Int.toNat_natCast, Nat.succ_eq_add_one, Nat.add_assoc, *]); done)) : p := h
theorem fr_Zf {p : Prop} (h : p := by first | assumption | exact Fr.refl _ _ | (simp (disch := omega) only [Fr_set, Fr_refl, *])) : p := h
theorem fl_Zf {p : Prop} (h : p := by first | with_unfolding_all rfl | exact Sl.flat (by assumption) | assumption) : p := h
theorem fll_Zf {p : Prop} (h : p := by first | with_unfolding_all rfl | ((repeat (refine flatL_k fl_Zf ?_)); with_unfolding_all rfl)) : p := h
theorem en_Zf {p : Prop} (h : p := by first | ((simp only [enc_int, enc_str, enc_u8, enc_bool, tak_s, tak_0, tak_n, drp_0, drp_s, drp_n, nth_s, nth_0, bsl_Sint, bld_Span, bld_spring_work, bld_spring_asked, enc_Line, enc_Reading, ocond_d, Int.toNat_natCast]); rfl) | ((simp only [enc_int, enc_str, enc_u8, enc_bool, tak_s, tak_0, tak_n, drp_0, drp_s, drp_n, nth_s, nth_0, bsl_Sint, bld_Span, bld_spring_work, bld_spring_asked, enc_Line, enc_Reading, ocond_d, Int.toNat_natCast]); done) | with_unfolding_all rfl) : p := h
theorem sM_Zf {p : Prop} (h : p := by (first | assumption | (simp (disch := omega) only [Tr.get_same, Tr.get_other, *]; rfl) | (simp (disch := omega) only [Tr.get_same, Tr.get_other, *]; done))) : p := h
theorem sS_Zf {p : Prop} (h : p := by first | assumption | exact s1_Zf) : p := h
theorem op_Zf {p : Prop} (h : p := by first | with_reducible exact fad_p _ _ _ | with_reducible exact iop_lss _ _ | with_reducible exact iop_leq _ _ | with_reducible exact iop_gtr _ _ | with_reducible exact iop_geq _ _ | with_reducible exact iop_eql _ _ | with_reducible exact iop_neq _ _ | with_reducible exact Sl.len (by assumption) | with_reducible exact lenS_s _ _ _ | with_reducible exact Sl.iad (by assumption) (by with_unfolding_all rfl) (by first | assumption | omega) | with_reducible exact Sl.fad (by assumption) (by first | assumption | omega) | with_reducible exact Sl.ld1 (by assumption) fr_Zf (by with_unfolding_all rfl) (by assumption) en_Zf | with_reducible exact Sl.ldN (by assumption) fr_Zf (by with_unfolding_all rfl) (by assumption) (by with_unfolding_all rfl) en_Zf | with_reducible exact zadd1 (by omega) | with_reducible exact zsub1 (by omega) (by omega) | with_reducible exact zaddI (by omega) (by omega) | with_reducible exact zsubI (by omega) (by omega) | with_reducible exact min_z | with_reducible exact max_z | with_reducible exact zmulI (by assumption) | with_reducible exact zmulK (by omega) (by omega) | with_reducible exact quo_z (by omega) (by omega) (by omega) | with_reducible exact cv_u8 (by omega) | with_reducible exact rem_z (by omega) (by omega) (by omega) | with_reducible exact neq_bool (by kernel_rfl) | with_reducible exact eql_u8 | with_reducible exact wntT_t (by assumption) | with_reducible exact wntT_f (by assumption) | with_reducible exact wntF_t (by assumption) | with_reducible exact wntF_f (by assumption) | with_reducible exact wnt_tt | with_reducible exact wnt_tf | with_reducible exact wnt_ft | with_reducible exact wnt_ff | with_reducible exact wnt_u _ _ | with_reducible exact pck_t _ _ | with_reducible exact pck_f _ _ | with_reducible exact pckT (by assumption) | with_reducible exact pckF (by assumption) | with_reducible exact wntT_t (by decide) | with_reducible exact wntT_f (by decide) | with_reducible exact wntF_t (by decide) | with_reducible exact wntF_f (by decide) | with_reducible exact pckT (by decide) | with_reducible exact pckF (by decide) | with_reducible exact wntN_tt (by decide) | with_reducible exact wntN_tf (by decide) | with_reducible exact wntN_ft (by decide) | with_reducible exact wntN_ff (by decide) | with_reducible exact pckNT (by decide) | with_reducible exact pckNF (by decide) | with_reducible exact wntN_tt (by assumption) | with_reducible exact wntN_tf (by assumption) | with_reducible exact wntN_ft (by assumption) | with_reducible exact wntN_ff (by assumption) | with_reducible exact pckNT (by assumption) | with_reducible exact pckNF (by assumption) | with_reducible exact wntB_tt (by assumption) | with_reducible exact wntB_tf (by assumption) | with_reducible exact wntB_ft (by assumption) | with_reducible exact wntB_ff (by assumption) | with_reducible exact pckBT (by assumption) | with_reducible exact pckBF (by assumption) | exact s2_Zf | exact s1_Zf) : p := h
theorem co_Zf {p : Prop} (h : p := by first | (simp only [impB_1, impB_0, offB_1, offB_0]; done) | ((try simp only [impB_1, impB_0, offB_1, offB_0]); first | with_reducible exact Sl.ag1 (by assumption) fr_Zf (by with_unfolding_all rfl) (by assumption) en_Zf | with_reducible exact Sl.agN (by assumption) fr_Zf (by with_unfolding_all rfl) (by assumption) (by with_unfolding_all rfl) en_Zf | ((with_reducible refine agL1_e ?_ ?_); (· exact s1_Zf); (· exact fl_Zf)) | ((with_reducible refine agLN_e ?_ ?_); (· exact s1_Zf); (· exact fll_Zf)) | ((with_reducible apply ag_bs); (· exact sM_Zf); (· rfl); (· exact sb_Zf); (· exact fll_Zf)) | ((with_reducible apply ag_al); (· exact sM_Zf); (· rfl); (· exact fll_Zf)) | ((with_reducible apply ag_bx); (· exact sM_Zf); (· rfl); (· rfl); (· exact fll_Zf)) | ((with_reducible apply ag_bd); (· rfl); (· exact s1_Zf); (· exact fll_Zf)) | exact s1_Zf)) : p := h
theorem gs_Zf {r p : Prop} (k : r) (h : Go.Ev.Im r p := by (first | with_reducible apply Im.runS | ((with_reducible apply Im.num); · (simp only [Nat.succ_eq_add_one, Nat.add_assoc, Nat.reduceAdd]; rfl)) | (with_reducible apply Im.unm) | (with_reducible apply Im.selT) | (with_reducible apply Im.selF) | ((with_reducible apply Im.cndT); · assumption) | ((with_reducible apply Im.cndF); · assumption) | ((with_reducible apply Im.cndT); · decide) | ((with_reducible apply Im.cndF); · decide) | ((with_reducible apply Im.cndNT); · decide) | ((with_reducible apply Im.cndNF); · decide) | ((with_reducible apply Im.cndBT); · exact rfl) | ((with_reducible apply Im.cndBF); · exact rfl) | ((with_reducible apply Im.cndNT); · assumption) | ((with_reducible apply Im.cndNF); · assumption) | ((with_reducible apply Im.cndBT); · assumption) | ((with_reducible apply Im.cndBF); · assumption) | ((with_reducible apply Im.bind); · exact op_Zf) | ((with_reducible apply Im.cond); · exact co_Zf) | ((with_reducible apply Im.runB); · exact op_Zf) | ((with_reducible apply Im.runC); · exact co_Zf) | ((with_reducible apply Im.runN); · (simp only [Nat.succ_eq_add_one, Nat.add_assoc, Nat.reduceAdd]; rfl)) | with_reducible apply Im.runR | ((with_reducible apply Im.runE (x := evBuildSlice _ _ _ _ _ _)); · exact sb_Zf)); (repeat (first | with_reducible apply Im.runS | ((with_reducible apply Im.num); · (simp only [Nat.succ_eq_add_one, Nat.add_assoc, Nat.reduceAdd]; rfl)) | (with_reducible apply Im.unm) | (with_reducible apply Im.selT) | (with_reducible apply Im.selF) | ((with_reducible apply Im.cndT); · assumption) | ((with_reducible apply Im.cndF); · assumption) | ((with_reducible apply Im.cndT); · decide) | ((with_reducible apply Im.cndF); · decide) | ((with_reducible apply Im.cndNT); · decide) | ((with_reducible apply Im.cndNF); · decide) | ((with_reducible apply Im.cndBT); · exact rfl) | ((with_reducible apply Im.cndBF); · exact rfl) | ((with_reducible apply Im.cndNT); · assumption) | ((with_reducible apply Im.cndNF); · assumption) | ((with_reducible apply Im.cndBT); · assumption) | ((with_reducible apply Im.cndBF); · assumption) | ((with_reducible apply Im.bind); · exact op_Zf) | ((with_reducible apply Im.cond); · exact co_Zf) | ((with_reducible apply Im.runB); · exact op_Zf) | ((with_reducible apply Im.runC); · exact co_Zf) | ((with_reducible apply Im.runN); · (simp only [Nat.succ_eq_add_one, Nat.add_assoc, Nat.reduceAdd]; rfl)) | with_reducible apply Im.runR | ((with_reducible apply Im.runE (x := evBuildSlice _ _ _ _ _ _)); · exact sb_Zf))); exact Go.Ev.Im.id) : p := h k
section
variable {s : Sp} {b r : Value}
theorem r_truth (d : Nat) {p q : Int} {y : Value} {Y : List UInt8} {h N} (hb : Sl h N b s.book) (hr : Sl h N r s.reads) (hp : 0 ≤ p ∧ p < 256) (hq : 0 ≤ q ∧ q < 256) (hy : Sl h N y Y) :
    Rn (s4 (cN (d + 3)) (.agg ⟨[iS s.weeks, iS s.most, iS s.fall, iS s.slo, iS s.shi, iS s.wlo, iS s.whi, b, r]⟩) (.int .u8 p) y (.int .u8 q) h N) fun v h' N' => v = .bool true := by
  unfold s4
  have cb := hb.flat; have cr := hr.flat; have x1 := flatV_one cb; have y1 := cel_flat cb; have x2 := flatV_one cr; have y2 := cel_flat cr
  have cy := hy.flat
  have x3 := flatV_one cy
  have y3 := cel_flat cy
  try refine gs_Zf ?_
  refine Rn.runE (show X28 _ [] _ _ = some (.bool true, _, _) from rfl) ?_
  try refine gs_Zf ?_
  refine Rn.call (c_ready _ (Sl.up (by assumption) fr_Zf (by omega)) (Sl.up (by assumption) fr_Zf (by omega))) ?_
  rintro _ h1 N1 ⟨rfl, f1, o1, l1⟩
  try refine gs_Zf ?_
  refine Rn.partN (fun hrd => ?_) (fun hrd => ?_)
  rotate_left
  · try refine gs_Zf ?_
    exact Rn.ret rfl
  obtain ⟨hv, nb, nr⟩ := ready_ok hrd
  have hs := ok_of_valid hv
  try refine gs_Zf ?_
  refine Rn.call (c_flows _ (Y := Y) hs hp (Sl.up (by assumption) fr_Zf (by omega)) (Sl.up (by assumption) fr_Zf (by omega)) (Sl.up (by assumption) fr_Zf (by omega))) ?_
  rintro _ h2 N2 ⟨⟨l, t, L, rfl, hl, hL, hF⟩, f2, o2, l2⟩
  cases t with
  | false =>
    try refine gs_Zf ?_
    exact Rn.ret rfl
  | true =>
    obtain ⟨hL, F⟩ := hF rfl
    have w1 := hs.ok.w1
    have w2 := hs.ok.w2
    have m1 := hs.ok.m1
    have m2 := hs.ok.m2
    have v2 := hs.ok.v2
    have u1 := Int.emod_nonneg p (b := s.whi - s.wlo + 1) (by omega)
    have u2 := Int.emod_lt_of_pos p (b := s.whi - s.wlo + 1) (by omega)
    have hrm : rainF s p ∈ rainsS s := flow_rain hs F (by unfold rainF; omega) (by unfold rainF; omega)
    generalize rainF s p = rain at *
    have hc : canS s = true := by
      unfold canS
      cases hr0 : rainsS s with
      | nil => rw [hr0] at hrm; cases hrm
      | cons => rfl
    have cl := hl.flat
    have x4 := flatV_one cl
    have y4 := cel_flat cl
    try refine gs_Zf ?_
    refine Rn.call (c_Can d nb nr (Sl.up (by assumption) fr_Zf (by omega)) (Sl.up (by assumption) fr_Zf (by omega))) ?_
    rintro _ h3 N3 ⟨rfl, f3, o3, l3⟩
    rw [hv, hc, Bool.true_and, if_pos rfl]
    try refine gs_Zf ?_
    refine Rn.call (c_Rains d nb nr (Sl.up (by assumption) fr_Zf (by omega)) (Sl.up (by assumption) fr_Zf (by omega))) ?_
    rintro _ h4 N4 ⟨⟨rl, rfl, hrl⟩, f4, o4, l4⟩
    have q3 : rnE s = 0 := by unfold rnE; rw [beg_c, hv, hc]; rfl
    have q4 : rnL s = rainsS s := if_pos q3
    have q5 := rains_len hs
    rw [q4] at hrl
    rw [q3]
    clear q3 q4
    have c6 := hrl.flat
    have x6 := flatV_one c6
    have y6 := cel_flat c6
    try refine gs_Zf ?_
    refine Rn.call (c_has _ (L := rainsS s) (by omega) (Sl.up (by assumption) fr_Zf (by omega))) ?_
    rintro _ h5 N5 ⟨rfl, f5, o5, l5⟩
    rw [decide_eq_true hrm]
    have hk : 1 ≤ 1 + q % 40 ∧ 1 + q % 40 ≤ 40 := by omega
    try refine gs_Zf ?_
    generalize 1 + q % 40 = k at hk
    have m0 : h5.get N = some (.c [iS s.weeks, iS s.most, iS s.fall, iS s.slo, iS s.shi, iS s.wlo, iS s.whi, b, r] 27) := sS_Zf
    have s0 : Sl h5 N5 b s.book := (Sl.up (by assumption) fr_Zf (by omega))
    have s1 : Sl h5 N5 r s.reads := (Sl.up (by assumption) fr_Zf (by omega))
    have s2 : Sl h5 N5 l L := (Sl.up (by assumption) fr_Zf (by omega))
    have lN : N < N5 := by omega
    clear f1 o1 l1 f2 o2 l2 f3 o3 l3 f4 o4 l4 f5 o5 l5 hb hr hl hrl hy
    refine Rn.loop7 (fun m a1 a2 a3 a4 a5 a6 a7 g M => ∃ j : Nat, a1 = .pointer (some ⟨N, 0, none⟩) ∧ a2 = .bool true ∧ l = a3 ∧ a4 = iS k ∧ l = a5 ∧ a6 = nS L.length ∧ a7 = nS j ∧ j + m = L.length ∧ Fr h5 N5 g ∧ N5 ≤ M) L.length (by omega) ⟨0, rfl, rfl, rfl, rfl, rfl, rfl, rfl, by omega, Fr.refl _ _, Nat.le_refl _⟩ ?_
    rintro m g ih _ _ _ _ _ _ _ h6 N6 ⟨j, rfl, rfl, z0, rfl, z1, rfl, rfl, e2, f6, l6⟩
    subst z0; subst z1
    have p0 := (f6 _ lN).trans m0
    clear m0
    try refine gs_Zf ?_
    (first | with_reducible refine Rn.cnd (fun _ => ?_) (fun _ => ?_) | with_reducible refine Rn.cndN (fun _ => ?_) (fun _ => ?_) | with_reducible refine Rn.cndB (fun _ => ?_) (fun _ => ?_))
    · obtain ⟨n, hn⟩ := at_of (L := L) (k := j) (by omega)
      have hj : j < L.length := by omega
      have hjw : j < s.weeks.toNat := by omega
      unfold jnR
      have hfl := flow_in hs F j hjw
      have hnd : L.getD j 0 = n := by rw [List.getD_eq_getElem?_getD, hn]; rfl
      rw [hnd] at hfl
      have hgr := gv_rain hrm j
      have hgb := gv_bd hs hjw hc
      have e1 : erS s j = 0 := er_0 hv hc (by omega)
      have e3 : gE s j = gvS s j := (if_pos e1).trans (by rw [Int.toNat_natCast])
      have hin : inS (gvS s j).1 (gvS s j).2 n = true := by
        simp only [inS, Bool.and_eq_true, decide_eq_true_eq]; omega
      have hkn : ¬ knS s j n = Int.ofNat 0 := by
        unfold knS
        rw [if_pos e1, e3]
        split
        · simp
        · rw [if_neg (by omega)]; simp
      try refine gs_Zf ?_
      refine Rn.call (c_Gives d nb nr (Sl.up (by assumption) fr_Zf (by omega)) (Sl.up (by assumption) fr_Zf (by omega))) ?_
      rintro _ h7 N7 ⟨rfl, f7, o7, l7⟩
      rw [e1, e3]
      try refine gs_Zf ?_
      refine Rn.call (c_Known d nb nr (Sl.up (by assumption) fr_Zf (by omega)) (Sl.up (by assumption) fr_Zf (by omega))) ?_
      rintro _ h8 N8 ⟨rfl, f8, o8, l8⟩
      rw [e1]
      generalize knS s j n = kn at hkn
      try refine gs_Zf ?_
      refine Rn.call (c_inside _) ?_
      rintro _ h9 N9 ⟨rfl, f9, o9, l9⟩
      rw [hin]
      try refine gs_Zf ?_
      refine Rn.call (c_Fill d nb nr (Sl.up (by assumption) fr_Zf (by omega)) (Sl.up (by assumption) fr_Zf (by omega))) ?_
      rintro _ h10 N10 ⟨rfl, f10, o10, l10⟩
      have k1 : beF s j k = 0 := beF_0 hv hc (by omega) hk
      by_cases hz : (gvS s j).1 = 0
      · have k3 : fE s j k = 6 := by unfold fE; rw [if_pos k1, Int.toNat_natCast, if_pos hz]
        rw [k3]
        clear k1 e1 e3
        try refine gs_Zf ?_
        exact ih (m - 1) (by omega) _ _ _ _ _ _ _ _ _ ⟨j + 1, rfl, rfl, rfl, rfl, rfl, rfl, rfl, by omega, fr_Zf, by omega⟩
      · have k3 : fE s j k = 0 := by unfold fE; rw [if_pos k1, Int.toNat_natCast, if_neg hz]
        have k5 : fG s j k = (3600 * k / (gvS s j).2, upS (3600 * k) (gvS s j).1) := (if_pos k3).trans (by rw [Int.toNat_natCast])
        have hfi := fill_at (A := 3600 * k) (n := n) (a := (gvS s j).1) (c := (gvS s j).2) (by omega) (by omega) (by omega) (by omega)
        have k6 : (fG s j k).1 = 3600 * k / (gvS s j).2 := by rw [k5]
        have k7 : (fG s j k).2 = upS (3600 * k) (gvS s j).1 := by rw [k5]
        rw [← k6, ← k7] at hfi
        rw [k3]
        clear k1 k3 k5 k6 k7 e1 e3
        generalize fG s j k = t at *
        have b1 : 0 ≤ t.1 * n ∧ t.1 * n ≤ 1000000000 := ⟨Int.mul_nonneg (by omega) (by omega), by omega⟩
        have b2 : 0 ≤ t.2 * n ∧ t.2 * n ≤ 144000 * 100 := mul_bd (by omega) (by omega) (by omega) (by omega)
        have c1 : ¬ t.1 < 0 := by omega
        have c2 : ¬ t.2 < t.1 := by omega
        have c3 : ¬ 144000 < t.2 := by omega
        have c4 : ¬ 3600 * k < t.1 * n := by omega
        have c5 : ¬ t.2 * n < 3600 * k := by omega
        try refine gs_Zf ?_
        exact ih (m - 1) (by omega) _ _ _ _ _ _ _ _ _ ⟨j + 1, rfl, rfl, rfl, rfl, rfl, rfl, rfl, by omega, fr_Zf, by omega⟩
    · clear ih
      have hE : exE s = 0 := by unfold exE; rw [beg_c, hv, hc]; rfl
      try refine gs_Zf ?_
      refine Rn.call (c_Poor d nb nr (Sl.up (by assumption) fr_Zf (by omega)) (Sl.up (by assumption) fr_Zf (by omega))) ?_
      rintro _ h7 N7 ⟨⟨r1, p1, rfl, fp1, E1⟩, f7, o7, l7⟩
      have E1 := E1 hE
      rw [hE]
      have x7 := flatV_one fp1
      have y7 := cel_flat fp1
      try refine gs_Zf ?_
      refine Rn.call (c_Rich d nb nr (Sl.up (by assumption) fr_Zf (by omega)) (Sl.up (by assumption) fr_Zf (by omega))) ?_
      rintro _ h8 N8 ⟨⟨r2, p2, rfl, fp2, E2⟩, f8, o8, l8⟩
      have E2 := E2 hE
      rw [hE]
      have x8 := flatV_one fp2
      have y8 := cel_flat fp2
      have g1 := poor_le hs hL F hrm E1
      have g2 := rich_ge hs hL F hrm E2
      have n1 := giL_len (fun v => v.1) (leavesS s r1) s.weeks.toNat
      have n2 := giL_len (fun v => v.2) (leavesS s r2) s.weeks.toNat
      have d1 := gi_bd (s := s) (r := r1) hs (fun v => .inl rfl : ∀ v : Int × Int, (fun v : Int × Int => v.1) v = v.1 ∨ (fun v : Int × Int => v.1) v = v.2) s.weeks.toNat
      have d2 := gi_bd (s := s) (r := r2) hs (fun v => .inr rfl : ∀ v : Int × Int, (fun v : Int × Int => v.2) v = v.1 ∨ (fun v : Int × Int => v.2) v = v.2) s.weeks.toNat
      have d3 : ∀ x ∈ L, -1000000 ≤ x ∧ x ≤ 1000000 := by
        intro x hx
        obtain ⟨i, hi⟩ := List.getElem?_of_mem hx
        have hlt := lt_of_at hi
        have := F.bd i (by omega)
        rw [List.getD_eq_getElem?_getD, hi] at this
        have h' : 0 ≤ x ∧ x ≤ s.most := this
        omega
      have t1 := E1.sl
      have t2 := E2.sl
      clear E1 E2 F
      generalize giL (fun v => v.1) (leavesS s r1) s.weeks.toNat = P1 at *
      generalize giL (fun v => v.2) (leavesS s r2) s.weeks.toNat = P2 at *
      have i1 : (P1.length : Int) = s.weeks := by omega
      have i2 : (P2.length : Int) = s.weeks := by omega
      try refine gs_Zf ?_
      refine Rn.call (c_sum _ (L := P1) (by omega) d1 (Sl.up (by assumption) fr_Zf (by omega))) ?_
      rintro _ h9 N9 ⟨rfl, f9, o9, l9⟩
      try refine gs_Zf ?_
      refine Rn.call (c_sum _ (L := L) (by omega) d3 (Sl.up (by assumption) fr_Zf (by omega))) ?_
      rintro _ h10 N10 ⟨rfl, f10, o10, l10⟩
      try refine gs_Zf ?_
      refine Rn.call (c_sum _ (L := L) (by omega) d3 (Sl.up (by assumption) fr_Zf (by omega))) ?_
      rintro _ h11 N11 ⟨rfl, f11, o11, l11⟩
      try refine gs_Zf ?_
      refine Rn.call (c_sum _ (L := P2) (by omega) d2 (Sl.up (by assumption) fr_Zf (by omega))) ?_
      rintro _ h12 N12 ⟨rfl, f12, o12, l12⟩
      try refine gs_Zf ?_
      exact Rn.ret (congrArg Value.bool (decide_eq_true g2))
end
end Go.Proofs.Ytpilgokdbliklaa

