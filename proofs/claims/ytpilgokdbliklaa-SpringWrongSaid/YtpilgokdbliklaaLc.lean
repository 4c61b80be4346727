/-
  What the functions of the law return.
  Conditions: none.
-/
import Derived.Test.YtpilgokdbliklaaLb
import Derived.Carry

section
namespace Go.Proofs.Ytpilgokdbliklaa
open Go.Ev Go.RowKit
set_option linter.unusedVariables false
set_option linter.unusedSimpArgs false
set_option linter.unusedSectionVars false
set_option maxRecDepth 100000
set_option maxHeartbeats 4000000
theorem s1_Ub {p : Prop} (h : p := by (simp (disch := omega) only [obind_s, orun_s, ocond_t, fad_p, ld1_e, ldN_e, sto_e, cellO_c, wrO_c, Tr.get_same, Tr.get_other, nth_0, nth_s, drp_0, drp_s, drp_n, tak_0, tak_s, tak_n, over_n, over_c, lay_0, lay_s, lay_n, len_n, len_c, app_n, app_c, reps_0, reps_s, cel_agg, cel_int, cel_bool, cel_str, cel_sl, cel_ptr, cel_map, cel_func, cel_nilf, fil_n, fil_c, beq_r, ble_d, allF_n, allF_c, one_int, one_bool, one_str, one_sl, one_ptr, one_map, one_func, one_nilf, Bool.and_true, Bool.true_and, Bool.not_true, Bool.not_false, iadA_z, Int.reduceToNat, Int.toNat_zero, fl1_a, flN_a, extr_t, unot, not_d, Nat.add_eq, Nat.mul_eq, Nat.mul_one, Nat.one_mul, Nat.zero_mul, Nat.reduceMul, Nat.zero_add, Nat.add_zero, Nat.le_refl, decide_true, Nat.reduceAdd, Nat.reduceLeDiff, bsl_Sint, bsl_SReading, bsl_SLine, bld_Span, bld_spring_work, bld_spring_asked, enc_Line, enc_Reading, ocond_d, Int.toNat_natCast, *]); first | done | fail) : p := h
theorem s2_Ub {p : Prop} (h : p := by (simp (disch := omega) only [obind_s, orun_s, ocond_t, fad_p, ld1_e, ldN_e, sto_e, cellO_c, wrO_c, Tr.get_same, Tr.get_other, nth_0, nth_s, drp_0, drp_s, drp_n, tak_0, tak_s, tak_n, over_n, over_c, lay_0, lay_s, lay_n, len_n, len_c, app_n, app_c, reps_0, reps_s, cel_agg, cel_int, cel_bool, cel_str, cel_sl, cel_ptr, cel_map, cel_func, cel_nilf, fil_n, fil_c, beq_r, ble_d, allF_n, allF_c, one_int, one_bool, one_str, one_sl, one_ptr, one_map, one_func, one_nilf, Bool.and_true, Bool.true_and, Bool.not_true, Bool.not_false, iadA_z, Int.reduceToNat, Int.toNat_zero, fl1_a, flN_a, extr_t, unot, not_d, Nat.add_eq, Nat.mul_eq, Nat.mul_one, Nat.one_mul, Nat.zero_mul, Nat.reduceMul, Nat.zero_add, Nat.add_zero, Nat.le_refl, decide_true, Nat.reduceAdd, Nat.reduceLeDiff, bsl_Sint, bsl_SReading, bsl_SLine, bld_Span, bld_spring_work, bld_spring_asked, enc_Line, enc_Reading, ocond_d, Int.toNat_natCast, *]); rfl) : p := h
theorem sb_Ub {p : Prop} (h : p := by first | ((simp (disch := omega) only [obind_s, orun_s, ocond_t, fad_p, ld1_e, ldN_e, sto_e, cellO_c, wrO_c, Tr.get_same, Tr.get_other, nth_0, nth_s, drp_0, drp_s, drp_n, tak_0, tak_s, tak_n, over_n, over_c, lay_0, lay_s, lay_n, len_n, len_c, app_n, app_c, reps_0, reps_s, cel_agg, cel_int, cel_bool, cel_str, cel_sl, cel_ptr, cel_map, cel_func, cel_nilf, fil_n, fil_c, beq_r, ble_d, allF_n, allF_c, one_int, one_bool, one_str, one_sl, one_ptr, one_map, one_func, one_nilf, Bool.and_true, Bool.true_and, Bool.not_true, Bool.not_false, iadA_z, Int.reduceToNat, Int.toNat_zero, fl1_a, flN_a, extr_t, unot, not_d, Nat.add_eq, Nat.mul_eq, Nat.mul_one, Nat.one_mul, Nat.zero_mul, Nat.reduceMul, Nat.zero_add, Nat.add_zero, Nat.le_refl, decide_true, Nat.reduceAdd, Nat.reduceLeDiff, bsl_Sint, bsl_SReading, bsl_SLine, bld_Span, bld_spring_work, bld_spring_asked, enc_Line, enc_Reading, ocond_d, Int.toNat_natCast, Nat.succ_eq_add_one, Nat.add_assoc, *]); rfl) | ((simp (disch := omega) only [obind_s, orun_s, ocond_t, fad_p, ld1_e, ldN_e, sto_e, cellO_c, wrO_c, Tr.get_same, Tr.get_other, nth_0, nth_s, drp_0, drp_s, drp_n, tak_0, tak_s, tak_n, over_n, over_c, lay_0, lay_s, lay_n, len_n, len_c, app_n, app_c, reps_0, reps_s, cel_agg, cel_int, cel_bool, cel_str, cel_sl, cel_ptr, cel_map, cel_func, cel_nilf, fil_n, fil_c, beq_r, ble_d, allF_n, allF_c, one_int, one_bool, one_str, one_sl, one_ptr, one_map, one_func, one_nilf, Bool.and_true, Bool.true_and, Bool.not_true, Bool.not_false, iadA_z, Int.reduceToNat, Int.toNat_zero, fl1_a, flN_a, extr_t, unot, not_d, Nat.add_eq, Nat.mul_eq, Nat.mul_one, Nat.one_mul, Nat.zero_mul, Nat.reduceMul, Nat.zero_add, Nat.add_zero, Nat.le_refl, decide_true, Nat.reduceAdd, Nat.reduceLeDiff, bsl_Sint, bsl_SReading, bsl_SLine, bld_Span, bld_spring_work, bld_spring_asked, enc_Line, enc_Reading, ocond_d, Int.toNat_natCast, Nat.succ_eq_add_one, Nat.add_assoc, *]); done)) : p := h
theorem fr_Ub {p : Prop} (h : p := by first | assumption | exact Fr.refl _ _ | (simp (disch := omega) only [Fr_set, Fr_refl, *])) : p := h
theorem fl_Ub {p : Prop} (h : p := by first | with_unfolding_all rfl | exact Sl.flat (by assumption) | assumption) : p := h
theorem fll_Ub {p : Prop} (h : p := by first | with_unfolding_all rfl | ((repeat (refine flatL_k fl_Ub ?_)); with_unfolding_all rfl)) : p := h
theorem en_Ub {p : Prop} (h : p := by first | ((simp only [enc_int, enc_str, enc_u8, enc_bool, tak_s, tak_0, tak_n, drp_0, drp_s, drp_n, nth_s, nth_0, bsl_Sint, bsl_SReading, bsl_SLine, bld_Span, bld_spring_work, bld_spring_asked, enc_Line, enc_Reading, ocond_d, Int.toNat_natCast]); rfl) | ((simp only [enc_int, enc_str, enc_u8, enc_bool, tak_s, tak_0, tak_n, drp_0, drp_s, drp_n, nth_s, nth_0, bsl_Sint, bsl_SReading, bsl_SLine, bld_Span, bld_spring_work, bld_spring_asked, enc_Line, enc_Reading, ocond_d, Int.toNat_natCast]); done) | with_unfolding_all rfl) : p := h
theorem sM_Ub {p : Prop} (h : p := by (first | assumption | (simp (disch := omega) only [Tr.get_same, Tr.get_other, *]; rfl) | (simp (disch := omega) only [Tr.get_same, Tr.get_other, *]; done))) : p := h
theorem sS_Ub {p : Prop} (h : p := by first | assumption | exact s1_Ub) : p := h
theorem op_Ub {p : Prop} (h : p := by first | with_reducible exact fad_p _ _ _ | with_reducible exact iop_lss _ _ | with_reducible exact iop_leq _ _ | with_reducible exact iop_gtr _ _ | with_reducible exact iop_geq _ _ | with_reducible exact iop_eql _ _ | with_reducible exact iop_neq _ _ | with_reducible exact Sl.len (by assumption) | with_reducible exact lenS_s _ _ _ | with_reducible exact Sl.iad (by assumption) (by with_unfolding_all rfl) (by first | assumption | omega) | with_reducible exact Sl.fad (by assumption) (by first | assumption | omega) | with_reducible exact Sl.ld1 (by assumption) fr_Ub (by with_unfolding_all rfl) (by assumption) en_Ub | with_reducible exact Sl.ldN (by assumption) fr_Ub (by with_unfolding_all rfl) (by assumption) (by with_unfolding_all rfl) en_Ub | with_reducible exact zadd1 (by omega) | with_reducible exact zsub1 (by omega) (by omega) | with_reducible exact zaddI (by omega) (by omega) | with_reducible exact zsubI (by omega) (by omega) | with_reducible exact min_z | with_reducible exact max_z | with_reducible exact zmulI (by assumption) | with_reducible exact zmulK (by omega) (by omega) | with_reducible exact quo_z (by omega) (by omega) (by omega) | with_reducible exact cv_u8 (by omega) | with_reducible exact rem_z (by omega) (by omega) (by omega) | with_reducible exact neq_bool (by kernel_rfl) | with_reducible exact eql_u8 | with_reducible exact wntT_t (by assumption) | with_reducible exact wntT_f (by assumption) | with_reducible exact wntF_t (by assumption) | with_reducible exact wntF_f (by assumption) | with_reducible exact wnt_tt | with_reducible exact wnt_tf | with_reducible exact wnt_ft | with_reducible exact wnt_ff | with_reducible exact wnt_u _ _ | with_reducible exact pck_t _ _ | with_reducible exact pck_f _ _ | with_reducible exact pckT (by assumption) | with_reducible exact pckF (by assumption) | with_reducible exact wntT_t (by decide) | with_reducible exact wntT_f (by decide) | with_reducible exact wntF_t (by decide) | with_reducible exact wntF_f (by decide) | with_reducible exact pckT (by decide) | with_reducible exact pckF (by decide) | with_reducible exact wntN_tt (by decide) | with_reducible exact wntN_tf (by decide) | with_reducible exact wntN_ft (by decide) | with_reducible exact wntN_ff (by decide) | with_reducible exact pckNT (by decide) | with_reducible exact pckNF (by decide) | with_reducible exact wntN_tt (by assumption) | with_reducible exact wntN_tf (by assumption) | with_reducible exact wntN_ft (by assumption) | with_reducible exact wntN_ff (by assumption) | with_reducible exact pckNT (by assumption) | with_reducible exact pckNF (by assumption) | with_reducible exact wntB_tt (by assumption) | with_reducible exact wntB_tf (by assumption) | with_reducible exact wntB_ft (by assumption) | with_reducible exact wntB_ff (by assumption) | with_reducible exact pckBT (by assumption) | with_reducible exact pckBF (by assumption) | exact s2_Ub | exact s1_Ub) : p := h
theorem co_Ub {p : Prop} (h : p := by first | (simp only [impB_1, impB_0, offB_1, offB_0]; done) | ((try simp only [impB_1, impB_0, offB_1, offB_0]); first | with_reducible exact Sl.ag1 (by assumption) fr_Ub (by with_unfolding_all rfl) (by assumption) en_Ub | with_reducible exact Sl.agN (by assumption) fr_Ub (by with_unfolding_all rfl) (by assumption) (by with_unfolding_all rfl) en_Ub | ((with_reducible refine agL1_e ?_ ?_); (· exact s1_Ub); (· exact fl_Ub)) | ((with_reducible refine agLN_e ?_ ?_); (· exact s1_Ub); (· exact fll_Ub)) | ((with_reducible apply ag_bs); (· exact sM_Ub); (· rfl); (· exact sb_Ub); (· exact fll_Ub)) | ((with_reducible apply ag_al); (· exact sM_Ub); (· rfl); (· exact fll_Ub)) | ((with_reducible apply ag_bx); (· exact sM_Ub); (· rfl); (· rfl); (· exact fll_Ub)) | ((with_reducible apply ag_bd); (· rfl); (· exact s1_Ub); (· exact fll_Ub)) | exact s1_Ub)) : p := h
theorem gs_Ub {r p : Prop} (k : r) (h : Go.Ev.Im r p := by (first | with_reducible apply Im.runS | ((with_reducible apply Im.num); · (simp only [Nat.succ_eq_add_one, Nat.add_assoc, Nat.reduceAdd]; rfl)) | (with_reducible apply Im.unm) | (with_reducible apply Im.selT) | (with_reducible apply Im.selF) | ((with_reducible apply Im.cndT); · assumption) | ((with_reducible apply Im.cndF); · assumption) | ((with_reducible apply Im.cndT); · decide) | ((with_reducible apply Im.cndF); · decide) | ((with_reducible apply Im.cndNT); · decide) | ((with_reducible apply Im.cndNF); · decide) | ((with_reducible apply Im.cndBT); · exact rfl) | ((with_reducible apply Im.cndBF); · exact rfl) | ((with_reducible apply Im.cndNT); · assumption) | ((with_reducible apply Im.cndNF); · assumption) | ((with_reducible apply Im.cndBT); · assumption) | ((with_reducible apply Im.cndBF); · assumption) | ((with_reducible apply Im.bind); · exact op_Ub) | ((with_reducible apply Im.cond); · exact co_Ub) | ((with_reducible apply Im.runB); · exact op_Ub) | ((with_reducible apply Im.runC); · exact co_Ub) | ((with_reducible apply Im.runN); · (simp only [Nat.succ_eq_add_one, Nat.add_assoc, Nat.reduceAdd]; rfl)) | with_reducible apply Im.runR | ((with_reducible apply Im.runE (x := evBuildSlice _ _ _ _ _ _)); · exact sb_Ub)); (repeat (first | with_reducible apply Im.runS | ((with_reducible apply Im.num); · (simp only [Nat.succ_eq_add_one, Nat.add_assoc, Nat.reduceAdd]; rfl)) | (with_reducible apply Im.unm) | (with_reducible apply Im.selT) | (with_reducible apply Im.selF) | ((with_reducible apply Im.cndT); · assumption) | ((with_reducible apply Im.cndF); · assumption) | ((with_reducible apply Im.cndT); · decide) | ((with_reducible apply Im.cndF); · decide) | ((with_reducible apply Im.cndNT); · decide) | ((with_reducible apply Im.cndNF); · decide) | ((with_reducible apply Im.cndBT); · exact rfl) | ((with_reducible apply Im.cndBF); · exact rfl) | ((with_reducible apply Im.cndNT); · assumption) | ((with_reducible apply Im.cndNF); · assumption) | ((with_reducible apply Im.cndBT); · assumption) | ((with_reducible apply Im.cndBF); · assumption) | ((with_reducible apply Im.bind); · exact op_Ub) | ((with_reducible apply Im.cond); · exact co_Ub) | ((with_reducible apply Im.runB); · exact op_Ub) | ((with_reducible apply Im.runC); · exact co_Ub) | ((with_reducible apply Im.runN); · (simp only [Nat.succ_eq_add_one, Nat.add_assoc, Nat.reduceAdd]; rfl)) | with_reducible apply Im.runR | ((with_reducible apply Im.runE (x := evBuildSlice _ _ _ _ _ _)); · exact sb_Ub))); exact Go.Ev.Im.id) : p := h k
abbrev snil : Value := .slice none 0 0
def zS : Sp := ⟨0, 0, 0, 0, 0, 0, 0, [], []⟩
theorem c_cloneL (call : CallF) {v : Value} {L : List Ln} {h N} (hl : L.length < 1000) (hs : Sl h N v L) : Rn (s102 call v h N) fun v' h' N' => OwR N N' h' 73 v' L ∧ Gw h N h' N' :=
  Rn.eq (y := cloneF Pr 24 3 call v h N) rfl (clone_ok call (by kernel_rfl) (fun a n c => by kernel_rfl) bs0_SLine ap_SLine (by omega) hs)
theorem c_cloneR (call : CallF) {v : Value} {L : List Rd} {h N} (hl : L.length < 1000) (hs : Sl h N v L) : Rn (s103 call v h N) fun v' h' N' => OwR N N' h' 71 v' L ∧ Gw h N h' N' :=
  Rn.eq (y := cloneF Pr 25 3 call v h N) rfl (clone_ok call (by kernel_rfl) (fun a n c => by kernel_rfl) bs0_SReading ap_SReading (by omega) hs)
section
variable {s : Sp} {b r : Value}
theorem c_copied (call : CallF) {h N} (nb : s.book.length < 1000) (nr : s.reads.length < 1000) (hb : Sl h N b s.book) (hr : Sl h N r s.reads) :
    Rn (s82 call (.agg ⟨[iS s.weeks, iS s.most, iS s.fall, iS s.slo, iS s.shi, iS s.wlo, iS s.whi, b, r]⟩) h N) fun v h' N' => (∃ b' r' K, v = .agg ⟨[iS s.weeks, iS s.most, iS s.fall, iS s.slo, iS s.shi, iS s.wlo, iS s.whi, b', r']⟩ ∧ N ≤ K ∧ K ≤ N' ∧ OwR N K h' 73 b' s.book ∧ OwR K N' h' 71 r' s.reads) ∧ Gw h N h' N' := by
  unfold s82
  have cb := hb.flat; have cr := hr.flat; have x1 := flatV_one cb; have y1 := cel_flat cb; have x2 := flatV_one cr; have y2 := cel_flat cr
  try refine gs_Ub ?_
  refine Rn.call (c_cloneL call nb (Sl.up (by assumption) fr_Ub (by omega))) ?_
  rintro b' h1 N1 ⟨w1, f1, o1, l1⟩
  have s1 := w1.sl (Nat.le_refl _)
  have a1 := flatV_one s1.flat
  have b1 := cel_flat s1.flat
  try refine gs_Ub ?_
  refine Rn.call (c_cloneR call nr (Sl.up (by assumption) fr_Ub (by omega))) ?_
  rintro r' h2 N2 ⟨w2, f2, o2, l2⟩
  have s2 := w2.sl (Nat.le_refl _)
  have a2 := flatV_one s2.flat
  have b2 := cel_flat s2.flat
  try refine gs_Ub ?_
  refine Rn.ret ⟨⟨b', r', N1, rfl, by omega, by omega, ?_, ?_⟩, (Gw.of fr_Ub (by omega))⟩
  · exact (w1.keep fun j g1 g2 => sS_Ub).wide (by omega) (Nat.le_refl _)
  · exact w2.keep fun j g1 g2 => sS_Ub
end
end Go.Proofs.Ytpilgokdbliklaa
end

section
namespace Go.Proofs.Ytpilgokdbliklaa
open Go.Ev Go.RowKit
set_option linter.unusedVariables false
set_option linter.unusedSimpArgs false
set_option linter.unusedSectionVars false
set_option maxRecDepth 100000
set_option maxHeartbeats 4000000
/-- One spring tells what another tells, and may be more. -/
structure Nar (s t : Sp) : Prop where
  w : t.weeks = s.weeks
  m : t.most = s.most
  f : t.fall = s.fall
  a : t.slo = s.slo
  b : t.shi = s.shi
  c : t.wlo = s.wlo
  d : t.whi = s.whi
  bk : ∀ x ∈ s.book, x ∈ t.book
  rd : ∀ x ∈ s.reads, x ∈ t.reads
def Les (f g : Bd) : Prop := ∀ j, (f j).1 ≤ (g j).1 ∧ (g j).2 ≤ (f j).2
theorem up_les {f g : Bd} (h : Les f g) (k : Nat) {u v : Int × Int} (h1 : u.1 ≤ v.1) (h2 : v.2 ≤ u.2) : Les (up f k u) (up g k v) := by
  intro j
  simp only [up]
  split
  · exact ⟨h1, h2⟩
  · exact h j
theorem fwd_les {fall : Int} {f g : Bd} (h : Les f g) : ∀ k, Les (fwdN fall k f) (fwdN fall k g)
  | 0 => h
  | k + 1 => by
    have i := fwd_les (fall := fall) h k
    have a := i k
    have c := i (k + 1)
    refine up_les i _ ?_ ?_
    · show max _ _ ≤ max _ _; omega
    · show min _ _ ≤ min _ _; omega
theorem bwd_les {fall : Int} {n : Nat} {f g : Bd} (h : Les f g) : ∀ k, Les (bwdN fall n k f) (bwdN fall n k g)
  | 0 => h
  | k + 1 => by
    have i := bwd_les (fall := fall) (n := n) h k
    have a := i (n - 2 - k)
    have c := i (n - 2 - k + 1)
    refine up_les i _ ?_ ?_
    · show max _ _ ≤ max _ _; omega
    · show min _ _ ≤ min _ _; omega
section
variable {s t : Sp}
theorem told_nar (h : Nar s t) (x : Rd) : toldB t x = toldB s x := by unfold toldB; rw [h.a, h.b, h.m]
theorem pre_les (h : Nar s t) (r : Int) : Les (preS s r) (preS t r) := by
  intro j
  have ei : iniN t.most t.weeks.toNat = iniN s.most s.weeks.toNat := by rw [h.m, h.w]
  constructor
  · obtain ⟨h1, h2⟩ := (pre_lo (s := t) r j _).1 (Int.le_refl _)
    unfold redS at h1
    rw [addR_lo] at h1
    refine (pre_lo r j _).2 ⟨?_, fun x hx => h2 x (h.bk x hx)⟩
    unfold redS
    rw [addR_lo, ← ei]
    exact ⟨h1.1, fun x hx hw => by rw [← told_nar h]; exact h1.2 x (h.rd x hx) hw⟩
  · obtain ⟨h1, h2⟩ := (pre_hi (s := t) r j _).1 (Int.le_refl _)
    unfold redS at h1
    rw [addR_hi] at h1
    refine (pre_hi r j _).2 ⟨?_, fun x hx => h2 x (h.bk x hx)⟩
    unfold redS
    rw [addR_hi, ← ei]
    exact ⟨h1.1, fun x hx hw => by rw [← told_nar h]; exact h1.2 x (h.rd x hx) hw⟩
theorem leaves_les (h : Nar s t) (r : Int) : Les (leavesS s r) (leavesS t r) := by
  unfold leavesS narS
  rw [h.f, h.w]
  exact bwd_les (fwd_les (pre_les h r) _) _
theorem rains_nar (h : Nar s t) {r : Int} (hr : r ∈ rainsS t) : r ∈ rainsS s := by
  unfold rainsS rainsN rainN at hr ⊢
  rw [h.c, h.d] at hr
  obtain ⟨h1, h2⟩ := List.mem_filter.1 hr
  refine List.mem_filter.2 ⟨h1, ?_⟩
  unfold okN at h2 ⊢
  rw [h.w] at h2
  simp only [List.all_eq_true, decide_eq_true_eq] at h2 ⊢
  intro k hk
  have := h2 k hk
  have := leaves_les h r k
  omega
theorem can_nar (h : Nar s t) (hc : canS t = true) : canS s = true := by
  unfold canS at hc ⊢
  cases hr : rainsS t with
  | nil => rw [hr] at hc; cases hc
  | cons x l =>
    have := rains_nar h (r := x) (by rw [hr]; simp)
    cases hs : rainsS s with
    | nil => rw [hs] at this; cases this
    | cons => rfl
end
theorem rds_gt {w : Int} : ∀ (L : List Rd) (b : Int), rdsB w b L = true → ∀ x ∈ L, b < x.Number
  | [], _, _, x, hx => by cases hx
  | y :: l, b, h, x, hx => by
    simp only [rdsB, Bool.and_eq_true, decide_eq_true_eq] at h
    rcases List.mem_cons.1 hx with rfl | hx
    · exact h.1.1
    · have := rds_gt l _ h.2 x hx
      omega
section
variable {s : Sp}
end
end Go.Proofs.Ytpilgokdbliklaa
end

section
namespace Go.Proofs.Ytpilgokdbliklaa
open Go.Ev Go.RowKit
set_option linter.unusedVariables false
set_option linter.unusedSimpArgs false
set_option linter.unusedSectionVars false
set_option maxRecDepth 100000
set_option maxHeartbeats 4000000
section
variable {s : Sp} {b r : Value}
end
end Go.Proofs.Ytpilgokdbliklaa
end

section
namespace Go.Proofs.Ytpilgokdbliklaa
open Go.Ev Go.RowKit
set_option linter.unusedVariables false
set_option linter.unusedSimpArgs false
set_option linter.unusedSectionVars false
set_option maxRecDepth 100000
set_option maxHeartbeats 4000000
theorem s1_Wa {p : Prop} (h : p := by (simp (disch := omega) only [obind_s, orun_s, ocond_t, fad_p, ld1_e, ldN_e, sto_e, cellO_c, wrO_c, Tr.get_same, Tr.get_other, nth_0, nth_s, drp_0, drp_s, drp_n, tak_0, tak_s, tak_n, over_n, over_c, lay_0, lay_s, lay_n, len_n, len_c, app_n, app_c, reps_0, reps_s, cel_agg, cel_int, cel_bool, cel_str, cel_sl, cel_ptr, cel_map, cel_func, cel_nilf, fil_n, fil_c, beq_r, ble_d, allF_n, allF_c, one_int, one_bool, one_str, one_sl, one_ptr, one_map, one_func, one_nilf, Bool.and_true, Bool.true_and, Bool.not_true, Bool.not_false, iadA_z, Int.reduceToNat, Int.toNat_zero, fl1_a, flN_a, extr_t, unot, not_d, Nat.add_eq, Nat.mul_eq, Nat.mul_one, Nat.one_mul, Nat.zero_mul, Nat.reduceMul, Nat.zero_add, Nat.add_zero, Nat.le_refl, decide_true, Nat.reduceAdd, Nat.reduceLeDiff, bsl_Sint, bsl_SReading, bsl_SLine, bld_Span, bld_spring_work, bld_spring_asked, enc_Line, enc_Reading, ocond_d, Int.toNat_natCast, *]); first | done | fail) : p := h
theorem s2_Wa {p : Prop} (h : p := by (simp (disch := omega) only [obind_s, orun_s, ocond_t, fad_p, ld1_e, ldN_e, sto_e, cellO_c, wrO_c, Tr.get_same, Tr.get_other, nth_0, nth_s, drp_0, drp_s, drp_n, tak_0, tak_s, tak_n, over_n, over_c, lay_0, lay_s, lay_n, len_n, len_c, app_n, app_c, reps_0, reps_s, cel_agg, cel_int, cel_bool, cel_str, cel_sl, cel_ptr, cel_map, cel_func, cel_nilf, fil_n, fil_c, beq_r, ble_d, allF_n, allF_c, one_int, one_bool, one_str, one_sl, one_ptr, one_map, one_func, one_nilf, Bool.and_true, Bool.true_and, Bool.not_true, Bool.not_false, iadA_z, Int.reduceToNat, Int.toNat_zero, fl1_a, flN_a, extr_t, unot, not_d, Nat.add_eq, Nat.mul_eq, Nat.mul_one, Nat.one_mul, Nat.zero_mul, Nat.reduceMul, Nat.zero_add, Nat.add_zero, Nat.le_refl, decide_true, Nat.reduceAdd, Nat.reduceLeDiff, bsl_Sint, bsl_SReading, bsl_SLine, bld_Span, bld_spring_work, bld_spring_asked, enc_Line, enc_Reading, ocond_d, Int.toNat_natCast, *]); rfl) : p := h
theorem sb_Wa {p : Prop} (h : p := by first | ((simp (disch := omega) only [obind_s, orun_s, ocond_t, fad_p, ld1_e, ldN_e, sto_e, cellO_c, wrO_c, Tr.get_same, Tr.get_other, nth_0, nth_s, drp_0, drp_s, drp_n, tak_0, tak_s, tak_n, over_n, over_c, lay_0, lay_s, lay_n, len_n, len_c, app_n, app_c, reps_0, reps_s, cel_agg, cel_int, cel_bool, cel_str, cel_sl, cel_ptr, cel_map, cel_func, cel_nilf, fil_n, fil_c, beq_r, ble_d, allF_n, allF_c, one_int, one_bool, one_str, one_sl, one_ptr, one_map, one_func, one_nilf, Bool.and_true, Bool.true_and, Bool.not_true, Bool.not_false, iadA_z, Int.reduceToNat, Int.toNat_zero, fl1_a, flN_a, extr_t, unot, not_d, Nat.add_eq, Nat.mul_eq, Nat.mul_one, Nat.one_mul, Nat.zero_mul, Nat.reduceMul, Nat.zero_add, Nat.add_zero, Nat.le_refl, decide_true, Nat.reduceAdd, Nat.reduceLeDiff, bsl_Sint, bsl_SReading, bsl_SLine, bld_Span, bld_spring_work, bld_spring_asked, enc_Line, enc_Reading, ocond_d, Int.toNat_natCast, Nat.succ_eq_add_one, Nat.add_assoc, *]); rfl) | ((simp (disch := omega) only [obind_s, orun_s, ocond_t, fad_p, ld1_e, ldN_e, sto_e, cellO_c, wrO_c, Tr.get_same, Tr.get_other, nth_0, nth_s, drp_0, drp_s, drp_n, tak_0, tak_s, tak_n, over_n, over_c, lay_0, lay_s, lay_n, len_n, len_c, app_n, app_c, reps_0, reps_s, cel_agg, cel_int, cel_bool, cel_str, cel_sl, cel_ptr, cel_map, cel_func, cel_nilf, fil_n, fil_c, beq_r, ble_d, allF_n, allF_c, one_int, one_bool, one_str, one_sl, one_ptr, one_map, one_func, one_nilf, Bool.and_true, Bool.true_and, Bool.not_true, Bool.not_false, iadA_z, Int.reduceToNat, Int.toNat_zero, fl1_a, flN_a, extr_t, unot, not_d, Nat.add_eq, Nat.mul_eq, Nat.mul_one, Nat.one_mul, Nat.zero_mul, Nat.reduceMul, Nat.zero_add, Nat.add_zero, Nat.le_refl, decide_true, Nat.reduceAdd, Nat.reduceLeDiff, bsl_Sint, bsl_SReading, bsl_SLine, bld_Span, bld_spring_work, bld_spring_asked, enc_Line, enc_Reading, ocond_d, Int.toNat_natCast, Nat.succ_eq_add_one, Nat.add_assoc, *]); done)) : p := h
theorem fr_Wa {p : Prop} (h : p := by first | assumption | exact Fr.refl _ _ | (simp (disch := omega) only [Fr_set, Fr_refl, *])) : p := h
theorem fl_Wa {p : Prop} (h : p := by first | with_unfolding_all rfl | exact Sl.flat (by assumption) | assumption) : p := h
theorem fll_Wa {p : Prop} (h : p := by first | with_unfolding_all rfl | ((repeat (refine flatL_k fl_Wa ?_)); with_unfolding_all rfl)) : p := h
theorem en_Wa {p : Prop} (h : p := by first | ((simp only [enc_int, enc_str, enc_u8, enc_bool, tak_s, tak_0, tak_n, drp_0, drp_s, drp_n, nth_s, nth_0, bsl_Sint, bsl_SReading, bsl_SLine, bld_Span, bld_spring_work, bld_spring_asked, enc_Line, enc_Reading, ocond_d, Int.toNat_natCast]); rfl) | ((simp only [enc_int, enc_str, enc_u8, enc_bool, tak_s, tak_0, tak_n, drp_0, drp_s, drp_n, nth_s, nth_0, bsl_Sint, bsl_SReading, bsl_SLine, bld_Span, bld_spring_work, bld_spring_asked, enc_Line, enc_Reading, ocond_d, Int.toNat_natCast]); done) | with_unfolding_all rfl) : p := h
theorem sM_Wa {p : Prop} (h : p := by (first | assumption | (simp (disch := omega) only [Tr.get_same, Tr.get_other, *]; rfl) | (simp (disch := omega) only [Tr.get_same, Tr.get_other, *]; done))) : p := h
theorem sS_Wa {p : Prop} (h : p := by first | assumption | exact s1_Wa) : p := h
theorem op_Wa {p : Prop} (h : p := by first | with_reducible exact fad_p _ _ _ | with_reducible exact iop_lss _ _ | with_reducible exact iop_leq _ _ | with_reducible exact iop_gtr _ _ | with_reducible exact iop_geq _ _ | with_reducible exact iop_eql _ _ | with_reducible exact iop_neq _ _ | with_reducible exact Sl.len (by assumption) | with_reducible exact lenS_s _ _ _ | with_reducible exact Sl.iad (by assumption) (by with_unfolding_all rfl) (by first | assumption | omega) | with_reducible exact Sl.fad (by assumption) (by first | assumption | omega) | with_reducible exact Sl.ld1 (by assumption) fr_Wa (by with_unfolding_all rfl) (by assumption) en_Wa | with_reducible exact Sl.ldN (by assumption) fr_Wa (by with_unfolding_all rfl) (by assumption) (by with_unfolding_all rfl) en_Wa | with_reducible exact zadd1 (by omega) | with_reducible exact zsub1 (by omega) (by omega) | with_reducible exact zaddI (by omega) (by omega) | with_reducible exact zsubI (by omega) (by omega) | with_reducible exact min_z | with_reducible exact max_z | with_reducible exact zmulI (by assumption) | with_reducible exact zmulK (by omega) (by omega) | with_reducible exact quo_z (by omega) (by omega) (by omega) | with_reducible exact cv_u8 (by omega) | with_reducible exact rem_z (by omega) (by omega) (by omega) | with_reducible exact neq_bool (by kernel_rfl) | with_reducible exact eql_u8 | with_reducible exact wntT_t (by assumption) | with_reducible exact wntT_f (by assumption) | with_reducible exact wntF_t (by assumption) | with_reducible exact wntF_f (by assumption) | with_reducible exact wnt_tt | with_reducible exact wnt_tf | with_reducible exact wnt_ft | with_reducible exact wnt_ff | with_reducible exact wnt_u _ _ | with_reducible exact pck_t _ _ | with_reducible exact pck_f _ _ | with_reducible exact pckT (by assumption) | with_reducible exact pckF (by assumption) | with_reducible exact wntT_t (by decide) | with_reducible exact wntT_f (by decide) | with_reducible exact wntF_t (by decide) | with_reducible exact wntF_f (by decide) | with_reducible exact pckT (by decide) | with_reducible exact pckF (by decide) | with_reducible exact wntN_tt (by decide) | with_reducible exact wntN_tf (by decide) | with_reducible exact wntN_ft (by decide) | with_reducible exact wntN_ff (by decide) | with_reducible exact pckNT (by decide) | with_reducible exact pckNF (by decide) | with_reducible exact wntN_tt (by assumption) | with_reducible exact wntN_tf (by assumption) | with_reducible exact wntN_ft (by assumption) | with_reducible exact wntN_ff (by assumption) | with_reducible exact pckNT (by assumption) | with_reducible exact pckNF (by assumption) | with_reducible exact wntB_tt (by assumption) | with_reducible exact wntB_tf (by assumption) | with_reducible exact wntB_ft (by assumption) | with_reducible exact wntB_ff (by assumption) | with_reducible exact pckBT (by assumption) | with_reducible exact pckBF (by assumption) | exact s2_Wa | exact s1_Wa) : p := h
theorem co_Wa {p : Prop} (h : p := by first | (simp only [impB_1, impB_0, offB_1, offB_0]; done) | ((try simp only [impB_1, impB_0, offB_1, offB_0]); first | with_reducible exact Sl.ag1 (by assumption) fr_Wa (by with_unfolding_all rfl) (by assumption) en_Wa | with_reducible exact Sl.agN (by assumption) fr_Wa (by with_unfolding_all rfl) (by assumption) (by with_unfolding_all rfl) en_Wa | ((with_reducible refine agL1_e ?_ ?_); (· exact s1_Wa); (· exact fl_Wa)) | ((with_reducible refine agLN_e ?_ ?_); (· exact s1_Wa); (· exact fll_Wa)) | ((with_reducible apply ag_bs); (· exact sM_Wa); (· rfl); (· exact sb_Wa); (· exact fll_Wa)) | ((with_reducible apply ag_al); (· exact sM_Wa); (· rfl); (· exact fll_Wa)) | ((with_reducible apply ag_bx); (· exact sM_Wa); (· rfl); (· rfl); (· exact fll_Wa)) | ((with_reducible apply ag_bd); (· rfl); (· exact s1_Wa); (· exact fll_Wa)) | exact s1_Wa)) : p := h
theorem gs_Wa {r p : Prop} (k : r) (h : Go.Ev.Im r p := by (first | with_reducible apply Im.runS | ((with_reducible apply Im.num); · (simp only [Nat.succ_eq_add_one, Nat.add_assoc, Nat.reduceAdd]; rfl)) | (with_reducible apply Im.unm) | (with_reducible apply Im.selT) | (with_reducible apply Im.selF) | ((with_reducible apply Im.cndT); · assumption) | ((with_reducible apply Im.cndF); · assumption) | ((with_reducible apply Im.cndT); · decide) | ((with_reducible apply Im.cndF); · decide) | ((with_reducible apply Im.cndNT); · decide) | ((with_reducible apply Im.cndNF); · decide) | ((with_reducible apply Im.cndBT); · exact rfl) | ((with_reducible apply Im.cndBF); · exact rfl) | ((with_reducible apply Im.cndNT); · assumption) | ((with_reducible apply Im.cndNF); · assumption) | ((with_reducible apply Im.cndBT); · assumption) | ((with_reducible apply Im.cndBF); · assumption) | ((with_reducible apply Im.bind); · exact op_Wa) | ((with_reducible apply Im.cond); · exact co_Wa) | ((with_reducible apply Im.runB); · exact op_Wa) | ((with_reducible apply Im.runC); · exact co_Wa) | ((with_reducible apply Im.runN); · (simp only [Nat.succ_eq_add_one, Nat.add_assoc, Nat.reduceAdd]; rfl)) | with_reducible apply Im.runR | ((with_reducible apply Im.runE (x := evBuildSlice _ _ _ _ _ _)); · exact sb_Wa)); (repeat (first | with_reducible apply Im.runS | ((with_reducible apply Im.num); · (simp only [Nat.succ_eq_add_one, Nat.add_assoc, Nat.reduceAdd]; rfl)) | (with_reducible apply Im.unm) | (with_reducible apply Im.selT) | (with_reducible apply Im.selF) | ((with_reducible apply Im.cndT); · assumption) | ((with_reducible apply Im.cndF); · assumption) | ((with_reducible apply Im.cndT); · decide) | ((with_reducible apply Im.cndF); · decide) | ((with_reducible apply Im.cndNT); · decide) | ((with_reducible apply Im.cndNF); · decide) | ((with_reducible apply Im.cndBT); · exact rfl) | ((with_reducible apply Im.cndBF); · exact rfl) | ((with_reducible apply Im.cndNT); · assumption) | ((with_reducible apply Im.cndNF); · assumption) | ((with_reducible apply Im.cndBT); · assumption) | ((with_reducible apply Im.cndBF); · assumption) | ((with_reducible apply Im.bind); · exact op_Wa) | ((with_reducible apply Im.cond); · exact co_Wa) | ((with_reducible apply Im.runB); · exact op_Wa) | ((with_reducible apply Im.runC); · exact co_Wa) | ((with_reducible apply Im.runN); · (simp only [Nat.succ_eq_add_one, Nat.add_assoc, Nat.reduceAdd]; rfl)) | with_reducible apply Im.runR | ((with_reducible apply Im.runE (x := evBuildSlice _ _ _ _ _ _)); · exact sb_Wa))); exact Go.Ev.Im.id) : p := h k
theorem mT : mapT Pr 167 = some (3, 4) := by kernel_rfl
theorem mK : Pr.underlying 3 = some (.int .i64) := by kernel_rfl
theorem mZ : zval Pr 4 = some (.bool false) := by kernel_rfl
theorem put_r {h : Tr Ob} {N i : Nat} {K : List Int} {z : Int} (m : Mp h i K) : Rn (evMapPut Pr 167 (.map (some i)) (iS z) (.bool true) h N) fun v h' N' => Mp h' i (if z ∈ K then K else K ++ [z]) ∧ Gx i h N h' N' := by
  obtain ⟨ob, e, m'⟩ := put_z (z := z) (N := N) mT mK m
  exact Rn.eq e (Rn.ret ⟨m' _ (Tr.get_same _ _ _), Gx.of (fun j _ hj => Tr.get_other _ _ hj) (Nat.le_refl _)⟩)
theorem del_r {h : Tr Ob} {N i : Nat} {K : List Int} {z : Int} (m : Mp h i K) : Rn (evDelete Pr 167 (.map (some i)) (iS z) h N) fun v h' N' => Mp h' i (K.erase z) ∧ Gx i h N h' N' := by
  obtain ⟨h', e, o, m'⟩ := del_z (z := z) (N := N) mT mK m
  exact Rn.eq e (Rn.ret ⟨m', Gx.of (fun j _ hj => o j hj) (Nat.le_refl _)⟩)
theorem c_without1 (call : CallF) {x : Rd} {h : Tr Ob} {N c i : Nat} {K : List Int} (hc : h.get c = some (.c [.map (some i)] 167)) (hcN : c < N) (hiN : i < N) (m : Mp h i K) :
    Rn (s109 call (.agg ⟨Rwc.enc x⟩) (.pointer (some ⟨c, 0, none⟩)) h N) fun v h' N' => v = .bool (decide (¬ x.Number ∈ K)) ∧ Gw h N h' N' := by
  unfold s109
  simp only [enc_Reading]
  try refine gs_Wa ?_
  refine Rn.bind (get_z mT mK mZ (m.keep sS_Wa)) ?_
  try refine gs_Wa ?_
  exact Rn.ret ⟨rfl, (Gw.of fr_Wa (by omega))⟩
theorem dyn_without1 (d : Nat) (st : Ev.St) (hst : lookS st 109 = none) (y p : Value) (h : Tr Ob) (N : Nat) : callW st (cN (d + 1)) (.func (.func 109) ⟨[]⟩ ⟨[p]⟩) [y] h N = s109 (cN d) y p h N := by
  show (Option.rec (motive := fun _ => OpR) (cN (d + 1) (.func (.func 109) ⟨[]⟩ ⟨[p]⟩) [y] h N) (fun F => F (cN (d + 1)) (app [] (app [y] [p])) h N) (lookS st 109)) = _
  rw [hst]; rfl
/-- The readings that have none of these numbers. -/
def woL (R : List Rd) (L : List Int) : List Rd := R.filter fun x => decide (x.Number ∉ L)
def woS (s : Sp) (L : List Int) : Sp := { s with reads := woL s.reads L }
theorem elz_rd : elz Pr 71 = some (Rwc.w Rd, Rwc.enc (⟨0, 0, 0, 0, 0⟩ : Rd)) := by kernel_rfl
section
variable {s : Sp} {b r : Value}
theorem c_without (d : Nat) {l : Value} {L : List Int} {h N} (nb : s.book.length < 1000) (nr : s.reads.length < 1000) (hb : Sl h N b s.book) (hr : Sl h N r s.reads) (hn : L.length < 1000) (hl : Sl h N l L) :
    Rn (s89 (cN (d + 2)) (.agg ⟨[iS s.weeks, iS s.most, iS s.fall, iS s.slo, iS s.shi, iS s.wlo, iS s.whi, b, r]⟩) l h N) fun v h' N' => (∃ b' r', v = .agg ⟨[iS s.weeks, iS s.most, iS s.fall, iS s.slo, iS s.shi, iS s.wlo, iS s.whi, b', r']⟩ ∧ WrR N N' h' b' s.book ∧ WrR N N' h' r' (woL s.reads L)) ∧ Gw h N h' N' := by
  unfold s89
  have cb := hb.flat; have cr := hr.flat; have x1 := flatV_one cb; have y1 := cel_flat cb; have x2 := flatV_one cr; have y2 := cel_flat cr
  have cl := hl.flat
  have x3 := flatV_one cl
  have y3 := cel_flat cl
  try refine gs_Wa ?_
  refine Rn.loop7 (fun n a1 a2 a3 a4 a5 a6 a7 g M => ∃ (i : Nat) (K : List Int), l = a1 ∧ a2 = .pointer (some ⟨N, 0, none⟩) ∧ a3 = .pointer (some ⟨N + 1, 0, none⟩) ∧ a4 = .pointer (some ⟨N + 3, 0, none⟩) ∧ r = a5 ∧ a6 = nS s.reads.length ∧ a7 = nS i ∧ i + n = s.reads.length ∧ Fr h N g ∧ N + 4 ≤ M ∧
    g.get N = some (.c [iS s.weeks, iS s.most, iS s.fall, iS s.slo, iS s.shi, iS s.wlo, iS s.whi, b, r] 106) ∧ g.get (N + 1) = some (.c [iS 0, iS 0, iS 0, iS 0, iS 0, iS 0, iS 0, .slice none 0 0, .slice none 0 0] 106) ∧ g.get (N + 3) = some (.c [.map (some (N + 2))] 167) ∧ Mp g (N + 2) K ∧ K.Nodup ∧ ∀ z, z ∈ K ↔ z ∈ (s.reads.take i).map (·.Number)) s.reads.length (by omega)
    ⟨0, [], rfl, rfl, rfl, rfl, rfl, rfl, rfl, by omega, fr_Wa, by omega, sS_Wa, sS_Wa, sS_Wa, Mp.nil (c := 0) sS_Wa, List.nodup_nil, by simp⟩ ?_
  rintro n g ih _ _ _ _ _ _ _ h2 N2 ⟨i, K, rfl, rfl, rfl, rfl, rfl, rfl, rfl, e2, f2, l2, g1, g2, g3, mp, nd, hK⟩
  try refine gs_Wa ?_
  (first | with_reducible refine Rn.cnd (fun _ => ?_) (fun _ => ?_) | with_reducible refine Rn.cndN (fun _ => ?_) (fun _ => ?_) | with_reducible refine Rn.cndB (fun _ => ?_) (fun _ => ?_))
  · obtain ⟨x, hx⟩ := at_of (L := s.reads) (k := i) (by omega)
    have hi : i < s.reads.length := by omega
    try refine gs_Wa ?_
    refine Rn.call (put_r (mp.keep sS_Wa)) ?_
    rintro _ h3 N3 ⟨mp3, f3, o3, l3⟩
    try refine gs_Wa ?_
    refine ih (n - 1) (by omega) _ _ _ _ _ _ _ _ _ ⟨i + 1, _, rfl, rfl, rfl, rfl, rfl, rfl, rfl, by omega, fr_Wa, by omega, (o3 (by omega) (by omega)).trans sS_Wa, (o3 (by omega) (by omega)).trans sS_Wa, (o3 (by omega) (by omega)).trans sS_Wa, mp3, ?_, ?_⟩
    · split
      · exact nd
      · rename_i hz
        exact List.nodup_append.2 ⟨nd, by simp, fun a ha c hc => by simp at hc; subst hc; exact fun e => hz (e ▸ ha)⟩
    · intro z
      rw [List.take_add_one, hx]
      have hz := hK z
      have hxK := hK x.Number
      split
      · rename_i hm
        simp only [Option.toList_some, List.map_append, List.mem_append, List.map_cons, List.map_nil, List.mem_singleton]
        constructor
        · exact fun h => .inl (hz.1 h)
        · rintro (h | h)
          · exact hz.2 h
          · rw [h]; exact hm
      · simp only [Option.toList_some, List.map_append, List.mem_append, List.map_cons, List.map_nil, List.mem_singleton, hz]
  · obtain rfl : i = s.reads.length := by omega
    rw [List.take_length] at hK
    clear ih
    try refine gs_Wa ?_
    refine Rn.loop6 (fun n a2 a3 a4 a1 a6 a7 g M => ∃ (i : Nat) (K : List Int), l = a1 ∧ a2 = .pointer (some ⟨N, 0, none⟩) ∧ a3 = .pointer (some ⟨N + 1, 0, none⟩) ∧ a4 = .pointer (some ⟨N + 3, 0, none⟩) ∧ a6 = nS L.length ∧ a7 = nS i ∧ i + n = L.length ∧ Fr h N g ∧ N + 4 ≤ M ∧
      g.get N = some (.c [iS s.weeks, iS s.most, iS s.fall, iS s.slo, iS s.shi, iS s.wlo, iS s.whi, b, r] 106) ∧ g.get (N + 1) = some (.c [iS 0, iS 0, iS 0, iS 0, iS 0, iS 0, iS 0, .slice none 0 0, .slice none 0 0] 106) ∧ g.get (N + 3) = some (.c [.map (some (N + 2))] 167) ∧ Mp g (N + 2) K ∧ K.Nodup ∧ ∀ z, z ∈ K ↔ z ∈ s.reads.map (·.Number) ∧ z ∉ L.take i) L.length (by omega)
      ⟨0, K, rfl, rfl, rfl, rfl, rfl, rfl, by omega, fr_Wa, by omega, sS_Wa, sS_Wa, sS_Wa, mp, nd, by simpa using hK⟩ ?_
    clear hK mp nd g1 g2 g3 f2 l2
    rintro n g ih _ _ _ _ _ _ h3 N3 ⟨i, K, rfl, rfl, rfl, rfl, rfl, rfl, e2, f2, l2, g1, g2, g3, mp, nd, hK⟩
    try refine gs_Wa ?_
    (first | with_reducible refine Rn.cnd (fun _ => ?_) (fun _ => ?_) | with_reducible refine Rn.cndN (fun _ => ?_) (fun _ => ?_) | with_reducible refine Rn.cndB (fun _ => ?_) (fun _ => ?_))
    · obtain ⟨x, hx⟩ := at_of (L := L) (k := i) (by omega)
      have hi : i < L.length := by omega
      try refine gs_Wa ?_
      refine Rn.call (del_r (z := x) (mp.keep sS_Wa)) ?_
      rintro _ h4 N4 ⟨mp3, f3, o3, l3⟩
      try refine gs_Wa ?_
      refine ih (n - 1) (by omega) _ _ _ _ _ _ _ _ ⟨i + 1, _, rfl, rfl, rfl, rfl, rfl, rfl, by omega, fr_Wa, by omega, (o3 (by omega) (by omega)).trans sS_Wa, (o3 (by omega) (by omega)).trans sS_Wa, (o3 (by omega) (by omega)).trans sS_Wa, mp3, nd.erase _, ?_⟩
      intro z
      rw [nd.mem_erase_iff, hK z, List.take_add_one, hx]
      simp only [Option.toList_some, List.mem_append, List.mem_singleton, not_or]
      constructor
      · rintro ⟨h1, h2, h3⟩; exact ⟨h2, h3, h1⟩
      · rintro ⟨h2, h3, h1⟩; exact ⟨h1, h2, h3⟩
    · obtain rfl : i = L.length := by omega
      rw [List.take_length] at hK
      clear ih
      try refine gs_Wa ?_
      refine Rn.call (c_copied _ nb nr (Sl.up (by assumption) fr_Wa (by omega)) (Sl.up (by assumption) fr_Wa (by omega))) ?_
      rintro _ h4 N4 ⟨⟨b', r', K1, rfl, k1, k2, q1, q2⟩, f4, o4, l4⟩
      have s1 := q1.sl k2
      have s2 := q2.sl (Nat.le_refl _)
      have c1 := flatV_one s1.flat
      have c2 := flatV_one s2.flat
      have d1 := cel_flat s1.flat
      have d2 := cel_flat s2.flat
      have m4 : Mp h4 (N + 2) K := mp.keep sS_Wa
      have g4 : h4.get (N + 3) = some (.c [.map (some (N + 2))] 167) := sS_Wa
      have ef : s.reads.filter (fun x => !(fun x : Rd => decide (¬ x.Number ∈ K)) x) = woL s.reads L := by
        unfold woL
        refine List.filter_congr fun x hx => ?_
        have hz := hK x.Number
        have hm : x.Number ∈ s.reads.map (·.Number) := List.mem_map.2 ⟨x, hx, rfl⟩
        by_cases hxL : x.Number ∈ L
        · have : ¬ x.Number ∈ K := fun h => (hz.1 h).2 hxL
          simp [hxL, this]
        · have : x.Number ∈ K := hz.2 ⟨hm, hxL⟩
          simp [hxL, this]
      try refine gs_Wa ?_
      have w : ∃ i, N ≤ i ∧ i < N4 ∧ (K1 ≤ i ∨ i = N) ∧ ∀ h' : Tr Ob, (∀ j, K1 ≤ j → j < N4 → h'.get j = h4.get j) → Ow h' 71 r' s.reads i := by
        rcases q2 with ⟨rfl, e⟩ | ⟨i, g1, g2, o⟩
        · rw [e]; exact ⟨N, by omega, by omega, .inr rfl, fun h' _ => Ow.nil _ _ _⟩
        · exact ⟨i, by omega, g2, .inl g1, fun h' hk => o.keep (hk i g1 g2)⟩
      obtain ⟨i, i1, i2, i3, w⟩ := w
      refine Rn.call (Rn.eq (y := delF Pr 25 71 5 (Rwc.enc (⟨0, 0, 0, 0, 0⟩ : Rd)) [(107, F107)] (cN (d + 2)) r' (.func (.func 109) ⟨[]⟩ ⟨[.pointer (some ⟨N + 3, 0, none⟩)]⟩) _ _) rfl
        (delX_ok (α := Rd) (i := i) rfl ap_SReading ⟨0, 0, 0, 0, 0⟩ elz_rd (cN (d + 2)) (fun x => decide (¬ x.Number ∈ K)) (by omega) (w _ fun j g1 g2 => sS_Wa) (by omega) (fun x hx h5 N5 f5 l5 => ?_) (fun x hx h5 N5 f5 l5 => ?_))) ?_
      · rw [dyn_without1 _ _ rfl]
        exact c_without1 _ (c := N + 3) (i := N + 2) ((f5 _ (by omega) (by omega)).trans sS_Wa) (by omega) (by omega) (m4.keep ((f5 _ (by omega) (by omega)).trans sS_Wa))
      · rw [dyn_without1 _ _ rfl]
        exact c_without1 _ (c := N + 3) (i := N + 2) ((f5 _ (by omega) (by omega)).trans sS_Wa) (by omega) (by omega) (m4.keep ((f5 _ (by omega) (by omega)).trans sS_Wa))
      rintro r'' h5 N5 ⟨q3, f5, o5, l5⟩
      have q4 : Sl h5 N5 b' s.book := (q1.keep fun j g1 g2 => (o5 (by omega) (by omega)).trans sS_Wa).sl (by omega)
      rw [ef] at q3
      have s3 := q3.sl (N := N5) (by omega)
      have c3 := flatV_one s3.flat
      have d3 := cel_flat s3.flat
      try refine gs_Wa ?_
      refine Rn.ret ⟨⟨b', r'', rfl, ?_, ?_⟩, (Gw.of fr_Wa (by omega))⟩
      · refine (WrR.of (q1.keep fun j g1 g2 => ?_)).wide (by omega) (by omega)
        have e := (o5 (j := j) (by omega) (by omega)).trans (show _ = h4.get j from sS_Wa)
        exact sS_Wa
      · exact (q3.keep fun j g1 g2 => sS_Wa).wide (by omega) (by omega)
end
end Go.Proofs.Ytpilgokdbliklaa
end

section
namespace Go.Proofs.Ytpilgokdbliklaa
open Go.Ev Go.RowKit
set_option linter.unusedVariables false
set_option linter.unusedSimpArgs false
set_option linter.unusedSectionVars false
set_option maxRecDepth 100000
set_option maxHeartbeats 4000000
theorem s1_Wb {p : Prop} (h : p := by (simp (disch := omega) only [obind_s, orun_s, ocond_t, fad_p, ld1_e, ldN_e, sto_e, cellO_c, wrO_c, Tr.get_same, Tr.get_other, nth_0, nth_s, drp_0, drp_s, drp_n, tak_0, tak_s, tak_n, over_n, over_c, lay_0, lay_s, lay_n, len_n, len_c, app_n, app_c, reps_0, reps_s, cel_agg, cel_int, cel_bool, cel_str, cel_sl, cel_ptr, cel_map, cel_func, cel_nilf, fil_n, fil_c, beq_r, ble_d, allF_n, allF_c, one_int, one_bool, one_str, one_sl, one_ptr, one_map, one_func, one_nilf, Bool.and_true, Bool.true_and, Bool.not_true, Bool.not_false, iadA_z, Int.reduceToNat, Int.toNat_zero, fl1_a, flN_a, extr_t, unot, not_d, Nat.add_eq, Nat.mul_eq, Nat.mul_one, Nat.one_mul, Nat.zero_mul, Nat.reduceMul, Nat.zero_add, Nat.add_zero, Nat.le_refl, decide_true, Nat.reduceAdd, Nat.reduceLeDiff, bsl_Sint, bsl_SReading, bsl_SLine, bld_Span, bld_spring_work, bld_spring_asked, enc_Line, enc_Reading, ocond_d, Int.toNat_natCast, *]); first | done | fail) : p := h
theorem s2_Wb {p : Prop} (h : p := by (simp (disch := omega) only [obind_s, orun_s, ocond_t, fad_p, ld1_e, ldN_e, sto_e, cellO_c, wrO_c, Tr.get_same, Tr.get_other, nth_0, nth_s, drp_0, drp_s, drp_n, tak_0, tak_s, tak_n, over_n, over_c, lay_0, lay_s, lay_n, len_n, len_c, app_n, app_c, reps_0, reps_s, cel_agg, cel_int, cel_bool, cel_str, cel_sl, cel_ptr, cel_map, cel_func, cel_nilf, fil_n, fil_c, beq_r, ble_d, allF_n, allF_c, one_int, one_bool, one_str, one_sl, one_ptr, one_map, one_func, one_nilf, Bool.and_true, Bool.true_and, Bool.not_true, Bool.not_false, iadA_z, Int.reduceToNat, Int.toNat_zero, fl1_a, flN_a, extr_t, unot, not_d, Nat.add_eq, Nat.mul_eq, Nat.mul_one, Nat.one_mul, Nat.zero_mul, Nat.reduceMul, Nat.zero_add, Nat.add_zero, Nat.le_refl, decide_true, Nat.reduceAdd, Nat.reduceLeDiff, bsl_Sint, bsl_SReading, bsl_SLine, bld_Span, bld_spring_work, bld_spring_asked, enc_Line, enc_Reading, ocond_d, Int.toNat_natCast, *]); rfl) : p := h
theorem sb_Wb {p : Prop} (h : p := by first | ((simp (disch := omega) only [obind_s, orun_s, ocond_t, fad_p, ld1_e, ldN_e, sto_e, cellO_c, wrO_c, Tr.get_same, Tr.get_other, nth_0, nth_s, drp_0, drp_s, drp_n, tak_0, tak_s, tak_n, over_n, over_c, lay_0, lay_s, lay_n, len_n, len_c, app_n, app_c, reps_0, reps_s, cel_agg, cel_int, cel_bool, cel_str, cel_sl, cel_ptr, cel_map, cel_func, cel_nilf, fil_n, fil_c, beq_r, ble_d, allF_n, allF_c, one_int, one_bool, one_str, one_sl, one_ptr, one_map, one_func, one_nilf, Bool.and_true, Bool.true_and, Bool.not_true, Bool.not_false, iadA_z, Int.reduceToNat, Int.toNat_zero, fl1_a, flN_a, extr_t, unot, not_d, Nat.add_eq, Nat.mul_eq, Nat.mul_one, Nat.one_mul, Nat.zero_mul, Nat.reduceMul, Nat.zero_add, Nat.add_zero, Nat.le_refl, decide_true, Nat.reduceAdd, Nat.reduceLeDiff, bsl_Sint, bsl_SReading, bsl_SLine, bld_Span, bld_spring_work, bld_spring_asked, enc_Line, enc_Reading, ocond_d, Int.toNat_natCast, Nat.succ_eq_add_one, Nat.add_assoc, *]); rfl) | ((simp (disch := omega) only [obind_s, orun_s, ocond_t, fad_p, ld1_e, ldN_e, sto_e, cellO_c, wrO_c, Tr.get_same, Tr.get_other, nth_0, nth_s, drp_0, drp_s, drp_n, tak_0, tak_s, tak_n, over_n, over_c, lay_0, lay_s, lay_n, len_n, len_c, app_n, app_c, reps_0, reps_s, cel_agg, cel_int, cel_bool, cel_str, cel_sl, cel_ptr, cel_map, cel_func, cel_nilf, fil_n, fil_c, beq_r, ble_d, allF_n, allF_c, one_int, one_bool, one_str, one_sl, one_ptr, one_map, one_func, one_nilf, Bool.and_true, Bool.true_and, Bool.not_true, Bool.not_false, iadA_z, Int.reduceToNat, Int.toNat_zero, fl1_a, flN_a, extr_t, unot, not_d, Nat.add_eq, Nat.mul_eq, Nat.mul_one, Nat.one_mul, Nat.zero_mul, Nat.reduceMul, Nat.zero_add, Nat.add_zero, Nat.le_refl, decide_true, Nat.reduceAdd, Nat.reduceLeDiff, bsl_Sint, bsl_SReading, bsl_SLine, bld_Span, bld_spring_work, bld_spring_asked, enc_Line, enc_Reading, ocond_d, Int.toNat_natCast, Nat.succ_eq_add_one, Nat.add_assoc, *]); done)) : p := h
theorem fr_Wb {p : Prop} (h : p := by first | assumption | exact Fr.refl _ _ | (simp (disch := omega) only [Fr_set, Fr_refl, *])) : p := h
theorem fl_Wb {p : Prop} (h : p := by first | with_unfolding_all rfl | exact Sl.flat (by assumption) | assumption) : p := h
theorem fll_Wb {p : Prop} (h : p := by first | with_unfolding_all rfl | ((repeat (refine flatL_k fl_Wb ?_)); with_unfolding_all rfl)) : p := h
theorem en_Wb {p : Prop} (h : p := by first | ((simp only [enc_int, enc_str, enc_u8, enc_bool, tak_s, tak_0, tak_n, drp_0, drp_s, drp_n, nth_s, nth_0, bsl_Sint, bsl_SReading, bsl_SLine, bld_Span, bld_spring_work, bld_spring_asked, enc_Line, enc_Reading, ocond_d, Int.toNat_natCast]); rfl) | ((simp only [enc_int, enc_str, enc_u8, enc_bool, tak_s, tak_0, tak_n, drp_0, drp_s, drp_n, nth_s, nth_0, bsl_Sint, bsl_SReading, bsl_SLine, bld_Span, bld_spring_work, bld_spring_asked, enc_Line, enc_Reading, ocond_d, Int.toNat_natCast]); done) | with_unfolding_all rfl) : p := h
theorem sM_Wb {p : Prop} (h : p := by (first | assumption | (simp (disch := omega) only [Tr.get_same, Tr.get_other, *]; rfl) | (simp (disch := omega) only [Tr.get_same, Tr.get_other, *]; done))) : p := h
theorem sS_Wb {p : Prop} (h : p := by first | assumption | exact s1_Wb) : p := h
theorem op_Wb {p : Prop} (h : p := by first | with_reducible exact fad_p _ _ _ | with_reducible exact iop_lss _ _ | with_reducible exact iop_leq _ _ | with_reducible exact iop_gtr _ _ | with_reducible exact iop_geq _ _ | with_reducible exact iop_eql _ _ | with_reducible exact iop_neq _ _ | with_reducible exact Sl.len (by assumption) | with_reducible exact lenS_s _ _ _ | with_reducible exact Sl.iad (by assumption) (by with_unfolding_all rfl) (by first | assumption | omega) | with_reducible exact Sl.fad (by assumption) (by first | assumption | omega) | with_reducible exact Sl.ld1 (by assumption) fr_Wb (by with_unfolding_all rfl) (by assumption) en_Wb | with_reducible exact Sl.ldN (by assumption) fr_Wb (by with_unfolding_all rfl) (by assumption) (by with_unfolding_all rfl) en_Wb | with_reducible exact zadd1 (by omega) | with_reducible exact zsub1 (by omega) (by omega) | with_reducible exact zaddI (by omega) (by omega) | with_reducible exact zsubI (by omega) (by omega) | with_reducible exact min_z | with_reducible exact max_z | with_reducible exact zmulI (by assumption) | with_reducible exact zmulK (by omega) (by omega) | with_reducible exact quo_z (by omega) (by omega) (by omega) | with_reducible exact cv_u8 (by omega) | with_reducible exact rem_z (by omega) (by omega) (by omega) | with_reducible exact neq_bool (by kernel_rfl) | with_reducible exact eql_u8 | with_reducible exact wntT_t (by assumption) | with_reducible exact wntT_f (by assumption) | with_reducible exact wntF_t (by assumption) | with_reducible exact wntF_f (by assumption) | with_reducible exact wnt_tt | with_reducible exact wnt_tf | with_reducible exact wnt_ft | with_reducible exact wnt_ff | with_reducible exact wnt_u _ _ | with_reducible exact pck_t _ _ | with_reducible exact pck_f _ _ | with_reducible exact pckT (by assumption) | with_reducible exact pckF (by assumption) | with_reducible exact wntT_t (by decide) | with_reducible exact wntT_f (by decide) | with_reducible exact wntF_t (by decide) | with_reducible exact wntF_f (by decide) | with_reducible exact pckT (by decide) | with_reducible exact pckF (by decide) | with_reducible exact wntN_tt (by decide) | with_reducible exact wntN_tf (by decide) | with_reducible exact wntN_ft (by decide) | with_reducible exact wntN_ff (by decide) | with_reducible exact pckNT (by decide) | with_reducible exact pckNF (by decide) | with_reducible exact wntN_tt (by assumption) | with_reducible exact wntN_tf (by assumption) | with_reducible exact wntN_ft (by assumption) | with_reducible exact wntN_ff (by assumption) | with_reducible exact pckNT (by assumption) | with_reducible exact pckNF (by assumption) | with_reducible exact wntB_tt (by assumption) | with_reducible exact wntB_tf (by assumption) | with_reducible exact wntB_ft (by assumption) | with_reducible exact wntB_ff (by assumption) | with_reducible exact pckBT (by assumption) | with_reducible exact pckBF (by assumption) | exact s2_Wb | exact s1_Wb) : p := h
theorem co_Wb {p : Prop} (h : p := by first | (simp only [impB_1, impB_0, offB_1, offB_0]; done) | ((try simp only [impB_1, impB_0, offB_1, offB_0]); first | with_reducible exact Sl.ag1 (by assumption) fr_Wb (by with_unfolding_all rfl) (by assumption) en_Wb | with_reducible exact Sl.agN (by assumption) fr_Wb (by with_unfolding_all rfl) (by assumption) (by with_unfolding_all rfl) en_Wb | ((with_reducible refine agL1_e ?_ ?_); (· exact s1_Wb); (· exact fl_Wb)) | ((with_reducible refine agLN_e ?_ ?_); (· exact s1_Wb); (· exact fll_Wb)) | ((with_reducible apply ag_bs); (· exact sM_Wb); (· rfl); (· exact sb_Wb); (· exact fll_Wb)) | ((with_reducible apply ag_al); (· exact sM_Wb); (· rfl); (· exact fll_Wb)) | ((with_reducible apply ag_bx); (· exact sM_Wb); (· rfl); (· rfl); (· exact fll_Wb)) | ((with_reducible apply ag_bd); (· rfl); (· exact s1_Wb); (· exact fll_Wb)) | exact s1_Wb)) : p := h
theorem gs_Wb {r p : Prop} (k : r) (h : Go.Ev.Im r p := by (first | with_reducible apply Im.runS | ((with_reducible apply Im.num); · (simp only [Nat.succ_eq_add_one, Nat.add_assoc, Nat.reduceAdd]; rfl)) | (with_reducible apply Im.unm) | (with_reducible apply Im.selT) | (with_reducible apply Im.selF) | ((with_reducible apply Im.cndT); · assumption) | ((with_reducible apply Im.cndF); · assumption) | ((with_reducible apply Im.cndT); · decide) | ((with_reducible apply Im.cndF); · decide) | ((with_reducible apply Im.cndNT); · decide) | ((with_reducible apply Im.cndNF); · decide) | ((with_reducible apply Im.cndBT); · exact rfl) | ((with_reducible apply Im.cndBF); · exact rfl) | ((with_reducible apply Im.cndNT); · assumption) | ((with_reducible apply Im.cndNF); · assumption) | ((with_reducible apply Im.cndBT); · assumption) | ((with_reducible apply Im.cndBF); · assumption) | ((with_reducible apply Im.bind); · exact op_Wb) | ((with_reducible apply Im.cond); · exact co_Wb) | ((with_reducible apply Im.runB); · exact op_Wb) | ((with_reducible apply Im.runC); · exact co_Wb) | ((with_reducible apply Im.runN); · (simp only [Nat.succ_eq_add_one, Nat.add_assoc, Nat.reduceAdd]; rfl)) | with_reducible apply Im.runR | ((with_reducible apply Im.runE (x := evBuildSlice _ _ _ _ _ _)); · exact sb_Wb)); (repeat (first | with_reducible apply Im.runS | ((with_reducible apply Im.num); · (simp only [Nat.succ_eq_add_one, Nat.add_assoc, Nat.reduceAdd]; rfl)) | (with_reducible apply Im.unm) | (with_reducible apply Im.selT) | (with_reducible apply Im.selF) | ((with_reducible apply Im.cndT); · assumption) | ((with_reducible apply Im.cndF); · assumption) | ((with_reducible apply Im.cndT); · decide) | ((with_reducible apply Im.cndF); · decide) | ((with_reducible apply Im.cndNT); · decide) | ((with_reducible apply Im.cndNF); · decide) | ((with_reducible apply Im.cndBT); · exact rfl) | ((with_reducible apply Im.cndBF); · exact rfl) | ((with_reducible apply Im.cndNT); · assumption) | ((with_reducible apply Im.cndNF); · assumption) | ((with_reducible apply Im.cndBT); · assumption) | ((with_reducible apply Im.cndBF); · assumption) | ((with_reducible apply Im.bind); · exact op_Wb) | ((with_reducible apply Im.cond); · exact co_Wb) | ((with_reducible apply Im.runB); · exact op_Wb) | ((with_reducible apply Im.runC); · exact co_Wb) | ((with_reducible apply Im.runN); · (simp only [Nat.succ_eq_add_one, Nat.add_assoc, Nat.reduceAdd]; rfl)) | with_reducible apply Im.runR | ((with_reducible apply Im.runE (x := evBuildSlice _ _ _ _ _ _)); · exact sb_Wb))); exact Go.Ev.Im.id) : p := h k
def stB (R : List Rd) : Int → List Int → Bool
  | _, [] => true
  | p, n :: l => decide (p < n) && R.any (fun x => decide (x.Number = n)) && stB R n l
def stE (s : Sp) (L : List Int) : Int := if validB s then (if stB s.reads 0 L then 0 else 12) else 10
def stR (s : Sp) (L : List Int) : Sp := if stE s L = 0 then woS s L else zS
theorem c_strike1 (call : CallF) {x : Rd} {n : Int} {h : Tr Ob} {N c : Nat} (hc : h.get c = some (.c [iS n] 3)) (hcN : c < N) :
    Rn (s87 call (.agg ⟨Rwc.enc x⟩) (.pointer (some ⟨c, 0, none⟩)) h N) fun v h' N' => v = .bool (decide (x.Number = n)) ∧ Gw h N h' N' := by
  unfold s87
  simp only [enc_Reading]
  try refine gs_Wb ?_
  exact Rn.ret ⟨rfl, (Gw.of fr_Wb (by omega))⟩
theorem dyn_strike1 (d : Nat) (st : Ev.St) (hst : lookS st 87 = none) (y p : Value) (h : Tr Ob) (N : Nat) : callW st (cN (d + 1)) (.func (.func 87) ⟨[]⟩ ⟨[p]⟩) [y] h N = s87 (cN d) y p h N := by
  show (Option.rec (motive := fun _ => OpR) (cN (d + 1) (.func (.func 87) ⟨[]⟩ ⟨[p]⟩) [y] h N) (fun F => F (cN (d + 1)) (app [] (app [y] [p])) h N) (lookS st 87)) = _
  rw [hst]; rfl
theorem idxP_any {α : Type} [Rwc α] {p : α → Bool} (L : List α) : decide (0 ≤ idxP p L 0) = L.any p := by
  rcases idxP_spec p L 0 with ⟨h1, h2⟩ | ⟨j, h1, h2, ⟨x, h3, h4⟩, _⟩
  · rw [h1, h2]; rfl
  · rw [h1, decide_eq_true (by omega)]
    exact (List.any_eq_true.2 ⟨x, List.mem_of_getElem? h3, h4⟩).symm
theorem c_containsR (call : CallF) {fv v : Value} {L : List Rd} {h N} (p : Rd → Bool) (hl : L.length < 1000) (hs : Sl h N v L)
    (hp : ∀ x ∈ L, ∀ h1 N1, Fr h N h1 → N ≤ N1 → Rn (callW [] call fv [.agg ⟨Rwc.enc x⟩] h1 N1) fun u h2 N2 => u = .bool (p x) ∧ Gw h1 N1 h2 N2) :
    Rn (s88 call v fv h N) fun u h' N' => u = .bool (L.any p) ∧ Gw h N h' N' := by
  unfold s88
  refine Rn.call (Rn.eq (y := idxF 5 call v fv h N) rfl (idxF_ok rfl call p (by omega) hs hp)) ?_
  rintro _ h1 N1 ⟨rfl, f1, o1, l1⟩
  try refine gs_Wb ?_
  exact Rn.ret ⟨by rw [idxP_any], ⟨f1, o1, l1⟩⟩
section
variable {s : Sp} {b r : Value}
theorem c_Strike (d : Nat) {l : Value} {L : List Int} {h N} (nb : s.book.length < 1000) (nr : s.reads.length < 1000) (hb : Sl h N b s.book) (hr : Sl h N r s.reads) (hn : L.length < 1000) (hl : Sl h N l L) :
    Rn (s49 (cN (d + 3)) (.agg ⟨[iS s.weeks, iS s.most, iS s.fall, iS s.slo, iS s.shi, iS s.wlo, iS s.whi, b, r]⟩) l h N) fun v h' N' =>
      (∃ b' r', v = .tuple ⟨[.agg ⟨[iS (stR s L).weeks, iS (stR s L).most, iS (stR s L).fall, iS (stR s L).slo, iS (stR s L).shi, iS (stR s L).wlo, iS (stR s L).whi, b', r']⟩, iS (stE s L)]⟩ ∧ Sl h' N' b' (stR s L).book ∧ Sl h' N' r' (stR s L).reads) ∧ Gw h N h' N' := by
  unfold s49
  have cb := hb.flat; have cr := hr.flat; have x1 := flatV_one cb; have y1 := cel_flat cb; have x2 := flatV_one cr; have y2 := cel_flat cr
  have cl := hl.flat
  have x3 := flatV_one cl
  have y3 := cel_flat cl
  have zr : ∀ e : Int, e ≠ 0 → stE s L = e → stR s L = zS := fun e h1 h2 => if_neg (by rw [h2]; exact h1)
  try refine gs_Wb ?_
  refine Rn.call (c_begin d (q := qw 0 0) (L := []) nb nr (Sl.up (by assumption) fr_Wb (by omega)) (Sl.up (by assumption) fr_Wb (by omega)) (by simp) (Sl.nil _ _) (by simp)) ?_
  rintro _ h1 N1 ⟨⟨e0, hv, rfl⟩ | ⟨e0, rfl⟩, f1, o1, l1⟩
  · have hs := ok_of_valid hv
    try refine gs_Wb ?_
    refine Rn.loop7 (fun n a1 a2 a3 a4 a5 a6 a7 g M => ∃ (i : Nat) (p : Int), l = a1 ∧ a2 = .pointer (some ⟨N + 1, 0, none⟩) ∧ a3 = .pointer (some ⟨N1, 0, none⟩) ∧ a4 = iS p ∧ l = a5 ∧ a6 = nS L.length ∧ a7 = nS i ∧ i + n = L.length ∧ Fr h N g ∧ N1 + 1 ≤ M ∧
      g.get (N + 1) = some (.c [iS 0, iS 0, iS 0, iS 0, iS 0, iS 0, iS 0, .slice none 0 0, .slice none 0 0] 27) ∧ g.get N1 = some (.c [iS s.weeks, iS s.most, iS s.fall, iS s.slo, iS s.shi, iS s.wlo, iS s.whi, b, r] 106) ∧ stB s.reads 0 L = stB s.reads p (L.drop i)) L.length (by omega)
      ⟨0, 0, rfl, rfl, rfl, rfl, rfl, rfl, rfl, by omega, fr_Wb, by omega, sS_Wb, sS_Wb, rfl⟩ ?_
    rintro n g ih _ _ _ _ _ _ _ h2 N2 ⟨i, p, rfl, rfl, rfl, rfl, q0, rfl, rfl, e2, f2, l2, g1, g2, hB⟩
    subst q0
    try refine gs_Wb ?_
    (first | with_reducible refine Rn.cnd (fun _ => ?_) (fun _ => ?_) | with_reducible refine Rn.cndN (fun _ => ?_) (fun _ => ?_) | with_reducible refine Rn.cndB (fun _ => ?_) (fun _ => ?_))
    · obtain ⟨x, hx⟩ := at_of (L := L) (k := i) (by omega)
      have hi : i < L.length := by omega
      rw [drop_at hx] at hB
      simp only [stB] at hB
      by_cases hxp : x ≤ p
      · rw [decide_eq_false (by omega)] at hB
        have e1 : stE s L = 12 := by unfold stE; rw [hv, if_pos rfl, hB]; rfl
        rw [zr 12 (by decide) e1, e1]
        clear zr e1 ih
        try refine gs_Wb ?_
        exact Rn.ret ⟨⟨snil, snil, rfl, Sl.nil _ _, Sl.nil _ _⟩, (Gw.of fr_Wb (by omega))⟩
      · try refine gs_Wb ?_
        refine Rn.call (c_containsR _ (fun y => decide (y.Number = x)) (by omega) (Sl.up (by assumption) fr_Wb (by omega)) (fun y hy h3 N3 f3 l3 => ?_)) ?_
        · rw [dyn_strike1 _ _ rfl]
          exact c_strike1 _ (c := N2) ((f3 _ (by omega)).trans sS_Wb) (by omega)
        rintro _ h3 N3 ⟨rfl, f3, o3, l3⟩
        rw [decide_eq_true (by omega)] at hB
        cases hA : s.reads.any (fun y => decide (y.Number = x)) with
        | false =>
          rw [hA] at hB
          have e1 : stE s L = 12 := by unfold stE; rw [hv, if_pos rfl, hB]; rfl
          rw [zr 12 (by decide) e1, e1]
          clear zr e1 ih
          try refine gs_Wb ?_
          exact Rn.ret ⟨⟨snil, snil, rfl, Sl.nil _ _, Sl.nil _ _⟩, (Gw.of fr_Wb (by omega))⟩
        | true =>
          rw [hA] at hB
          clear zr
          try refine gs_Wb ?_
          exact ih (n - 1) (by omega) _ _ _ _ _ _ _ _ _ ⟨i + 1, x, rfl, rfl, rfl, rfl, rfl, rfl, rfl, by omega, fr_Wb, by omega, sS_Wb, sS_Wb, hB⟩
    · rw [List.drop_eq_nil_of_le (by omega)] at hB
      have e1 : stE s L = 0 := by unfold stE; rw [hv, if_pos rfl, hB]; rfl
      have e2 : stR s L = woS s L := if_pos e1
      rw [e1, e2]
      try refine gs_Wb ?_
      refine Rn.call (c_without (d + 1) nb nr (Sl.up (by assumption) fr_Wb (by omega)) (Sl.up (by assumption) fr_Wb (by omega)) hn (Sl.up (by assumption) fr_Wb (by omega))) ?_
      rintro _ h3 N3 ⟨⟨b', r', rfl, q1, q2⟩, f3, o3, l3⟩
      have k1 := q1.sl (Nat.le_refl _)
      have k2 := q2.sl (Nat.le_refl _)
      have c1 := flatV_one k1.flat
      have c2 := flatV_one k2.flat
      have d1 := cel_flat k1.flat
      have d2 := cel_flat k2.flat
      try refine gs_Wb ?_
      refine Rn.ret ⟨⟨b', r', rfl, ?_, ?_⟩, (Gw.of fr_Wb (by omega))⟩
      · exact (q1.keep fun j g1 g2 => sS_Wb).sl (by omega)
      · exact (q2.keep fun j g1 g2 => sS_Wb).sl (by omega)
  · have e1 : stE s L = 10 := by
      have : beginS s (qw 0 0) [] = if validB s then 0 else 10 := rfl
      rw [this] at e0
      unfold stE
      cases hv : validB s with
      | false => rfl
      | true => rw [hv] at e0; exact absurd rfl e0
    have e2 : beginS s (qw 0 0) [] = 10 := by
      have : beginS s (qw 0 0) [] = if validB s then 0 else 10 := rfl
      rw [this] at e0 ⊢
      cases hv : validB s with
      | false => rfl
      | true => rw [hv] at e0; exact absurd rfl e0
    rw [zr 10 (by decide) e1, e1, e2]
    try refine gs_Wb ?_
    exact Rn.ret ⟨⟨snil, snil, rfl, Sl.nil _ _, Sl.nil _ _⟩, (Gw.of fr_Wb (by omega))⟩
end
end Go.Proofs.Ytpilgokdbliklaa
end

section
namespace Go.Proofs.Ytpilgokdbliklaa
open Go.Ev Go.RowKit
set_option linter.unusedVariables false
set_option linter.unusedSimpArgs false
set_option linter.unusedSectionVars false
set_option maxRecDepth 100000
set_option maxHeartbeats 4000000
theorem rds_mono {w : Int} : ∀ (R : List Rd) (b c : Int), b ≤ c → rdsB w c R = true → rdsB w b R = true
  | [], _, _, _, _ => rfl
  | y :: l, b, c, h, h1 => by
    simp only [rdsB, Bool.and_eq_true, decide_eq_true_eq] at h1 ⊢
    exact ⟨⟨by omega, h1.1.2⟩, h1.2⟩
theorem wo_rds {w : Int} {L : List Int} : ∀ (R : List Rd) (b : Int), rdsB w b R = true → rdsB w b (woL R L) = true
  | [], _, _ => rfl
  | y :: l, b, h => by
    simp only [rdsB, Bool.and_eq_true, decide_eq_true_eq] at h
    have ih := wo_rds (L := L) l y.Number h.2
    unfold woL at ih ⊢
    rw [List.filter_cons]
    split
    · simp only [rdsB, Bool.and_eq_true, decide_eq_true_eq]
      exact ⟨h.1, ih⟩
    · exact rds_mono _ b y.Number (by omega) ih
theorem wo_valid {s : Sp} {L : List Int} (hv : validB s = true) : validB (woS s L) = true := by
  simp only [validB, readsB, Bool.and_eq_true, decide_eq_true_eq] at hv ⊢
  obtain ⟨⟨h1, h2⟩, h3, h4⟩ := hv
  refine ⟨⟨h1, h2⟩, ?_, wo_rds _ 0 h4⟩
  exact Nat.le_trans (List.length_filter_le _ _) h3
theorem wo_len (s : Sp) (L : List Int) : (woS s L).reads.length ≤ s.reads.length := List.length_filter_le _ _
section
variable {s : Sp} {b r : Value}
end
end Go.Proofs.Ytpilgokdbliklaa
end

section
namespace Go.Proofs.Ytpilgokdbliklaa
open Go.Ev Go.RowKit
set_option linter.unusedVariables false
set_option linter.unusedSimpArgs false
set_option linter.unusedSectionVars false
set_option maxRecDepth 100000
set_option maxHeartbeats 4000000
section
variable {s : Sp} {b r : Value}
end
end Go.Proofs.Ytpilgokdbliklaa
end

section
namespace Go.Proofs.Ytpilgokdbliklaa
open Go.Ev Go.RowKit
set_option linter.unusedVariables false
set_option linter.unusedSimpArgs false
set_option linter.unusedSectionVars false
set_option maxRecDepth 100000
set_option maxHeartbeats 4000000
open Go.Sx Go.ChangeShapes Go.WideShapes Go.ChangeAt
section
variable {H : Type} {enc : TypeId × Value → H} {P : Program} {w : World} {base : Nat} {spare : Nat → Bool} {held : Bool}
end
section
variable {H : Type} {enc : TypeId × Value → H} {w : World} {b0 : Nat} {spare : Nat → Bool} {held : Bool} {v : Value}
theorem ok_u16 (hv : Value.okWide Try.prog w .any b0 85 v) : ∃ z, v = .int .u16 z ∧ 0 ≤ z ∧ z < 65536 := by
  simp only [Value.okWide, Try.underlying85] at hv
  unfold Cell.okWide Cell.ok at hv
  rw [Try.underlying85] at hv
  cases v with
  | int k z =>
    obtain ⟨rfl, h⟩ := hv
    unfold IntKind.has at h
    have e1 : IntKind.u16.min = 0 := by decide
    have e2 : IntKind.u16.max = 65535 := by decide
    exact ⟨z, rfl, by omega, by omega⟩
  | _ => exact hv.elim
end
end Go.Proofs.Ytpilgokdbliklaa
end

section
namespace Go.Proofs.Ytpilgokdbliklaa
open Go.Ev Go.RowKit
set_option linter.unusedVariables false
set_option linter.unusedSimpArgs false
set_option linter.unusedSectionVars false
set_option maxRecDepth 100000
set_option maxHeartbeats 4000000
/-- The first list of so many numbers more, out of these readings in their order, without which there is a truth. -/
def chS (s : Sp) : Nat → List Rd → List Int → Option (List Int)
  | 0, _, K => if canS (woS s K) then some K else none
  | _ + 1, [], _ => none
  | d + 1, x :: R, K => match chS s d R (K ++ [x.Number]) with
    | some l => some l
    | none => chS s (d + 1) R K
/-- One list of numbers comes ahead of another one. -/
def lexI : List Int → List Int → Bool
  | [], _ => false
  | _ :: _, [] => false
  | a :: l, c :: m => if a = c then lexI l m else decide (a < c)
def befB (l m : List Int) : Bool := if l.length = m.length then lexI l m else decide (l.length < m.length)
theorem lexI_app : ∀ (K l m : List Int), lexI (K ++ l) (K ++ m) = lexI l m
  | [], _, _ => rfl
  | a :: K, l, m => by
    show (if a = a then lexI (K ++ l) (K ++ m) else decide (a < a)) = _
    rw [if_pos rfl, lexI_app K l m]
theorem lexI_irr : ∀ (l : List Int), lexI l l = false
  | [] => rfl
  | a :: l => by
    show (if a = a then lexI l l else decide (a < a)) = false
    rw [if_pos rfl, lexI_irr l]
section
variable {s : Sp}
/-- What it finds is a list of so many of them. -/
theorem chS_some : ∀ (R : List Rd) (d : Nat) (K l : List Int), chS s d R K = some l → canS (woS s l) = true ∧ ∃ o : List Rd, o.Sublist R ∧ o.length = d ∧ l = K ++ o.map (·.Number)
  | R, 0, K, l, h => by
    have h' : (if canS (woS s K) then some K else none) = some l := by
      cases R <;> exact h
    split at h'
    · cases h'; rename_i hc; exact ⟨hc, [], List.nil_sublist _, rfl, by simp⟩
    · cases h'
  | [], d + 1, K, l, h => by cases h
  | x :: R, d + 1, K, l, h => by
    simp only [chS] at h
    cases hq : chS s d R (K ++ [x.Number]) with
    | some m =>
      rw [hq] at h
      cases h
      obtain ⟨h1, o, h2, h3, h4⟩ := chS_some R d _ _ hq
      exact ⟨h1, x :: o, h2.cons_cons x, by simp [h3], by rw [h4]; simp⟩
    | none =>
      rw [hq] at h
      obtain ⟨h1, o, h2, h3, h4⟩ := chS_some R (d + 1) _ _ h
      exact ⟨h1, o, h2.cons x, h3, h4⟩
/-- It finds one, if there is one. -/
theorem chS_none : ∀ (R : List Rd) (d : Nat) (K : List Int), chS s d R K = none → ∀ o : List Rd, o.Sublist R → o.length = d → canS (woS s (K ++ o.map (·.Number))) = false
  | R, 0, K, h, o, _, ho => by
    obtain rfl : o = [] := List.length_eq_zero_iff.1 ho
    have h' : (if canS (woS s K) then some K else none) = (none : Option (List Int)) := by
      cases R <;> exact h
    split at h'
    · cases h'
    · rename_i hc
      simpa using hc
  | [], d + 1, K, _, o, hs, ho => by
    have := List.sublist_nil.1 hs
    subst this; cases ho
  | x :: R, d + 1, K, h, o, hs, ho => by
    simp only [chS] at h
    cases hq : chS s d R (K ++ [x.Number]) with
    | some m => rw [hq] at h; cases h
    | none =>
      rw [hq] at h
      cases hs with
      | cons _ hs => exact chS_none R (d + 1) K h o hs ho
      | cons_cons _ hs =>
        rename_i o'
        have := chS_none R d _ hq o' hs (by simpa using ho)
        simpa using this
theorem sub_gt {w : Int} : ∀ (R : List Rd) (b : Int), rdsB w b R = true → ∀ o : List Rd, o.Sublist R → ∀ x ∈ o, b < x.Number := by
  intro R b h o hs x hx
  exact rds_gt R b h x (hs.subset hx)
/-- It is the first of them. -/
theorem chS_first {w : Int} : ∀ (R : List Rd) (b : Int) (d : Nat) (K l : List Int), rdsB w b R = true → chS s d R K = some l → ∀ o : List Rd, o.Sublist R → o.length = d → canS (woS s (K ++ o.map (·.Number))) = true → lexI (K ++ o.map (·.Number)) l = false
  | R, _, 0, K, l, _, h, o, _, ho, _ => by
    obtain rfl : o = [] := List.length_eq_zero_iff.1 ho
    have h' : (if canS (woS s K) then some K else none) = some l := by
      cases R <;> exact h
    split at h'
    · cases h'; simp [lexI_irr]
    · cases h'
  | [], _, d + 1, K, l, _, h, _, _, _, _ => by cases h
  | x :: R, b, d + 1, K, l, hr, h, o, hs, ho, hc => by
    simp only [rdsB, Bool.and_eq_true, decide_eq_true_eq] at hr
    have hr2 := hr.2
    simp only [chS] at h
    cases hq : chS s d R (K ++ [x.Number]) with
    | some m =>
      rw [hq] at h
      cases h
      obtain ⟨_, o2, g1, g2, g3⟩ := chS_some R d _ _ hq
      cases hs with
      | cons _ hs =>
        rw [g3, List.append_assoc, lexI_app]
        cases o with
        | nil => cases ho
        | cons y o =>
          have := sub_gt R _ hr2 _ hs y (by simp)
          show (if y.Number = x.Number then _ else decide (y.Number < x.Number)) = false
          rw [if_neg (by omega), decide_eq_false (by omega)]
      | cons_cons _ hs =>
        rename_i o'
        have := chS_first R _ d _ _ hr2 hq o' hs (by simpa using ho) (by simpa using hc)
        simpa using this
    | none =>
      rw [hq] at h
      cases hs with
      | cons _ hs => exact chS_first R _ (d + 1) K l hr2 h o hs ho hc
      | cons_cons _ hs =>
        rename_i o'
        have := chS_none R d _ hq o' hs (by simpa using ho)
        rw [show (K ++ [x.Number]) ++ o'.map (·.Number) = K ++ (x :: o').map (·.Number) by simp] at this
        rw [this] at hc; cases hc
end
end Go.Proofs.Ytpilgokdbliklaa
end

section
namespace Go.Proofs.Ytpilgokdbliklaa
open Go.Ev Go.RowKit
set_option linter.unusedVariables false
set_option linter.unusedSimpArgs false
set_option linter.unusedSectionVars false
set_option maxRecDepth 100000
set_option maxHeartbeats 4000000
theorem s1_Xb {p : Prop} (h : p := by (simp (disch := omega) only [obind_s, orun_s, ocond_t, fad_p, ld1_e, ldN_e, sto_e, cellO_c, wrO_c, Tr.get_same, Tr.get_other, nth_0, nth_s, drp_0, drp_s, drp_n, tak_0, tak_s, tak_n, over_n, over_c, lay_0, lay_s, lay_n, len_n, len_c, app_n, app_c, reps_0, reps_s, cel_agg, cel_int, cel_bool, cel_str, cel_sl, cel_ptr, cel_map, cel_func, cel_nilf, fil_n, fil_c, beq_r, ble_d, allF_n, allF_c, one_int, one_bool, one_str, one_sl, one_ptr, one_map, one_func, one_nilf, Bool.and_true, Bool.true_and, Bool.not_true, Bool.not_false, iadA_z, Int.reduceToNat, Int.toNat_zero, fl1_a, flN_a, extr_t, unot, not_d, Nat.add_eq, Nat.mul_eq, Nat.mul_one, Nat.one_mul, Nat.zero_mul, Nat.reduceMul, Nat.zero_add, Nat.add_zero, Nat.le_refl, decide_true, Nat.reduceAdd, Nat.reduceLeDiff, bsl_Sint, bsl_SReading, bsl_SLine, bld_Span, bld_spring_work, bld_spring_asked, enc_Line, enc_Reading, ocond_d, Int.toNat_natCast, *]); first | done | fail) : p := h
theorem s2_Xb {p : Prop} (h : p := by (simp (disch := omega) only [obind_s, orun_s, ocond_t, fad_p, ld1_e, ldN_e, sto_e, cellO_c, wrO_c, Tr.get_same, Tr.get_other, nth_0, nth_s, drp_0, drp_s, drp_n, tak_0, tak_s, tak_n, over_n, over_c, lay_0, lay_s, lay_n, len_n, len_c, app_n, app_c, reps_0, reps_s, cel_agg, cel_int, cel_bool, cel_str, cel_sl, cel_ptr, cel_map, cel_func, cel_nilf, fil_n, fil_c, beq_r, ble_d, allF_n, allF_c, one_int, one_bool, one_str, one_sl, one_ptr, one_map, one_func, one_nilf, Bool.and_true, Bool.true_and, Bool.not_true, Bool.not_false, iadA_z, Int.reduceToNat, Int.toNat_zero, fl1_a, flN_a, extr_t, unot, not_d, Nat.add_eq, Nat.mul_eq, Nat.mul_one, Nat.one_mul, Nat.zero_mul, Nat.reduceMul, Nat.zero_add, Nat.add_zero, Nat.le_refl, decide_true, Nat.reduceAdd, Nat.reduceLeDiff, bsl_Sint, bsl_SReading, bsl_SLine, bld_Span, bld_spring_work, bld_spring_asked, enc_Line, enc_Reading, ocond_d, Int.toNat_natCast, *]); rfl) : p := h
theorem sb_Xb {p : Prop} (h : p := by first | ((simp (disch := omega) only [obind_s, orun_s, ocond_t, fad_p, ld1_e, ldN_e, sto_e, cellO_c, wrO_c, Tr.get_same, Tr.get_other, nth_0, nth_s, drp_0, drp_s, drp_n, tak_0, tak_s, tak_n, over_n, over_c, lay_0, lay_s, lay_n, len_n, len_c, app_n, app_c, reps_0, reps_s, cel_agg, cel_int, cel_bool, cel_str, cel_sl, cel_ptr, cel_map, cel_func, cel_nilf, fil_n, fil_c, beq_r, ble_d, allF_n, allF_c, one_int, one_bool, one_str, one_sl, one_ptr, one_map, one_func, one_nilf, Bool.and_true, Bool.true_and, Bool.not_true, Bool.not_false, iadA_z, Int.reduceToNat, Int.toNat_zero, fl1_a, flN_a, extr_t, unot, not_d, Nat.add_eq, Nat.mul_eq, Nat.mul_one, Nat.one_mul, Nat.zero_mul, Nat.reduceMul, Nat.zero_add, Nat.add_zero, Nat.le_refl, decide_true, Nat.reduceAdd, Nat.reduceLeDiff, bsl_Sint, bsl_SReading, bsl_SLine, bld_Span, bld_spring_work, bld_spring_asked, enc_Line, enc_Reading, ocond_d, Int.toNat_natCast, Nat.succ_eq_add_one, Nat.add_assoc, *]); rfl) | ((simp (disch := omega) only [obind_s, orun_s, ocond_t, fad_p, ld1_e, ldN_e, sto_e, cellO_c, wrO_c, Tr.get_same, Tr.get_other, nth_0, nth_s, drp_0, drp_s, drp_n, tak_0, tak_s, tak_n, over_n, over_c, lay_0, lay_s, lay_n, len_n, len_c, app_n, app_c, reps_0, reps_s, cel_agg, cel_int, cel_bool, cel_str, cel_sl, cel_ptr, cel_map, cel_func, cel_nilf, fil_n, fil_c, beq_r, ble_d, allF_n, allF_c, one_int, one_bool, one_str, one_sl, one_ptr, one_map, one_func, one_nilf, Bool.and_true, Bool.true_and, Bool.not_true, Bool.not_false, iadA_z, Int.reduceToNat, Int.toNat_zero, fl1_a, flN_a, extr_t, unot, not_d, Nat.add_eq, Nat.mul_eq, Nat.mul_one, Nat.one_mul, Nat.zero_mul, Nat.reduceMul, Nat.zero_add, Nat.add_zero, Nat.le_refl, decide_true, Nat.reduceAdd, Nat.reduceLeDiff, bsl_Sint, bsl_SReading, bsl_SLine, bld_Span, bld_spring_work, bld_spring_asked, enc_Line, enc_Reading, ocond_d, Int.toNat_natCast, Nat.succ_eq_add_one, Nat.add_assoc, *]); done)) : p := h
theorem fr_Xb {p : Prop} (h : p := by first | assumption | exact Fr.refl _ _ | (simp (disch := omega) only [Fr_set, Fr_refl, *])) : p := h
theorem fl_Xb {p : Prop} (h : p := by first | with_unfolding_all rfl | exact Sl.flat (by assumption) | assumption) : p := h
theorem fll_Xb {p : Prop} (h : p := by first | with_unfolding_all rfl | ((repeat (refine flatL_k fl_Xb ?_)); with_unfolding_all rfl)) : p := h
theorem en_Xb {p : Prop} (h : p := by first | ((simp only [enc_int, enc_str, enc_u8, enc_bool, tak_s, tak_0, tak_n, drp_0, drp_s, drp_n, nth_s, nth_0, bsl_Sint, bsl_SReading, bsl_SLine, bld_Span, bld_spring_work, bld_spring_asked, enc_Line, enc_Reading, ocond_d, Int.toNat_natCast]); rfl) | ((simp only [enc_int, enc_str, enc_u8, enc_bool, tak_s, tak_0, tak_n, drp_0, drp_s, drp_n, nth_s, nth_0, bsl_Sint, bsl_SReading, bsl_SLine, bld_Span, bld_spring_work, bld_spring_asked, enc_Line, enc_Reading, ocond_d, Int.toNat_natCast]); done) | with_unfolding_all rfl) : p := h
theorem sM_Xb {p : Prop} (h : p := by (first | assumption | (simp (disch := omega) only [Tr.get_same, Tr.get_other, *]; rfl) | (simp (disch := omega) only [Tr.get_same, Tr.get_other, *]; done))) : p := h
theorem sS_Xb {p : Prop} (h : p := by first | assumption | exact s1_Xb) : p := h
theorem op_Xb {p : Prop} (h : p := by first | with_reducible exact fad_p _ _ _ | with_reducible exact iop_lss _ _ | with_reducible exact iop_leq _ _ | with_reducible exact iop_gtr _ _ | with_reducible exact iop_geq _ _ | with_reducible exact iop_eql _ _ | with_reducible exact iop_neq _ _ | with_reducible exact Sl.len (by assumption) | with_reducible exact lenS_s _ _ _ | with_reducible exact Sl.iad (by assumption) (by with_unfolding_all rfl) (by first | assumption | omega) | with_reducible exact Sl.fad (by assumption) (by first | assumption | omega) | with_reducible exact Sl.ld1 (by assumption) fr_Xb (by with_unfolding_all rfl) (by assumption) en_Xb | with_reducible exact Sl.ldN (by assumption) fr_Xb (by with_unfolding_all rfl) (by assumption) (by with_unfolding_all rfl) en_Xb | with_reducible exact zadd1 (by omega) | with_reducible exact zsub1 (by omega) (by omega) | with_reducible exact zaddI (by omega) (by omega) | with_reducible exact zsubI (by omega) (by omega) | with_reducible exact min_z | with_reducible exact max_z | with_reducible exact zmulI (by assumption) | with_reducible exact zmulK (by omega) (by omega) | with_reducible exact quo_z (by omega) (by omega) (by omega) | with_reducible exact cv_u8 (by omega) | with_reducible exact rem_z (by omega) (by omega) (by omega) | with_reducible exact neq_bool (by kernel_rfl) | with_reducible exact eql_u8 | with_reducible exact wntT_t (by assumption) | with_reducible exact wntT_f (by assumption) | with_reducible exact wntF_t (by assumption) | with_reducible exact wntF_f (by assumption) | with_reducible exact wnt_tt | with_reducible exact wnt_tf | with_reducible exact wnt_ft | with_reducible exact wnt_ff | with_reducible exact wnt_u _ _ | with_reducible exact pck_t _ _ | with_reducible exact pck_f _ _ | with_reducible exact pckT (by assumption) | with_reducible exact pckF (by assumption) | with_reducible exact wntT_t (by decide) | with_reducible exact wntT_f (by decide) | with_reducible exact wntF_t (by decide) | with_reducible exact wntF_f (by decide) | with_reducible exact pckT (by decide) | with_reducible exact pckF (by decide) | with_reducible exact wntN_tt (by decide) | with_reducible exact wntN_tf (by decide) | with_reducible exact wntN_ft (by decide) | with_reducible exact wntN_ff (by decide) | with_reducible exact pckNT (by decide) | with_reducible exact pckNF (by decide) | with_reducible exact wntN_tt (by assumption) | with_reducible exact wntN_tf (by assumption) | with_reducible exact wntN_ft (by assumption) | with_reducible exact wntN_ff (by assumption) | with_reducible exact pckNT (by assumption) | with_reducible exact pckNF (by assumption) | with_reducible exact wntB_tt (by assumption) | with_reducible exact wntB_tf (by assumption) | with_reducible exact wntB_ft (by assumption) | with_reducible exact wntB_ff (by assumption) | with_reducible exact pckBT (by assumption) | with_reducible exact pckBF (by assumption) | exact s2_Xb | exact s1_Xb) : p := h
theorem co_Xb {p : Prop} (h : p := by first | (simp only [impB_1, impB_0, offB_1, offB_0]; done) | ((try simp only [impB_1, impB_0, offB_1, offB_0]); first | with_reducible exact Sl.ag1 (by assumption) fr_Xb (by with_unfolding_all rfl) (by assumption) en_Xb | with_reducible exact Sl.agN (by assumption) fr_Xb (by with_unfolding_all rfl) (by assumption) (by with_unfolding_all rfl) en_Xb | ((with_reducible refine agL1_e ?_ ?_); (· exact s1_Xb); (· exact fl_Xb)) | ((with_reducible refine agLN_e ?_ ?_); (· exact s1_Xb); (· exact fll_Xb)) | ((with_reducible apply ag_bs); (· exact sM_Xb); (· rfl); (· exact sb_Xb); (· exact fll_Xb)) | ((with_reducible apply ag_al); (· exact sM_Xb); (· rfl); (· exact fll_Xb)) | ((with_reducible apply ag_bx); (· exact sM_Xb); (· rfl); (· rfl); (· exact fll_Xb)) | ((with_reducible apply ag_bd); (· rfl); (· exact s1_Xb); (· exact fll_Xb)) | exact s1_Xb)) : p := h
theorem gs_Xb {r p : Prop} (k : r) (h : Go.Ev.Im r p := by (first | with_reducible apply Im.runS | ((with_reducible apply Im.num); · (simp only [Nat.succ_eq_add_one, Nat.add_assoc, Nat.reduceAdd]; rfl)) | (with_reducible apply Im.unm) | (with_reducible apply Im.selT) | (with_reducible apply Im.selF) | ((with_reducible apply Im.cndT); · assumption) | ((with_reducible apply Im.cndF); · assumption) | ((with_reducible apply Im.cndT); · decide) | ((with_reducible apply Im.cndF); · decide) | ((with_reducible apply Im.cndNT); · decide) | ((with_reducible apply Im.cndNF); · decide) | ((with_reducible apply Im.cndBT); · exact rfl) | ((with_reducible apply Im.cndBF); · exact rfl) | ((with_reducible apply Im.cndNT); · assumption) | ((with_reducible apply Im.cndNF); · assumption) | ((with_reducible apply Im.cndBT); · assumption) | ((with_reducible apply Im.cndBF); · assumption) | ((with_reducible apply Im.bind); · exact op_Xb) | ((with_reducible apply Im.cond); · exact co_Xb) | ((with_reducible apply Im.runB); · exact op_Xb) | ((with_reducible apply Im.runC); · exact co_Xb) | ((with_reducible apply Im.runN); · (simp only [Nat.succ_eq_add_one, Nat.add_assoc, Nat.reduceAdd]; rfl)) | with_reducible apply Im.runR | ((with_reducible apply Im.runE (x := evBuildSlice _ _ _ _ _ _)); · exact sb_Xb)); (repeat (first | with_reducible apply Im.runS | ((with_reducible apply Im.num); · (simp only [Nat.succ_eq_add_one, Nat.add_assoc, Nat.reduceAdd]; rfl)) | (with_reducible apply Im.unm) | (with_reducible apply Im.selT) | (with_reducible apply Im.selF) | ((with_reducible apply Im.cndT); · assumption) | ((with_reducible apply Im.cndF); · assumption) | ((with_reducible apply Im.cndT); · decide) | ((with_reducible apply Im.cndF); · decide) | ((with_reducible apply Im.cndNT); · decide) | ((with_reducible apply Im.cndNF); · decide) | ((with_reducible apply Im.cndBT); · exact rfl) | ((with_reducible apply Im.cndBF); · exact rfl) | ((with_reducible apply Im.cndNT); · assumption) | ((with_reducible apply Im.cndNF); · assumption) | ((with_reducible apply Im.cndBT); · assumption) | ((with_reducible apply Im.cndBF); · assumption) | ((with_reducible apply Im.bind); · exact op_Xb) | ((with_reducible apply Im.cond); · exact co_Xb) | ((with_reducible apply Im.runB); · exact op_Xb) | ((with_reducible apply Im.runC); · exact co_Xb) | ((with_reducible apply Im.runN); · (simp only [Nat.succ_eq_add_one, Nat.add_assoc, Nat.reduceAdd]; rfl)) | with_reducible apply Im.runR | ((with_reducible apply Im.runE (x := evBuildSlice _ _ _ _ _ _)); · exact sb_Xb))); exact Go.Ev.Im.id) : p := h k
abbrev clo (n : Nat) : Value := .func (.func 106) ⟨[]⟩ ⟨[.pointer (some ⟨n + 2, 0, none⟩), .pointer (some ⟨n + 1, 0, none⟩), .pointer (some ⟨n, 0, none⟩), .pointer (some ⟨n + 3, 0, none⟩)]⟩
theorem dyn_struck1 (d : Nat) (st : Ev.St) (hst : lookS st 106 = none) (a : Value) (n : Nat) (h : Tr Ob) (N : Nat) : callW st (cN (d + 1)) (clo n) [a] h N = s106 (cN d) a (.pointer (some ⟨n + 2, 0, none⟩)) (.pointer (some ⟨n + 1, 0, none⟩)) (.pointer (some ⟨n, 0, none⟩)) (.pointer (some ⟨n + 3, 0, none⟩)) h N := by
  show (Option.rec (motive := fun _ => OpR) (cN (d + 1) (clo n) [a] h N) (fun F => F (cN (d + 1)) (app [] (app [a] [.pointer (some ⟨n + 2, 0, none⟩), .pointer (some ⟨n + 1, 0, none⟩), .pointer (some ⟨n, 0, none⟩), .pointer (some ⟨n + 3, 0, none⟩)])) h N) (lookS st 106)) = _
  rw [hst]; rfl
theorem dyn_struck0 (call : CallF) (a : Value) (n : Nat) (h : Tr Ob) (N : Nat) : callW [(106, F106)] call (clo n) [a] h N = s106 call a (.pointer (some ⟨n + 2, 0, none⟩)) (.pointer (some ⟨n + 1, 0, none⟩)) (.pointer (some ⟨n, 0, none⟩)) (.pointer (some ⟨n + 3, 0, none⟩)) h N := rfl
def Wy (g : Tr Ob) (M n : Nat) (v : Value) (K : List Int) : Prop := (v = .slice none 0 0 ∧ K = []) ∨ ∃ i, n + 4 ≤ i ∧ i < M ∧ Wx g 3 v K i
theorem Wy.sl {g : Tr Ob} {M n : Nat} {v : Value} {K : List Int} (o : Wy g M n v K) : Sl g M v K := by
  rcases o with ⟨rfl, rfl⟩ | ⟨i, _, hi, o⟩
  · exact Sl.nil _ _
  · exact o.sl hi
theorem Wy.keep {g g' : Tr Ob} {M M' n : Nat} {v : Value} {K : List Int} (o : Wy g M n v K) (hm : M ≤ M') (hk : ∀ j, n + 4 ≤ j → j < M → g'.get j = g.get j) : Wy g' M' n v K := by
  rcases o with e | ⟨i, h1, h2, o⟩
  · exact .inl e
  · exact .inr ⟨i, h1, by omega, o.keep (hk i h1 h2)⟩
theorem Wy.own {g : Tr Ob} {M n : Nat} {v : Value} {K : List Int} (o : Wy g M n v K) (hm : n + 4 ≤ M) : ∃ i, n + 4 ≤ i ∧ i < M + 1 ∧ ∀ g' : Tr Ob, (∀ j, n + 4 ≤ j → j < M → g'.get j = g.get j) → Wx g' 3 v K i := by
  rcases o with ⟨rfl, rfl⟩ | ⟨i, h1, h2, o⟩
  · exact ⟨M, hm, by omega, fun g' _ => Wx.nil _ _ _⟩
  · exact ⟨i, h1, by omega, fun g' hk => o.keep (hk i h1 h2)⟩
/-- The cells that the search shares. -/
structure Cs (s : Sp) (b r : Value) (h0 : Tr Ob) (n many : Nat) (g : Tr Ob) (M : Nat) (v : Value) (K : List Int) : Prop where
  fr : Fr h0 n g
  le : n + 4 ≤ M
  g0 : g.get n = some (.c [iS s.weeks, iS s.most, iS s.fall, iS s.slo, iS s.shi, iS s.wlo, iS s.whi, b, r] 106)
  g1 : g.get (n + 1) = some (.c [nS many] 3)
  g2 : g.get (n + 2) = some (.c [v] 35)
  g3 : g.get (n + 3) = some (.c [clo n] 165)
  w : Wy g M n v K
theorem Cs.up {s : Sp} {b r : Value} {h0 : Tr Ob} {n many : Nat} {g g' : Tr Ob} {M M' : Nat} {v : Value} {K : List Int} (c : Cs s b r h0 n many g M v K) (hm : M ≤ M') (hk : ∀ j, j < M → g'.get j = g.get j) : Cs s b r h0 n many g' M' v K := by
  have hl := c.le
  exact ⟨fun j hj => (hk j (by omega)).trans (c.fr j hj), by omega, (hk _ (by omega)).trans c.g0, (hk _ (by omega)).trans c.g1, (hk _ (by omega)).trans c.g2, (hk _ (by omega)).trans c.g3, c.w.keep hm fun j _ h2 => hk j h2⟩
section
variable {s : Sp} {b r : Value}
theorem c_choose {h0 : Tr Ob} {n many : Nat} (hv : validB s = true) (hb : Sl h0 n b s.book) (hr : Sl h0 n r s.reads) (hmany : many ≤ 10) : ∀ (dep e : Nat) (K : List Int) (k : Nat) (v : Value) (h : Tr Ob) (N : Nat), K.length + dep = many → k ≤ s.reads.length → Cs s b r h0 n many h N v K →
    Rn (s106 (cN (e + dep + 2)) (nS k) (.pointer (some ⟨n + 2, 0, none⟩)) (.pointer (some ⟨n + 1, 0, none⟩)) (.pointer (some ⟨n, 0, none⟩)) (.pointer (some ⟨n + 3, 0, none⟩)) h N) fun u h' N' => ∃ v', u = .bool (chS s dep (s.reads.drop k) K).isSome ∧ Cs s b r h0 n many h' N' v' ((chS s dep (s.reads.drop k) K).getD K) ∧ N ≤ N'
  | 0, e, K, k, v, h, N, hK, hk, C => by
    have hs := ok_of_valid hv
    have nb : s.book.length < 1000 := by have := hs.nb; omega
    have nr : s.reads.length < 1000 := by have := hs.nr; omega
    have hl := C.le
    have q0 := C.g0
    have q1 := C.g1
    have q2 := C.g2
    have sv := C.w.sl
    have f0 := C.fr
    have e1 : (K.length : Int) = (many : Int) := by omega
    unfold s106
    have cb := hb.flat; have cr := hr.flat; have x1 := flatV_one cb; have y1 := cel_flat cb; have x2 := flatV_one cr; have y2 := cel_flat cr
    have c3 := sv.flat
    have x3 := flatV_one c3
    have y3 := cel_flat c3
    try refine gs_Xb ?_
    refine Rn.call (c_without e nb nr (Sl.up (by assumption) fr_Xb (by omega)) (Sl.up (by assumption) fr_Xb (by omega)) (by omega) sv) ?_
    rintro _ h1 N1 ⟨⟨b', r', rfl, w1, w2⟩, f1, o1, l1⟩
    have k1 := w1.sl (Nat.le_refl _)
    have k2 := w2.sl (Nat.le_refl _)
    have c4 := k1.flat
    have c5 := k2.flat
    have x4 := flatV_one c4
    have y4 := cel_flat c4
    have x5 := flatV_one c5
    have y5 := cel_flat c5
    try refine gs_Xb ?_
    refine Rn.call (c_can e (s := woS s K) (ok_of_valid (wo_valid hv)) (Sl.up (by assumption) fr_Xb (by omega)) (Sl.up (by assumption) fr_Xb (by omega))) ?_
    rintro _ h2 N2 ⟨rfl, f2, o2, l2⟩
    try refine gs_Xb ?_
    have ec : chS s 0 (s.reads.drop k) K = if canS (woS s K) then some K else none := by cases s.reads.drop k <;> rfl
    rw [ec]
    refine Rn.ret ⟨v, ?_, ?_, by omega⟩
    · cases canS (woS s K) <;> rfl
    · have e2 : (if canS (woS s K) = true then some K else none).getD K = K := by cases canS (woS s K) <;> rfl
      rw [e2]
      exact C.up (by omega) fun j hj => (o2 (by omega)).trans (o1 hj)
  | dep + 1, e, K, k, v, h, N, hK, hk, C => by
    have hs := ok_of_valid hv
    have nb : s.book.length < 1000 := by have := hs.nb; omega
    have nr : s.reads.length < 1000 := by have := hs.nr; omega
    have hl := C.le
    have q0 := C.g0
    have q1 := C.g1
    have q2 := C.g2
    have sv := C.w.sl
    have f0 := C.fr
    have e1 : ¬ (K.length : Int) = (many : Int) := by omega
    unfold s106
    have cb := hb.flat; have cr := hr.flat; have x1 := flatV_one cb; have y1 := cel_flat cb; have x2 := flatV_one cr; have y2 := cel_flat cr
    have c3 := sv.flat
    have x3 := flatV_one c3
    have y3 := cel_flat c3
    try refine gs_Xb ?_
    refine Rn.loop4 (fun m a1 a2 a3 a4 g M => ∃ (i : Nat) (v : Value), a1 = .pointer (some ⟨n + 2, 0, none⟩) ∧ a2 = .pointer (some ⟨n, 0, none⟩) ∧ a3 = .pointer (some ⟨n + 3, 0, none⟩) ∧ a4 = nS i ∧ i + m = s.reads.length ∧ N ≤ M ∧ Cs s b r h0 n many g M v K ∧ chS s (dep + 1) (s.reads.drop i) K = chS s (dep + 1) (s.reads.drop k) K) (s.reads.length - k) (by omega) ⟨k, v, rfl, rfl, rfl, rfl, by omega, Nat.le_refl _, C, rfl⟩ ?_
    clear C q0 q1 q2 sv f0 c3 x3 y3 hl
    rintro m g ih _ _ _ _ h2 N2 ⟨i, v2, rfl, rfl, rfl, rfl, e2, l2, C, q5⟩
    have hl := C.le
    have q0 := C.g0
    have q1 := C.g1
    have q2 := C.g2
    have q3 := C.g3
    have sv := C.w.sl
    have f0 := C.fr
    have c3 := sv.flat
    have x3 := flatV_one c3
    have y3 := cel_flat c3
    try refine gs_Xb ?_
    (first | with_reducible refine Rn.cnd (fun _ => ?_) (fun _ => ?_) | with_reducible refine Rn.cndN (fun _ => ?_) (fun _ => ?_) | with_reducible refine Rn.cndB (fun _ => ?_) (fun _ => ?_))
    · obtain ⟨x, hx⟩ := at_of (L := s.reads) (k := i) (by omega)
      have hi : i < s.reads.length := by omega
      rw [drop_at hx] at q5
      simp only [chS] at q5
      obtain ⟨j, j1, j2, own⟩ := C.w.own C.le
      try refine gs_Xb ?_
      refine Rn.call (Wx.app (x := x.Number) (i := j) ap_Sint (own _ fun k g1 g2 => sS_Xb) (by omega) (Sl.lit [x.Number] sM_Xb (by omega : N2 < N2 + 1) rfl rfl) (Fr.refl _ _) (by omega)) ?_
      rintro v3 h3 N3 ⟨j', w3, j3, j4, f3, o3, l3⟩
      have sv3 := w3.sl j4
      have c4 := sv3.flat
      have x4 := flatV_one c4
      have y4 := cel_flat c4
      try refine gs_Xb ?_
      refine Rn.call (Rn.eq (dyn_struck1 (e + dep + 2) _ rfl _ n _ _) (c_choose hv hb hr hmany dep e (K ++ [x.Number]) (i + 1) v3 _ N3 (by simp; omega) (by omega) ⟨fr_Xb, by omega, sS_Xb, sS_Xb, sS_Xb, sS_Xb, .inr ⟨j', by omega, j4, w3.keep sS_Xb⟩⟩)) ?_
      rintro _ h4 N4 ⟨v4, rfl, C4, l4⟩
      cases hq : chS s dep (s.reads.drop (i + 1)) (K ++ [x.Number]) with
      | some l =>
        rw [hq] at q5 C4
        try refine gs_Xb ?_
        refine Rn.ret ⟨v4, ?_, ?_, by omega⟩
        · rw [← q5]; rfl
        · rw [← q5]; exact C4
      | none =>
        rw [hq] at q5 C4
        have C4 : Cs s b r h0 n many h4 N4 v4 (K ++ [x.Number]) := C4
        have sv4 := C4.w.sl
        have c5 := sv4.flat
        have x5 := flatV_one c5
        have y5 := cel_flat c5
        have t0 := C4.g0
        have t1 := C4.g1
        have t2 := C4.g2
        have t3 := C4.g3
        have tf := C4.fr
        have e7 : iop .sub (nS (K ++ [x.Number]).length) (.int .i64 1) = some (nS K.length) := (zsub1 (by simp; omega) (by simp)).trans (by simp)
        obtain ⟨z, z1, z2, v5, e8, w5⟩ : ∃ z, n + 4 ≤ z ∧ z < N4 ∧ ∃ v5, evSlice Pr 35 v4 none (some (nS K.length)) none = some v5 ∧ Wx h4 3 v5 K z := by
          rcases C4.w with ⟨_, e⟩ | ⟨z, z1, z2, o⟩
          · exact absurd e (by simp)
          · exact ⟨z, z1, z2, o.cut (sizeB_of ap_Sint).1 (sizeB_of ap_Sint).2⟩
        have sv5 := w5.sl z2
        have c6 := sv5.flat
        have x6 := flatV_one c6
        have y6 := cel_flat c6
        try refine gs_Xb ?_
        exact ih (m - 1) (by omega) _ _ _ _ _ _ ⟨i + 1, v5, rfl, rfl, rfl, rfl, by omega, by omega, ⟨fr_Xb, by omega, sS_Xb, sS_Xb, sS_Xb, sS_Xb, .inr ⟨z, z1, z2, w5.keep sS_Xb⟩⟩, q5⟩
    · rw [List.drop_eq_nil_of_le (by omega)] at q5
      simp only [chS] at q5
      try refine gs_Xb ?_
      refine Rn.ret ⟨v2, ?_, ?_, l2⟩
      · rw [← q5]; rfl
      · rw [← q5]; exact C
end
end Go.Proofs.Ytpilgokdbliklaa
end

section
namespace Go.Proofs.Ytpilgokdbliklaa
open Go.Ev Go.RowKit
set_option linter.unusedVariables false
set_option linter.unusedSimpArgs false
set_option linter.unusedSectionVars false
set_option maxRecDepth 100000
set_option maxHeartbeats 4000000
theorem s1_Xc {p : Prop} (h : p := by (simp (disch := omega) only [obind_s, orun_s, ocond_t, fad_p, ld1_e, ldN_e, sto_e, cellO_c, wrO_c, Tr.get_same, Tr.get_other, nth_0, nth_s, drp_0, drp_s, drp_n, tak_0, tak_s, tak_n, over_n, over_c, lay_0, lay_s, lay_n, len_n, len_c, app_n, app_c, reps_0, reps_s, cel_agg, cel_int, cel_bool, cel_str, cel_sl, cel_ptr, cel_map, cel_func, cel_nilf, fil_n, fil_c, beq_r, ble_d, allF_n, allF_c, one_int, one_bool, one_str, one_sl, one_ptr, one_map, one_func, one_nilf, Bool.and_true, Bool.true_and, Bool.not_true, Bool.not_false, iadA_z, Int.reduceToNat, Int.toNat_zero, fl1_a, flN_a, extr_t, unot, not_d, Nat.add_eq, Nat.mul_eq, Nat.mul_one, Nat.one_mul, Nat.zero_mul, Nat.reduceMul, Nat.zero_add, Nat.add_zero, Nat.le_refl, decide_true, Nat.reduceAdd, Nat.reduceLeDiff, bsl_Sint, bsl_SReading, bsl_SLine, bld_Span, bld_spring_work, bld_spring_asked, enc_Line, enc_Reading, ocond_d, Int.toNat_natCast, *]); first | done | fail) : p := h
theorem s2_Xc {p : Prop} (h : p := by (simp (disch := omega) only [obind_s, orun_s, ocond_t, fad_p, ld1_e, ldN_e, sto_e, cellO_c, wrO_c, Tr.get_same, Tr.get_other, nth_0, nth_s, drp_0, drp_s, drp_n, tak_0, tak_s, tak_n, over_n, over_c, lay_0, lay_s, lay_n, len_n, len_c, app_n, app_c, reps_0, reps_s, cel_agg, cel_int, cel_bool, cel_str, cel_sl, cel_ptr, cel_map, cel_func, cel_nilf, fil_n, fil_c, beq_r, ble_d, allF_n, allF_c, one_int, one_bool, one_str, one_sl, one_ptr, one_map, one_func, one_nilf, Bool.and_true, Bool.true_and, Bool.not_true, Bool.not_false, iadA_z, Int.reduceToNat, Int.toNat_zero, fl1_a, flN_a, extr_t, unot, not_d, Nat.add_eq, Nat.mul_eq, Nat.mul_one, Nat.one_mul, Nat.zero_mul, Nat.reduceMul, Nat.zero_add, Nat.add_zero, Nat.le_refl, decide_true, Nat.reduceAdd, Nat.reduceLeDiff, bsl_Sint, bsl_SReading, bsl_SLine, bld_Span, bld_spring_work, bld_spring_asked, enc_Line, enc_Reading, ocond_d, Int.toNat_natCast, *]); rfl) : p := h
theorem sb_Xc {p : Prop} (h : p := by first | ((simp (disch := omega) only [obind_s, orun_s, ocond_t, fad_p, ld1_e, ldN_e, sto_e, cellO_c, wrO_c, Tr.get_same, Tr.get_other, nth_0, nth_s, drp_0, drp_s, drp_n, tak_0, tak_s, tak_n, over_n, over_c, lay_0, lay_s, lay_n, len_n, len_c, app_n, app_c, reps_0, reps_s, cel_agg, cel_int, cel_bool, cel_str, cel_sl, cel_ptr, cel_map, cel_func, cel_nilf, fil_n, fil_c, beq_r, ble_d, allF_n, allF_c, one_int, one_bool, one_str, one_sl, one_ptr, one_map, one_func, one_nilf, Bool.and_true, Bool.true_and, Bool.not_true, Bool.not_false, iadA_z, Int.reduceToNat, Int.toNat_zero, fl1_a, flN_a, extr_t, unot, not_d, Nat.add_eq, Nat.mul_eq, Nat.mul_one, Nat.one_mul, Nat.zero_mul, Nat.reduceMul, Nat.zero_add, Nat.add_zero, Nat.le_refl, decide_true, Nat.reduceAdd, Nat.reduceLeDiff, bsl_Sint, bsl_SReading, bsl_SLine, bld_Span, bld_spring_work, bld_spring_asked, enc_Line, enc_Reading, ocond_d, Int.toNat_natCast, Nat.succ_eq_add_one, Nat.add_assoc, *]); rfl) | ((simp (disch := omega) only [obind_s, orun_s, ocond_t, fad_p, ld1_e, ldN_e, sto_e, cellO_c, wrO_c, Tr.get_same, Tr.get_other, nth_0, nth_s, drp_0, drp_s, drp_n, tak_0, tak_s, tak_n, over_n, over_c, lay_0, lay_s, lay_n, len_n, len_c, app_n, app_c, reps_0, reps_s, cel_agg, cel_int, cel_bool, cel_str, cel_sl, cel_ptr, cel_map, cel_func, cel_nilf, fil_n, fil_c, beq_r, ble_d, allF_n, allF_c, one_int, one_bool, one_str, one_sl, one_ptr, one_map, one_func, one_nilf, Bool.and_true, Bool.true_and, Bool.not_true, Bool.not_false, iadA_z, Int.reduceToNat, Int.toNat_zero, fl1_a, flN_a, extr_t, unot, not_d, Nat.add_eq, Nat.mul_eq, Nat.mul_one, Nat.one_mul, Nat.zero_mul, Nat.reduceMul, Nat.zero_add, Nat.add_zero, Nat.le_refl, decide_true, Nat.reduceAdd, Nat.reduceLeDiff, bsl_Sint, bsl_SReading, bsl_SLine, bld_Span, bld_spring_work, bld_spring_asked, enc_Line, enc_Reading, ocond_d, Int.toNat_natCast, Nat.succ_eq_add_one, Nat.add_assoc, *]); done)) : p := h
theorem fr_Xc {p : Prop} (h : p := by first | assumption | exact Fr.refl _ _ | (simp (disch := omega) only [Fr_set, Fr_refl, *])) : p := h
theorem fl_Xc {p : Prop} (h : p := by first | with_unfolding_all rfl | exact Sl.flat (by assumption) | assumption) : p := h
theorem fll_Xc {p : Prop} (h : p := by first | with_unfolding_all rfl | ((repeat (refine flatL_k fl_Xc ?_)); with_unfolding_all rfl)) : p := h
theorem en_Xc {p : Prop} (h : p := by first | ((simp only [enc_int, enc_str, enc_u8, enc_bool, tak_s, tak_0, tak_n, drp_0, drp_s, drp_n, nth_s, nth_0, bsl_Sint, bsl_SReading, bsl_SLine, bld_Span, bld_spring_work, bld_spring_asked, enc_Line, enc_Reading, ocond_d, Int.toNat_natCast]); rfl) | ((simp only [enc_int, enc_str, enc_u8, enc_bool, tak_s, tak_0, tak_n, drp_0, drp_s, drp_n, nth_s, nth_0, bsl_Sint, bsl_SReading, bsl_SLine, bld_Span, bld_spring_work, bld_spring_asked, enc_Line, enc_Reading, ocond_d, Int.toNat_natCast]); done) | with_unfolding_all rfl) : p := h
theorem sM_Xc {p : Prop} (h : p := by (first | assumption | (simp (disch := omega) only [Tr.get_same, Tr.get_other, *]; rfl) | (simp (disch := omega) only [Tr.get_same, Tr.get_other, *]; done))) : p := h
theorem sS_Xc {p : Prop} (h : p := by first | assumption | exact s1_Xc) : p := h
theorem op_Xc {p : Prop} (h : p := by first | with_reducible exact fad_p _ _ _ | with_reducible exact iop_lss _ _ | with_reducible exact iop_leq _ _ | with_reducible exact iop_gtr _ _ | with_reducible exact iop_geq _ _ | with_reducible exact iop_eql _ _ | with_reducible exact iop_neq _ _ | with_reducible exact Sl.len (by assumption) | with_reducible exact lenS_s _ _ _ | with_reducible exact Sl.iad (by assumption) (by with_unfolding_all rfl) (by first | assumption | omega) | with_reducible exact Sl.fad (by assumption) (by first | assumption | omega) | with_reducible exact Sl.ld1 (by assumption) fr_Xc (by with_unfolding_all rfl) (by assumption) en_Xc | with_reducible exact Sl.ldN (by assumption) fr_Xc (by with_unfolding_all rfl) (by assumption) (by with_unfolding_all rfl) en_Xc | with_reducible exact zadd1 (by omega) | with_reducible exact zsub1 (by omega) (by omega) | with_reducible exact zaddI (by omega) (by omega) | with_reducible exact zsubI (by omega) (by omega) | with_reducible exact min_z | with_reducible exact max_z | with_reducible exact zmulI (by assumption) | with_reducible exact zmulK (by omega) (by omega) | with_reducible exact quo_z (by omega) (by omega) (by omega) | with_reducible exact cv_u8 (by omega) | with_reducible exact rem_z (by omega) (by omega) (by omega) | with_reducible exact neq_bool (by kernel_rfl) | with_reducible exact eql_u8 | with_reducible exact wntT_t (by assumption) | with_reducible exact wntT_f (by assumption) | with_reducible exact wntF_t (by assumption) | with_reducible exact wntF_f (by assumption) | with_reducible exact wnt_tt | with_reducible exact wnt_tf | with_reducible exact wnt_ft | with_reducible exact wnt_ff | with_reducible exact wnt_u _ _ | with_reducible exact pck_t _ _ | with_reducible exact pck_f _ _ | with_reducible exact pckT (by assumption) | with_reducible exact pckF (by assumption) | with_reducible exact wntT_t (by decide) | with_reducible exact wntT_f (by decide) | with_reducible exact wntF_t (by decide) | with_reducible exact wntF_f (by decide) | with_reducible exact pckT (by decide) | with_reducible exact pckF (by decide) | with_reducible exact wntN_tt (by decide) | with_reducible exact wntN_tf (by decide) | with_reducible exact wntN_ft (by decide) | with_reducible exact wntN_ff (by decide) | with_reducible exact pckNT (by decide) | with_reducible exact pckNF (by decide) | with_reducible exact wntN_tt (by assumption) | with_reducible exact wntN_tf (by assumption) | with_reducible exact wntN_ft (by assumption) | with_reducible exact wntN_ff (by assumption) | with_reducible exact pckNT (by assumption) | with_reducible exact pckNF (by assumption) | with_reducible exact wntB_tt (by assumption) | with_reducible exact wntB_tf (by assumption) | with_reducible exact wntB_ft (by assumption) | with_reducible exact wntB_ff (by assumption) | with_reducible exact pckBT (by assumption) | with_reducible exact pckBF (by assumption) | exact s2_Xc | exact s1_Xc) : p := h
theorem co_Xc {p : Prop} (h : p := by first | (simp only [impB_1, impB_0, offB_1, offB_0]; done) | ((try simp only [impB_1, impB_0, offB_1, offB_0]); first | with_reducible exact Sl.ag1 (by assumption) fr_Xc (by with_unfolding_all rfl) (by assumption) en_Xc | with_reducible exact Sl.agN (by assumption) fr_Xc (by with_unfolding_all rfl) (by assumption) (by with_unfolding_all rfl) en_Xc | ((with_reducible refine agL1_e ?_ ?_); (· exact s1_Xc); (· exact fl_Xc)) | ((with_reducible refine agLN_e ?_ ?_); (· exact s1_Xc); (· exact fll_Xc)) | ((with_reducible apply ag_bs); (· exact sM_Xc); (· rfl); (· exact sb_Xc); (· exact fll_Xc)) | ((with_reducible apply ag_al); (· exact sM_Xc); (· rfl); (· exact fll_Xc)) | ((with_reducible apply ag_bx); (· exact sM_Xc); (· rfl); (· rfl); (· exact fll_Xc)) | ((with_reducible apply ag_bd); (· rfl); (· exact s1_Xc); (· exact fll_Xc)) | exact s1_Xc)) : p := h
theorem gs_Xc {r p : Prop} (k : r) (h : Go.Ev.Im r p := by (first | with_reducible apply Im.runS | ((with_reducible apply Im.num); · (simp only [Nat.succ_eq_add_one, Nat.add_assoc, Nat.reduceAdd]; rfl)) | (with_reducible apply Im.unm) | (with_reducible apply Im.selT) | (with_reducible apply Im.selF) | ((with_reducible apply Im.cndT); · assumption) | ((with_reducible apply Im.cndF); · assumption) | ((with_reducible apply Im.cndT); · decide) | ((with_reducible apply Im.cndF); · decide) | ((with_reducible apply Im.cndNT); · decide) | ((with_reducible apply Im.cndNF); · decide) | ((with_reducible apply Im.cndBT); · exact rfl) | ((with_reducible apply Im.cndBF); · exact rfl) | ((with_reducible apply Im.cndNT); · assumption) | ((with_reducible apply Im.cndNF); · assumption) | ((with_reducible apply Im.cndBT); · assumption) | ((with_reducible apply Im.cndBF); · assumption) | ((with_reducible apply Im.bind); · exact op_Xc) | ((with_reducible apply Im.cond); · exact co_Xc) | ((with_reducible apply Im.runB); · exact op_Xc) | ((with_reducible apply Im.runC); · exact co_Xc) | ((with_reducible apply Im.runN); · (simp only [Nat.succ_eq_add_one, Nat.add_assoc, Nat.reduceAdd]; rfl)) | with_reducible apply Im.runR | ((with_reducible apply Im.runE (x := evBuildSlice _ _ _ _ _ _)); · exact sb_Xc)); (repeat (first | with_reducible apply Im.runS | ((with_reducible apply Im.num); · (simp only [Nat.succ_eq_add_one, Nat.add_assoc, Nat.reduceAdd]; rfl)) | (with_reducible apply Im.unm) | (with_reducible apply Im.selT) | (with_reducible apply Im.selF) | ((with_reducible apply Im.cndT); · assumption) | ((with_reducible apply Im.cndF); · assumption) | ((with_reducible apply Im.cndT); · decide) | ((with_reducible apply Im.cndF); · decide) | ((with_reducible apply Im.cndNT); · decide) | ((with_reducible apply Im.cndNF); · decide) | ((with_reducible apply Im.cndBT); · exact rfl) | ((with_reducible apply Im.cndBF); · exact rfl) | ((with_reducible apply Im.cndNT); · assumption) | ((with_reducible apply Im.cndNF); · assumption) | ((with_reducible apply Im.cndBT); · assumption) | ((with_reducible apply Im.cndBF); · assumption) | ((with_reducible apply Im.bind); · exact op_Xc) | ((with_reducible apply Im.cond); · exact co_Xc) | ((with_reducible apply Im.runB); · exact op_Xc) | ((with_reducible apply Im.runC); · exact co_Xc) | ((with_reducible apply Im.runN); · (simp only [Nat.succ_eq_add_one, Nat.add_assoc, Nat.reduceAdd]; rfl)) | with_reducible apply Im.runR | ((with_reducible apply Im.runE (x := evBuildSlice _ _ _ _ _ _)); · exact sb_Xc))); exact Go.Ev.Im.id) : p := h k
def bare (s : Sp) : Sp := { s with reads := [] }
theorem bare_valid {s : Sp} (hv : validB s = true) : validB (bare s) = true := by
  simp only [validB, readsB, Bool.and_eq_true, decide_eq_true_eq] at hv ⊢
  exact ⟨⟨hv.1.1, hv.1.2⟩, by simp [bare], rfl⟩
/-- What must be false: of the last so many lengths. -/
def wgN (s : Sp) : Nat → Option (List Int)
  | 0 => none
  | j + 1 => match chS s (2 - j) s.reads [] with
    | some l => some l
    | none => wgN s j
def wgS (s : Sp) : Option (List Int) := wgN s 3
def wgE (s : Sp) : Int := if validB s then (if canS (bare s) then (if (wgS s).isSome then 0 else 4) else 6) else 10
def wgL (s : Sp) : List Int := if wgE s = 0 then (wgS s).getD [] else []
section
variable {s : Sp} {b r : Value}
theorem c_struck (e : Nat) {D many : Nat} {h N} (hD : D = e + many + 2) (hv : validB s = true) (hm : many ≤ 2) (hb : Sl h N b s.book) (hr : Sl h N r s.reads) :
    Rn (s86 (cN D) (.agg ⟨[iS s.weeks, iS s.most, iS s.fall, iS s.slo, iS s.shi, iS s.wlo, iS s.whi, b, r]⟩) (nS many) h N) fun v h' N' => (∃ l, v = .tuple ⟨[l, .bool (chS s many s.reads []).isSome]⟩ ∧ Sl h' N' l ((chS s many s.reads []).getD [])) ∧ Gw h N h' N' := by
  subst hD
  unfold s86
  have cb := hb.flat; have cr := hr.flat; have x1 := flatV_one cb; have y1 := cel_flat cb; have x2 := flatV_one cr; have y2 := cel_flat cr
  try refine gs_Xc ?_
  refine Rn.call (Rn.eq (dyn_struck0 (cN (e + many + 2)) (nS 0) N _ _) (c_choose (h0 := h) (n := N) (many := many) (b := b) (r := r) hv hb hr (by omega) many e [] 0 (.slice none 0 0) _ (N + 4) (by simp) (by omega) ⟨fr_Xc, by omega, sS_Xc, sS_Xc, sS_Xc, sS_Xc, .inl ⟨rfl, rfl⟩⟩)) ?_
  rintro _ h1 N1 ⟨v1, rfl, C, l1⟩
  rw [List.drop_zero] at C ⊢
  have hl := C.le
  have q2 := C.g2
  have f0 := C.fr
  have sv := C.w.sl
  have c3 := sv.flat
  have x3 := flatV_one c3
  have y3 := cel_flat c3
  try refine gs_Xc ?_
  exact Rn.ret ⟨⟨v1, rfl, sv⟩, (Gw.of fr_Xc (by omega))⟩
theorem c_Wrong (d : Nat) {h N} (nb : s.book.length < 1000) (nr : s.reads.length < 1000) (hb : Sl h N b s.book) (hr : Sl h N r s.reads) : Rn (s48 (cN (d + 6)) (.agg ⟨[iS s.weeks, iS s.most, iS s.fall, iS s.slo, iS s.shi, iS s.wlo, iS s.whi, b, r]⟩) h N) fun v h' N' => (∃ l, v = .tuple ⟨[l, iS (wgE s)]⟩ ∧ Sl h' N' l (wgL s)) ∧ Gw h N h' N' := by
  unfold s48
  have cb := hb.flat; have cr := hr.flat; have x1 := flatV_one cb; have y1 := cel_flat cb; have x2 := flatV_one cr; have y2 := cel_flat cr
  have zr : ∀ e : Int, e ≠ 0 → wgE s = e → wgL s = [] := fun e h1 h2 => if_neg (by rw [h2]; exact h1)
  try refine gs_Xc ?_
  refine Rn.call (c_begin (d + 3) (q := qw 0 0) (L := []) nb nr (Sl.up (by assumption) fr_Xc (by omega)) (Sl.up (by assumption) fr_Xc (by omega)) (by simp) (Sl.nil _ _) (by simp)) ?_
  rintro _ h1 N1 ⟨⟨e0, hv, rfl⟩ | ⟨e0, rfl⟩, f1, o1, l1⟩
  · have hs := ok_of_valid hv
    try refine gs_Xc ?_
    refine Rn.call (c_can (d + 4) (s := bare s) (b := b) (r := .slice none 0 0) (ok_of_valid (bare_valid hv)) (Sl.up (by assumption) fr_Xc (by omega)) (Sl.nil _ _)) ?_
    rintro _ h2 N2 ⟨rfl, f2, o2, l2⟩
    cases hc : canS (bare s) with
    | false =>
      have e1 : wgE s = 6 := by unfold wgE; rw [hv, hc]; rfl
      rw [zr 6 (by decide) e1, e1]
      try refine gs_Xc ?_
      exact Rn.ret ⟨⟨_, rfl, Sl.nil _ _⟩, (Gw.of fr_Xc (by omega))⟩
    | true =>
      have e1 : wgE s = if (wgS s).isSome then 0 else 4 := by unfold wgE; rw [hv, hc]; rfl
      try refine gs_Xc ?_
      refine Rn.loop2 (fun m a1 a2 g M => ∃ k : Nat, a1 = .pointer (some ⟨N1, 0, none⟩) ∧ a2 = nS k ∧ k + m = 3 ∧ Fr h N g ∧ N1 + 1 ≤ M ∧ g.get N1 = some (.c [iS s.weeks, iS s.most, iS s.fall, iS s.slo, iS s.shi, iS s.wlo, iS s.whi, b, r] 106) ∧ wgN s m = wgS s) 3 (by omega) ⟨0, rfl, rfl, by omega, fr_Xc, by omega, sS_Xc, rfl⟩ ?_
      rintro m g ih _ _ h3 N3 ⟨k, rfl, rfl, e3, f3, l3, g1, q5⟩
      try refine gs_Xc ?_
      (first | with_reducible refine Rn.cnd (fun _ => ?_) (fun _ => ?_) | with_reducible refine Rn.cndN (fun _ => ?_) (fun _ => ?_) | with_reducible refine Rn.cndB (fun _ => ?_) (fun _ => ?_))
      · obtain ⟨j, rfl⟩ : ∃ j, m = j + 1 := ⟨m - 1, by omega⟩
        have ek : 2 - j = k := by omega
        simp only [wgN, ek] at q5
        try refine gs_Xc ?_
        refine Rn.call (c_struck (d + 4 - k) (many := k) (by omega) hv (by omega) (Sl.up (by assumption) fr_Xc (by omega)) (Sl.up (by assumption) fr_Xc (by omega))) ?_
        rintro _ h4 N4 ⟨⟨l, rfl, hl⟩, f4, o4, l4⟩
        have c3 := hl.flat
        have x3 := flatV_one c3
        have y3 := cel_flat c3
        cases hq : chS s k s.reads [] with
        | some o =>
          rw [hq] at q5 hl
          have e4 : wgE s = 0 := by rw [e1, ← q5]; rfl
          have e5 : wgL s = o := by unfold wgL; rw [if_pos e4, ← q5]; rfl
          rw [e4, e5]
          clear q5 e4 e5 e1 ih
          try refine gs_Xc ?_
          exact Rn.ret ⟨⟨l, rfl, hl⟩, (Gw.of fr_Xc (by omega))⟩
        | none =>
          rw [hq] at q5
          try refine gs_Xc ?_
          exact ih j (by omega) _ _ _ _ ⟨k + 1, rfl, rfl, by omega, fr_Xc, by omega, sS_Xc, q5⟩
      · obtain rfl : m = 0 := by omega
        have e4 : wgE s = 4 := by rw [e1, ← q5]; rfl
        rw [zr 4 (by decide) e4, e4]
        try refine gs_Xc ?_
        exact Rn.ret ⟨⟨_, rfl, Sl.nil _ _⟩, (Gw.of fr_Xc (by omega))⟩
  · have e1 : wgE s = 10 := by
      have : beginS s (qw 0 0) [] = if validB s then 0 else 10 := rfl
      rw [this] at e0
      unfold wgE
      cases hv : validB s with
      | false => rfl
      | true => rw [hv] at e0; exact absurd rfl e0
    have e2 : beginS s (qw 0 0) [] = 10 := by
      have : beginS s (qw 0 0) [] = if validB s then 0 else 10 := rfl
      rw [this] at e0 ⊢
      cases hv : validB s with
      | false => rfl
      | true => rw [hv] at e0; exact absurd rfl e0
    rw [zr 10 (by decide) e1, e1, e2]
    try refine gs_Xc ?_
    exact Rn.ret ⟨⟨_, rfl, Sl.nil _ _⟩, (Gw.of fr_Xc (by omega))⟩
end
end Go.Proofs.Ytpilgokdbliklaa
end

section
namespace Go.Proofs.Ytpilgokdbliklaa
open Go.Ev Go.RowKit
set_option linter.unusedVariables false
set_option linter.unusedSimpArgs false
set_option linter.unusedSectionVars false
set_option maxRecDepth 100000
set_option maxHeartbeats 4000000
theorem s1_Xd {p : Prop} (h : p := by (simp (disch := omega) only [obind_s, orun_s, ocond_t, fad_p, ld1_e, ldN_e, sto_e, cellO_c, wrO_c, Tr.get_same, Tr.get_other, nth_0, nth_s, drp_0, drp_s, drp_n, tak_0, tak_s, tak_n, over_n, over_c, lay_0, lay_s, lay_n, len_n, len_c, app_n, app_c, reps_0, reps_s, cel_agg, cel_int, cel_bool, cel_str, cel_sl, cel_ptr, cel_map, cel_func, cel_nilf, fil_n, fil_c, beq_r, ble_d, allF_n, allF_c, one_int, one_bool, one_str, one_sl, one_ptr, one_map, one_func, one_nilf, Bool.and_true, Bool.true_and, Bool.not_true, Bool.not_false, iadA_z, Int.reduceToNat, Int.toNat_zero, fl1_a, flN_a, extr_t, unot, not_d, Nat.add_eq, Nat.mul_eq, Nat.mul_one, Nat.one_mul, Nat.zero_mul, Nat.reduceMul, Nat.zero_add, Nat.add_zero, Nat.le_refl, decide_true, Nat.reduceAdd, Nat.reduceLeDiff, bsl_Sint, bsl_SReading, bsl_SLine, bld_Span, bld_spring_work, bld_spring_asked, enc_Line, enc_Reading, ocond_d, Int.toNat_natCast, *]); first | done | fail) : p := h
theorem s2_Xd {p : Prop} (h : p := by (simp (disch := omega) only [obind_s, orun_s, ocond_t, fad_p, ld1_e, ldN_e, sto_e, cellO_c, wrO_c, Tr.get_same, Tr.get_other, nth_0, nth_s, drp_0, drp_s, drp_n, tak_0, tak_s, tak_n, over_n, over_c, lay_0, lay_s, lay_n, len_n, len_c, app_n, app_c, reps_0, reps_s, cel_agg, cel_int, cel_bool, cel_str, cel_sl, cel_ptr, cel_map, cel_func, cel_nilf, fil_n, fil_c, beq_r, ble_d, allF_n, allF_c, one_int, one_bool, one_str, one_sl, one_ptr, one_map, one_func, one_nilf, Bool.and_true, Bool.true_and, Bool.not_true, Bool.not_false, iadA_z, Int.reduceToNat, Int.toNat_zero, fl1_a, flN_a, extr_t, unot, not_d, Nat.add_eq, Nat.mul_eq, Nat.mul_one, Nat.one_mul, Nat.zero_mul, Nat.reduceMul, Nat.zero_add, Nat.add_zero, Nat.le_refl, decide_true, Nat.reduceAdd, Nat.reduceLeDiff, bsl_Sint, bsl_SReading, bsl_SLine, bld_Span, bld_spring_work, bld_spring_asked, enc_Line, enc_Reading, ocond_d, Int.toNat_natCast, *]); rfl) : p := h
theorem sb_Xd {p : Prop} (h : p := by first | ((simp (disch := omega) only [obind_s, orun_s, ocond_t, fad_p, ld1_e, ldN_e, sto_e, cellO_c, wrO_c, Tr.get_same, Tr.get_other, nth_0, nth_s, drp_0, drp_s, drp_n, tak_0, tak_s, tak_n, over_n, over_c, lay_0, lay_s, lay_n, len_n, len_c, app_n, app_c, reps_0, reps_s, cel_agg, cel_int, cel_bool, cel_str, cel_sl, cel_ptr, cel_map, cel_func, cel_nilf, fil_n, fil_c, beq_r, ble_d, allF_n, allF_c, one_int, one_bool, one_str, one_sl, one_ptr, one_map, one_func, one_nilf, Bool.and_true, Bool.true_and, Bool.not_true, Bool.not_false, iadA_z, Int.reduceToNat, Int.toNat_zero, fl1_a, flN_a, extr_t, unot, not_d, Nat.add_eq, Nat.mul_eq, Nat.mul_one, Nat.one_mul, Nat.zero_mul, Nat.reduceMul, Nat.zero_add, Nat.add_zero, Nat.le_refl, decide_true, Nat.reduceAdd, Nat.reduceLeDiff, bsl_Sint, bsl_SReading, bsl_SLine, bld_Span, bld_spring_work, bld_spring_asked, enc_Line, enc_Reading, ocond_d, Int.toNat_natCast, Nat.succ_eq_add_one, Nat.add_assoc, *]); rfl) | ((simp (disch := omega) only [obind_s, orun_s, ocond_t, fad_p, ld1_e, ldN_e, sto_e, cellO_c, wrO_c, Tr.get_same, Tr.get_other, nth_0, nth_s, drp_0, drp_s, drp_n, tak_0, tak_s, tak_n, over_n, over_c, lay_0, lay_s, lay_n, len_n, len_c, app_n, app_c, reps_0, reps_s, cel_agg, cel_int, cel_bool, cel_str, cel_sl, cel_ptr, cel_map, cel_func, cel_nilf, fil_n, fil_c, beq_r, ble_d, allF_n, allF_c, one_int, one_bool, one_str, one_sl, one_ptr, one_map, one_func, one_nilf, Bool.and_true, Bool.true_and, Bool.not_true, Bool.not_false, iadA_z, Int.reduceToNat, Int.toNat_zero, fl1_a, flN_a, extr_t, unot, not_d, Nat.add_eq, Nat.mul_eq, Nat.mul_one, Nat.one_mul, Nat.zero_mul, Nat.reduceMul, Nat.zero_add, Nat.add_zero, Nat.le_refl, decide_true, Nat.reduceAdd, Nat.reduceLeDiff, bsl_Sint, bsl_SReading, bsl_SLine, bld_Span, bld_spring_work, bld_spring_asked, enc_Line, enc_Reading, ocond_d, Int.toNat_natCast, Nat.succ_eq_add_one, Nat.add_assoc, *]); done)) : p := h
theorem fr_Xd {p : Prop} (h : p := by first | assumption | exact Fr.refl _ _ | (simp (disch := omega) only [Fr_set, Fr_refl, *])) : p := h
theorem fl_Xd {p : Prop} (h : p := by first | with_unfolding_all rfl | exact Sl.flat (by assumption) | assumption) : p := h
theorem fll_Xd {p : Prop} (h : p := by first | with_unfolding_all rfl | ((repeat (refine flatL_k fl_Xd ?_)); with_unfolding_all rfl)) : p := h
theorem en_Xd {p : Prop} (h : p := by first | ((simp only [enc_int, enc_str, enc_u8, enc_bool, tak_s, tak_0, tak_n, drp_0, drp_s, drp_n, nth_s, nth_0, bsl_Sint, bsl_SReading, bsl_SLine, bld_Span, bld_spring_work, bld_spring_asked, enc_Line, enc_Reading, ocond_d, Int.toNat_natCast]); rfl) | ((simp only [enc_int, enc_str, enc_u8, enc_bool, tak_s, tak_0, tak_n, drp_0, drp_s, drp_n, nth_s, nth_0, bsl_Sint, bsl_SReading, bsl_SLine, bld_Span, bld_spring_work, bld_spring_asked, enc_Line, enc_Reading, ocond_d, Int.toNat_natCast]); done) | with_unfolding_all rfl) : p := h
theorem sM_Xd {p : Prop} (h : p := by (first | assumption | (simp (disch := omega) only [Tr.get_same, Tr.get_other, *]; rfl) | (simp (disch := omega) only [Tr.get_same, Tr.get_other, *]; done))) : p := h
theorem op_Xd {p : Prop} (h : p := by first | with_reducible exact fad_p _ _ _ | with_reducible exact iop_lss _ _ | with_reducible exact iop_leq _ _ | with_reducible exact iop_gtr _ _ | with_reducible exact iop_geq _ _ | with_reducible exact iop_eql _ _ | with_reducible exact iop_neq _ _ | with_reducible exact Sl.len (by assumption) | with_reducible exact lenS_s _ _ _ | with_reducible exact Sl.iad (by assumption) (by with_unfolding_all rfl) (by first | assumption | omega) | with_reducible exact Sl.fad (by assumption) (by first | assumption | omega) | with_reducible exact Sl.ld1 (by assumption) fr_Xd (by with_unfolding_all rfl) (by assumption) en_Xd | with_reducible exact Sl.ldN (by assumption) fr_Xd (by with_unfolding_all rfl) (by assumption) (by with_unfolding_all rfl) en_Xd | with_reducible exact zadd1 (by omega) | with_reducible exact zsub1 (by omega) (by omega) | with_reducible exact zaddI (by omega) (by omega) | with_reducible exact zsubI (by omega) (by omega) | with_reducible exact min_z | with_reducible exact max_z | with_reducible exact zmulI (by assumption) | with_reducible exact zmulK (by omega) (by omega) | with_reducible exact quo_z (by omega) (by omega) (by omega) | with_reducible exact cv_u8 (by omega) | with_reducible exact rem_z (by omega) (by omega) (by omega) | with_reducible exact neq_bool (by kernel_rfl) | with_reducible exact eql_u8 | with_reducible exact wntT_t (by assumption) | with_reducible exact wntT_f (by assumption) | with_reducible exact wntF_t (by assumption) | with_reducible exact wntF_f (by assumption) | with_reducible exact wnt_tt | with_reducible exact wnt_tf | with_reducible exact wnt_ft | with_reducible exact wnt_ff | with_reducible exact wnt_u _ _ | with_reducible exact pck_t _ _ | with_reducible exact pck_f _ _ | with_reducible exact pckT (by assumption) | with_reducible exact pckF (by assumption) | with_reducible exact wntT_t (by decide) | with_reducible exact wntT_f (by decide) | with_reducible exact wntF_t (by decide) | with_reducible exact wntF_f (by decide) | with_reducible exact pckT (by decide) | with_reducible exact pckF (by decide) | with_reducible exact wntN_tt (by decide) | with_reducible exact wntN_tf (by decide) | with_reducible exact wntN_ft (by decide) | with_reducible exact wntN_ff (by decide) | with_reducible exact pckNT (by decide) | with_reducible exact pckNF (by decide) | with_reducible exact wntN_tt (by assumption) | with_reducible exact wntN_tf (by assumption) | with_reducible exact wntN_ft (by assumption) | with_reducible exact wntN_ff (by assumption) | with_reducible exact pckNT (by assumption) | with_reducible exact pckNF (by assumption) | with_reducible exact wntB_tt (by assumption) | with_reducible exact wntB_tf (by assumption) | with_reducible exact wntB_ft (by assumption) | with_reducible exact wntB_ff (by assumption) | with_reducible exact pckBT (by assumption) | with_reducible exact pckBF (by assumption) | exact s2_Xd | exact s1_Xd) : p := h
theorem co_Xd {p : Prop} (h : p := by first | (simp only [impB_1, impB_0, offB_1, offB_0]; done) | ((try simp only [impB_1, impB_0, offB_1, offB_0]); first | with_reducible exact Sl.ag1 (by assumption) fr_Xd (by with_unfolding_all rfl) (by assumption) en_Xd | with_reducible exact Sl.agN (by assumption) fr_Xd (by with_unfolding_all rfl) (by assumption) (by with_unfolding_all rfl) en_Xd | ((with_reducible refine agL1_e ?_ ?_); (· exact s1_Xd); (· exact fl_Xd)) | ((with_reducible refine agLN_e ?_ ?_); (· exact s1_Xd); (· exact fll_Xd)) | ((with_reducible apply ag_bs); (· exact sM_Xd); (· rfl); (· exact sb_Xd); (· exact fll_Xd)) | ((with_reducible apply ag_al); (· exact sM_Xd); (· rfl); (· exact fll_Xd)) | ((with_reducible apply ag_bx); (· exact sM_Xd); (· rfl); (· rfl); (· exact fll_Xd)) | ((with_reducible apply ag_bd); (· rfl); (· exact s1_Xd); (· exact fll_Xd)) | exact s1_Xd)) : p := h
theorem gs_Xd {r p : Prop} (k : r) (h : Go.Ev.Im r p := by (first | with_reducible apply Im.runS | ((with_reducible apply Im.num); · (simp only [Nat.succ_eq_add_one, Nat.add_assoc, Nat.reduceAdd]; rfl)) | (with_reducible apply Im.unm) | (with_reducible apply Im.selT) | (with_reducible apply Im.selF) | ((with_reducible apply Im.cndT); · assumption) | ((with_reducible apply Im.cndF); · assumption) | ((with_reducible apply Im.cndT); · decide) | ((with_reducible apply Im.cndF); · decide) | ((with_reducible apply Im.cndNT); · decide) | ((with_reducible apply Im.cndNF); · decide) | ((with_reducible apply Im.cndBT); · exact rfl) | ((with_reducible apply Im.cndBF); · exact rfl) | ((with_reducible apply Im.cndNT); · assumption) | ((with_reducible apply Im.cndNF); · assumption) | ((with_reducible apply Im.cndBT); · assumption) | ((with_reducible apply Im.cndBF); · assumption) | ((with_reducible apply Im.bind); · exact op_Xd) | ((with_reducible apply Im.cond); · exact co_Xd) | ((with_reducible apply Im.runB); · exact op_Xd) | ((with_reducible apply Im.runC); · exact co_Xd) | ((with_reducible apply Im.runN); · (simp only [Nat.succ_eq_add_one, Nat.add_assoc, Nat.reduceAdd]; rfl)) | with_reducible apply Im.runR | ((with_reducible apply Im.runE (x := evBuildSlice _ _ _ _ _ _)); · exact sb_Xd)); (repeat (first | with_reducible apply Im.runS | ((with_reducible apply Im.num); · (simp only [Nat.succ_eq_add_one, Nat.add_assoc, Nat.reduceAdd]; rfl)) | (with_reducible apply Im.unm) | (with_reducible apply Im.selT) | (with_reducible apply Im.selF) | ((with_reducible apply Im.cndT); · assumption) | ((with_reducible apply Im.cndF); · assumption) | ((with_reducible apply Im.cndT); · decide) | ((with_reducible apply Im.cndF); · decide) | ((with_reducible apply Im.cndNT); · decide) | ((with_reducible apply Im.cndNF); · decide) | ((with_reducible apply Im.cndBT); · exact rfl) | ((with_reducible apply Im.cndBF); · exact rfl) | ((with_reducible apply Im.cndNT); · assumption) | ((with_reducible apply Im.cndNF); · assumption) | ((with_reducible apply Im.cndBT); · assumption) | ((with_reducible apply Im.cndBF); · assumption) | ((with_reducible apply Im.bind); · exact op_Xd) | ((with_reducible apply Im.cond); · exact co_Xd) | ((with_reducible apply Im.runB); · exact op_Xd) | ((with_reducible apply Im.runC); · exact co_Xd) | ((with_reducible apply Im.runN); · (simp only [Nat.succ_eq_add_one, Nat.add_assoc, Nat.reduceAdd]; rfl)) | with_reducible apply Im.runR | ((with_reducible apply Im.runE (x := evBuildSlice _ _ _ _ _ _)); · exact sb_Xd))); exact Go.Ev.Im.id) : p := h k
theorem wg_some {s : Sp} {l : List Int} (h : wgS s = some l) : ∃ k, k ≤ 2 ∧ chS s k s.reads [] = some l ∧ ∀ j, j < k → chS s j s.reads [] = none := by
  unfold wgS at h
  simp only [wgN] at h
  cases h0 : chS s 0 s.reads [] with
  | some l0 =>
    rw [show 2 - 2 = 0 from rfl, h0] at h
    exact ⟨0, by omega, h0.trans h, fun j hj => by omega⟩
  | none =>
    rw [show 2 - 2 = 0 from rfl, h0] at h
    dsimp only at h
    cases h1 : chS s 1 s.reads [] with
    | some l1 =>
      rw [show 2 - 1 = 1 from rfl, h1] at h
      exact ⟨1, by omega, h1.trans h, fun j hj => by obtain rfl : j = 0 := by omega
                                                     exact h0⟩
    | none =>
      rw [show 2 - 1 = 1 from rfl, h1] at h
      dsimp only at h
      cases h2 : chS s 2 s.reads [] with
      | some l2 =>
        rw [show 2 - 0 = 2 from rfl, h2] at h
        refine ⟨2, by omega, h2.trans h, fun j hj => ?_⟩
        rcases Nat.lt_or_ge j 1 with hj | hj
        · obtain rfl : j = 0 := by omega
          exact h0
        · obtain rfl : j = 1 := by omega
          exact h1
      | none =>
        rw [show 2 - 0 = 2 from rfl, h2] at h
        cases h
theorem wg_none {s : Sp} (h : wgS s = none) : ∀ j, j ≤ 2 → chS s j s.reads [] = none := by
  unfold wgS at h
  simp only [wgN] at h
  cases h0 : chS s 0 s.reads [] with
  | some l0 => rw [show 2 - 2 = 0 from rfl, h0] at h; cases h
  | none =>
    rw [show 2 - 2 = 0 from rfl, h0] at h
    dsimp only at h
    cases h1 : chS s 1 s.reads [] with
    | some l1 => rw [show 2 - 1 = 1 from rfl, h1] at h; cases h
    | none =>
      rw [show 2 - 1 = 1 from rfl, h1] at h
      dsimp only at h
      cases h2 : chS s 2 s.reads [] with
      | some l2 => rw [show 2 - 0 = 2 from rfl, h2] at h; cases h
      | none =>
        intro j hj
        match j, hj with
        | 0, _ => exact h0
        | 1, _ => exact h1
        | 2, _ => exact h2
theorem st_sub {w : Int} {S : List Rd} : ∀ (R : List Rd) (b p : Int), rdsB w b R = true → p ≤ b → (∀ x ∈ R, x ∈ S) → ∀ o : List Rd, o.Sublist R → stB S p (o.map (·.Number)) = true
  | [], _, _, _, _, _, o, h => by
    have := List.sublist_nil.1 h
    subst this; rfl
  | z :: R, b, p, hr, hp, hS, o, h => by
    simp only [rdsB, Bool.and_eq_true, decide_eq_true_eq] at hr
    cases h with
    | cons _ h => exact st_sub R z.Number p hr.2 (by omega) (fun x hx => hS x (List.mem_cons_of_mem _ hx)) o h
    | cons_cons _ h =>
      rename_i o'
      have ih := st_sub R z.Number z.Number hr.2 (Int.le_refl _) (fun x hx => hS x (List.mem_cons_of_mem _ hx)) o' h
      have ha : S.any (fun x => decide (x.Number = z.Number)) = true := List.any_eq_true.2 ⟨z, hS z (by simp), by simp⟩
      show (decide (p < z.Number) && S.any (fun x => decide (x.Number = z.Number)) && stB S z.Number (o'.map (·.Number))) = true
      rw [decide_eq_true (by omega), ha, ih]; rfl
theorem st_all {s : Sp} (hv : validB s = true) {o : List Rd} (h : o.Sublist s.reads) : stE s (o.map (·.Number)) = 0 := by
  have hv0 := hv
  simp only [validB, readsB, Bool.and_eq_true, decide_eq_true_eq] at hv0
  unfold stE
  rw [hv, if_pos rfl, st_sub s.reads 0 0 hv0.2.2 (Int.le_refl _) (fun _ h => h) o h]; rfl
theorem bare_nar (s : Sp) (L : List Int) : Nar (bare s) (woS s L) := ⟨rfl, rfl, rfl, rfl, rfl, rfl, rfl, fun _ h => h, fun _ h => by cases h⟩
/-- What the law asks of what must be false. -/
theorem wrong_law {s : Sp} (hv : validB s = true) {o : List Rd} (ho : o.Sublist s.reads) :
    (wgE s = 6 ∧ canS (woS s (o.map (·.Number))) = false) ∨ (wgE s = 4 ∧ (canS (woS s (o.map (·.Number))) = true → 2 < ((o.map (·.Number)).length : Int))) ∨
    (wgE s = 0 ∧ canS (woS s (wgL s)) = true ∧ stE s (wgL s) = 0 ∧ ((wgL s).length : Int) ≤ 2 ∧ (canS (woS s (o.map (·.Number))) = true → befB (o.map (·.Number)) (wgL s) = false)) := by
  have hv0 := hv
  simp only [validB, readsB, Bool.and_eq_true, decide_eq_true_eq] at hv0
  have hlen : (o.map (·.Number)).length = o.length := List.length_map _
  cases hc : canS (bare s) with
  | false =>
    left
    refine ⟨by unfold wgE; rw [hv, hc]; rfl, ?_⟩
    cases hq : canS (woS s (o.map (·.Number))) with
    | false => rfl
    | true => rw [can_nar (bare_nar s _) hq] at hc; cases hc
  | true =>
    right
    cases hw : wgS s with
    | none =>
      left
      refine ⟨by unfold wgE; rw [hv, hc, hw]; rfl, fun hq => ?_⟩
      rw [hlen]
      rcases Nat.lt_or_ge 2 o.length with h | h
      · omega
      · have := chS_none s.reads o.length [] (wg_none hw o.length h) o ho rfl
        rw [List.nil_append, hq] at this; cases this
    | some l =>
      right
      have e0 : wgE s = 0 := by unfold wgE; rw [hv, hc, hw]; rfl
      have e1 : wgL s = l := by unfold wgL; rw [if_pos e0, hw]; rfl
      rw [e1]
      obtain ⟨k, k1, k2, k3⟩ := wg_some hw
      obtain ⟨h1, o2, h2, h3, h4⟩ := chS_some s.reads k [] l k2
      rw [List.nil_append] at h4
      have hl : l.length = k := by rw [h4, List.length_map, h3]
      refine ⟨e0, h1, by rw [h4]; exact st_all hv h2, by omega, fun hq => ?_⟩
      unfold befB
      split
      · rename_i he
        exact chS_first s.reads 0 k [] l hv0.2.2 k2 o ho (by omega) hq
      · rename_i he
        rw [decide_eq_false_iff_not]
        intro hlt
        have := chS_none s.reads o.length [] (k3 o.length (by omega)) o ho rfl
        rw [List.nil_append, hq] at this; cases this
theorem c_Before (call : CallF) {p q : Value} {L M : List Int} {h N} (nl : L.length < 1000) (nm : M.length < 1000) (hp : Sl h N p L) (hq : Sl h N q M) : Rn (s50 call p q h N) fun v h' N' => v = .bool (befB L M) ∧ Gw h N h' N' := by
  unfold s50
  have c1 := hp.flat
  have c2 := hq.flat
  have x1 := flatV_one c1
  have y1 := cel_flat c1
  have x2 := flatV_one c2
  have y2 := cel_flat c2
  by_cases he : L.length = M.length
  · have hb : befB L M = lexI L M := if_pos he
    have he' : (L.length : Int) = (M.length : Int) := by omega
    have he2 : ¬ (L.length : Int) ≠ (M.length : Int) := fun h => h he'
    rw [hb]
    try refine gs_Xd ?_
    refine Rn.loop3 (fun n a1 a2 a3 g T => ∃ i : Nat, p = a1 ∧ q = a2 ∧ a3 = nS i ∧ i + n = L.length ∧ Fr h N g ∧ N ≤ T ∧ lexI (L.drop i) (M.drop i) = lexI L M) L.length (by omega) ⟨0, rfl, rfl, rfl, by omega, fr_Xd, by omega, rfl⟩ ?_
    rintro n g ih _ _ _ h2 N2 ⟨i, q0, q0', rfl, e2, f2, l2, q5⟩
    subst q0; subst q0'
    try refine gs_Xd ?_
    (first | with_reducible refine Rn.cnd (fun _ => ?_) (fun _ => ?_) | with_reducible refine Rn.cndN (fun _ => ?_) (fun _ => ?_) | with_reducible refine Rn.cndB (fun _ => ?_) (fun _ => ?_))
    · obtain ⟨a, ha⟩ := at_of (L := L) (k := i) (by omega)
      obtain ⟨c, hc⟩ := at_of (L := M) (k := i) (by omega)
      have hi : i < L.length := by omega
      have hi2 : i < M.length := by omega
      rw [drop_at ha, drop_at hc] at q5
      simp only [lexI] at q5
      clear he'
      try refine gs_Xd ?_
      by_cases hac : a = c
      · rw [if_pos hac] at q5
        have hn : ¬ a ≠ c := fun h => h hac
        subst hac
        try refine gs_Xd ?_
        exact ih (n - 1) (by omega) _ _ _ _ _ ⟨i + 1, rfl, rfl, rfl, by omega, fr_Xd, by omega, q5⟩
      · rw [if_neg hac] at q5
        have hn : a ≠ c := hac
        try refine gs_Xd ?_
        exact Rn.ret ⟨congrArg Value.bool q5, (Gw.of fr_Xd (by omega))⟩
    · rw [List.drop_eq_nil_of_le (by omega)] at q5
      have e3 : lexI L M = false := by rw [← q5]; rfl
      rw [e3]
      try refine gs_Xd ?_
      exact Rn.ret ⟨rfl, (Gw.of fr_Xd (by omega))⟩
  · have hb : befB L M = decide (L.length < M.length) := if_neg he
    have he' : (L.length : Int) ≠ (M.length : Int) := by omega
    rw [hb]
    try refine gs_Xd ?_
    refine Rn.ret ⟨congrArg Value.bool ?_, (Gw.of fr_Xd (by omega))⟩
    rw [Bool.eq_iff_iff]; simp
end Go.Proofs.Ytpilgokdbliklaa
end

section
namespace Go.Proofs.Ytpilgokdbliklaa
open Go.Ev Go.RowKit
set_option linter.unusedVariables false
set_option linter.unusedSimpArgs false
set_option linter.unusedSectionVars false
set_option maxRecDepth 100000
set_option maxHeartbeats 4000000
theorem s1_Xe {p : Prop} (h : p := by (simp (disch := omega) only [obind_s, orun_s, ocond_t, fad_p, ld1_e, ldN_e, sto_e, cellO_c, wrO_c, Tr.get_same, Tr.get_other, nth_0, nth_s, drp_0, drp_s, drp_n, tak_0, tak_s, tak_n, over_n, over_c, lay_0, lay_s, lay_n, len_n, len_c, app_n, app_c, reps_0, reps_s, cel_agg, cel_int, cel_bool, cel_str, cel_sl, cel_ptr, cel_map, cel_func, cel_nilf, fil_n, fil_c, beq_r, ble_d, allF_n, allF_c, one_int, one_bool, one_str, one_sl, one_ptr, one_map, one_func, one_nilf, Bool.and_true, Bool.true_and, Bool.not_true, Bool.not_false, iadA_z, Int.reduceToNat, Int.toNat_zero, fl1_a, flN_a, extr_t, unot, not_d, Nat.add_eq, Nat.mul_eq, Nat.mul_one, Nat.one_mul, Nat.zero_mul, Nat.reduceMul, Nat.zero_add, Nat.add_zero, Nat.le_refl, decide_true, Nat.reduceAdd, Nat.reduceLeDiff, bsl_Sint, bsl_SReading, bsl_SLine, bld_Span, bld_spring_work, bld_spring_asked, enc_Line, enc_Reading, ocond_d, Int.toNat_natCast, *]); first | done | fail) : p := h
theorem s2_Xe {p : Prop} (h : p := by (simp (disch := omega) only [obind_s, orun_s, ocond_t, fad_p, ld1_e, ldN_e, sto_e, cellO_c, wrO_c, Tr.get_same, Tr.get_other, nth_0, nth_s, drp_0, drp_s, drp_n, tak_0, tak_s, tak_n, over_n, over_c, lay_0, lay_s, lay_n, len_n, len_c, app_n, app_c, reps_0, reps_s, cel_agg, cel_int, cel_bool, cel_str, cel_sl, cel_ptr, cel_map, cel_func, cel_nilf, fil_n, fil_c, beq_r, ble_d, allF_n, allF_c, one_int, one_bool, one_str, one_sl, one_ptr, one_map, one_func, one_nilf, Bool.and_true, Bool.true_and, Bool.not_true, Bool.not_false, iadA_z, Int.reduceToNat, Int.toNat_zero, fl1_a, flN_a, extr_t, unot, not_d, Nat.add_eq, Nat.mul_eq, Nat.mul_one, Nat.one_mul, Nat.zero_mul, Nat.reduceMul, Nat.zero_add, Nat.add_zero, Nat.le_refl, decide_true, Nat.reduceAdd, Nat.reduceLeDiff, bsl_Sint, bsl_SReading, bsl_SLine, bld_Span, bld_spring_work, bld_spring_asked, enc_Line, enc_Reading, ocond_d, Int.toNat_natCast, *]); rfl) : p := h
theorem sb_Xe {p : Prop} (h : p := by first | ((simp (disch := omega) only [obind_s, orun_s, ocond_t, fad_p, ld1_e, ldN_e, sto_e, cellO_c, wrO_c, Tr.get_same, Tr.get_other, nth_0, nth_s, drp_0, drp_s, drp_n, tak_0, tak_s, tak_n, over_n, over_c, lay_0, lay_s, lay_n, len_n, len_c, app_n, app_c, reps_0, reps_s, cel_agg, cel_int, cel_bool, cel_str, cel_sl, cel_ptr, cel_map, cel_func, cel_nilf, fil_n, fil_c, beq_r, ble_d, allF_n, allF_c, one_int, one_bool, one_str, one_sl, one_ptr, one_map, one_func, one_nilf, Bool.and_true, Bool.true_and, Bool.not_true, Bool.not_false, iadA_z, Int.reduceToNat, Int.toNat_zero, fl1_a, flN_a, extr_t, unot, not_d, Nat.add_eq, Nat.mul_eq, Nat.mul_one, Nat.one_mul, Nat.zero_mul, Nat.reduceMul, Nat.zero_add, Nat.add_zero, Nat.le_refl, decide_true, Nat.reduceAdd, Nat.reduceLeDiff, bsl_Sint, bsl_SReading, bsl_SLine, bld_Span, bld_spring_work, bld_spring_asked, enc_Line, enc_Reading, ocond_d, Int.toNat_natCast, Nat.succ_eq_add_one, Nat.add_assoc, *]); rfl) | ((simp (disch := omega) only [obind_s, orun_s, ocond_t, fad_p, ld1_e, ldN_e, sto_e, cellO_c, wrO_c, Tr.get_same, Tr.get_other, nth_0, nth_s, drp_0, drp_s, drp_n, tak_0, tak_s, tak_n, over_n, over_c, lay_0, lay_s, lay_n, len_n, len_c, app_n, app_c, reps_0, reps_s, cel_agg, cel_int, cel_bool, cel_str, cel_sl, cel_ptr, cel_map, cel_func, cel_nilf, fil_n, fil_c, beq_r, ble_d, allF_n, allF_c, one_int, one_bool, one_str, one_sl, one_ptr, one_map, one_func, one_nilf, Bool.and_true, Bool.true_and, Bool.not_true, Bool.not_false, iadA_z, Int.reduceToNat, Int.toNat_zero, fl1_a, flN_a, extr_t, unot, not_d, Nat.add_eq, Nat.mul_eq, Nat.mul_one, Nat.one_mul, Nat.zero_mul, Nat.reduceMul, Nat.zero_add, Nat.add_zero, Nat.le_refl, decide_true, Nat.reduceAdd, Nat.reduceLeDiff, bsl_Sint, bsl_SReading, bsl_SLine, bld_Span, bld_spring_work, bld_spring_asked, enc_Line, enc_Reading, ocond_d, Int.toNat_natCast, Nat.succ_eq_add_one, Nat.add_assoc, *]); done)) : p := h
theorem fr_Xe {p : Prop} (h : p := by first | assumption | exact Fr.refl _ _ | (simp (disch := omega) only [Fr_set, Fr_refl, *])) : p := h
theorem fl_Xe {p : Prop} (h : p := by first | with_unfolding_all rfl | exact Sl.flat (by assumption) | assumption) : p := h
theorem fll_Xe {p : Prop} (h : p := by first | with_unfolding_all rfl | ((repeat (refine flatL_k fl_Xe ?_)); with_unfolding_all rfl)) : p := h
theorem en_Xe {p : Prop} (h : p := by first | ((simp only [enc_int, enc_str, enc_u8, enc_bool, tak_s, tak_0, tak_n, drp_0, drp_s, drp_n, nth_s, nth_0, bsl_Sint, bsl_SReading, bsl_SLine, bld_Span, bld_spring_work, bld_spring_asked, enc_Line, enc_Reading, ocond_d, Int.toNat_natCast]); rfl) | ((simp only [enc_int, enc_str, enc_u8, enc_bool, tak_s, tak_0, tak_n, drp_0, drp_s, drp_n, nth_s, nth_0, bsl_Sint, bsl_SReading, bsl_SLine, bld_Span, bld_spring_work, bld_spring_asked, enc_Line, enc_Reading, ocond_d, Int.toNat_natCast]); done) | with_unfolding_all rfl) : p := h
theorem sM_Xe {p : Prop} (h : p := by (first | assumption | (simp (disch := omega) only [Tr.get_same, Tr.get_other, *]; rfl) | (simp (disch := omega) only [Tr.get_same, Tr.get_other, *]; done))) : p := h
theorem sS_Xe {p : Prop} (h : p := by first | assumption | exact s1_Xe) : p := h
theorem op_Xe {p : Prop} (h : p := by first | with_reducible exact fad_p _ _ _ | with_reducible exact iop_lss _ _ | with_reducible exact iop_leq _ _ | with_reducible exact iop_gtr _ _ | with_reducible exact iop_geq _ _ | with_reducible exact iop_eql _ _ | with_reducible exact iop_neq _ _ | with_reducible exact Sl.len (by assumption) | with_reducible exact lenS_s _ _ _ | with_reducible exact Sl.iad (by assumption) (by with_unfolding_all rfl) (by first | assumption | omega) | with_reducible exact Sl.fad (by assumption) (by first | assumption | omega) | with_reducible exact Sl.ld1 (by assumption) fr_Xe (by with_unfolding_all rfl) (by assumption) en_Xe | with_reducible exact Sl.ldN (by assumption) fr_Xe (by with_unfolding_all rfl) (by assumption) (by with_unfolding_all rfl) en_Xe | with_reducible exact zadd1 (by omega) | with_reducible exact zsub1 (by omega) (by omega) | with_reducible exact zaddI (by omega) (by omega) | with_reducible exact zsubI (by omega) (by omega) | with_reducible exact min_z | with_reducible exact max_z | with_reducible exact zmulI (by assumption) | with_reducible exact zmulK (by omega) (by omega) | with_reducible exact quo_z (by omega) (by omega) (by omega) | with_reducible exact cv_u8 (by omega) | with_reducible exact rem_z (by omega) (by omega) (by omega) | with_reducible exact neq_bool (by kernel_rfl) | with_reducible exact eql_u8 | with_reducible exact wntT_t (by assumption) | with_reducible exact wntT_f (by assumption) | with_reducible exact wntF_t (by assumption) | with_reducible exact wntF_f (by assumption) | with_reducible exact wnt_tt | with_reducible exact wnt_tf | with_reducible exact wnt_ft | with_reducible exact wnt_ff | with_reducible exact wnt_u _ _ | with_reducible exact pck_t _ _ | with_reducible exact pck_f _ _ | with_reducible exact pckT (by assumption) | with_reducible exact pckF (by assumption) | with_reducible exact wntT_t (by decide) | with_reducible exact wntT_f (by decide) | with_reducible exact wntF_t (by decide) | with_reducible exact wntF_f (by decide) | with_reducible exact pckT (by decide) | with_reducible exact pckF (by decide) | with_reducible exact wntN_tt (by decide) | with_reducible exact wntN_tf (by decide) | with_reducible exact wntN_ft (by decide) | with_reducible exact wntN_ff (by decide) | with_reducible exact pckNT (by decide) | with_reducible exact pckNF (by decide) | with_reducible exact wntN_tt (by assumption) | with_reducible exact wntN_tf (by assumption) | with_reducible exact wntN_ft (by assumption) | with_reducible exact wntN_ff (by assumption) | with_reducible exact pckNT (by assumption) | with_reducible exact pckNF (by assumption) | with_reducible exact wntB_tt (by assumption) | with_reducible exact wntB_tf (by assumption) | with_reducible exact wntB_ft (by assumption) | with_reducible exact wntB_ff (by assumption) | with_reducible exact pckBT (by assumption) | with_reducible exact pckBF (by assumption) | exact s2_Xe | exact s1_Xe) : p := h
theorem co_Xe {p : Prop} (h : p := by first | (simp only [impB_1, impB_0, offB_1, offB_0]; done) | ((try simp only [impB_1, impB_0, offB_1, offB_0]); first | with_reducible exact Sl.ag1 (by assumption) fr_Xe (by with_unfolding_all rfl) (by assumption) en_Xe | with_reducible exact Sl.agN (by assumption) fr_Xe (by with_unfolding_all rfl) (by assumption) (by with_unfolding_all rfl) en_Xe | ((with_reducible refine agL1_e ?_ ?_); (· exact s1_Xe); (· exact fl_Xe)) | ((with_reducible refine agLN_e ?_ ?_); (· exact s1_Xe); (· exact fll_Xe)) | ((with_reducible apply ag_bs); (· exact sM_Xe); (· rfl); (· exact sb_Xe); (· exact fll_Xe)) | ((with_reducible apply ag_al); (· exact sM_Xe); (· rfl); (· exact fll_Xe)) | ((with_reducible apply ag_bx); (· exact sM_Xe); (· rfl); (· rfl); (· exact fll_Xe)) | ((with_reducible apply ag_bd); (· rfl); (· exact s1_Xe); (· exact fll_Xe)) | exact s1_Xe)) : p := h
theorem gs_Xe {r p : Prop} (k : r) (h : Go.Ev.Im r p := by (first | with_reducible apply Im.runS | ((with_reducible apply Im.num); · (simp only [Nat.succ_eq_add_one, Nat.add_assoc, Nat.reduceAdd]; rfl)) | (with_reducible apply Im.unm) | (with_reducible apply Im.selT) | (with_reducible apply Im.selF) | ((with_reducible apply Im.cndT); · assumption) | ((with_reducible apply Im.cndF); · assumption) | ((with_reducible apply Im.cndT); · decide) | ((with_reducible apply Im.cndF); · decide) | ((with_reducible apply Im.cndNT); · decide) | ((with_reducible apply Im.cndNF); · decide) | ((with_reducible apply Im.cndBT); · exact rfl) | ((with_reducible apply Im.cndBF); · exact rfl) | ((with_reducible apply Im.cndNT); · assumption) | ((with_reducible apply Im.cndNF); · assumption) | ((with_reducible apply Im.cndBT); · assumption) | ((with_reducible apply Im.cndBF); · assumption) | ((with_reducible apply Im.bind); · exact op_Xe) | ((with_reducible apply Im.cond); · exact co_Xe) | ((with_reducible apply Im.runB); · exact op_Xe) | ((with_reducible apply Im.runC); · exact co_Xe) | ((with_reducible apply Im.runN); · (simp only [Nat.succ_eq_add_one, Nat.add_assoc, Nat.reduceAdd]; rfl)) | with_reducible apply Im.runR | ((with_reducible apply Im.runE (x := evBuildSlice _ _ _ _ _ _)); · exact sb_Xe)); (repeat (first | with_reducible apply Im.runS | ((with_reducible apply Im.num); · (simp only [Nat.succ_eq_add_one, Nat.add_assoc, Nat.reduceAdd]; rfl)) | (with_reducible apply Im.unm) | (with_reducible apply Im.selT) | (with_reducible apply Im.selF) | ((with_reducible apply Im.cndT); · assumption) | ((with_reducible apply Im.cndF); · assumption) | ((with_reducible apply Im.cndT); · decide) | ((with_reducible apply Im.cndF); · decide) | ((with_reducible apply Im.cndNT); · decide) | ((with_reducible apply Im.cndNF); · decide) | ((with_reducible apply Im.cndBT); · exact rfl) | ((with_reducible apply Im.cndBF); · exact rfl) | ((with_reducible apply Im.cndNT); · assumption) | ((with_reducible apply Im.cndNF); · assumption) | ((with_reducible apply Im.cndBT); · assumption) | ((with_reducible apply Im.cndBF); · assumption) | ((with_reducible apply Im.bind); · exact op_Xe) | ((with_reducible apply Im.cond); · exact co_Xe) | ((with_reducible apply Im.runB); · exact op_Xe) | ((with_reducible apply Im.runC); · exact co_Xe) | ((with_reducible apply Im.runN); · (simp only [Nat.succ_eq_add_one, Nat.add_assoc, Nat.reduceAdd]; rfl)) | with_reducible apply Im.runR | ((with_reducible apply Im.runE (x := evBuildSlice _ _ _ _ _ _)); · exact sb_Xe))); exact Go.Ev.Im.id) : p := h k
section
variable {s : Sp} {b r : Value}
theorem r_wrong (d : Nat) {p : Int} {h N} (hb : Sl h N b s.book) (hr : Sl h N r s.reads) (hp : 0 ≤ p ∧ p < 65536) :
    Rn (s8 (cN (d + 6)) (.agg ⟨[iS s.weeks, iS s.most, iS s.fall, iS s.slo, iS s.shi, iS s.wlo, iS s.whi, b, r]⟩) (.int .u16 p) h N) fun v h' N' => v = .bool true := by
  unfold s8
  have cb := hb.flat; have cr := hr.flat; have x1 := flatV_one cb; have y1 := cel_flat cb; have x2 := flatV_one cr; have y2 := cel_flat cr
  try refine gs_Xe ?_
  refine Rn.runE (show X28 _ [] _ _ = some (.bool true, _, _) from rfl) ?_
  try refine gs_Xe ?_
  refine Rn.call (c_ready _ (Sl.up (by assumption) fr_Xe (by omega)) (Sl.up (by assumption) fr_Xe (by omega))) ?_
  rintro _ h1 N1 ⟨rfl, f1, o1, l1⟩
  try refine gs_Xe ?_
  refine Rn.partN (fun hrd => ?_) (fun hrd => ?_)
  rotate_left
  · try refine gs_Xe ?_
    exact Rn.ret rfl
  obtain ⟨hv, nb, nr⟩ := ready_ok hrd
  have hs := ok_of_valid hv
  have hnr := hs.nr
  try refine gs_Xe ?_
  refine Rn.call (c_Wrong d nb nr (Sl.up (by assumption) fr_Xe (by omega)) (Sl.up (by assumption) fr_Xe (by omega))) ?_
  rintro _ h2 N2 ⟨⟨l, rfl, hl⟩, f2, o2, l2⟩
  have hlaw := fun (o : List Rd) (ho : o.Sublist s.reads) => wrong_law hv ho
  have hnl : (wgL s).length < 1000 := by
    rcases hlaw [] (List.nil_sublist _) with ⟨e, _⟩ | ⟨e, _⟩ | ⟨_, _, _, e, _⟩
    · unfold wgL; rw [e]; simp
    · unfold wgL; rw [e]; simp
    · omega
  generalize wgE s = e at *
  generalize wgL s = W at *
  have cl := hl.flat
  have x3 := flatV_one cl
  have y3 := cel_flat cl
  have m0 : h2.get N = some (.c [iS s.weeks, iS s.most, iS s.fall, iS s.slo, iS s.shi, iS s.wlo, iS s.whi, b, r] 27) := sS_Xe
  have s0 : Sl h2 N2 b s.book := (Sl.up (by assumption) fr_Xe (by omega))
  have s1 : Sl h2 N2 r s.reads := (Sl.up (by assumption) fr_Xe (by omega))
  have lN : N < N2 := by omega
  try refine gs_Xe ?_
  refine Rn.loop9 (fun n a1 a2 a3 a4 a5 a6 a7 a8 a9 g M => ∃ (i : Nat) (o : List Rd), a1 = .int .u16 p ∧ a2 = .pointer (some ⟨N, 0, none⟩) ∧ a3 = .bool true ∧ l = a4 ∧ a5 = iS e ∧ r = a7 ∧ a8 = nS s.reads.length ∧ a9 = nS i ∧ i + n = s.reads.length ∧ Fr h2 N2 g ∧ N2 ≤ M ∧ o.Sublist (s.reads.take i) ∧ OwZ g M 3 a6 (o.map (·.Number)) (fun j => N2 ≤ j)) s.reads.length (by omega)
    ⟨0, [], rfl, rfl, rfl, rfl, rfl, rfl, rfl, rfl, by omega, Fr.refl _ _, Nat.le_refl _, List.nil_sublist _, .inl ⟨rfl, rfl⟩⟩ ?_
  clear f1 o1 l1 f2 o2 l2 hb hr
  rintro n g ih _ _ _ _ _ v _ _ _ h3 N3 ⟨i, o, rfl, rfl, rfl, q1, rfl, q2, rfl, rfl, e2, f3, l3, hsub, own⟩
  subst q1; subst q2
  have p0 := (f3 _ lN).trans m0
  have cv := own.sl.flat
  have x4 := flatV_one cv
  have y4 := cel_flat cv
  have hol : o.length ≤ 12 := by
    have := hsub.length_le
    rw [List.length_take] at this; omega
  try refine gs_Xe ?_
  (first | with_reducible refine Rn.cnd (fun _ => ?_) (fun _ => ?_) | with_reducible refine Rn.cndN (fun _ => ?_) (fun _ => ?_) | with_reducible refine Rn.cndB (fun _ => ?_) (fun _ => ?_))
  · obtain ⟨x, hx⟩ := at_of (L := s.reads) (k := i) (by omega)
    have hi : i < s.reads.length := by omega
    have et : s.reads.take (i + 1) = s.reads.take i ++ [x] := by rw [List.take_add_one, hx]; rfl
    obtain ⟨z1, k1⟩ := shr_u16 (P := Pr) (T := 85) (x := .tmp 41) (y := .tmp 42) (a := p) (b := (i : Int)) (by omega)
    obtain ⟨z2, k2⟩ := and_u16 (P := Pr) (T := 85) (x := .tmp 43) (y := .const (.int .u16 (.ofNat 1))) (a := z1) (b := .ofNat 1)
    have k3 := eql_u16 (P := Pr) (T := 85) (x := .tmp 44) (y := .const (.int .u16 (.ofNat 1))) (a := z2) (b := .ofNat 1)
    try refine gs_Xe ?_
    try refine Rn.bind k1 ?_
    try refine Rn.bind k2 ?_
    try refine Rn.bind k3 ?_
    clear k1 k2 k3
    unfold jnR
    (first | with_reducible refine Rn.cnd (fun _ => ?_) (fun _ => ?_) | with_reducible refine Rn.cndN (fun _ => ?_) (fun _ => ?_) | with_reducible refine Rn.cndB (fun _ => ?_) (fun _ => ?_))
    · have w : ∃ j, N2 ≤ j ∧ j < N3 + 1 ∧ ∀ g' : Tr Ob, (∀ k, N2 ≤ k → k < N3 → g'.get k = h3.get k) → Ow g' 3 v (o.map (·.Number)) j := by
        rcases own with ⟨rfl, e⟩ | ⟨j, p, hj, o⟩
        · rw [e]; exact ⟨N3, by omega, by omega, fun g' _ => Ow.nil _ _ _⟩
        · exact ⟨j, p, by omega, fun g' hk => o.keep (hk j p hj)⟩
      obtain ⟨j, j1, j2, w⟩ := w
      clear own
      try refine gs_Xe ?_
      refine Rn.call (Ow.app (α := Int) (K := [x.Number]) (i := j) ap_Sint (w _ fun k g1 g2 => sS_Xe) (by omega) (Sl.lit [x.Number] sM_Xe (by omega : N3 + 1 < N3 + 1 + 1) rfl rfl) (Fr.refl _ _) (by simp; omega)) ?_
      rintro v2 h6 N6 ⟨j', w6, e6, e6', f6, o6, l6⟩
      have cv2 := (w6.sl e6').flat
      have x5 := flatV_one cv2
      have y5 := cel_flat cv2
      try refine gs_Xe ?_
      exact ih (n - 1) (by omega) _ _ _ _ _ _ _ _ _ _ _ ⟨i + 1, o ++ [x], rfl, rfl, rfl, rfl, rfl, rfl, rfl, rfl, by omega, fr_Xe, by omega, by rw [et]; exact hsub.append (List.Sublist.refl _), .inr ⟨j', by omega, e6', by rw [List.map_append]; exact w6⟩⟩
    · try refine gs_Xe ?_
      exact ih (n - 1) (by omega) _ _ _ _ _ _ _ _ _ _ _ ⟨i + 1, o, rfl, rfl, rfl, rfl, rfl, rfl, rfl, rfl, by omega, fr_Xe, by omega, by rw [et]; exact hsub.trans (List.sublist_append_left _ _), own.keep (by omega) fun j j1 j2 => sS_Xe⟩
  · obtain rfl : i = s.reads.length := by omega
    rw [List.take_length] at hsub
    have hL := hlaw o hsub
    have hst := st_all hv hsub
    clear hlaw ih
    have hno : (o.map (·.Number)).length < 1000 := by rw [List.length_map]; omega
    have ho := own.sl
    generalize o.map (·.Number) = O at *
    try refine gs_Xe ?_
    refine Rn.call (c_Strike (d + 3) (L := O) nb nr (Sl.up (by assumption) fr_Xe (by omega)) (Sl.up (by assumption) fr_Xe (by omega)) hno (Sl.up (by assumption) fr_Xe (by omega))) ?_
    rintro _ h4 N4 ⟨⟨b', r', rfl, k1, k2⟩, f4, o4, l4⟩
    have e3 : stR s O = woS s O := if_pos hst
    rw [e3] at k1 k2
    rw [hst, e3]
    have c1 := k1.flat
    have c2 := k2.flat
    have x5 := flatV_one c1
    have y5 := cel_flat c1
    have x6 := flatV_one c2
    have y6 := cel_flat c2
    have nbu : (woS s O).book.length < 1000 := nb
    have nru : (woS s O).reads.length < 1000 := by have := wo_len s O; omega
    clear hst e3
    try refine gs_Xe ?_
    refine Rn.call (c_Can (d + 3) (s := woS s O) nbu nru (Sl.up (by assumption) fr_Xe (by omega)) (Sl.up (by assumption) fr_Xe (by omega))) ?_
    rintro _ h5 N5 ⟨rfl, f5, o5, l5⟩
    rw [wo_valid hv, Bool.true_and, if_pos rfl]
    rcases hL with ⟨rfl, hB⟩ | ⟨rfl, hB⟩ | ⟨rfl, hc, hst, hW, hB⟩
    · rw [hB]
      try refine gs_Xe ?_
      exact Rn.ret rfl
    · cases hq : canS (woS s O) with
      | false =>
        try refine gs_Xe ?_
        exact Rn.ret rfl
      | true =>
        have hB := hB hq
        try refine gs_Xe ?_
        exact Rn.ret (congrArg Value.bool (decide_eq_true hB))
    · generalize hq : canS (woS s O) = c at hB
      try refine gs_Xe ?_
      refine Rn.call (c_Strike (d + 3) (L := W) nb nr (Sl.up (by assumption) fr_Xe (by omega)) (Sl.up (by assumption) fr_Xe (by omega)) hnl (Sl.up (by assumption) fr_Xe (by omega))) ?_
      rintro _ h6 N6 ⟨⟨b2, r2, rfl, k3, k4⟩, f6, o6, l6⟩
      have e3 : stR s W = woS s W := if_pos hst
      rw [e3] at k3 k4
      rw [hst, e3]
      have c3 := k3.flat
      have c4 := k4.flat
      have x7 := flatV_one c3
      have y7 := cel_flat c3
      have x8 := flatV_one c4
      have y8 := cel_flat c4
      have nbw : (woS s W).book.length < 1000 := nb
      have nrw : (woS s W).reads.length < 1000 := by have := wo_len s W; omega
      clear hst e3
      try refine gs_Xe ?_
      refine Rn.call (c_Can (d + 3) (s := woS s W) nbw nrw (Sl.up (by assumption) fr_Xe (by omega)) (Sl.up (by assumption) fr_Xe (by omega))) ?_
      rintro _ h7 N7 ⟨rfl, f7, o7, l7⟩
      rw [wo_valid hv, hc, Bool.true_and, if_pos rfl]
      cases c with
      | false =>
        try refine gs_Xe ?_
        exact Rn.ret rfl
      | true =>
        have hB := hB rfl
        try refine gs_Xe ?_
        refine Rn.call (c_Before _ (L := O) (M := W) hno hnl (Sl.up (by assumption) fr_Xe (by omega)) (Sl.up (by assumption) fr_Xe (by omega))) ?_
        rintro _ h8 N8 ⟨rfl, f8, o8, l8⟩
        rw [hB]
        try refine gs_Xe ?_
        exact Rn.ret rfl
end
end Go.Proofs.Ytpilgokdbliklaa
end

