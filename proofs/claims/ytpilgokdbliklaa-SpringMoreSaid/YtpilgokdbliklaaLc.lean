/-
  What the functions of the law return.
  Conditions: none.
-/
import Derived.Test.YtpilgokdbliklaaLb
import Derived.Test.YtpilgokdbliklaaRows
import Derived.Test.YtpilgokdbliklaaChecked
import Derived.Lib.SmallJoins
import Derived.ProofKit
import Derived.Carry

section
namespace Go.Proofs.Ytpilgokdbliklaa
open Go.Ev Go.RowKit
set_option linter.unusedVariables false
set_option linter.unusedSimpArgs false
set_option linter.unusedSectionVars false
set_option maxRecDepth 100000
set_option maxHeartbeats 4000000
theorem c_rwithin (call : CallF) {n a c : Int} {h N} : Rn (s66 call (iS n) (iS a) (iS c) h N) fun v h' N' => v = .bool (inS a c n) ∧ Gw h N h' N' := by
  unfold s66
  repeat' (first | refine gs_Sc ?_ | (first | with_reducible refine Rn.part (fun _ => ?_) (fun _ => ?_) | with_reducible refine Rn.partN (fun _ => ?_) (fun _ => ?_) | with_reducible refine Rn.partB (fun _ => ?_) (fun _ => ?_)) | (first | with_reducible refine Rn.cnd (fun _ => ?_) (fun _ => ?_) | with_reducible refine Rn.cndN (fun _ => ?_) (fun _ => ?_) | with_reducible refine Rn.cndB (fun _ => ?_) (fun _ => ?_)))
  · exact Rn.ret ⟨congrArg Value.bool (by unfold inS; rw [decide_eq_true (p := a ≤ n) (by omega), Bool.true_and]), (Gw.of fr_Sc (by omega))⟩
  · exact Rn.ret ⟨congrArg Value.bool (by unfold inS; rw [decide_eq_false (p := a ≤ n) (by omega), Bool.false_and]), (Gw.of fr_Sc (by omega))⟩
theorem spanned_eq (lo hi a b : Int) : (inS a b hi && inS a hi lo) = isSpanB lo hi a b := by
  rw [Bool.eq_iff_iff]; simp [inS, isSpanB]; omega
theorem c_rspanned (call : CallF) {lo hi a c : Int} {h N} : Rn (s84 call (.agg ⟨[iS lo, iS hi]⟩) (iS a) (iS c) h N) fun v h' N' => v = .bool (isSpanB lo hi a c) ∧ Gw h N h' N' := by
  unfold s84
  rw [← spanned_eq]
  try refine gs_Sc ?_
  refine Rn.call (c_rwithin _) ?_
  rintro _ h1 N1 ⟨rfl, f1, o1, l1⟩
  repeat' (first | refine gs_Sc ?_ | (first | with_reducible refine Rn.part (fun _ => ?_) (fun _ => ?_) | with_reducible refine Rn.partN (fun _ => ?_) (fun _ => ?_) | with_reducible refine Rn.partB (fun _ => ?_) (fun _ => ?_)) | (first | with_reducible refine Rn.cnd (fun _ => ?_) (fun _ => ?_) | with_reducible refine Rn.cndN (fun _ => ?_) (fun _ => ?_) | with_reducible refine Rn.cndB (fun _ => ?_) (fun _ => ?_)))
  rotate_left
  · exact Rn.ret ⟨congrArg Value.bool (by simp only [frameB, lineB, readB, isWeekB, *, Bool.and_true, Bool.true_and, Bool.false_and, Bool.and_false]), (Gw.of fr_Sc (by omega))⟩
  refine Rn.call (c_rwithin _) ?_
  rintro _ h2 N2 ⟨rfl, f2, o2, l2⟩
  try refine gs_Sc ?_
  exact Rn.ret ⟨congrArg Value.bool (by simp only [frameB, lineB, readB, isWeekB, *, Bool.and_true, Bool.true_and, Bool.false_and, Bool.and_false]), (Gw.of fr_Sc (by omega))⟩
theorem c_rReading (call : CallF) {x : Rd} {w : Int} {h N} (hw : -1000000000 ≤ w ∧ w ≤ 1000000000) : Rn (s44 call (.agg ⟨Rwc.enc x⟩) (iS w) h N) fun v h' N' => v = .bool (readB w x) ∧ Gw h N h' N' := by
  unfold s44
  simp only [enc_Reading]
  try refine gs_Sc ?_
  refine Rn.call (c_rwithin _) ?_
  rintro _ h1 N1 ⟨rfl, f1, o1, l1⟩
  repeat' (first | refine gs_Sc ?_ | (first | with_reducible refine Rn.part (fun _ => ?_) (fun _ => ?_) | with_reducible refine Rn.partN (fun _ => ?_) (fun _ => ?_) | with_reducible refine Rn.partB (fun _ => ?_) (fun _ => ?_)) | (first | with_reducible refine Rn.cnd (fun _ => ?_) (fun _ => ?_) | with_reducible refine Rn.cndN (fun _ => ?_) (fun _ => ?_) | with_reducible refine Rn.cndB (fun _ => ?_) (fun _ => ?_)))
  rotate_left
  · exact Rn.ret ⟨congrArg Value.bool (by simp only [frameB, lineB, readB, isWeekB, *, Bool.and_true, Bool.true_and, Bool.false_and, Bool.and_false]), (Gw.of fr_Sc (by omega))⟩
  refine Rn.call (c_rwithin _) ?_
  rintro _ h2 N2 ⟨rfl, f2, o2, l2⟩
  repeat' (first | refine gs_Sc ?_ | (first | with_reducible refine Rn.part (fun _ => ?_) (fun _ => ?_) | with_reducible refine Rn.partN (fun _ => ?_) (fun _ => ?_) | with_reducible refine Rn.partB (fun _ => ?_) (fun _ => ?_)) | (first | with_reducible refine Rn.cnd (fun _ => ?_) (fun _ => ?_) | with_reducible refine Rn.cndN (fun _ => ?_) (fun _ => ?_) | with_reducible refine Rn.cndB (fun _ => ?_) (fun _ => ?_)))
  rotate_left
  · exact Rn.ret ⟨congrArg Value.bool (by simp only [frameB, lineB, readB, isWeekB, *, Bool.and_true, Bool.true_and, Bool.false_and, Bool.and_false]), (Gw.of fr_Sc (by omega))⟩
  refine Rn.call (c_rwithin _) ?_
  rintro _ h3 N3 ⟨rfl, f3, o3, l3⟩
  repeat' (first | refine gs_Sc ?_ | (first | with_reducible refine Rn.part (fun _ => ?_) (fun _ => ?_) | with_reducible refine Rn.partN (fun _ => ?_) (fun _ => ?_) | with_reducible refine Rn.partB (fun _ => ?_) (fun _ => ?_)) | (first | with_reducible refine Rn.cnd (fun _ => ?_) (fun _ => ?_) | with_reducible refine Rn.cndN (fun _ => ?_) (fun _ => ?_) | with_reducible refine Rn.cndB (fun _ => ?_) (fun _ => ?_)))
  rotate_left
  · exact Rn.ret ⟨congrArg Value.bool (by simp only [frameB, lineB, readB, isWeekB, *, Bool.and_true, Bool.true_and, Bool.false_and, Bool.and_false]), (Gw.of fr_Sc (by omega))⟩
  refine Rn.call (c_rspanned _) ?_
  rintro _ h4 N4 ⟨rfl, f4, o4, l4⟩
  repeat' (first | refine gs_Sc ?_ | (first | with_reducible refine Rn.part (fun _ => ?_) (fun _ => ?_) | with_reducible refine Rn.partN (fun _ => ?_) (fun _ => ?_) | with_reducible refine Rn.partB (fun _ => ?_) (fun _ => ?_)) | (first | with_reducible refine Rn.cnd (fun _ => ?_) (fun _ => ?_) | with_reducible refine Rn.cndN (fun _ => ?_) (fun _ => ?_) | with_reducible refine Rn.cndB (fun _ => ?_) (fun _ => ?_)))
  · refine Rn.ret ⟨congrArg Value.bool ?_, (Gw.of fr_Sc (by omega))⟩
    simp only [readB, isWeekB, *, Bool.true_and]; rw [Bool.eq_iff_iff]; simp only [decide_eq_true_eq]; omega
  · exact Rn.ret ⟨congrArg Value.bool (by simp only [frameB, lineB, readB, isWeekB, *, Bool.and_true, Bool.true_and, Bool.false_and, Bool.and_false]), (Gw.of fr_Sc (by omega))⟩
section
variable {s : Sp} {b r : Value}
theorem c_rSpring (call : CallF) {h N} (nb : s.book.length < 1000) (nr : s.reads.length < 1000) (hb : Sl h N b s.book) (hr : Sl h N r s.reads) : Rn (s65 call (.agg ⟨[iS s.weeks, iS s.most, iS s.fall, iS s.slo, iS s.shi, iS s.wlo, iS s.whi, b, r]⟩) h N) fun v h' N' => v = .bool (validB s) ∧ Gw h N h' N' := by
  have cb := hb.flat
  have cr := hr.flat
  unfold s65
  have x1 := flatV_one cb; have y1 := cel_flat cb; have x2 := flatV_one cr; have y2 := cel_flat cr
  have no : ∀ {t : Bool}, (frameB s && bookB s.weeks s.book && readsB s.weeks s.reads) = t → validB s = t := fun h => h
  try refine gs_Sc ?_
  refine Rn.call (c_rwithin _) ?_
  rintro _ h1 N1 ⟨rfl, f1, o1, l1⟩
  repeat' (first | refine gs_Sc ?_ | (first | with_reducible refine Rn.part (fun _ => ?_) (fun _ => ?_) | with_reducible refine Rn.partN (fun _ => ?_) (fun _ => ?_) | with_reducible refine Rn.partB (fun _ => ?_) (fun _ => ?_)) | (first | with_reducible refine Rn.cnd (fun _ => ?_) (fun _ => ?_) | with_reducible refine Rn.cndN (fun _ => ?_) (fun _ => ?_) | with_reducible refine Rn.cndB (fun _ => ?_) (fun _ => ?_)))
  all_goals try ((refine Rn.ret ⟨congrArg Value.bool (no ?_).symm, (Gw.of fr_Sc (by omega))⟩); (simp only [frameB, *, Bool.false_and, Bool.and_false]; done))
  refine Rn.call (c_rwithin _) ?_
  rintro _ h2 N2 ⟨rfl, f2, o2, l2⟩
  repeat' (first | refine gs_Sc ?_ | (first | with_reducible refine Rn.part (fun _ => ?_) (fun _ => ?_) | with_reducible refine Rn.partN (fun _ => ?_) (fun _ => ?_) | with_reducible refine Rn.partB (fun _ => ?_) (fun _ => ?_)) | (first | with_reducible refine Rn.cnd (fun _ => ?_) (fun _ => ?_) | with_reducible refine Rn.cndN (fun _ => ?_) (fun _ => ?_) | with_reducible refine Rn.cndB (fun _ => ?_) (fun _ => ?_)))
  all_goals try ((refine Rn.ret ⟨congrArg Value.bool (no ?_).symm, (Gw.of fr_Sc (by omega))⟩); (simp only [frameB, *, Bool.false_and, Bool.and_false]; done))
  refine Rn.call (c_rwithin _) ?_
  rintro _ h3 N3 ⟨rfl, f3, o3, l3⟩
  repeat' (first | refine gs_Sc ?_ | (first | with_reducible refine Rn.part (fun _ => ?_) (fun _ => ?_) | with_reducible refine Rn.partN (fun _ => ?_) (fun _ => ?_) | with_reducible refine Rn.partB (fun _ => ?_) (fun _ => ?_)) | (first | with_reducible refine Rn.cnd (fun _ => ?_) (fun _ => ?_) | with_reducible refine Rn.cndN (fun _ => ?_) (fun _ => ?_) | with_reducible refine Rn.cndB (fun _ => ?_) (fun _ => ?_)))
  all_goals try ((refine Rn.ret ⟨congrArg Value.bool (no ?_).symm, (Gw.of fr_Sc (by omega))⟩); (simp only [frameB, *, Bool.false_and, Bool.and_false]; done))
  refine Rn.call (c_rspanned _) ?_
  rintro _ h4 N4 ⟨rfl, f4, o4, l4⟩
  repeat' (first | refine gs_Sc ?_ | (first | with_reducible refine Rn.part (fun _ => ?_) (fun _ => ?_) | with_reducible refine Rn.partN (fun _ => ?_) (fun _ => ?_) | with_reducible refine Rn.partB (fun _ => ?_) (fun _ => ?_)) | (first | with_reducible refine Rn.cnd (fun _ => ?_) (fun _ => ?_) | with_reducible refine Rn.cndN (fun _ => ?_) (fun _ => ?_) | with_reducible refine Rn.cndB (fun _ => ?_) (fun _ => ?_)))
  all_goals try ((refine Rn.ret ⟨congrArg Value.bool (no ?_).symm, (Gw.of fr_Sc (by omega))⟩); (simp only [frameB, *, Bool.false_and, Bool.and_false]; done))
  refine Rn.call (c_rspanned _) ?_
  rintro _ h5 N5 ⟨rfl, f5, o5, l5⟩
  repeat' (first | refine gs_Sc ?_ | (first | with_reducible refine Rn.part (fun _ => ?_) (fun _ => ?_) | with_reducible refine Rn.partN (fun _ => ?_) (fun _ => ?_) | with_reducible refine Rn.partB (fun _ => ?_) (fun _ => ?_)) | (first | with_reducible refine Rn.cnd (fun _ => ?_) (fun _ => ?_) | with_reducible refine Rn.cndN (fun _ => ?_) (fun _ => ?_) | with_reducible refine Rn.cndB (fun _ => ?_) (fun _ => ?_)))
  all_goals try ((refine Rn.ret ⟨congrArg Value.bool (no ?_).symm, (Gw.of fr_Sc (by omega))⟩); (simp only [frameB, *, Bool.false_and, Bool.and_false]; done))
  all_goals try ((refine Rn.ret ⟨congrArg Value.bool (no ?_).symm, (Gw.of fr_Sc (by omega))⟩); (unfold bookB; rw [decide_eq_false (p := s.book.length ≤ 8) (by omega)]; simp only [Bool.false_and, Bool.and_false]; done))
  all_goals try ((refine Rn.ret ⟨congrArg Value.bool (no ?_).symm, (Gw.of fr_Sc (by omega))⟩); (unfold readsB; rw [decide_eq_false (p := s.reads.length ≤ 12) (by omega)]; simp only [Bool.false_and, Bool.and_false]; done))
  have hfr : frameB s = true := by simp only [frameB, *, Bool.and_true]
  have hw := frame_weeks hfr
  have hall : validB s = (s.book.all (lineB s.weeks) && rdsB s.weeks 0 s.reads) := by
    unfold validB bookB readsB; rw [hfr, decide_eq_true (by omega), decide_eq_true (by omega)]; rfl
  clear no
  rw [hall]
  refine Rn.loop4 (fun n p u l k g M => ∃ i : Nat, p = .pointer (some ⟨N, 0, none⟩) ∧ b = u ∧ l = nS s.book.length ∧ k = nS i ∧ i + n = s.book.length ∧ Fr h N g ∧ N + 1 ≤ M ∧ g.get N = some (.c [iS s.weeks, iS s.most, iS s.fall, iS s.slo, iS s.shi, iS s.wlo, iS s.whi, b, r] 27) ∧ (s.book.drop i).all (lineB s.weeks) = s.book.all (lineB s.weeks)) s.book.length (by omega) ⟨0, rfl, rfl, rfl, rfl, by omega, fr_Sc, by omega, sS_Sc, rfl⟩ ?_
  rintro n g ih _ _ _ _ h6 N6 ⟨i, rfl, rfl, rfl, rfl, e1, f6, l6, g1, q1⟩
  try refine gs_Sc ?_
  (first | with_reducible refine Rn.cnd (fun _ => ?_) (fun _ => ?_) | with_reducible refine Rn.cndN (fun _ => ?_) (fun _ => ?_) | with_reducible refine Rn.cndB (fun _ => ?_) (fun _ => ?_))
  · obtain ⟨x, hx⟩ := at_of (L := s.book) (k := i) (by omega)
    rw [drop_at hx] at q1
    simp only [List.all_cons] at q1
    have no : lineB s.weeks x = false → false = (s.book.all (lineB s.weeks) && rdsB s.weeks 0 s.reads) := fun h => by rw [← q1, h]; rfl
    have yes : lineB s.weeks x = true → (s.book.drop (i + 1)).all (lineB s.weeks) = s.book.all (lineB s.weeks) := fun h => by rw [← q1, h]; rfl
    clear q1
    try refine gs_Sc ?_
    refine Rn.call (c_rspanned _) ?_
    rintro _ h7 N7 ⟨rfl, f7, o7, l7⟩
    repeat' (first | refine gs_Sc ?_ | (first | with_reducible refine Rn.part (fun _ => ?_) (fun _ => ?_) | with_reducible refine Rn.partN (fun _ => ?_) (fun _ => ?_) | with_reducible refine Rn.partB (fun _ => ?_) (fun _ => ?_)) | (first | with_reducible refine Rn.cnd (fun _ => ?_) (fun _ => ?_) | with_reducible refine Rn.cndN (fun _ => ?_) (fun _ => ?_) | with_reducible refine Rn.cndB (fun _ => ?_) (fun _ => ?_)))
    all_goals try ((refine Rn.ret ⟨congrArg Value.bool (no ?_), (Gw.of fr_Sc (by omega))⟩); (simp only [lineB, isWeekB, *, Bool.false_and, Bool.and_false]; done))
    refine Rn.call (c_rwithin _) ?_
    rintro _ h8 N8 ⟨rfl, f8, o8, l8⟩
    repeat' (first | refine gs_Sc ?_ | (first | with_reducible refine Rn.part (fun _ => ?_) (fun _ => ?_) | with_reducible refine Rn.partN (fun _ => ?_) (fun _ => ?_) | with_reducible refine Rn.partB (fun _ => ?_) (fun _ => ?_)) | (first | with_reducible refine Rn.cnd (fun _ => ?_) (fun _ => ?_) | with_reducible refine Rn.cndN (fun _ => ?_) (fun _ => ?_) | with_reducible refine Rn.cndB (fun _ => ?_) (fun _ => ?_)))
    all_goals try ((refine Rn.ret ⟨congrArg Value.bool (no ?_), (Gw.of fr_Sc (by omega))⟩); (simp only [lineB, isWeekB, *, Bool.false_and, Bool.and_false]; done))
    refine Rn.call (c_rspanned _) ?_
    rintro _ h9 N9 ⟨rfl, f9, o9, l9⟩
    repeat' (first | refine gs_Sc ?_ | (first | with_reducible refine Rn.part (fun _ => ?_) (fun _ => ?_) | with_reducible refine Rn.partN (fun _ => ?_) (fun _ => ?_) | with_reducible refine Rn.partB (fun _ => ?_) (fun _ => ?_)) | (first | with_reducible refine Rn.cnd (fun _ => ?_) (fun _ => ?_) | with_reducible refine Rn.cndN (fun _ => ?_) (fun _ => ?_) | with_reducible refine Rn.cndB (fun _ => ?_) (fun _ => ?_)))
    all_goals try ((refine Rn.ret ⟨congrArg Value.bool (no ?_), (Gw.of fr_Sc (by omega))⟩); (simp only [lineB, isWeekB, *, Bool.false_and, Bool.and_false]; done))
    exact ih (n - 1) (by omega) _ _ _ _ _ _ ⟨i + 1, rfl, rfl, rfl, rfl, by omega, fr_Sc, by omega, sS_Sc, yes (by simp only [lineB, isWeekB, *, Bool.and_true])⟩
  · rw [List.drop_eq_nil_of_le (by omega)] at q1
    have q2 : s.book.all (lineB s.weeks) = true := q1.symm
    rw [q2, Bool.true_and]
    clear ih q1
    try refine gs_Sc ?_
    refine Rn.loop4 (fun n p u l k g M => ∃ (i : Nat) (y : Int), p = .pointer (some ⟨N, 0, none⟩) ∧ r = u ∧ l = nS s.reads.length ∧ k = nS i ∧ i + n = s.reads.length ∧ Fr h N g ∧ N + 1 ≤ M ∧ g.get N = some (.c [iS s.weeks, iS s.most, iS s.fall, iS s.slo, iS s.shi, iS s.wlo, iS s.whi, b, r] 27) ∧ rdsB s.weeks y (s.reads.drop i) = rdsB s.weeks 0 s.reads ∧ (i = 0 ∧ y = 0 ∨ 0 < i ∧ ∃ p, s.reads[i - 1]? = some p ∧ p.Number = y)) s.reads.length (by omega) ⟨0, 0, rfl, rfl, rfl, rfl, by omega, fr_Sc, by omega, sS_Sc, rfl, .inl ⟨rfl, rfl⟩⟩ ?_
    rintro n g ih _ _ _ _ h6 N6 ⟨i, y, rfl, rfl, rfl, rfl, e1, f6, l6, g1, q1, q3⟩
    try refine gs_Sc ?_
    (first | with_reducible refine Rn.cnd (fun _ => ?_) (fun _ => ?_) | with_reducible refine Rn.cndN (fun _ => ?_) (fun _ => ?_) | with_reducible refine Rn.cndB (fun _ => ?_) (fun _ => ?_))
    · obtain ⟨x, hx⟩ := at_of (L := s.reads) (k := i) (by omega)
      rw [drop_at hx] at q1
      simp only [rdsB] at q1
      have xe : s.reads[i + 1 - 1]? = some x := hx
      try refine gs_Sc ?_
      refine Rn.call (c_rReading _ (by omega)) ?_
      rintro _ h7 N7 ⟨rfl, f7, o7, l7⟩
      cases hrd : readB s.weeks x with
      | false =>
        rw [hrd] at q1
        simp only [Bool.and_false, Bool.false_and] at q1
        clear ih q3
        generalize rdsB s.weeks 0 s.reads = z at q1 ⊢
        subst q1
        repeat' (first | refine gs_Sc ?_ | (first | with_reducible refine Rn.part (fun _ => ?_) (fun _ => ?_) | with_reducible refine Rn.partN (fun _ => ?_) (fun _ => ?_) | with_reducible refine Rn.partB (fun _ => ?_) (fun _ => ?_)) | (first | with_reducible refine Rn.cnd (fun _ => ?_) (fun _ => ?_) | with_reducible refine Rn.cndN (fun _ => ?_) (fun _ => ?_) | with_reducible refine Rn.cndB (fun _ => ?_) (fun _ => ?_)))
        exact Rn.ret ⟨rfl, (Gw.of fr_Sc (by omega))⟩
      | true =>
        have hn : 1 ≤ x.Number := by simp only [readB, inS, Bool.and_eq_true, decide_eq_true_eq] at hrd; omega
        rw [hrd] at q1
        simp only [Bool.and_true] at q1
        rcases q3 with ⟨rfl, rfl⟩ | ⟨hi, p, hp, rfl⟩
        · rw [decide_eq_true (by omega)] at q1
          repeat' (first | refine gs_Sc ?_ | (first | with_reducible refine Rn.part (fun _ => ?_) (fun _ => ?_) | with_reducible refine Rn.partN (fun _ => ?_) (fun _ => ?_) | with_reducible refine Rn.partB (fun _ => ?_) (fun _ => ?_)) | (first | with_reducible refine Rn.cnd (fun _ => ?_) (fun _ => ?_) | with_reducible refine Rn.cndN (fun _ => ?_) (fun _ => ?_) | with_reducible refine Rn.cndB (fun _ => ?_) (fun _ => ?_)))
          all_goals first | omega | exact ih (n - 1) (by omega) _ _ _ _ _ _ ⟨0 + 1, x.Number, rfl, rfl, rfl, rfl, by omega, fr_Sc, by omega, sS_Sc, q1, .inr ⟨by omega, x, xe, rfl⟩⟩
        · repeat' (first | refine gs_Sc ?_ | (first | with_reducible refine Rn.part (fun _ => ?_) (fun _ => ?_) | with_reducible refine Rn.partN (fun _ => ?_) (fun _ => ?_) | with_reducible refine Rn.partB (fun _ => ?_) (fun _ => ?_)) | (first | with_reducible refine Rn.cnd (fun _ => ?_) (fun _ => ?_) | with_reducible refine Rn.cndN (fun _ => ?_) (fun _ => ?_) | with_reducible refine Rn.cndB (fun _ => ?_) (fun _ => ?_)))
          all_goals try (exfalso; omega)
          · rw [decide_eq_false (by omega)] at q1
            exact Rn.ret ⟨congrArg Value.bool q1, (Gw.of fr_Sc (by omega))⟩
          · rw [decide_eq_true (by omega)] at q1
            exact ih (n - 1) (by omega) _ _ _ _ _ _ ⟨i + 1, x.Number, rfl, rfl, rfl, rfl, by omega, fr_Sc, by omega, sS_Sc, q1, .inr ⟨by omega, x, xe, rfl⟩⟩
    · rw [List.drop_eq_nil_of_le (by omega)] at q1
      try refine gs_Sc ?_
      exact Rn.ret ⟨congrArg Value.bool q1, (Gw.of fr_Sc (by omega))⟩
end
end Go.Proofs.Ytpilgokdbliklaa
end

section
namespace Go.Proofs.Ytpilgokdbliklaa
open Go.Ev Go.RowKit
set_option linter.unusedVariables false
set_option linter.unusedSimpArgs false
set_option linter.unusedSectionVars false
set_option maxRecDepth 100000
set_option maxHeartbeats 4000000
theorem s1_Sk {p : Prop} (h : p := by (simp (disch := omega) only [obind_s, orun_s, ocond_t, fad_p, ld1_e, ldN_e, sto_e, cellO_c, wrO_c, Tr.get_same, Tr.get_other, nth_0, nth_s, drp_0, drp_s, drp_n, tak_0, tak_s, tak_n, over_n, over_c, lay_0, lay_s, lay_n, len_n, len_c, app_n, app_c, reps_0, reps_s, cel_agg, cel_int, cel_bool, cel_str, cel_sl, cel_ptr, cel_map, cel_func, cel_nilf, fil_n, fil_c, beq_r, ble_d, allF_n, allF_c, one_int, one_bool, one_str, one_sl, one_ptr, one_map, one_func, one_nilf, Bool.and_true, Bool.true_and, Bool.not_true, Bool.not_false, iadA_z, Int.reduceToNat, Int.toNat_zero, fl1_a, flN_a, extr_t, unot, not_d, Nat.add_eq, Nat.mul_eq, Nat.mul_one, Nat.one_mul, Nat.zero_mul, Nat.reduceMul, Nat.zero_add, Nat.add_zero, Nat.le_refl, decide_true, Nat.reduceAdd, Nat.reduceLeDiff, bsl_Sint, bld_Span, bld_spring_work, bld_spring_asked, enc_Line, enc_Reading, ocond_d, Int.toNat_natCast, bd_drp0, bd_drp1, bd_lay, bd_len, bd_self, bd_tak, bd_over, qc_drp0, qc_drp1, setSt_e, stO_n, stO_s, isReady_r, anySt_t, unmark_e, unO_d, bsl_Saguadorref01_left, enc_Lf, le_lo, le_hi, le_laylo, le_layhi, le_len, le_self, le_tak, le_over, up_same, up_up, Nat.add_sub_cancel, *]); first | done | fail) : p := h
theorem s2_Sk {p : Prop} (h : p := by (simp (disch := omega) only [obind_s, orun_s, ocond_t, fad_p, ld1_e, ldN_e, sto_e, cellO_c, wrO_c, Tr.get_same, Tr.get_other, nth_0, nth_s, drp_0, drp_s, drp_n, tak_0, tak_s, tak_n, over_n, over_c, lay_0, lay_s, lay_n, len_n, len_c, app_n, app_c, reps_0, reps_s, cel_agg, cel_int, cel_bool, cel_str, cel_sl, cel_ptr, cel_map, cel_func, cel_nilf, fil_n, fil_c, beq_r, ble_d, allF_n, allF_c, one_int, one_bool, one_str, one_sl, one_ptr, one_map, one_func, one_nilf, Bool.and_true, Bool.true_and, Bool.not_true, Bool.not_false, iadA_z, Int.reduceToNat, Int.toNat_zero, fl1_a, flN_a, extr_t, unot, not_d, Nat.add_eq, Nat.mul_eq, Nat.mul_one, Nat.one_mul, Nat.zero_mul, Nat.reduceMul, Nat.zero_add, Nat.add_zero, Nat.le_refl, decide_true, Nat.reduceAdd, Nat.reduceLeDiff, bsl_Sint, bld_Span, bld_spring_work, bld_spring_asked, enc_Line, enc_Reading, ocond_d, Int.toNat_natCast, bd_drp0, bd_drp1, bd_lay, bd_len, bd_self, bd_tak, bd_over, qc_drp0, qc_drp1, setSt_e, stO_n, stO_s, isReady_r, anySt_t, unmark_e, unO_d, bsl_Saguadorref01_left, enc_Lf, le_lo, le_hi, le_laylo, le_layhi, le_len, le_self, le_tak, le_over, up_same, up_up, Nat.add_sub_cancel, *]); rfl) : p := h
theorem sb_Sk {p : Prop} (h : p := by first | ((simp (disch := omega) only [obind_s, orun_s, ocond_t, fad_p, ld1_e, ldN_e, sto_e, cellO_c, wrO_c, Tr.get_same, Tr.get_other, nth_0, nth_s, drp_0, drp_s, drp_n, tak_0, tak_s, tak_n, over_n, over_c, lay_0, lay_s, lay_n, len_n, len_c, app_n, app_c, reps_0, reps_s, cel_agg, cel_int, cel_bool, cel_str, cel_sl, cel_ptr, cel_map, cel_func, cel_nilf, fil_n, fil_c, beq_r, ble_d, allF_n, allF_c, one_int, one_bool, one_str, one_sl, one_ptr, one_map, one_func, one_nilf, Bool.and_true, Bool.true_and, Bool.not_true, Bool.not_false, iadA_z, Int.reduceToNat, Int.toNat_zero, fl1_a, flN_a, extr_t, unot, not_d, Nat.add_eq, Nat.mul_eq, Nat.mul_one, Nat.one_mul, Nat.zero_mul, Nat.reduceMul, Nat.zero_add, Nat.add_zero, Nat.le_refl, decide_true, Nat.reduceAdd, Nat.reduceLeDiff, bsl_Sint, bld_Span, bld_spring_work, bld_spring_asked, enc_Line, enc_Reading, ocond_d, Int.toNat_natCast, bd_drp0, bd_drp1, bd_lay, bd_len, bd_self, bd_tak, bd_over, qc_drp0, qc_drp1, setSt_e, stO_n, stO_s, isReady_r, anySt_t, unmark_e, unO_d, bsl_Saguadorref01_left, enc_Lf, le_lo, le_hi, le_laylo, le_layhi, le_len, le_self, le_tak, le_over, up_same, up_up, Nat.add_sub_cancel, Nat.succ_eq_add_one, Nat.add_assoc, *]); rfl) | ((simp (disch := omega) only [obind_s, orun_s, ocond_t, fad_p, ld1_e, ldN_e, sto_e, cellO_c, wrO_c, Tr.get_same, Tr.get_other, nth_0, nth_s, drp_0, drp_s, drp_n, tak_0, tak_s, tak_n, over_n, over_c, lay_0, lay_s, lay_n, len_n, len_c, app_n, app_c, reps_0, reps_s, cel_agg, cel_int, cel_bool, cel_str, cel_sl, cel_ptr, cel_map, cel_func, cel_nilf, fil_n, fil_c, beq_r, ble_d, allF_n, allF_c, one_int, one_bool, one_str, one_sl, one_ptr, one_map, one_func, one_nilf, Bool.and_true, Bool.true_and, Bool.not_true, Bool.not_false, iadA_z, Int.reduceToNat, Int.toNat_zero, fl1_a, flN_a, extr_t, unot, not_d, Nat.add_eq, Nat.mul_eq, Nat.mul_one, Nat.one_mul, Nat.zero_mul, Nat.reduceMul, Nat.zero_add, Nat.add_zero, Nat.le_refl, decide_true, Nat.reduceAdd, Nat.reduceLeDiff, bsl_Sint, bld_Span, bld_spring_work, bld_spring_asked, enc_Line, enc_Reading, ocond_d, Int.toNat_natCast, bd_drp0, bd_drp1, bd_lay, bd_len, bd_self, bd_tak, bd_over, qc_drp0, qc_drp1, setSt_e, stO_n, stO_s, isReady_r, anySt_t, unmark_e, unO_d, bsl_Saguadorref01_left, enc_Lf, le_lo, le_hi, le_laylo, le_layhi, le_len, le_self, le_tak, le_over, up_same, up_up, Nat.add_sub_cancel, Nat.succ_eq_add_one, Nat.add_assoc, *]); done)) : p := h
theorem fr_Sk {p : Prop} (h : p := by first | assumption | exact Fr.refl _ _ | (simp (disch := omega) only [Fr_set, Fr_refl, *])) : p := h
theorem fl_Sk {p : Prop} (h : p := by first | with_unfolding_all rfl | exact Sl.flat (by assumption) | assumption) : p := h
theorem fll_Sk {p : Prop} (h : p := by first | with_unfolding_all rfl | ((repeat (refine flatL_k fl_Sk ?_)); with_unfolding_all rfl)) : p := h
theorem en_Sk {p : Prop} (h : p := by first | ((simp only [enc_int, enc_str, enc_u8, enc_bool, tak_s, tak_0, tak_n, drp_0, drp_s, drp_n, nth_s, nth_0, bsl_Sint, bld_Span, bld_spring_work, bld_spring_asked, enc_Line, enc_Reading, ocond_d, Int.toNat_natCast, bd_drp0, bd_drp1, bd_lay, bd_len, bd_self, bd_tak, bd_over, qc_drp0, qc_drp1, setSt_e, stO_n, stO_s, isReady_r, anySt_t, unmark_e, unO_d, bsl_Saguadorref01_left, enc_Lf, le_lo, le_hi, le_laylo, le_layhi, le_len, le_self, le_tak, le_over, up_same, up_up, Nat.add_sub_cancel]); rfl) | ((simp only [enc_int, enc_str, enc_u8, enc_bool, tak_s, tak_0, tak_n, drp_0, drp_s, drp_n, nth_s, nth_0, bsl_Sint, bld_Span, bld_spring_work, bld_spring_asked, enc_Line, enc_Reading, ocond_d, Int.toNat_natCast, bd_drp0, bd_drp1, bd_lay, bd_len, bd_self, bd_tak, bd_over, qc_drp0, qc_drp1, setSt_e, stO_n, stO_s, isReady_r, anySt_t, unmark_e, unO_d, bsl_Saguadorref01_left, enc_Lf, le_lo, le_hi, le_laylo, le_layhi, le_len, le_self, le_tak, le_over, up_same, up_up, Nat.add_sub_cancel]); done) | with_unfolding_all rfl) : p := h
theorem sM_Sk {p : Prop} (h : p := by (first | assumption | (simp (disch := omega) only [Tr.get_same, Tr.get_other, *]; rfl) | (simp (disch := omega) only [Tr.get_same, Tr.get_other, *]; done))) : p := h
theorem sS_Sk {p : Prop} (h : p := by first | assumption | exact s1_Sk) : p := h
theorem sR_Sk {p : Prop} (h : p := by first | assumption | exact s1_Sk | exact s2_Sk | with_unfolding_all rfl) : p := h
theorem op_Sk {p : Prop} (h : p := by first | with_reducible exact fad_p _ _ _ | with_reducible exact iop_lss _ _ | with_reducible exact iop_leq _ _ | with_reducible exact iop_gtr _ _ | with_reducible exact iop_geq _ _ | with_reducible exact iop_eql _ _ | with_reducible exact iop_neq _ _ | with_reducible exact Sl.len (by assumption) | with_reducible exact lenS_s _ _ _ | with_reducible exact Sl.iad (by assumption) (by with_unfolding_all rfl) (by first | assumption | omega) | with_reducible exact Sl.fad (by assumption) (by first | assumption | omega) | with_reducible exact Sl.ld1 (by assumption) fr_Sk (by with_unfolding_all rfl) (by assumption) en_Sk | with_reducible exact Sl.ldN (by assumption) fr_Sk (by with_unfolding_all rfl) (by assumption) (by with_unfolding_all rfl) en_Sk | with_reducible exact zadd1 (by omega) | with_reducible exact zsub1 (by omega) (by omega) | with_reducible exact zaddI (by omega) (by omega) | with_reducible exact zsubI (by omega) (by omega) | with_reducible exact min_z | with_reducible exact max_z | with_reducible exact zmulI (by assumption) | with_reducible exact zmulK (by omega) (by omega) | with_reducible exact quo_z (by omega) (by omega) (by omega) | with_reducible exact cv_u8 (by omega) | with_reducible exact rem_z (by omega) (by omega) (by omega) | with_reducible exact neq_bool (by kernel_rfl) | with_reducible exact eql_u8 | with_reducible exact wntT_t (by assumption) | with_reducible exact wntT_f (by assumption) | with_reducible exact wntF_t (by assumption) | with_reducible exact wntF_f (by assumption) | with_reducible exact wnt_tt | with_reducible exact wnt_tf | with_reducible exact wnt_ft | with_reducible exact wnt_ff | with_reducible exact wnt_u _ _ | with_reducible exact pck_t _ _ | with_reducible exact pck_f _ _ | with_reducible exact pckT (by assumption) | with_reducible exact pckF (by assumption) | with_reducible exact wntT_t (by decide) | with_reducible exact wntT_f (by decide) | with_reducible exact wntF_t (by decide) | with_reducible exact wntF_f (by decide) | with_reducible exact pckT (by decide) | with_reducible exact pckF (by decide) | with_reducible exact wntN_tt (by decide) | with_reducible exact wntN_tf (by decide) | with_reducible exact wntN_ft (by decide) | with_reducible exact wntN_ff (by decide) | with_reducible exact pckNT (by decide) | with_reducible exact pckNF (by decide) | with_reducible exact wntN_tt (by assumption) | with_reducible exact wntN_tf (by assumption) | with_reducible exact wntN_ft (by assumption) | with_reducible exact wntN_ff (by assumption) | with_reducible exact pckNT (by assumption) | with_reducible exact pckNF (by assumption) | with_reducible exact wntB_tt (by assumption) | with_reducible exact wntB_tf (by assumption) | with_reducible exact wntB_ft (by assumption) | with_reducible exact wntB_ff (by assumption) | with_reducible exact pckBT (by assumption) | with_reducible exact pckBF (by assumption) | exact s2_Sk | exact s1_Sk) : p := h
theorem co_Sk {p : Prop} (h : p := by first | (simp only [impB_1, impB_0, offB_1, offB_0]; done) | ((try simp only [impB_1, impB_0, offB_1, offB_0]); first | with_reducible exact Sl.ag1 (by assumption) fr_Sk (by with_unfolding_all rfl) (by assumption) en_Sk | with_reducible exact Sl.agN (by assumption) fr_Sk (by with_unfolding_all rfl) (by assumption) (by with_unfolding_all rfl) en_Sk | ((with_reducible refine agL1_e ?_ ?_); (· exact s1_Sk); (· exact fl_Sk)) | ((with_reducible refine agLN_e ?_ ?_); (· exact s1_Sk); (· exact fll_Sk)) | ((with_reducible apply ag_bs); (· exact sM_Sk); (· rfl); (· exact sb_Sk); (· exact fll_Sk)) | ((with_reducible apply ag_al); (· exact sM_Sk); (· rfl); (· exact fll_Sk)) | ((with_reducible apply ag_bx); (· exact sM_Sk); (· rfl); (· rfl); (· exact fll_Sk)) | ((with_reducible apply ag_bd); (· rfl); (· exact s1_Sk); (· exact fll_Sk)) | exact s1_Sk)) : p := h
theorem gs_Sk {r p : Prop} (k : r) (h : Go.Ev.Im r p := by (first | with_reducible apply Im.runS | ((with_reducible apply Im.num); · (simp only [Nat.succ_eq_add_one, Nat.add_assoc, Nat.reduceAdd]; rfl)) | (with_reducible apply Im.unm) | (with_reducible apply Im.selT) | (with_reducible apply Im.selF) | ((with_reducible apply Im.cndT); · assumption) | ((with_reducible apply Im.cndF); · assumption) | ((with_reducible apply Im.cndT); · decide) | ((with_reducible apply Im.cndF); · decide) | ((with_reducible apply Im.cndNT); · decide) | ((with_reducible apply Im.cndNF); · decide) | ((with_reducible apply Im.cndBT); · exact rfl) | ((with_reducible apply Im.cndBF); · exact rfl) | ((with_reducible apply Im.cndNT); · assumption) | ((with_reducible apply Im.cndNF); · assumption) | ((with_reducible apply Im.cndBT); · assumption) | ((with_reducible apply Im.cndBF); · assumption) | ((with_reducible apply Im.bind); · exact op_Sk) | ((with_reducible apply Im.cond); · exact co_Sk) | ((with_reducible apply Im.runB); · exact op_Sk) | ((with_reducible apply Im.runC); · exact co_Sk) | ((with_reducible apply Im.runN); · (simp only [Nat.succ_eq_add_one, Nat.add_assoc, Nat.reduceAdd]; rfl)) | with_reducible apply Im.runR | ((with_reducible apply Im.runE (x := evBuildSlice _ _ _ _ _ _)); · exact sb_Sk)); (repeat (first | with_reducible apply Im.runS | ((with_reducible apply Im.num); · (simp only [Nat.succ_eq_add_one, Nat.add_assoc, Nat.reduceAdd]; rfl)) | (with_reducible apply Im.unm) | (with_reducible apply Im.selT) | (with_reducible apply Im.selF) | ((with_reducible apply Im.cndT); · assumption) | ((with_reducible apply Im.cndF); · assumption) | ((with_reducible apply Im.cndT); · decide) | ((with_reducible apply Im.cndF); · decide) | ((with_reducible apply Im.cndNT); · decide) | ((with_reducible apply Im.cndNF); · decide) | ((with_reducible apply Im.cndBT); · exact rfl) | ((with_reducible apply Im.cndBF); · exact rfl) | ((with_reducible apply Im.cndNT); · assumption) | ((with_reducible apply Im.cndNF); · assumption) | ((with_reducible apply Im.cndBT); · assumption) | ((with_reducible apply Im.cndBF); · assumption) | ((with_reducible apply Im.bind); · exact op_Sk) | ((with_reducible apply Im.cond); · exact co_Sk) | ((with_reducible apply Im.runB); · exact op_Sk) | ((with_reducible apply Im.runC); · exact co_Sk) | ((with_reducible apply Im.runN); · (simp only [Nat.succ_eq_add_one, Nat.add_assoc, Nat.reduceAdd]; rfl)) | with_reducible apply Im.runR | ((with_reducible apply Im.runE (x := evBuildSlice _ _ _ _ _ _)); · exact sb_Sk))); exact Go.Ev.Im.id) : p := h k
def leC (f : Bd) : List Value := [iS (f 0).1, iS (f 1).1, iS (f 2).1, iS (f 3).1, iS (f 4).1, iS (f 5).1, iS (f 6).1, iS (f 7).1, iS (f 8).1, iS (f 9).1, iS (f 0).2, iS (f 1).2, iS (f 2).2, iS (f 3).2, iS (f 4).2, iS (f 5).2, iS (f 6).2, iS (f 7).2, iS (f 8).2, iS (f 9).2]
theorem le_lo (f : Bd) {k : Nat} (hk : k < 10) : nth (drp (leC f) k) 0 = some (iS (f k).1) :=
  ten (p := fun k => nth (drp (leC f) k) 0 = some (iS (f k).1)) rfl rfl rfl rfl rfl rfl rfl rfl rfl rfl k hk
theorem le_hi (f : Bd) {k : Nat} (hk : k < 10) : nth (drp (leC f) (10 + k)) 0 = some (iS (f k).2) :=
  ten (p := fun k => nth (drp (leC f) (10 + k)) 0 = some (iS (f k).2)) rfl rfl rfl rfl rfl rfl rfl rfl rfl rfl k hk
theorem le_laylo (f : Bd) {k : Nat} (hk : k < 10) (a : Int) : lay (leC f) [iS a] k = leC (up f k (a, (f k).2)) :=
  ten (p := fun k => lay (leC f) [iS a] k = leC (up f k (a, (f k).2))) rfl rfl rfl rfl rfl rfl rfl rfl rfl rfl k hk
theorem le_layhi (f : Bd) {k : Nat} (hk : k < 10) (a : Int) : lay (leC f) [iS a] (10 + k) = leC (up f k ((f k).1, a)) :=
  ten (p := fun k => lay (leC f) [iS a] (10 + k) = leC (up f k ((f k).1, a))) rfl rfl rfl rfl rfl rfl rfl rfl rfl rfl k hk
theorem le_len (f : Bd) : len (leC f) = 20 := rfl
theorem le_self (f g : Bd) : lay (leC f) (leC g) 0 = leC g := rfl
theorem le_tak (f : Bd) : tak (leC f) 20 = leC f := rfl
theorem le_over (f : Bd) : over (leC f) [iS 0, iS 0, iS 0, iS 0, iS 0, iS 0, iS 0, iS 0, iS 0, iS 0, iS 0, iS 0, iS 0, iS 0, iS 0, iS 0, iS 0, iS 0, iS 0, iS 0] = leC f := rfl
/-- What a rain leaves, as the reference keeps it. -/
structure Lf where
  f : Bd
instance : Rwc Lf := ⟨20, fun x => leC x.f, fun _ => rfl, fun _ => rfl, by omega⟩
theorem enc_Lf (x : Lf) : Rwc.enc x = leC x.f := rfl
theorem allR_snoc {s : Sp} {w n : Int} {j : Nat} {x : Rd} (h : s.reads[j]? = some x) : allR s w n (s.reads.take (j + 1)) = (allR s w n (s.reads.take j) && (!(decide (x.Week = w)) || rightB s x n)) := by
  rw [List.take_add_one, h]; simp [allR, List.all_append]
section
variable {s : Sp} {b r : Value}
theorem c_Right (call : CallF) {x : Rd} {g : Int} {h N} (ho : Ok s) (hx : OkR s x) (hg : -1000 ≤ g ∧ g ≤ 1000) (cb : flatV b = true) (cr : flatV r = true) : Rn (s101 call (.agg ⟨[iS s.weeks, iS s.most, iS s.fall, iS s.slo, iS s.shi, iS s.wlo, iS s.whi, b, r]⟩) (.agg ⟨Rwc.enc x⟩) (iS g) h N) fun v h' N' => v = .bool (rightB s x g) ∧ Gw h N h' N' := by
  obtain ⟨w1, w2, m1, m2, p1, p2, a1, a2, a3, v1, v2, v3⟩ := ho
  obtain ⟨n1, n2, k1, k2, b1, b2, l1, l2, l3, l4⟩ := hx
  have hp1 := mul_bd (a := x.Songs_Hi) (b := s.shi) (by omega) l3 (by omega) a3
  have hp3 := mul_bd (a := x.Songs_Lo) (b := s.slo) (m := 99) (n := 600) l1 (by omega) (by omega) (by omega)
  have hp4 : 0 < g → 0 ≤ x.Songs_Lo * s.slo * g ∧ x.Songs_Lo * s.slo * g ≤ 99 * 600 * 1000 := fun h => mul_bd (by omega) hp3.2 (by omega) (by omega)
  have hp5 : 0 < g → 0 ≤ x.Songs_Hi * s.shi * g ∧ x.Songs_Hi * s.shi * g ≤ 99 * 600 * 1000 := fun h => mul_bd (by omega) hp1.2 (by omega) (by omega)
  unfold s101
  simp only [enc_Reading]
  have x1 := flatV_one cb; have y1 := cel_flat cb; have x2 := flatV_one cr; have y2 := cel_flat cr
  try refine gs_Sk ?_
  refine Rn.part (fun hpos => ?_) (fun hpos => ?_)
  · have hq4 := hp4 hpos
    have hq5 := hp5 hpos
    clear hp4 hp5
    repeat' (first | refine gs_Sk ?_ | (first | with_reducible refine Rn.part (fun _ => ?_) (fun _ => ?_) | with_reducible refine Rn.partN (fun _ => ?_) (fun _ => ?_) | with_reducible refine Rn.partB (fun _ => ?_) (fun _ => ?_)) | (first | with_reducible refine Rn.cnd (fun _ => ?_) (fun _ => ?_) | with_reducible refine Rn.cndN (fun _ => ?_) (fun _ => ?_) | with_reducible refine Rn.cndB (fun _ => ?_) (fun _ => ?_)))
    all_goals exact Rn.ret ⟨congrArg Value.bool (by simp only [rightB, *, decide_true, decide_false, Bool.true_and, Bool.false_and, Bool.and_true]), (Gw.of fr_Sk (by omega))⟩
  · clear hp4 hp5
    repeat' (first | refine gs_Sk ?_ | (first | with_reducible refine Rn.part (fun _ => ?_) (fun _ => ?_) | with_reducible refine Rn.partN (fun _ => ?_) (fun _ => ?_) | with_reducible refine Rn.partB (fun _ => ?_) (fun _ => ?_)) | (first | with_reducible refine Rn.cnd (fun _ => ?_) (fun _ => ?_) | with_reducible refine Rn.cndN (fun _ => ?_) (fun _ => ?_) | with_reducible refine Rn.cndB (fun _ => ?_) (fun _ => ?_)))
    all_goals exact Rn.ret ⟨congrArg Value.bool (by simp only [rightB, *, decide_true, decide_false, Bool.true_and, Bool.false_and, Bool.and_true]), (Gw.of fr_Sk (by omega))⟩
theorem c_base (call : CallF) {h N} (hs : OkS s) (hr : Sl h N r s.reads) (cb : flatV b = true) : Rn (s90 call (.agg ⟨[iS s.weeks, iS s.most, iS s.fall, iS s.slo, iS s.shi, iS s.wlo, iS s.whi, b, r]⟩) h N) fun v h' N' => v = .agg ⟨leC (baseS s)⟩ ∧ Gw h N h' N' := by
  have ho := hs.ok
  have ho2 := ho
  have nr := hs.nr
  obtain ⟨w1, w2, m1, m2, p1, p2, a1, a2, a3, v1, v2, v3⟩ := ho2
  have cr := hr.flat
  unfold s90
  have x1 := flatV_one cb; have y1 := cel_flat cb; have x2 := flatV_one cr; have y2 := cel_flat cr
  try refine gs_Sk ?_
  refine Rn.loop4 (fun n p q u k g M => ∃ i : Nat, p = .pointer (some ⟨N, 0, none⟩) ∧ q = .pointer (some ⟨N + 1, 0, none⟩) ∧ u = .pointer (some ⟨N + 2, 0, none⟩) ∧ k = nS i ∧ (i : Int) + n = s.weeks ∧ Fr h N g ∧ N + 3 ≤ M ∧ g.get N = some (.c [iS s.weeks, iS s.most, iS s.fall, iS s.slo, iS s.shi, iS s.wlo, iS s.whi, b, r] 27) ∧ g.get (N + 1) = some (.c (leC bz) 104) ∧ g.get (N + 2) = some (.c (leC (baseN s i)) 104)) s.weeks.toNat (by omega) ⟨0, rfl, rfl, rfl, rfl, by omega, fr_Sk, by omega, sS_Sk, sR_Sk, sR_Sk⟩ ?_
  rintro n g ih _ _ _ _ h1 N1 ⟨i, rfl, rfl, rfl, rfl, e1, f1, l1, g1, g2, g3⟩
  try refine gs_Sk ?_
  (first | with_reducible refine Rn.cnd (fun _ => ?_) (fun _ => ?_) | with_reducible refine Rn.cndN (fun _ => ?_) (fun _ => ?_) | with_reducible refine Rn.cndB (fun _ => ?_) (fun _ => ?_))
  · have eb : baseN s (i + 1) = up (baseN s i) i (stepW s i (s.most + 1).toNat) := rfl
    generalize baseN s i = F at g3 eb
    try refine gs_Sk ?_
    refine Rn.loop5 (fun n p q u k t g M => ∃ j : Nat, p = .pointer (some ⟨N, 0, none⟩) ∧ q = .pointer (some ⟨N + 1, 0, none⟩) ∧ u = .pointer (some ⟨N + 2, 0, none⟩) ∧ k = nS i ∧ t = nS j ∧ (j : Int) + n = s.most + 1 ∧ Fr h N g ∧ N + 3 ≤ M ∧ g.get N = some (.c [iS s.weeks, iS s.most, iS s.fall, iS s.slo, iS s.shi, iS s.wlo, iS s.whi, b, r] 27) ∧ g.get (N + 1) = some (.c (leC bz) 104) ∧ g.get (N + 2) = some (.c (leC (up F i (stepW s i j))) 104)) (s.most + 1).toNat (by omega) ⟨0, rfl, rfl, rfl, rfl, rfl, by omega, fr_Sk, by omega, sS_Sk, sS_Sk, sR_Sk⟩ ?_
    rintro m g' ih' _ _ _ _ _ h2 N2 ⟨j, rfl, rfl, rfl, rfl, rfl, e2, f2, l2, k1, k2, k3⟩
    try refine gs_Sk ?_
    (first | with_reducible refine Rn.cnd (fun _ => ?_) (fun _ => ?_) | with_reducible refine Rn.cndN (fun _ => ?_) (fun _ => ?_) | with_reducible refine Rn.cndB (fun _ => ?_) (fun _ => ?_))
    · have es : stepW s i (j + 1) = if allR s i j s.reads then (min (stepW s i j).1 j, (j : Int)) else stepW s i j := rfl
      generalize stepW s i j = v at k3 es
      try refine gs_Sk ?_
      refine Rn.loop9 (fun n p q u k t a e l c g M => ∃ z : Nat, p = .pointer (some ⟨N, 0, none⟩) ∧ q = .pointer (some ⟨N + 1, 0, none⟩) ∧ u = .pointer (some ⟨N + 2, 0, none⟩) ∧ k = nS i ∧ t = nS j ∧ a = .bool (allR s i j (s.reads.take z)) ∧ r = e ∧ l = nS s.reads.length ∧ c = nS z ∧ z + n = s.reads.length ∧ Fr h N g ∧ N + 3 ≤ M ∧ g.get N = some (.c [iS s.weeks, iS s.most, iS s.fall, iS s.slo, iS s.shi, iS s.wlo, iS s.whi, b, r] 27) ∧ g.get (N + 1) = some (.c (leC bz) 104) ∧ g.get (N + 2) = some (.c (leC (up F i v)) 104)) s.reads.length (by omega) ⟨0, rfl, rfl, rfl, rfl, rfl, rfl, rfl, rfl, rfl, by omega, fr_Sk, by omega, sS_Sk, sS_Sk, sS_Sk⟩ ?_
      rintro c g'' ih'' _ _ _ _ _ _ _ _ _ h3 N3 ⟨z, rfl, rfl, rfl, rfl, rfl, rfl, rfl, rfl, rfl, e3, f3, l3, j1, j2, j3⟩
      try refine gs_Sk ?_
      (first | with_reducible refine Rn.cnd (fun _ => ?_) (fun _ => ?_) | with_reducible refine Rn.cndN (fun _ => ?_) (fun _ => ?_) | with_reducible refine Rn.cndB (fun _ => ?_) (fun _ => ?_))
      · obtain ⟨x, hx⟩ := at_of (L := s.reads) (k := z) (by omega)
        have ox := hs.reads x (List.mem_of_getElem? hx)
        have ea := allR_snoc (s := s) (w := i) (n := j) hx
        generalize allR s i j (s.reads.take z) = A at ea
        try refine gs_Sk ?_
        refine Rn.partB (fun hA => ?_) (fun hA => ?_)
        · try refine gs_Sk ?_
          refine Rn.part (fun hw => ?_) (fun hw => ?_)
          · try refine gs_Sk ?_
            refine ih'' (c - 1) (by omega) _ _ _ _ _ _ _ _ _ _ _ ⟨z + 1, rfl, rfl, rfl, rfl, rfl, ?_, rfl, rfl, rfl, by omega, fr_Sk, by omega, sS_Sk, sS_Sk, sS_Sk⟩
            rw [ea, hA, decide_eq_false hw]; rfl
          · try refine gs_Sk ?_
            refine Rn.call (c_Right _ (x := x) ho ox (by omega) cb cr) ?_
            rintro _ h4 N4 ⟨rfl, f4, o4, l4⟩
            try refine gs_Sk ?_
            refine ih'' (c - 1) (by omega) _ _ _ _ _ _ _ _ _ _ _ ⟨z + 1, rfl, rfl, rfl, rfl, rfl, ?_, rfl, rfl, rfl, by omega, fr_Sk, by omega, sS_Sk, sS_Sk, sS_Sk⟩
            rw [ea, hA, decide_eq_true (by omega)]; rfl
        · try refine gs_Sk ?_
          refine ih'' (c - 1) (by omega) _ _ _ _ _ _ _ _ _ _ _ ⟨z + 1, rfl, rfl, rfl, rfl, rfl, ?_, rfl, rfl, rfl, by omega, fr_Sk, by omega, sS_Sk, sS_Sk, sS_Sk⟩
          rw [ea, hA]; rfl
      · obtain rfl : z = s.reads.length := by omega
        rw [List.take_length]
        unfold jnR
        try refine gs_Sk ?_
        (first | with_reducible refine Rn.cnd (fun _ => ?_) (fun _ => ?_) | with_reducible refine Rn.cndN (fun _ => ?_) (fun _ => ?_) | with_reducible refine Rn.cndB (fun _ => ?_) (fun _ => ?_))
        · rw [if_pos (by assumption)] at es
          try refine gs_Sk ?_
          exact ih' (m - 1) (by omega) _ _ _ _ _ _ _ ⟨j + 1, rfl, rfl, rfl, rfl, rfl, by omega, fr_Sk, by omega, sS_Sk, sS_Sk, by rw [es]; exact sR_Sk⟩
        · rw [if_neg (by simp only [*]; simp)] at es
          try refine gs_Sk ?_
          exact ih' (m - 1) (by omega) _ _ _ _ _ _ _ ⟨j + 1, rfl, rfl, rfl, rfl, rfl, by omega, fr_Sk, by omega, sS_Sk, sS_Sk, by rw [es]; exact sR_Sk⟩
    · obtain rfl : j = (s.most + 1).toNat := by omega
      try refine gs_Sk ?_
      exact ih (n - 1) (by omega) _ _ _ _ _ _ ⟨i + 1, rfl, rfl, rfl, rfl, by omega, fr_Sk, by omega, sS_Sk, sS_Sk, by rw [eb]; exact sR_Sk⟩
  · obtain rfl : i = s.weeks.toNat := by omega
    try refine gs_Sk ?_
    exact Rn.ret ⟨rfl, (Gw.of fr_Sk (by omega))⟩
end
end Go.Proofs.Ytpilgokdbliklaa
end

section
namespace Go.Proofs.Ytpilgokdbliklaa
open Go.Ev Go.RowKit
set_option linter.unusedVariables false
set_option linter.unusedSimpArgs false
set_option linter.unusedSectionVars false
set_option maxRecDepth 100000
set_option maxHeartbeats 4000000
section
variable {s : Sp} {b r : Value}
theorem c_rleaves (call : CallF) {f : Bd} {rain : Int} {h N} (hs : OkS s) (hf : BdOk f) (hb : Sl h N b s.book) (cr : flatV r = true) : Rn (s122 call (.agg ⟨[iS s.weeks, iS s.most, iS s.fall, iS s.slo, iS s.shi, iS s.wlo, iS s.whi, b, r]⟩) (.agg ⟨leC f⟩) (iS rain) h N) fun v h' N' => (v = .tuple ⟨[.agg ⟨leC (leavesF s f rain)⟩, .bool (okN s (leavesF s f rain))]⟩ ∧ N + 2 ≤ N') ∧ Gw h N h' N' := by
  have ho := hs.ok
  have ho2 := ho
  have nb := hs.nb
  obtain ⟨w1, w2, m1, m2, p1, p2, a1, a2, a3, v1, v2, v3⟩ := ho2
  have cb := hb.flat
  unfold s122
  have x1 := flatV_one cb; have y1 := cel_flat cb; have x2 := flatV_one cr; have y2 := cel_flat cr
  try refine gs_Sk ?_
  refine Rn.loop7 (fun n a p q u t l k g M => ∃ i : Nat, a = iS rain ∧ p = .pointer (some ⟨N, 0, none⟩) ∧ q = .pointer (some ⟨N + 1, 0, none⟩) ∧ u = .pointer (some ⟨N + 2, 0, none⟩) ∧ b = t ∧ l = nS s.book.length ∧ k = nS i ∧ i + n = s.book.length ∧ Fr h N g ∧ N + 3 ≤ M ∧ g.get N = some (.c [iS s.weeks, iS s.most, iS s.fall, iS s.slo, iS s.shi, iS s.wlo, iS s.whi, b, r] 27) ∧ g.get (N + 2) = some (.c (leC bz) 104) ∧ g.get (N + 1) = some (.c (leC ((s.book.take i).foldl (addL rain) f)) 104)) s.book.length (by omega) ⟨0, rfl, rfl, rfl, rfl, rfl, rfl, rfl, by omega, fr_Sk, by omega, sS_Sk, sR_Sk, sR_Sk⟩ ?_
  rintro n g ih _ _ _ _ _ _ _ h1 N1 ⟨i, rfl, rfl, rfl, rfl, rfl, rfl, rfl, e1, f1, l1, g1, g2, g3⟩
  try refine gs_Sk ?_
  (first | with_reducible refine Rn.cnd (fun _ => ?_) (fun _ => ?_) | with_reducible refine Rn.cndN (fun _ => ?_) (fun _ => ?_) | with_reducible refine Rn.cndB (fun _ => ?_) (fun _ => ?_))
  · obtain ⟨x, hx⟩ := at_of (L := s.book) (k := i) (by omega)
    have ox := hs.book x (List.mem_of_getElem? hx)
    obtain ⟨r1, r2, r3, t1, t2, t3, t4, t5⟩ := ox
    have ef := fold_take (addL rain) hx f
    generalize (s.book.take i).foldl (addL rain) f = f at g3 ef
    try refine gs_Sk ?_
    refine Rn.call (c_rwithin _) ?_
    rintro _ h2 N2 ⟨rfl, f2, o2, l2⟩
    try refine gs_Sk ?_
    unfold jnR
    (first | with_reducible refine Rn.cnd (fun _ => ?_) (fun _ => ?_) | with_reducible refine Rn.cndN (fun _ => ?_) (fun _ => ?_) | with_reducible refine Rn.cndB (fun _ => ?_) (fun _ => ?_))
    · have e2 : addL rain f x = up f x.Week.toNat (max (f x.Week.toNat).1 x.Gives_Lo, min (f x.Week.toNat).2 x.Gives_Hi) := if_pos (by assumption)
      try refine gs_Sk ?_
      exact ih (n - 1) (by omega) _ _ _ _ _ _ _ _ _ ⟨i + 1, rfl, rfl, rfl, rfl, rfl, rfl, rfl, by omega, fr_Sk, by omega, sS_Sk, sS_Sk, by rw [ef, e2]; exact sR_Sk⟩
    · have e2 : addL rain f x = f := if_neg (by simp only [*]; simp)
      try refine gs_Sk ?_
      exact ih (n - 1) (by omega) _ _ _ _ _ _ _ _ _ ⟨i + 1, rfl, rfl, rfl, rfl, rfl, rfl, rfl, by omega, fr_Sk, by omega, sS_Sk, sS_Sk, by rw [ef, e2]; exact sR_Sk⟩
  obtain rfl : i = s.book.length := by omega
  rw [List.take_length] at g3
  clear ih
  have hf0 : BdOk (s.book.foldl (addL rain) f) := fold_ok (fun f x hx h => addL_ok h (hs.book x hx)) hf
  have hF : leavesF s f rain = narS s (s.book.foldl (addL rain) f) := rfl
  rw [hF]
  generalize s.book.foldl (addL rain) f = f at g3 hf0
  clear hF hf
  try refine gs_Sk ?_
  refine Rn.loop4 (fun n p q u k g M => ∃ i : Nat, p = .pointer (some ⟨N, 0, none⟩) ∧ q = .pointer (some ⟨N + 1, 0, none⟩) ∧ u = .pointer (some ⟨N + 2, 0, none⟩) ∧ k = nS (i + 1) ∧ (i : Int) + n = s.weeks - 1 ∧ Fr h N g ∧ N + 3 ≤ M ∧ g.get N = some (.c [iS s.weeks, iS s.most, iS s.fall, iS s.slo, iS s.shi, iS s.wlo, iS s.whi, b, r] 27) ∧ g.get (N + 2) = some (.c (leC bz) 104) ∧ g.get (N + 1) = some (.c (leC (fwdN s.fall i f)) 104)) (s.weeks - 1).toNat (by omega) ⟨0, rfl, rfl, rfl, rfl, by omega, fr_Sk, by omega, sS_Sk, sS_Sk, sR_Sk⟩ ?_
  rintro n g ih _ _ _ _ h1 N1 ⟨i, rfl, rfl, rfl, rfl, e1, f1, l1, g1, g2, g3⟩
  have hb1 := fwd_ok p1 p2 hf0 i i
  have hb2 := fwd_ok p1 p2 hf0 i (i + 1)
  try refine gs_Sk ?_
  (first | with_reducible refine Rn.cnd (fun _ => ?_) (fun _ => ?_) | with_reducible refine Rn.cndN (fun _ => ?_) (fun _ => ?_) | with_reducible refine Rn.cndB (fun _ => ?_) (fun _ => ?_))
  · have ef : fwdN s.fall (i + 1) f = up (fwdN s.fall i f) (i + 1) (max (fwdN s.fall i f (i + 1)).1 ((fwdN s.fall i f i).1 - s.fall), min (fwdN s.fall i f (i + 1)).2 (fwdN s.fall i f i).2) := rfl
    generalize fwdN s.fall i f = F at g3 ef hb1 hb2
    try refine gs_Sk ?_
    exact ih (n - 1) (by omega) _ _ _ _ _ _ ⟨i + 1, rfl, rfl, rfl, rfl, by omega, fr_Sk, by omega, sS_Sk, sS_Sk, by rw [ef]; exact sR_Sk⟩
  have en : s.weeks.toNat - 1 = i := by omega
  clear ih
  try refine gs_Sk ?_
  refine Rn.loop4 (fun n p q u k g M => ∃ j : Nat, p = .pointer (some ⟨N, 0, none⟩) ∧ q = .pointer (some ⟨N + 1, 0, none⟩) ∧ u = .pointer (some ⟨N + 2, 0, none⟩) ∧ k = iS (s.weeks - 2 - (j : Int)) ∧ (j : Int) + n = s.weeks - 1 ∧ Fr h N g ∧ N + 3 ≤ M ∧ g.get N = some (.c [iS s.weeks, iS s.most, iS s.fall, iS s.slo, iS s.shi, iS s.wlo, iS s.whi, b, r] 27) ∧ g.get (N + 2) = some (.c (leC bz) 104) ∧ g.get (N + 1) = some (.c (leC (bwdN s.fall s.weeks.toNat j (fwdN s.fall i f))) 104)) (s.weeks - 1).toNat (by omega) ⟨0, rfl, rfl, rfl, by simp, by omega, fr_Sk, by omega, sS_Sk, sS_Sk, sR_Sk⟩ ?_
  rintro m g' ih' _ _ _ _ h2 N2 ⟨j, rfl, rfl, rfl, rfl, e2, f2, l2, k1, k2, k3⟩
  have hb := bwd_ok (n := s.weeks.toNat) p1 p2 (fwd_ok p1 p2 hf0 i) j
  have hb3 := hb (s.weeks.toNat - 2 - j)
  have hb4 := hb (s.weeks.toNat - 2 - j + 1)
  try refine gs_Sk ?_
  (first | with_reducible refine Rn.cnd (fun _ => ?_) (fun _ => ?_) | with_reducible refine Rn.cndN (fun _ => ?_) (fun _ => ?_) | with_reducible refine Rn.cndB (fun _ => ?_) (fun _ => ?_))
  · have t1 : (s.weeks - 2 - (j : Int)).toNat = s.weeks.toNat - 2 - j := by omega
    have t2 : (s.weeks - 2 - (j : Int) + 1).toNat = s.weeks.toNat - 2 - j + 1 := by omega
    have ef : bwdN s.fall s.weeks.toNat (j + 1) (fwdN s.fall i f) = up (bwdN s.fall s.weeks.toNat j (fwdN s.fall i f)) (s.weeks.toNat - 2 - j) (max (bwdN s.fall s.weeks.toNat j (fwdN s.fall i f) (s.weeks.toNat - 2 - j)).1 (bwdN s.fall s.weeks.toNat j (fwdN s.fall i f) (s.weeks.toNat - 2 - j + 1)).1, min (bwdN s.fall s.weeks.toNat j (fwdN s.fall i f) (s.weeks.toNat - 2 - j)).2 ((bwdN s.fall s.weeks.toNat j (fwdN s.fall i f) (s.weeks.toNat - 2 - j + 1)).2 + s.fall)) := rfl
    clear hb
    generalize bwdN s.fall s.weeks.toNat j (fwdN s.fall i f) = F at k3 ef hb3 hb4
    try refine gs_Sk ?_
    exact ih' (m - 1) (by omega) _ _ _ _ _ _ ⟨j + 1, rfl, rfl, rfl, by rw [show s.weeks - 2 - ((j + 1 : Nat) : Int) = s.weeks - 2 - (j : Int) - 1 by omega], by omega, fr_Sk, by omega, sS_Sk, sS_Sk, by rw [ef]; exact sR_Sk⟩
  obtain rfl : j = i := by omega
  have hN : narS s f = bwdN s.fall s.weeks.toNat j (fwdN s.fall j f) := by unfold narS; rw [en]
  rw [← hN] at k3
  clear ih' hb3 hb4 hb hN
  generalize narS s f = F at k3
  try refine gs_Sk ?_
  refine Rn.loop4 (fun n p q u k g M => ∃ j : Nat, p = .pointer (some ⟨N, 0, none⟩) ∧ q = .pointer (some ⟨N + 1, 0, none⟩) ∧ u = .pointer (some ⟨N + 2, 0, none⟩) ∧ k = nS j ∧ (j : Int) + n = s.weeks ∧ Fr h N g ∧ N + 3 ≤ M ∧ g.get N = some (.c [iS s.weeks, iS s.most, iS s.fall, iS s.slo, iS s.shi, iS s.wlo, iS s.whi, b, r] 27) ∧ g.get (N + 2) = some (.c (leC bz) 104) ∧ g.get (N + 1) = some (.c (leC F) 104) ∧ ∀ q, q < j → (F q).1 ≤ (F q).2) s.weeks.toNat (by omega) ⟨0, rfl, rfl, rfl, rfl, by omega, fr_Sk, by omega, sS_Sk, sS_Sk, sS_Sk, fun q hq => by omega⟩ ?_
  rintro m g' ih' _ _ _ _ h2 N2 ⟨z, rfl, rfl, rfl, rfl, e2, f2, l2, k1, k2, k3, q1⟩
  try refine gs_Sk ?_
  (first | with_reducible refine Rn.cnd (fun _ => ?_) (fun _ => ?_) | with_reducible refine Rn.cndN (fun _ => ?_) (fun _ => ?_) | with_reducible refine Rn.cndB (fun _ => ?_) (fun _ => ?_))
  · try refine gs_Sk ?_
    (first | with_reducible refine Rn.cnd (fun _ => ?_) (fun _ => ?_) | with_reducible refine Rn.cndN (fun _ => ?_) (fun _ => ?_) | with_reducible refine Rn.cndB (fun _ => ?_) (fun _ => ?_))
    · have hno : okN s F = false := okN_not (k := z) (by omega) (by omega)
      rw [hno]
      try refine gs_Sk ?_
      exact Rn.ret ⟨⟨rfl, by omega⟩, (Gw.of fr_Sk (by omega))⟩
    · try refine gs_Sk ?_
      exact ih' (m - 1) (by omega) _ _ _ _ _ _ ⟨z + 1, rfl, rfl, rfl, rfl, by omega, fr_Sk, by omega, sS_Sk, sS_Sk, sS_Sk, fun q hq => by
        rcases Nat.lt_or_ge q z with h | h
        · exact q1 q h
        · obtain rfl : q = z := by omega
          omega⟩
  · have hok : okN s F = true := okN_of rfl (fun q hq => q1 q (by omega))
    rw [hok]
    try refine gs_Sk ?_
    exact Rn.ret ⟨⟨rfl, by omega⟩, (Gw.of fr_Sk (by omega))⟩
end
end Go.Proofs.Ytpilgokdbliklaa
end

section
namespace Go.Proofs.Ytpilgokdbliklaa
open Go.Ev Go.RowKit
set_option linter.unusedVariables false
set_option linter.unusedSimpArgs false
set_option linter.unusedSectionVars false
set_option maxRecDepth 100000
set_option maxHeartbeats 4000000
def lfs (s : Sp) (f : Bd) (L : List Int) : List Lf := L.map fun r => ⟨leavesF s f r⟩
section
variable {s : Sp} {b r : Value}
theorem c_rained (call : CallF) {f : Bd} {h N} (hs : OkS s) (hf : BdOk f) (hb : Sl h N b s.book) (cr : flatV r = true) : Rn (s100 call (.agg ⟨[iS s.weeks, iS s.most, iS s.fall, iS s.slo, iS s.shi, iS s.wlo, iS s.whi, b, r]⟩) (.agg ⟨leC f⟩) h N) fun v h' N' => (∃ p q, v = .tuple ⟨[p, q]⟩ ∧ Sl h' N' p (rainsF s f) ∧ Sl h' N' q (lfs s f (rainsF s f))) ∧ Gw h N h' N' := by
  have ho := hs.ok
  obtain ⟨w1, w2, m1, m2, p1, p2, a1, a2, a3, v1, v2, v3⟩ := ho
  have cb := hb.flat
  unfold s100
  have x1 := flatV_one cb; have y1 := cel_flat cb; have x2 := flatV_one cr; have y2 := cel_flat cr
  try refine gs_Sk ?_
  refine Rn.loop5 (fun n p q u t k g M => ∃ i : Nat, p = .pointer (some ⟨N, 0, none⟩) ∧ q = .pointer (some ⟨N + 1, 0, none⟩) ∧ k = iS (s.wlo + (i : Int)) ∧ i + n = rainN s ∧ Fr h N g ∧ N + 2 ≤ M ∧ g.get N = some (.c [iS s.weeks, iS s.most, iS s.fall, iS s.slo, iS s.shi, iS s.wlo, iS s.whi, b, r] 27) ∧ g.get (N + 1) = some (.c (leC f) 104) ∧ (u = .slice none 0 0 ∧ t = .slice none 0 0 ∧ rainsFN s f i = [] ∨ ∃ i1 i2, N + 2 ≤ i1 ∧ N + 2 ≤ i2 ∧ i1 < M ∧ i2 < M ∧ i1 ≠ i2 ∧ Ow g 3 u (rainsFN s f i) i1 ∧ Ow g 104 t (lfs s f (rainsFN s f i)) i2)) (rainN s) (by unfold rainN; omega) ⟨0, rfl, rfl, by simp, by omega, fr_Sk, by omega, sS_Sk, sS_Sk, .inl ⟨rfl, rfl, rfl⟩⟩ ?_
  rintro n g ih _ _ u t _ h1 N1 ⟨i, rfl, rfl, rfl, e1, f1, l1, g1, g2, q1⟩
  have en : rainN s = (s.whi + 1 - s.wlo).toNat := rfl
  try refine gs_Sk ?_
  (first | with_reducible refine Rn.cnd (fun _ => ?_) (fun _ => ?_) | with_reducible refine Rn.cndN (fun _ => ?_) (fun _ => ?_) | with_reducible refine Rn.cndB (fun _ => ?_) (fun _ => ?_))
  · try refine gs_Sk ?_
    refine Rn.call (c_rleaves _ (rain := s.wlo + (i : Int)) hs hf (Sl.up (by assumption) fr_Sk (by omega)) cr) ?_
    rintro _ h2 N2 ⟨⟨rfl, l2'⟩, f2, o2, l2⟩
    have es := rainsFN_succ s f i
    have el := rainsFN_len s f i
    have q2 : ∃ i1 i2, N + 2 ≤ i1 ∧ N + 2 ≤ i2 ∧ i1 < N2 ∧ i2 < N2 ∧ i1 ≠ i2 ∧ Ow h2 3 u (rainsFN s f i) i1 ∧ Ow h2 104 t (lfs s f (rainsFN s f i)) i2 := by
      rcases q1 with ⟨rfl, rfl, e⟩ | ⟨i1, i2, k1, k2, k3, k4, k5, k6, k7⟩
      · rw [e]
        exact ⟨N1, N1 + 1, by omega, by omega, by omega, by omega, by omega, Ow.nil _ _ _, Ow.nil _ _ _⟩
      · exact ⟨i1, i2, k1, k2, by omega, by omega, k5, k6.keep (o2 (by omega)), k7.keep (o2 (by omega))⟩
    clear q1
    obtain ⟨i1, i2, k1, k2, k3, k4, k5, k6, k7⟩ := q2
    have ll : (lfs s f (rainsFN s f i)).length = (rainsFN s f i).length := by simp [lfs]
    generalize hF : leavesF s f (s.wlo + (i : Int)) = F at es
    try refine gs_Sk ?_
    unfold jnR
    (first | with_reducible refine Rn.cnd (fun _ => ?_) (fun _ => ?_) | with_reducible refine Rn.cndN (fun _ => ?_) (fun _ => ?_) | with_reducible refine Rn.cndB (fun _ => ?_) (fun _ => ?_))
    · have hok : okN s F = true := by assumption
      rw [if_pos hok] at es
      have cu := (k6.sl (N := N2) k3).flat
      have ct := (k7.sl (N := N2) k4).flat
      have z1 := flatV_one cu
      have z2 := cel_flat cu
      have z3 := flatV_one ct
      have z4 := cel_flat ct
      have k6' : Ow ((h2.set (some (.c (leC F) 104)) N2)) 3 u (rainsFN s f i) i1 := k6.keep sS_Sk
      have k7' : Ow ((h2.set (some (.c (leC F) 104)) N2)) 104 t (lfs s f (rainsFN s f i)) i2 := k7.keep sS_Sk
      try refine gs_Sk ?_
      refine Rn.call (Ow.app (α := Int) (K := [s.wlo + (i : Int)]) (i := i1) ap_Sint (k6.keep sS_Sk) (by omega) (Sl.lit [s.wlo + (i : Int)] sM_Sk (by omega : N2 + 1 < N2 + 1 + 1 + 1) rfl rfl) (Fr.refl _ _) (by simp; omega)) ?_
      rintro r1 h3 N3 ⟨i3, w3, e3, e3', f3, o3, l3⟩
      try refine gs_Sk ?_
      refine Rn.call (Ow.app (α := Lf) (K := [⟨F⟩]) (i := i2) ap_Saguadorref01_left (k7.keep sS_Sk) (by omega) (Sl.lit [(⟨F⟩ : Lf)] sM_Sk (by omega : N2 + 1 + 1 < N3) rfl rfl) (Fr.refl _ _) (by simp; omega)) ?_
      rintro r2 h4 N4 ⟨i4, w4, e4, e4', f4, o4, l4⟩
      try refine gs_Sk ?_
      refine ih (n - 1) (by omega) _ _ _ _ _ _ _ ⟨i + 1, rfl, rfl, by rw [show s.wlo + ((i + 1 : Nat) : Int) = s.wlo + (i : Int) + 1 by omega], by omega, fr_Sk, by omega, sS_Sk, sS_Sk, .inr ⟨i3, i4, by omega, by omega, by omega, by omega, by omega, ?_, ?_⟩⟩
      · rw [es]; exact w3.keep (o4 (by omega) (by omega))
      · rw [es]
        have : lfs s f (rainsFN s f i ++ [s.wlo + (i : Int)]) = lfs s f (rainsFN s f i) ++ [⟨F⟩] := by simp [lfs, hF]
        rw [this]; exact w4
    · have hok : okN s F = false := by assumption
      rw [if_neg (by rw [hok]; simp)] at es
      try refine gs_Sk ?_
      refine ih (n - 1) (by omega) _ _ _ _ _ _ _ ⟨i + 1, rfl, rfl, by rw [show s.wlo + ((i + 1 : Nat) : Int) = s.wlo + (i : Int) + 1 by omega], by omega, fr_Sk, by omega, sS_Sk, sS_Sk, .inr ⟨i1, i2, by omega, by omega, by omega, by omega, by omega, ?_, ?_⟩⟩
      · rw [es]; exact k6.keep sS_Sk
      · rw [es]; exact k7.keep sS_Sk
  · obtain rfl : i = rainN s := by omega
    try refine gs_Sk ?_
    refine Rn.ret ⟨⟨_, _, rfl, ?_⟩, (Gw.of fr_Sk (by omega))⟩
    rcases q1 with ⟨rfl, rfl, e⟩ | ⟨i1, i2, k1, k2, k3, k4, k5, k6, k7⟩
    · have e' : rainsF s f = [] := e
      rw [e']; exact ⟨Sl.nil _ _, Sl.nil _ _⟩
    · exact ⟨k6.sl k3, k7.sl k4⟩
theorem c_rrains (call : CallF) {h N} (hs : OkS s) (hb : Sl h N b s.book) (hr : Sl h N r s.reads) : Rn (s79 call (.agg ⟨[iS s.weeks, iS s.most, iS s.fall, iS s.slo, iS s.shi, iS s.wlo, iS s.whi, b, r]⟩) h N) fun v h' N' => (∃ p q, v = .tuple ⟨[p, q]⟩ ∧ Sl h' N' p (rainsS s) ∧ Sl h' N' q (lfs s (baseS s) (rainsS s))) ∧ Gw h N h' N' := by
  have cb := hb.flat
  have cr := hr.flat
  unfold s79
  have x1 := flatV_one cb; have y1 := cel_flat cb; have x2 := flatV_one cr; have y2 := cel_flat cr
  try refine gs_Sk ?_
  refine Rn.call (c_base _ hs (Sl.up (by assumption) fr_Sk (by omega)) cb) ?_
  rintro _ h1 N1 ⟨rfl, f1, o1, l1⟩
  try refine gs_Sk ?_
  refine Rn.call (c_rained _ hs (base_ok hs) (Sl.up (by assumption) fr_Sk (by omega)) cr) ?_
  rintro _ h2 N2 ⟨⟨p, q, rfl, k1, k2⟩, f2, o2, l2⟩
  rw [rainsF_base hs] at k1 k2
  try refine gs_Sk ?_
  exact Rn.ret ⟨⟨p, q, rfl, k1, k2⟩, (Gw.of fr_Sk (by omega))⟩
theorem c_rTrue (call : CallF) {h N} (hs : OkS s) (hb : Sl h N b s.book) (hr : Sl h N r s.reads) : Rn (s38 call (.agg ⟨[iS s.weeks, iS s.most, iS s.fall, iS s.slo, iS s.shi, iS s.wlo, iS s.whi, b, r]⟩) h N) fun v h' N' => v = .bool (canS s) ∧ Gw h N h' N' := by
  have cb := hb.flat
  have cr := hr.flat
  unfold s38
  have x1 := flatV_one cb; have y1 := cel_flat cb; have x2 := flatV_one cr; have y2 := cel_flat cr
  try refine gs_Sk ?_
  refine Rn.call (c_rrains _ hs (Sl.up (by assumption) fr_Sk (by omega)) (Sl.up (by assumption) fr_Sk (by omega))) ?_
  rintro _ h1 N1 ⟨⟨p, q, rfl, k1, k2⟩, f1, o1, l1⟩
  try refine gs_Sk ?_
  refine Rn.ret ⟨congrArg Value.bool ?_, (Gw.of fr_Sk (by omega))⟩
  unfold canS
  cases rainsS s <;> simp
def greatB (s : Sp) : Bool := decide (30 < s.book.length) || decide (30 < s.reads.length)
theorem c_rGreat (call : CallF) {h N} (hb : Sl h N b s.book) (hr : Sl h N r s.reads) : Rn (s12 call (.agg ⟨[iS s.weeks, iS s.most, iS s.fall, iS s.slo, iS s.shi, iS s.wlo, iS s.whi, b, r]⟩) h N) fun v h' N' => v = .bool (greatB s) ∧ Gw h N h' N' := by
  have cb := hb.flat
  have cr := hr.flat
  unfold s12
  have x1 := flatV_one cb; have y1 := cel_flat cb; have x2 := flatV_one cr; have y2 := cel_flat cr
  repeat' (first | refine gs_Sk ?_ | (first | with_reducible refine Rn.part (fun _ => ?_) (fun _ => ?_) | with_reducible refine Rn.partN (fun _ => ?_) (fun _ => ?_) | with_reducible refine Rn.partB (fun _ => ?_) (fun _ => ?_)) | (first | with_reducible refine Rn.cnd (fun _ => ?_) (fun _ => ?_) | with_reducible refine Rn.cndN (fun _ => ?_) (fun _ => ?_) | with_reducible refine Rn.cndB (fun _ => ?_) (fun _ => ?_)))
  all_goals exact Rn.ret ⟨congrArg Value.bool (by simp only [greatB]; rw [Bool.eq_iff_iff]; simp; omega), (Gw.of fr_Sk (by omega))⟩
def readyB (s : Sp) : Bool := !greatB s && validB s
theorem c_ready (call : CallF) {h N} (hb : Sl h N b s.book) (hr : Sl h N r s.reads) : Rn (s29 call (.agg ⟨[iS s.weeks, iS s.most, iS s.fall, iS s.slo, iS s.shi, iS s.wlo, iS s.whi, b, r]⟩) h N) fun v h' N' => v = .bool (readyB s) ∧ Gw h N h' N' := by
  have cb := hb.flat
  have cr := hr.flat
  unfold s29
  have x1 := flatV_one cb; have y1 := cel_flat cb; have x2 := flatV_one cr; have y2 := cel_flat cr
  try refine gs_Sk ?_
  refine Rn.call (c_rGreat _ (Sl.up (by assumption) fr_Sk (by omega)) (Sl.up (by assumption) fr_Sk (by omega))) ?_
  rintro _ h1 N1 ⟨rfl, f1, o1, l1⟩
  repeat' (first | refine gs_Sk ?_ | (first | with_reducible refine Rn.part (fun _ => ?_) (fun _ => ?_) | with_reducible refine Rn.partN (fun _ => ?_) (fun _ => ?_) | with_reducible refine Rn.partB (fun _ => ?_) (fun _ => ?_)) | (first | with_reducible refine Rn.cnd (fun _ => ?_) (fun _ => ?_) | with_reducible refine Rn.cndN (fun _ => ?_) (fun _ => ?_) | with_reducible refine Rn.cndB (fun _ => ?_) (fun _ => ?_)))
  rotate_left
  · have hg : greatB s = false := by assumption
    have hg2 := hg
    simp only [greatB, Bool.or_eq_false_iff, decide_eq_false_iff_not] at hg2
    refine Rn.call (c_rSpring _ (by omega) (by omega) (Sl.up (by assumption) fr_Sk (by omega)) (Sl.up (by assumption) fr_Sk (by omega))) ?_
    rintro _ h2 N2 ⟨rfl, f2, o2, l2⟩
    try refine gs_Sk ?_
    exact Rn.ret ⟨congrArg Value.bool (by unfold readyB; rw [hg]; rfl), (Gw.of fr_Sk (by omega))⟩
  · exact Rn.ret ⟨congrArg Value.bool (by unfold readyB; simp only [*]; rfl), (Gw.of fr_Sk (by omega))⟩
end
end Go.Proofs.Ytpilgokdbliklaa
end

section
namespace Go.Proofs.Ytpilgokdbliklaa
open Go.Ev Go.RowKit
set_option linter.unusedVariables false
set_option linter.unusedSimpArgs false
set_option linter.unusedSectionVars false
set_option maxRecDepth 100000
set_option maxHeartbeats 4000000
section
variable {s : Sp} {b r : Value}
end
end Go.Proofs.Ytpilgokdbliklaa
end

section
namespace Go.Proofs.Ytpilgokdbliklaa
open Go.Ev Go.RowKit
set_option linter.unusedVariables false
set_option linter.unusedSimpArgs false
set_option linter.unusedSectionVars false
set_option maxRecDepth 100000
set_option maxHeartbeats 4000000
theorem cv_u8 {z : Int} (h : 0 ≤ z ∧ z < 256) : cvV Pr 5 3 (.int .u8 z) = some (iS z) := by
  have hw : IntKind.i64.wrap z = z := Go.Sx.wrap_in (by omega)
  have g : still Pr (convert 5 3 (.int .u8 z)) = some (iS z) := by
    have u1 : Pr.underlying 5 = some (.int .u8) := by kernel_rfl
    have u2 : Pr.underlying 3 = some (.int .i64) := by kernel_rfl
    unfold convert
    simp [still_bnd, still_undl u1, still_undl u2, obind_s, still_pure, Conv.intToInt, hw]
  show ocond true (obind (still Pr _) fun r => ocond (scal r) (some r)) = _
  rw [g]; rfl
end Go.Proofs.Ytpilgokdbliklaa
end

section
namespace Go.Proofs.Ytpilgokdbliklaa
open Go.Ev Go.RowKit
set_option linter.unusedVariables false
set_option linter.unusedSimpArgs false
set_option linter.unusedSectionVars false
set_option maxRecDepth 100000
set_option maxHeartbeats 4000000
section
variable {s : Sp} {b r : Value}
theorem er_0 {w : Int} (hv : validB s = true) (hc : canS s = true) (hw : 0 ≤ w ∧ w ≤ s.weeks - 1) : erS s w = 0 := by
  have : isWeekB s.weeks w = true := by simp only [isWeekB, inS, Bool.and_eq_true, decide_eq_true_eq]; exact hw
  rw [er_eq, hv, hc, this]; rfl
theorem ready_ok (h : readyB s = true) : validB s = true ∧ s.book.length < 1000 ∧ s.reads.length < 1000 := by
  simp only [readyB, greatB, Bool.and_eq_true, Bool.not_eq_true', Bool.or_eq_false_iff, decide_eq_false_iff_not] at h
  exact ⟨h.2, by omega, by omega⟩
end
end Go.Proofs.Ytpilgokdbliklaa
end

section
namespace Go.Proofs.Ytpilgokdbliklaa
open Go.Ev Go.RowKit
set_option linter.unusedVariables false
set_option linter.unusedSimpArgs false
set_option linter.unusedSectionVars false
set_option maxRecDepth 100000
set_option maxHeartbeats 4000000
open Go.Sx Go.ChangeShapes Go.WideShapes Go.ChangeAt
theorem Try.own : ownKnob Try.prog.godebug = none := by kernel_rfl
theorem Try.laidOut : laidOutB Try.prog = true := by kernel_rfl
theorem plains_ln (K : List Ln) : ∀ u ∈ encs K, plain u = true := by
  intro u hu
  simp only [encs, List.mem_flatMap] at hu
  obtain ⟨n, _, h⟩ := hu
  exact plain_Line n u h
theorem plains_rd (K : List Rd) : ∀ u ∈ encs K, plain u = true := by
  intro u hu
  simp only [encs, List.mem_flatMap] at hu
  obtain ⟨n, _, h⟩ := hu
  exact plain_Reading n u h
section
variable {H : Type} {enc : TypeId × Value → H} {w : World} {b0 base fuel : Nat} {spare : Nat → Bool} {held : Bool} {v : Value} {cs : List Value} {x : DataW H × List MemPlace}
theorem cells_int : Try.prog.cellsOf 3 = 1 := by kernel_rfl
theorem cells_span : Try.prog.cellsOf 23 = 2 := by kernel_rfl
theorem cells_line : Try.prog.cellsOf 73 = 5 := by kernel_rfl
theorem cells_reading : Try.prog.cellsOf 71 = 5 := by kernel_rfl
theorem cells_spring : Try.prog.cellsOf 27 = 9 := by kernel_rfl
theorem cells_lines : Try.prog.cellsOf 24 = 1 := by kernel_rfl
theorem cells_readings : Try.prog.cellsOf 25 = 1 := by kernel_rfl
theorem fld {fs : Array Field} {xs : List (DataW H × List MemPlace)} {n : Nat} {cs : List Value} (hf : ∀ (i : Nat) (f : Field), fs[i]? = some f → DataW.trod enc Try.prog w base spare held n f.type ((cs.drop f.offset).take (Try.prog.cellsOf f.type)) = xs[i]?)
    (i off T k : Nat) (hi : ∃ f, fs[i]? = some f ∧ f.type = T ∧ f.offset = off) (hc : Try.prog.cellsOf T = k) {y : DataW H × List MemPlace} (hx : xs[i]? = some y) : DataW.trod enc Try.prog w base spare held n T ((cs.drop off).take k) = some y := by
  obtain ⟨f, h1, rfl, rfl⟩ := hi
  rw [← hc, hf i f h1, hx]
theorem rd_int (h : DataW.trod enc Try.prog w base spare held fuel 3 cs = some x) : ∃ n : Int, cs = [.int .i64 n] := by
  obtain ⟨n, h1, _⟩ := DataW.trod_int Try.underlying3 h
  exact ⟨n, h1⟩
theorem rd_span (h : DataW.trod enc Try.prog w base spare held fuel 23 cs = some x) : ∃ a b : Int, cs = [.int .i64 a, .int .i64 b] := by
  obtain ⟨xs, n, _, _, hl, hxl, hf⟩ := DataW.trod_struct Try.underlying23 h
  rw [cells_span] at hl
  match cs, hl with
  | [c0, c1], _ =>
    match xs, hxl with
    | [x0, x1], _ =>
      have f0 := fld hf 0 0 3 1 ⟨_, rfl, rfl, rfl⟩ cells_int (y := x0) rfl
      have f1 := fld hf 1 1 3 1 ⟨_, rfl, rfl, rfl⟩ cells_int (y := x1) rfl
      obtain ⟨a, ha⟩ := rd_int f0
      obtain ⟨b, hb⟩ := rd_int f1
      simp at ha hb
      exact ⟨a, b, by rw [ha, hb]⟩
theorem rd_line (h : DataW.trod enc Try.prog w base spare held fuel 73 cs = some x) : ∃ r : Ln, cs = Rwc.enc r := by
  obtain ⟨xs, n, _, _, hl, hxl, hf⟩ := DataW.trod_struct Try.underlying73 h
  rw [cells_line] at hl
  match cs, hl with
  | [c0, c1, c2, c3, c4], _ =>
    match xs, hxl with
    | [x0, x1, x2], _ =>
      have f0 := fld hf 0 0 23 2 ⟨_, rfl, rfl, rfl⟩ cells_span (y := x0) rfl
      have f1 := fld hf 1 2 3 1 ⟨_, rfl, rfl, rfl⟩ cells_int (y := x1) rfl
      have f2 := fld hf 2 3 23 2 ⟨_, rfl, rfl, rfl⟩ cells_span (y := x2) rfl
      obtain ⟨a, b, ha⟩ := rd_span f0
      obtain ⟨c, hc⟩ := rd_int f1
      obtain ⟨d, e, hd⟩ := rd_span f2
      simp at ha hc hd
      exact ⟨⟨a, b, c, d, e⟩, by rw [enc_Line, ha.1, ha.2, hc, hd.1, hd.2]⟩
theorem rd_reading (h : DataW.trod enc Try.prog w base spare held fuel 71 cs = some x) : ∃ r : Rd, cs = Rwc.enc r := by
  obtain ⟨xs, n, _, _, hl, hxl, hf⟩ := DataW.trod_struct Try.underlying71 h
  rw [cells_reading] at hl
  match cs, hl with
  | [c0, c1, c2, c3, c4], _ =>
    match xs, hxl with
    | [x0, x1, x2, x3], _ =>
      have f0 := fld hf 0 0 3 1 ⟨_, rfl, rfl, rfl⟩ cells_int (y := x0) rfl
      have f1 := fld hf 1 1 3 1 ⟨_, rfl, rfl, rfl⟩ cells_int (y := x1) rfl
      have f2 := fld hf 2 2 3 1 ⟨_, rfl, rfl, rfl⟩ cells_int (y := x2) rfl
      have f3 := fld hf 3 3 23 2 ⟨_, rfl, rfl, rfl⟩ cells_span (y := x3) rfl
      obtain ⟨a, ha⟩ := rd_int f0
      obtain ⟨b, hb⟩ := rd_int f1
      obtain ⟨c, hc⟩ := rd_int f2
      obtain ⟨d, e, hd⟩ := rd_span f3
      simp at ha hb hc hd
      exact ⟨⟨a, b, c, d, e⟩, by rw [enc_Reading, ha, hb, hc, hd.1, hd.2]⟩
theorem open_spring {d : DataW H} {ps : List MemPlace} (hv : Value.okWide Try.prog w .any b0 27 v) (h : DataW.Trod enc Try.prog w 0 spare held 27 v d ps) :
    ∃ (s : Sp) (b r : Value), v = .agg ⟨[iS s.weeks, iS s.most, iS s.fall, iS s.slo, iS s.shi, iS s.wlo, iS s.whi, b, r]⟩ ∧ In w b s.book ∧ In w r s.reads ∧ Pl b s.book.length ∧ Pl r s.reads.length := by
  have hv0 := hv
  obtain ⟨cs, rfl, hcs⟩ := okWide_struct Try.underlying27 hv
  obtain ⟨fuel, h⟩ := h
  obtain ⟨xs, n, _, _, hl, hxl, hf⟩ := DataW.trod_struct Try.underlying27 h
  have hl' : cs.toList.length = 9 := by rw [cells_spring] at hl; exact hl
  obtain ⟨c0, c1, c2, c3, c4, c5, c6, c7, c8, hc⟩ : ∃ c0 c1 c2 c3 c4 c5 c6 c7 c8, cs.toList = [c0, c1, c2, c3, c4, c5, c6, c7, c8] := by
    match hz : cs.toList, hl' with
    | [c0, c1, c2, c3, c4, c5, c6, c7, c8], _ => exact ⟨c0, c1, c2, c3, c4, c5, c6, c7, c8, rfl⟩
  have hce : (Value.agg cs).cells.toList = [c0, c1, c2, c3, c4, c5, c6, c7, c8] := hc
  rw [hce] at hf
  have hca : cs = ⟨[c0, c1, c2, c3, c4, c5, c6, c7, c8]⟩ := Array.ext' hc
  subst hca
  simp only [Value.okWide, Try.underlying27] at hv0
  obtain ⟨_, he, _, ts, hts, _, hk⟩ := hv0
  cases he
  have e : Try.prog.cellTypes Try.prog.depth 27 = some [3, 3, 3, 3, 3, 3, 3, 24, 25] := by kernel_rfl
  rw [e] at hts
  cases hts
  obtain ⟨u7, g7, k7⟩ := hk 7 c7 rfl
  obtain ⟨u8, g8, k8⟩ := hk 8 c8 rfl
  cases g7; cases g8
  match xs, hxl with
  | [x0, x1, x2, x3, x4, x5, x6], _ =>
    have f0 := fld hf 0 0 3 1 ⟨_, rfl, rfl, rfl⟩ cells_int (y := x0) rfl
    have f1 := fld hf 1 1 3 1 ⟨_, rfl, rfl, rfl⟩ cells_int (y := x1) rfl
    have f2 := fld hf 2 2 3 1 ⟨_, rfl, rfl, rfl⟩ cells_int (y := x2) rfl
    have f3 := fld hf 3 3 23 2 ⟨_, rfl, rfl, rfl⟩ cells_span (y := x3) rfl
    have f4 := fld hf 4 5 23 2 ⟨_, rfl, rfl, rfl⟩ cells_span (y := x4) rfl
    have f5 := fld hf 5 7 24 1 ⟨_, rfl, rfl, rfl⟩ cells_lines (y := x5) rfl
    have f6 := fld hf 6 8 25 1 ⟨_, rfl, rfl, rfl⟩ cells_readings (y := x6) rfl
    obtain ⟨i0, e0⟩ := rd_int f0
    obtain ⟨i1, e1⟩ := rd_int f1
    obtain ⟨i2, e2⟩ := rd_int f2
    obtain ⟨i3, i4, e3⟩ := rd_span f3
    obtain ⟨i5, i6, e4⟩ := rd_span f4
    simp at e0 e1 e2 e3 e4
    obtain ⟨e3, e3'⟩ := e3
    obtain ⟨e4, e4'⟩ := e4
    subst e0 e1 e2 e3 e3' e4 e4'
    obtain ⟨L1, i1'⟩ := open_in (α := Ln) cells_line Try.underlying24 (fun _ _ _ h => rd_line h) k7 f5
    obtain ⟨L2, i2'⟩ := open_in (α := Rd) cells_reading Try.underlying25 (fun _ _ _ h => rd_reading h) k8 f6
    exact ⟨⟨i0, i1, i2, i3, i4, i5, i6, L1, L2⟩, c7, c8, rfl, i1', i2', in_pl Try.underlying24 k7 i1', in_pl Try.underlying25 k8 i2'⟩
theorem ok_u8 (hv : Value.okWide Try.prog w .any b0 5 v) : ∃ z, v = .int .u8 z ∧ 0 ≤ z ∧ z < 256 := by
  simp only [Value.okWide, Try.underlying5] at hv
  unfold Cell.okWide Cell.ok at hv
  rw [Try.underlying5] at hv
  cases v with
  | int k z =>
    obtain ⟨rfl, h⟩ := hv
    unfold IntKind.has at h
    have e1 : IntKind.u8.min = 0 := by decide
    have e2 : IntKind.u8.max = 255 := by decide
    exact ⟨z, rfl, by omega, by omega⟩
  | _ => exact hv.elim
end
/-- A spring that came in is told. -/
theorem tell_spring {W : World} {s : Sp} {b r : Value} (h1 : In W b s.book) (h2 : In W r s.reads) :
    ∃ σ h u1 u2, Go.Ev.Told W σ h 2 ∧ Rl σ u1 b ∧ Rl σ u2 r ∧ Sl h 2 u1 s.book ∧ Sl h 2 u2 s.reads ∧ (Pl b s.book.length → Pl u1 s.book.length) ∧ (Pl r s.reads.length → Pl u2 s.reads.length) := by
  obtain ⟨σ1, m1, u1, T1, le1, g1, r1, t1, c1⟩ := tell2 h1 (plains_ln _) (Go.Ev.Told.start W)
  obtain ⟨σ2, m2, u2, T2, le2, g2, r2, t2, c2⟩ := tell2 h2 (plains_rd _) T1
  exact ⟨σ2, m2, u1, u2, T2, r1.mono le2, r2, t1.up g2 (by omega), t2, c1, c2⟩
theorem rl_spring {σ : Sg} {s : Sp} {b r u1 u2 : Value} (r1 : Rl σ u1 b) (r2 : Rl σ u2 r) : Rl σ (.agg ⟨[iS s.weeks, iS s.most, iS s.fall, iS s.slo, iS s.shi, iS s.wlo, iS s.whi, u1, u2]⟩) (.agg ⟨[iS s.weeks, iS s.most, iS s.fall, iS s.slo, iS s.shi, iS s.wlo, iS s.whi, b, r]⟩) :=
  RlL.agg (RlL.cons (.sc rfl) (RlL.cons (.sc rfl) (RlL.cons (.sc rfl) (RlL.cons (.sc rfl) (RlL.cons (.sc rfl) (RlL.cons (.sc rfl) (RlL.cons (.sc rfl) (RlL.cons r1 (RlL.cons r2 (RlL.nil _))))))))))
end Go.Proofs.Ytpilgokdbliklaa
end

section
namespace Go.Proofs.Ytpilgokdbliklaa
open Go.Ev Go.RowKit
set_option linter.unusedVariables false
set_option linter.unusedSimpArgs false
set_option linter.unusedSectionVars false
set_option maxRecDepth 100000
set_option maxHeartbeats 4000000
def rnE (s : Sp) : Int := beginS s (qw 0 0) [4]
def rnL (s : Sp) : List Int := if rnE s = 0 then rainsS s else []
/-- A list of one's own, nil at first. -/
def OwZ {α : Type} [Rwc α] (h : Tr Ob) (M el : Nat) (v : Value) (L : List α) (P : Nat → Prop) : Prop := (v = .slice none 0 0 ∧ L = []) ∨ ∃ i, P i ∧ i < M ∧ Ow h el v L i
theorem OwZ.sl {α : Type} [Rwc α] {h : Tr Ob} {M el : Nat} {v : Value} {L : List α} {P : Nat → Prop} (o : OwZ h M el v L P) : Sl h M v L := by
  rcases o with ⟨rfl, rfl⟩ | ⟨i, _, hi, o⟩
  · exact Sl.nil _ _
  · exact o.sl hi
theorem OwZ.keep {α : Type} [Rwc α] {h h' : Tr Ob} {M M' el : Nat} {v : Value} {L : List α} {P : Nat → Prop} (o : OwZ h M el v L P) (hm : M ≤ M') (hk : ∀ i, P i → i < M → h'.get i = h.get i) : OwZ h' M' el v L P := by
  rcases o with e | ⟨i, p, hi, o⟩
  · exact .inl e
  · exact .inr ⟨i, p, by omega, o.keep (hk i p hi)⟩
theorem rains_len {s : Sp} (hs : OkS s) : (rainsS s).length ≤ 21 := by
  have h := hs.ok
  obtain ⟨w1, w2, m1, m2, p1, p2, a1, a2, a3, v1, v2, v3⟩ := h
  have : (rainsS s).length ≤ rainN s := by
    unfold rainsS rainsN
    refine Nat.le_trans (List.length_filter_le _ _) ?_
    simp
  unfold rainN at this
  omega
section
variable {s : Sp} {b r : Value}
theorem c_Rains (d : Nat) {h N} (nb : s.book.length < 1000) (nr : s.reads.length < 1000) (hb : Sl h N b s.book) (hr : Sl h N r s.reads) : Rn (s32 (cN (d + 3)) (.agg ⟨[iS s.weeks, iS s.most, iS s.fall, iS s.slo, iS s.shi, iS s.wlo, iS s.whi, b, r]⟩) h N) fun v h' N' => (∃ p, v = .tuple ⟨[p, iS (rnE s)]⟩ ∧ Sl h' N' p (rnL s)) ∧ Gw h N h' N' := by
  unfold s32 s78
  have cb := hb.flat; have cr := hr.flat; have x1 := flatV_one cb; have y1 := cel_flat cb; have x2 := flatV_one cr; have y2 := cel_flat cr
  try refine gs_Sk ?_
  refine Rn.call (c_begin d (q := qw 0 0) (L := [4]) nb nr (Sl.up (by assumption) fr_Sk (by omega)) (Sl.up (by assumption) fr_Sk (by omega)) (by simp) (Sl.lit _ sM_Sk (by omega) rfl rfl) (by simp)) ?_
  rintro _ h1 N1 ⟨⟨e0, hv, rfl⟩ | ⟨e0, rfl⟩, f1, o1, l1⟩
  · have hs := ok_of_valid hv
    have hrl := rains_len hs
    have e1 : rnE s = 0 := e0
    have e2 : rnL s = rainsS s := if_pos e1
    rw [e1, e2]
    clear e0 e1 e2
    try refine gs_Sk ?_
    unfold jnR
    refine Rn.cond rfl ?_
    try refine gs_Sk ?_
    rw [dyn_rains _ _ rfl]
    refine Rn.call (c_rains1 (s := s) (b := b) (r := r) (d + 2) hs
      (fun k g M => Fr h N g ∧ N1 + 5 ≤ M ∧ g.get (N1 + 2) = some (.c [iS s.weeks, iS s.most, iS s.fall, iS s.slo, iS s.shi, iS s.wlo, iS s.whi, b, r] 106) ∧ g.get (N1 + 3) = some .d ∧ g.get (N1 + 4) = some (.l .ready .n 27 (Tr.set (.e 32) (some (.pointer (some ⟨N1 + 1, 0, none⟩))) 6) [20, 21] (rgA Pr 32 0) (rgB Pr 32 0) (N1 + 3)) ∧ ∃ v, g.get (N1 + 1) = some (.c [v] 35) ∧ OwZ g M 3 v ((rainsS s).take k) (fun i => N1 + 5 ≤ i))
      (fun g M => False)
      ?_ (by omega) ?_ ?_ ?_) ?_
    · rintro k g M ⟨f2, l2, g1, g2, g3, v, g4, g5⟩
      exact ⟨hb.up f2 (by omega), hr.up f2 (by omega), g1⟩
    · rintro k g M g' M' ⟨f2, l2, g1, g2, g3, v, g4, g5⟩ f3 l3
      exact ⟨f2.trans f3 (by omega), by omega, by rw [f3 _ (by omega), g1], by rw [f3 _ (by omega), g2], by rw [f3 _ (by omega), g3], v, by rw [f3 _ (by omega), g4], g5.keep l3 (fun i _ hi => f3 i hi)⟩
    · rintro k x hx g M ⟨f2, l2, g1, g2, g3, v, g4, g5⟩ l3
      have ek : (rainsS s).take (k + 1) = (rainsS s).take k ++ [x] := by rw [List.take_add_one, hx]; rfl
      have hk := lt_of_at hx
      have cv := g5.sl.flat
      have z1 := flatV_one cv
      have z2 := cel_flat cv
      rw [show cN (d + 2) = cAll Pr (lookS dynT) rdS (d + 2) from rfl, yld g3 rd_Rains rfl rfl]
      unfold r32_0
      simp only [putAll_c, putAll_n]
      have g6 : ∃ i, N1 + 5 ≤ i ∧ i < M + 1 ∧ ∀ h' : Tr Ob, (∀ j, N1 + 5 ≤ j → j < M → h'.get j = g.get j) → Ow h' 3 v ((rainsS s).take k) i := by
        rcases g5 with ⟨rfl, e⟩ | ⟨i, p, hi, o⟩
        · rw [e]; exact ⟨M, by omega, by omega, fun h' _ => Ow.nil _ _ _⟩
        · exact ⟨i, p, by omega, fun h' hk => o.keep (hk i p hi)⟩
      obtain ⟨i, p, hi, o⟩ := g6
      clear g5
      try refine gs_Sk ?_
      refine Rn.call (Ow.app (α := Int) (K := [x]) (i := i) ap_Sint (o _ (fun j j1 j2 => sS_Sk)) (by omega) (Sl.lit [x] sM_Sk (by omega : M < M + 1) rfl rfl) (Fr.refl _ _) (by simp; omega)) ?_
      rintro r1 h4 N4 ⟨i4, w4, e4, e4', f4, o4, l4⟩
      have cv2 := (w4.sl e4').flat
      have z3 := flatV_one cv2
      have z4 := cel_flat cv2
      try refine gs_Sk ?_
      refine Rn.ret ⟨by omega, .inl ⟨rfl, fr_Sk, by omega, sS_Sk, sS_Sk, sR_Sk, r1, sS_Sk, .inr ⟨i4, by omega, e4', ?_⟩⟩⟩
      rw [ek]; exact w4.keep sS_Sk
    · exact ⟨fr_Sk, by omega, sS_Sk, sS_Sk, sR_Sk, .slice none 0 0, sS_Sk, .inl ⟨rfl, rfl⟩⟩
    · rintro v g M ⟨l2, ⟨f2, l3, g1, g2, g3, v', g4, g5⟩ | h0⟩
      · refine Rn.eq (rEnd_n g3) ?_
        rw [List.take_length] at g5
        have g6 := g5.sl
        try refine gs_Sk ?_
        exact Rn.ret ⟨⟨_, rfl, (g5.keep (Nat.le_refl _) (fun i p hi => sS_Sk)).sl⟩, (Gw.of fr_Sk (by omega))⟩
      · exact h0.elim
  · have e1 : beginS s (qw 0 0) [4] = rnE s := rfl
    rw [e1] at e0 ⊢
    have e2 : rnL s = [] := if_neg e0
    rw [e2]
    try refine gs_Sk ?_
    exact Rn.ret ⟨⟨_, rfl, Sl.nil _ _⟩, (Gw.of fr_Sk (by omega))⟩
end
end Go.Proofs.Ytpilgokdbliklaa
end

section
namespace Go.Proofs.Ytpilgokdbliklaa
open Go.Ev Go.RowKit
set_option linter.unusedVariables false
set_option linter.unusedSimpArgs false
set_option linter.unusedSectionVars false
set_option maxRecDepth 100000
set_option maxHeartbeats 4000000
theorem s1_Ub {p : Prop} (h : p := by (simp (disch := omega) only [obind_s, orun_s, ocond_t, fad_p, ld1_e, ldN_e, sto_e, cellO_c, wrO_c, Tr.get_same, Tr.get_other, nth_0, nth_s, drp_0, drp_s, drp_n, tak_0, tak_s, tak_n, over_n, over_c, lay_0, lay_s, lay_n, len_n, len_c, app_n, app_c, reps_0, reps_s, cel_agg, cel_int, cel_bool, cel_str, cel_sl, cel_ptr, cel_map, cel_func, cel_nilf, fil_n, fil_c, beq_r, ble_d, allF_n, allF_c, one_int, one_bool, one_str, one_sl, one_ptr, one_map, one_func, one_nilf, Bool.and_true, Bool.true_and, Bool.not_true, Bool.not_false, iadA_z, Int.reduceToNat, Int.toNat_zero, fl1_a, flN_a, extr_t, unot, not_d, Nat.add_eq, Nat.mul_eq, Nat.mul_one, Nat.one_mul, Nat.zero_mul, Nat.reduceMul, Nat.zero_add, Nat.add_zero, Nat.le_refl, decide_true, Nat.reduceAdd, Nat.reduceLeDiff, bsl_Sint, bsl_SReading, bsl_SLine, bld_Span, bld_spring_work, bld_spring_asked, enc_Line, enc_Reading, ocond_d, Int.toNat_natCast, *]); first | done | fail) : p := h
theorem s2_Ub {p : Prop} (h : p := by (simp (disch := omega) only [obind_s, orun_s, ocond_t, fad_p, ld1_e, ldN_e, sto_e, cellO_c, wrO_c, Tr.get_same, Tr.get_other, nth_0, nth_s, drp_0, drp_s, drp_n, tak_0, tak_s, tak_n, over_n, over_c, lay_0, lay_s, lay_n, len_n, len_c, app_n, app_c, reps_0, reps_s, cel_agg, cel_int, cel_bool, cel_str, cel_sl, cel_ptr, cel_map, cel_func, cel_nilf, fil_n, fil_c, beq_r, ble_d, allF_n, allF_c, one_int, one_bool, one_str, one_sl, one_ptr, one_map, one_func, one_nilf, Bool.and_true, Bool.true_and, Bool.not_true, Bool.not_false, iadA_z, Int.reduceToNat, Int.toNat_zero, fl1_a, flN_a, extr_t, unot, not_d, Nat.add_eq, Nat.mul_eq, Nat.mul_one, Nat.one_mul, Nat.zero_mul, Nat.reduceMul, Nat.zero_add, Nat.add_zero, Nat.le_refl, decide_true, Nat.reduceAdd, Nat.reduceLeDiff, bsl_Sint, bsl_SReading, bsl_SLine, bld_Span, bld_spring_work, bld_spring_asked, enc_Line, enc_Reading, ocond_d, Int.toNat_natCast, *]); rfl) : p := h
theorem sb_Ub {p : Prop} (h : p := by first | ((simp (disch := omega) only [obind_s, orun_s, ocond_t, fad_p, ld1_e, ldN_e, sto_e, cellO_c, wrO_c, Tr.get_same, Tr.get_other, nth_0, nth_s, drp_0, drp_s, drp_n, tak_0, tak_s, tak_n, over_n, over_c, lay_0, lay_s, lay_n, len_n, len_c, app_n, app_c, reps_0, reps_s, cel_agg, cel_int, cel_bool, cel_str, cel_sl, cel_ptr, cel_map, cel_func, cel_nilf, fil_n, fil_c, beq_r, ble_d, allF_n, allF_c, one_int, one_bool, one_str, one_sl, one_ptr, one_map, one_func, one_nilf, Bool.and_true, Bool.true_and, Bool.not_true, Bool.not_false, iadA_z, Int.reduceToNat, Int.toNat_zero, fl1_a, flN_a, extr_t, unot, not_d, Nat.add_eq, Nat.mul_eq, Nat.mul_one, Nat.one_mul, Nat.zero_mul, Nat.reduceMul, Nat.zero_add, Nat.add_zero, Nat.le_refl, decide_true, Nat.reduceAdd, Nat.reduceLeDiff, bsl_Sint, bsl_SReading, bsl_SLine, bld_Span, bld_spring_work, bld_spring_asked, enc_Line, enc_Reading, ocond_d, Int.toNat_natCast, Nat.succ_eq_add_one, Nat.add_assoc, *]); rfl) | ((simp (disch := omega) only [obind_s, orun_s, ocond_t, fad_p, ld1_e, ldN_e, sto_e, cellO_c, wrO_c, Tr.get_same, Tr.get_other, nth_0, nth_s, drp_0, drp_s, drp_n, tak_0, tak_s, tak_n, over_n, over_c, lay_0, lay_s, lay_n, len_n, len_c, app_n, app_c, reps_0, reps_s, cel_agg, cel_int, cel_bool, cel_str, cel_sl, cel_ptr, cel_map, cel_func, cel_nilf, fil_n, fil_c, beq_r, ble_d, allF_n, allF_c, one_int, one_bool, one_str, one_sl, one_ptr, one_map, one_func, one_nilf, Bool.and_true, Bool.true_and, Bool.not_true, Bool.not_false, iadA_z, Int.reduceToNat, Int.toNat_zero, fl1_a, flN_a, extr_t, unot, not_d, Nat.add_eq, Nat.mul_eq, Nat.mul_one, Nat.one_mul, Nat.zero_mul, Nat.reduceMul, Nat.zero_add, Nat.add_zero, Nat.le_refl, decide_true, Nat.reduceAdd, Nat.reduceLeDiff, bsl_Sint, bsl_SReading, bsl_SLine, bld_Span, bld_spring_work, bld_spring_asked, enc_Line, enc_Reading, ocond_d, Int.toNat_natCast, Nat.succ_eq_add_one, Nat.add_assoc, *]); done)) : p := h
theorem fr_Ub {p : Prop} (h : p := by first | assumption | exact Fr.refl _ _ | (simp (disch := omega) only [Fr_set, Fr_refl, *])) : p := h
theorem fl_Ub {p : Prop} (h : p := by first | with_unfolding_all rfl | exact Sl.flat (by assumption) | assumption) : p := h
theorem fll_Ub {p : Prop} (h : p := by first | with_unfolding_all rfl | ((repeat (refine flatL_k fl_Ub ?_)); with_unfolding_all rfl)) : p := h
theorem en_Ub {p : Prop} (h : p := by first | ((simp only [enc_int, enc_str, enc_u8, enc_bool, tak_s, tak_0, tak_n, drp_0, drp_s, drp_n, nth_s, nth_0, bsl_Sint, bsl_SReading, bsl_SLine, bld_Span, bld_spring_work, bld_spring_asked, enc_Line, enc_Reading, ocond_d, Int.toNat_natCast]); rfl) | ((simp only [enc_int, enc_str, enc_u8, enc_bool, tak_s, tak_0, tak_n, drp_0, drp_s, drp_n, nth_s, nth_0, bsl_Sint, bsl_SReading, bsl_SLine, bld_Span, bld_spring_work, bld_spring_asked, enc_Line, enc_Reading, ocond_d, Int.toNat_natCast]); done) | with_unfolding_all rfl) : p := h
theorem sM_Ub {p : Prop} (h : p := by (first | assumption | (simp (disch := omega) only [Tr.get_same, Tr.get_other, *]; rfl) | (simp (disch := omega) only [Tr.get_same, Tr.get_other, *]; done))) : p := h
theorem sS_Ub {p : Prop} (h : p := by first | assumption | exact s1_Ub) : p := h
theorem op_Ub {p : Prop} (h : p := by first | with_reducible exact fad_p _ _ _ | with_reducible exact iop_lss _ _ | with_reducible exact iop_leq _ _ | with_reducible exact iop_gtr _ _ | with_reducible exact iop_geq _ _ | with_reducible exact iop_eql _ _ | with_reducible exact iop_neq _ _ | with_reducible exact Sl.len (by assumption) | with_reducible exact lenS_s _ _ _ | with_reducible exact Sl.iad (by assumption) (by with_unfolding_all rfl) (by first | assumption | omega) | with_reducible exact Sl.fad (by assumption) (by first | assumption | omega) | with_reducible exact Sl.ld1 (by assumption) fr_Ub (by with_unfolding_all rfl) (by assumption) en_Ub | with_reducible exact Sl.ldN (by assumption) fr_Ub (by with_unfolding_all rfl) (by assumption) (by with_unfolding_all rfl) en_Ub | with_reducible exact zadd1 (by omega) | with_reducible exact zsub1 (by omega) (by omega) | with_reducible exact zaddI (by omega) (by omega) | with_reducible exact zsubI (by omega) (by omega) | with_reducible exact min_z | with_reducible exact max_z | with_reducible exact zmulI (by assumption) | with_reducible exact zmulK (by omega) (by omega) | with_reducible exact quo_z (by omega) (by omega) (by omega) | with_reducible exact cv_u8 (by omega) | with_reducible exact rem_z (by omega) (by omega) (by omega) | with_reducible exact neq_bool (by kernel_rfl) | with_reducible exact eql_u8 | with_reducible exact wntT_t (by assumption) | with_reducible exact wntT_f (by assumption) | with_reducible exact wntF_t (by assumption) | with_reducible exact wntF_f (by assumption) | with_reducible exact wnt_tt | with_reducible exact wnt_tf | with_reducible exact wnt_ft | with_reducible exact wnt_ff | with_reducible exact wnt_u _ _ | with_reducible exact pck_t _ _ | with_reducible exact pck_f _ _ | with_reducible exact pckT (by assumption) | with_reducible exact pckF (by assumption) | with_reducible exact wntT_t (by decide) | with_reducible exact wntT_f (by decide) | with_reducible exact wntF_t (by decide) | with_reducible exact wntF_f (by decide) | with_reducible exact pckT (by decide) | with_reducible exact pckF (by decide) | with_reducible exact wntN_tt (by decide) | with_reducible exact wntN_tf (by decide) | with_reducible exact wntN_ft (by decide) | with_reducible exact wntN_ff (by decide) | with_reducible exact pckNT (by decide) | with_reducible exact pckNF (by decide) | with_reducible exact wntN_tt (by assumption) | with_reducible exact wntN_tf (by assumption) | with_reducible exact wntN_ft (by assumption) | with_reducible exact wntN_ff (by assumption) | with_reducible exact pckNT (by assumption) | with_reducible exact pckNF (by assumption) | with_reducible exact wntB_tt (by assumption) | with_reducible exact wntB_tf (by assumption) | with_reducible exact wntB_ft (by assumption) | with_reducible exact wntB_ff (by assumption) | with_reducible exact pckBT (by assumption) | with_reducible exact pckBF (by assumption) | exact s2_Ub | exact s1_Ub) : p := h
theorem co_Ub {p : Prop} (h : p := by first | (simp only [impB_1, impB_0, offB_1, offB_0]; done) | ((try simp only [impB_1, impB_0, offB_1, offB_0]); first | with_reducible exact Sl.ag1 (by assumption) fr_Ub (by with_unfolding_all rfl) (by assumption) en_Ub | with_reducible exact Sl.agN (by assumption) fr_Ub (by with_unfolding_all rfl) (by assumption) (by with_unfolding_all rfl) en_Ub | ((with_reducible refine agL1_e ?_ ?_); (· exact s1_Ub); (· exact fl_Ub)) | ((with_reducible refine agLN_e ?_ ?_); (· exact s1_Ub); (· exact fll_Ub)) | ((with_reducible apply ag_bs); (· exact sM_Ub); (· rfl); (· exact sb_Ub); (· exact fll_Ub)) | ((with_reducible apply ag_al); (· exact sM_Ub); (· rfl); (· exact fll_Ub)) | ((with_reducible apply ag_bx); (· exact sM_Ub); (· rfl); (· rfl); (· exact fll_Ub)) | ((with_reducible apply ag_bd); (· rfl); (· exact s1_Ub); (· exact fll_Ub)) | exact s1_Ub)) : p := h
theorem gs_Ub {r p : Prop} (k : r) (h : Go.Ev.Im r p := by (first | with_reducible apply Im.runS | ((with_reducible apply Im.num); · (simp only [Nat.succ_eq_add_one, Nat.add_assoc, Nat.reduceAdd]; rfl)) | (with_reducible apply Im.unm) | (with_reducible apply Im.selT) | (with_reducible apply Im.selF) | ((with_reducible apply Im.cndT); · assumption) | ((with_reducible apply Im.cndF); · assumption) | ((with_reducible apply Im.cndT); · decide) | ((with_reducible apply Im.cndF); · decide) | ((with_reducible apply Im.cndNT); · decide) | ((with_reducible apply Im.cndNF); · decide) | ((with_reducible apply Im.cndBT); · exact rfl) | ((with_reducible apply Im.cndBF); · exact rfl) | ((with_reducible apply Im.cndNT); · assumption) | ((with_reducible apply Im.cndNF); · assumption) | ((with_reducible apply Im.cndBT); · assumption) | ((with_reducible apply Im.cndBF); · assumption) | ((with_reducible apply Im.bind); · exact op_Ub) | ((with_reducible apply Im.cond); · exact co_Ub) | ((with_reducible apply Im.runB); · exact op_Ub) | ((with_reducible apply Im.runC); · exact co_Ub) | ((with_reducible apply Im.runN); · (simp only [Nat.succ_eq_add_one, Nat.add_assoc, Nat.reduceAdd]; rfl)) | with_reducible apply Im.runR | ((with_reducible apply Im.runE (x := evBuildSlice _ _ _ _ _ _)); · exact sb_Ub)); (repeat (first | with_reducible apply Im.runS | ((with_reducible apply Im.num); · (simp only [Nat.succ_eq_add_one, Nat.add_assoc, Nat.reduceAdd]; rfl)) | (with_reducible apply Im.unm) | (with_reducible apply Im.selT) | (with_reducible apply Im.selF) | ((with_reducible apply Im.cndT); · assumption) | ((with_reducible apply Im.cndF); · assumption) | ((with_reducible apply Im.cndT); · decide) | ((with_reducible apply Im.cndF); · decide) | ((with_reducible apply Im.cndNT); · decide) | ((with_reducible apply Im.cndNF); · decide) | ((with_reducible apply Im.cndBT); · exact rfl) | ((with_reducible apply Im.cndBF); · exact rfl) | ((with_reducible apply Im.cndNT); · assumption) | ((with_reducible apply Im.cndNF); · assumption) | ((with_reducible apply Im.cndBT); · assumption) | ((with_reducible apply Im.cndBF); · assumption) | ((with_reducible apply Im.bind); · exact op_Ub) | ((with_reducible apply Im.cond); · exact co_Ub) | ((with_reducible apply Im.runB); · exact op_Ub) | ((with_reducible apply Im.runC); · exact co_Ub) | ((with_reducible apply Im.runN); · (simp only [Nat.succ_eq_add_one, Nat.add_assoc, Nat.reduceAdd]; rfl)) | with_reducible apply Im.runR | ((with_reducible apply Im.runE (x := evBuildSlice _ _ _ _ _ _)); · exact sb_Ub))); exact Go.Ev.Im.id) : p := h k
abbrev snil : Value := .slice none 0 0
def zS : Sp := ⟨0, 0, 0, 0, 0, 0, 0, [], []⟩
theorem c_cloneL (call : CallF) {v : Value} {L : List Ln} {h N} (hl : L.length < 1000) (hs : Sl h N v L) : Rn (s102 call v h N) fun v' h' N' => OwR N N' h' 73 v' L ∧ Gw h N h' N' :=
  Rn.eq (y := cloneF Pr 24 3 call v h N) rfl (clone_ok call (by kernel_rfl) (fun a n c => by kernel_rfl) bs0_SLine ap_SLine (by omega) hs)
theorem c_cloneR (call : CallF) {v : Value} {L : List Rd} {h N} (hl : L.length < 1000) (hs : Sl h N v L) : Rn (s103 call v h N) fun v' h' N' => OwR N N' h' 71 v' L ∧ Gw h N h' N' :=
  Rn.eq (y := cloneF Pr 25 3 call v h N) rfl (clone_ok call (by kernel_rfl) (fun a n c => by kernel_rfl) bs0_SReading ap_SReading (by omega) hs)
theorem over_blk (u v : Value) (i j : Nat) (h : Tr Ob) (N d : Nat) (hu : blkOf u = some j) (hv : blkOf v = some i) (hij : j ≠ i) (h1 : ∃ xs, cellsOf h j = some xs) (h2 : ∃ ys, cellsOf h i = some ys ∧ 1 ≤ ys.length) :
    cN (d + 1) (.func (.func 104) ⟨[]⟩ ⟨[]⟩) [u, v] h N = some (.bool false, h, N) := by
  obtain ⟨xs, h1⟩ := h1
  obtain ⟨ys, h2, h3⟩ := h2
  have e : ∃ z, ovOf Pr 104 = some z := ⟨5, by kernel_rfl⟩
  obtain ⟨z, e⟩ := e
  show ocond (Nat.beq 2 2) (evOver Pr 104 [u, v] h N) = _
  show evOver Pr 104 [u, v] h N = _
  unfold evOver
  rw [e, obind_s]
  show obind (blkOf u) _ = _
  rw [hu, obind_s, hv, obind_s]
  have hb : notB (Nat.beq j i) = true := by
    cases hb : Nat.beq j i with
    | true => exact absurd (Nat.eq_of_beq_eq_true hb) hij
    | false => rfl
  rw [hb, ocond_t, h1, obind_s, h2, obind_s, len_eq, Nat.ble_eq_true_of_le h3]
  rfl
theorem zer_rd : zer Pr 71 = some (Rwc.enc (⟨0, 0, 0, 0, 0⟩ : Rd)) := by kernel_rfl
theorem c_insert (d : Nat) {lo N k j c : Nat} {h : Tr Ob} {v : Value} {L : List Rd} {x : Rd} (o : OwR lo j h 71 v L) (hlo : lo ≤ j) (hj : j < N) (hl : L.length < 1000) (hk : k ≤ L.length) (hx : h.get j = some (.c [iS x.Number, iS x.Week, iS x.Bucket, iS x.Songs_Lo, iS x.Songs_Hi] 71)) :
    Rn (X83 (cN (d + 1)) [v, nS k, .slice (some ⟨j, 0, none⟩) 1 c] h N) fun v' h' N' => OwR lo N' h' 71 v' (L.take k ++ x :: L.drop k) ∧ Gl' lo h N h' N' :=
  ins_ok (α := Rd) (T := 25) (TI := 3) (fo := 104) (rot := fun call a b h N => s105 call a b h N) (cN (d + 1)) ap_SReading ⟨0, 0, 0, 0, 0⟩ zer_rd (by kernel_rfl) (fun a b c h N => rfl)
    (fun u v i j h N h1 h2 h3 h4 h5 => over_blk u v i j h N d h1 h2 h3 h4 h5) plain_Reading o hlo hj (by omega) hk hx
/-- Where a reading is put. -/
def atL (z : Int) : List Rd → Nat
  | [] => 0
  | y :: l => if y.Number < z then atL z l + 1 else 0
theorem atL_le (z : Int) : ∀ L, atL z L ≤ L.length
  | [] => Nat.le_refl _
  | y :: l => by
    have := atL_le z l
    simp only [atL]
    split
    · simp; omega
    · simp
def insL (L : List Rd) (x : Rd) : List Rd := L.take (atL x.Number L) ++ x :: L.drop (atL x.Number L)
theorem insL_len (L : List Rd) (x : Rd) : (insL L x).length = L.length + 1 := by
  have := atL_le x.Number L
  simp only [insL, List.length_append, List.length_take, List.length_cons, List.length_drop]; omega
def adS (s : Sp) (x : Rd) : Sp := { s with reads := insL s.reads x }
def adE (s : Sp) (x : Rd) : Int := if validB s then (if s.reads.length = 12 then 9 else if validB (adS s x) then 0 else 12) else 10
def adR (s : Sp) (x : Rd) : Sp := if adE s x = 0 then adS s x else zS
def ckE (s : Sp) : Int := if validB s then 0 else 10
section
variable {s : Sp} {b r : Value}
theorem c_Check (d : Nat) {h N} (nb : s.book.length < 1000) (nr : s.reads.length < 1000) (hb : Sl h N b s.book) (hr : Sl h N r s.reads) : Rn (s81 (cN (d + 3)) (.agg ⟨[iS s.weeks, iS s.most, iS s.fall, iS s.slo, iS s.shi, iS s.wlo, iS s.whi, b, r]⟩) h N) fun v h' N' => v = iS (ckE s) ∧ Gw h N h' N' := by
  unfold s81
  have cb := hb.flat; have cr := hr.flat; have x1 := flatV_one cb; have y1 := cel_flat cb; have x2 := flatV_one cr; have y2 := cel_flat cr
  try refine gs_Ub ?_
  refine Rn.call (c_begin d (q := qw 0 0) (L := []) nb nr (Sl.up (by assumption) fr_Ub (by omega)) (Sl.up (by assumption) fr_Ub (by omega)) (by simp) (Sl.nil _ _) (by simp)) ?_
  rintro _ h1 N1 ⟨⟨e0, hv, rfl⟩ | ⟨e0, rfl⟩, f1, o1, l1⟩
  · try refine gs_Ub ?_
    exact Rn.ret ⟨by unfold ckE; rw [hv]; rfl, (Gw.of fr_Ub (by omega))⟩
  · have e1 : beginS s (qw 0 0) [] = ckE s := rfl
    rw [e1]
    try refine gs_Ub ?_
    exact Rn.ret ⟨rfl, (Gw.of fr_Ub (by omega))⟩
theorem c_copied (call : CallF) {h N} (nb : s.book.length < 1000) (nr : s.reads.length < 1000) (hb : Sl h N b s.book) (hr : Sl h N r s.reads) :
    Rn (s82 call (.agg ⟨[iS s.weeks, iS s.most, iS s.fall, iS s.slo, iS s.shi, iS s.wlo, iS s.whi, b, r]⟩) h N) fun v h' N' => (∃ b' r' K, v = .agg ⟨[iS s.weeks, iS s.most, iS s.fall, iS s.slo, iS s.shi, iS s.wlo, iS s.whi, b', r']⟩ ∧ N ≤ K ∧ K ≤ N' ∧ OwR N K h' 73 b' s.book ∧ OwR K N' h' 71 r' s.reads) ∧ Gw h N h' N' := by
  unfold s82
  have cb := hb.flat; have cr := hr.flat; have x1 := flatV_one cb; have y1 := cel_flat cb; have x2 := flatV_one cr; have y2 := cel_flat cr
  try refine gs_Ub ?_
  refine Rn.call (c_cloneL call nb (Sl.up (by assumption) fr_Ub (by omega))) ?_
  rintro b' h1 N1 ⟨w1, f1, o1, l1⟩
  have s1 := w1.sl (Nat.le_refl _)
  have a1 := flatV_one s1.flat
  have b1 := cel_flat s1.flat
  try refine gs_Ub ?_
  refine Rn.call (c_cloneR call nr (Sl.up (by assumption) fr_Ub (by omega))) ?_
  rintro r' h2 N2 ⟨w2, f2, o2, l2⟩
  have s2 := w2.sl (Nat.le_refl _)
  have a2 := flatV_one s2.flat
  have b2 := cel_flat s2.flat
  try refine gs_Ub ?_
  refine Rn.ret ⟨⟨b', r', N1, rfl, by omega, by omega, ?_, ?_⟩, (Gw.of fr_Ub (by omega))⟩
  · exact (w1.keep fun j g1 g2 => sS_Ub).wide (by omega) (Nat.le_refl _)
  · exact w2.keep fun j g1 g2 => sS_Ub
theorem c_Add (d : Nat) {x : Rd} {h N} (nb : s.book.length < 1000) (nr : s.reads.length < 1000) (hb : Sl h N b s.book) (hr : Sl h N r s.reads) :
    Rn (s43 (cN (d + 3)) (.agg ⟨[iS s.weeks, iS s.most, iS s.fall, iS s.slo, iS s.shi, iS s.wlo, iS s.whi, b, r]⟩) (.agg ⟨[iS x.Number, iS x.Week, iS x.Bucket, iS x.Songs_Lo, iS x.Songs_Hi]⟩) h N) fun v h' N' =>
      (∃ b' r', v = .tuple ⟨[.agg ⟨[iS (adR s x).weeks, iS (adR s x).most, iS (adR s x).fall, iS (adR s x).slo, iS (adR s x).shi, iS (adR s x).wlo, iS (adR s x).whi, b', r']⟩, iS (adE s x)]⟩ ∧ Sl h' N' b' (adR s x).book ∧ Sl h' N' r' (adR s x).reads) ∧ Gw h N h' N' := by
  unfold s43
  have cb := hb.flat; have cr := hr.flat; have x1 := flatV_one cb; have y1 := cel_flat cb; have x2 := flatV_one cr; have y2 := cel_flat cr
  try refine gs_Ub ?_
  refine Rn.call (c_Check d nb nr (Sl.up (by assumption) fr_Ub (by omega)) (Sl.up (by assumption) fr_Ub (by omega))) ?_
  rintro _ h1 N1 ⟨rfl, f1, o1, l1⟩
  have zr : ∀ e : Int, e ≠ 0 → adE s x = e → adR s x = zS := fun e h1 h2 => if_neg (by rw [h2]; exact h1)
  cases hv : validB s with
  | false =>
    have e1 : adE s x = 10 := by unfold adE; rw [hv]; rfl
    have e2 : ckE s = 10 := by unfold ckE; rw [hv]; rfl
    rw [zr 10 (by decide) e1, e1, e2]
    clear zr e1 e2
    try refine gs_Ub ?_
    exact Rn.ret ⟨⟨snil, snil, rfl, Sl.nil _ _, Sl.nil _ _⟩, (Gw.of fr_Ub (by omega))⟩
  | true =>
    have hs := ok_of_valid hv
    have hn := hs.nr
    have e2 : ckE s = 0 := by unfold ckE; rw [hv]; rfl
    rw [e2]
    clear e2
    try refine gs_Ub ?_
    (first | with_reducible refine Rn.cnd (fun _ => ?_) (fun _ => ?_) | with_reducible refine Rn.cndN (fun _ => ?_) (fun _ => ?_) | with_reducible refine Rn.cndB (fun _ => ?_) (fun _ => ?_))
    · have e1 : adE s x = 9 := by unfold adE; rw [hv, if_pos rfl, if_pos (by omega)]
      rw [zr 9 (by decide) e1, e1]
      clear zr e1
      try refine gs_Ub ?_
      exact Rn.ret ⟨⟨snil, snil, rfl, Sl.nil _ _, Sl.nil _ _⟩, (Gw.of fr_Ub (by omega))⟩
    have hl12 : s.reads.length ≠ 12 := by omega
    try refine gs_Ub ?_
    refine Rn.loop4 (fun n p q t k g M => ∃ i : Nat, p = .pointer (some ⟨N, 0, none⟩) ∧ q = .pointer (some ⟨N + 1, 0, none⟩) ∧ t = .pointer (some ⟨N + 2, 0, none⟩) ∧ k = nS i ∧ i + n = s.reads.length ∧ Fr h N g ∧ N + 3 ≤ M ∧
      g.get N = some (.c [iS s.weeks, iS s.most, iS s.fall, iS s.slo, iS s.shi, iS s.wlo, iS s.whi, b, r] 27) ∧ g.get (N + 1) = some (.c [iS x.Number, iS x.Week, iS x.Bucket, iS x.Songs_Lo, iS x.Songs_Hi] 71) ∧ g.get (N + 2) = some (.c [iS 0, iS 0, iS 0, iS 0, iS 0, iS 0, iS 0, .slice none 0 0, .slice none 0 0] 27) ∧ i + atL x.Number (s.reads.drop i) = atL x.Number s.reads) s.reads.length (by omega) ⟨0, rfl, rfl, rfl, rfl, by omega, fr_Ub, by omega, sS_Ub, sS_Ub, sS_Ub, by simp⟩ ?_
    rintro n g ih _ _ _ _ h2 N2 ⟨i, rfl, rfl, rfl, rfl, e2, f2, l2, g1, g2, g3, q2⟩
    try refine gs_Ub ?_
    (first | with_reducible refine Rn.part (fun _ => ?_) (fun _ => ?_) | with_reducible refine Rn.partN (fun _ => ?_) (fun _ => ?_) | with_reducible refine Rn.partB (fun _ => ?_) (fun _ => ?_))
    · obtain ⟨y, hy⟩ := at_of (L := s.reads) (k := i) (by omega)
      rw [drop_at hy] at q2
      simp only [atL] at q2
      try refine gs_Ub ?_
      (first | with_reducible refine Rn.cnd (fun _ => ?_) (fun _ => ?_) | with_reducible refine Rn.cndN (fun _ => ?_) (fun _ => ?_) | with_reducible refine Rn.cndB (fun _ => ?_) (fun _ => ?_))
      · rw [if_pos (by assumption)] at q2
        try refine gs_Ub ?_
        exact ih (n - 1) (by omega) _ _ _ _ _ _ ⟨i + 1, rfl, rfl, rfl, rfl, by omega, fr_Ub, by omega, sS_Ub, sS_Ub, sS_Ub, by omega⟩
      · rw [if_neg (by assumption)] at q2
        have e : atL x.Number s.reads = i := by omega
        clear ih q2
        try refine gs_Ub ?_
        refine Rn.call (c_copied _ nb nr (Sl.up (by assumption) fr_Ub (by omega)) (Sl.up (by assumption) fr_Ub (by omega))) ?_
        rintro _ h3 N3 ⟨⟨b', r', K, rfl, k1, k2, q3, q4⟩, f3, o3, l3⟩
        have s1 := q3.sl k2
        have s2 := q4.sl (Nat.le_refl _)
        have a1 := flatV_one s1.flat
        have a2 := flatV_one s2.flat
        have b1 := cel_flat s1.flat
        have b2 := cel_flat s2.flat
        try refine gs_Ub ?_
        refine Rn.call (c_insert (d + 2) (lo := K) (x := x) (q4.keep fun j g1 g2 => sS_Ub) (by omega) (by omega) (by omega) (by have := atL_le x.Number s.reads; omega) sM_Ub) ?_
        rintro r'' h4 N4 ⟨q5, f5, o5, l5⟩
        have s5 := q5.sl (Nat.le_refl _)
        have a5 := flatV_one s5.flat
        have b5 := cel_flat s5.flat
        have q6 : OwR N2 K h4 73 b' s.book := q3.keep fun j g1 g2 => sS_Ub
        have s6 := q6.sl (N := N4) (by omega)
        have el : (s.reads.take i ++ x :: s.reads.drop i) = (adS s x).reads := by rw [← e]; rfl
        have ln := insL_len s.reads x
        rw [el] at q5 s5
        try refine gs_Ub ?_
        refine Rn.call (c_Check d (s := adS s x) nb (by show (insL _ _).length < _; omega) ((q6.keep fun j g1 g2 => sS_Ub).sl (by omega)) ((q5.keep fun j g1 g2 => sS_Ub).sl (by omega))) ?_
        rintro _ h7 N7 ⟨rfl, f7, o7, l7⟩
        cases hv2 : validB (adS s x) with
        | true =>
          have e1 : adE s x = 0 := by unfold adE; rw [hv, if_pos rfl, if_neg (by omega), hv2]; rfl
          have e2 : ckE (adS s x) = 0 := by unfold ckE; rw [hv2]; rfl
          have e3 : adR s x = adS s x := if_pos e1
          rw [e1, e2, e3]
          clear zr e1 e2 e3
          try refine gs_Ub ?_
          refine Rn.ret ⟨⟨b', r'', rfl, ?_, ?_⟩, (Gw.of fr_Ub (by omega))⟩
          · exact (q6.keep fun j g1 g2 => sS_Ub).sl (by omega)
          · exact (q5.keep fun j g1 g2 => sS_Ub).sl (by omega)
        | false =>
          have e1 : adE s x = 12 := by unfold adE; rw [hv, if_pos rfl, if_neg (by omega), hv2]; rfl
          have e2 : ckE (adS s x) = 10 := by unfold ckE; rw [hv2]; rfl
          rw [zr 12 (by decide) e1, e1, e2]
          clear zr e1 e2
          try refine gs_Ub ?_
          exact Rn.ret ⟨⟨snil, snil, rfl, Sl.nil _ _, Sl.nil _ _⟩, (Gw.of fr_Ub (by omega))⟩
    · rw [List.drop_eq_nil_of_le (by omega)] at q2
      have e : atL x.Number s.reads = i := by simp only [atL] at q2; omega
      clear ih q2
      try refine gs_Ub ?_
      refine Rn.call (c_copied _ nb nr (Sl.up (by assumption) fr_Ub (by omega)) (Sl.up (by assumption) fr_Ub (by omega))) ?_
      rintro _ h3 N3 ⟨⟨b', r', K, rfl, k1, k2, q3, q4⟩, f3, o3, l3⟩
      have s1 := q3.sl k2
      have s2 := q4.sl (Nat.le_refl _)
      have a1 := flatV_one s1.flat
      have a2 := flatV_one s2.flat
      have b1 := cel_flat s1.flat
      have b2 := cel_flat s2.flat
      try refine gs_Ub ?_
      refine Rn.call (c_insert (d + 2) (lo := K) (x := x) (q4.keep fun j g1 g2 => sS_Ub) (by omega) (by omega) (by omega) (by have := atL_le x.Number s.reads; omega) sM_Ub) ?_
      rintro r'' h4 N4 ⟨q5, f5, o5, l5⟩
      have s5 := q5.sl (Nat.le_refl _)
      have a5 := flatV_one s5.flat
      have b5 := cel_flat s5.flat
      have q6 : OwR N2 K h4 73 b' s.book := q3.keep fun j g1 g2 => sS_Ub
      have s6 := q6.sl (N := N4) (by omega)
      have el : (s.reads.take i ++ x :: s.reads.drop i) = (adS s x).reads := by rw [← e]; rfl
      have ln := insL_len s.reads x
      rw [el] at q5 s5
      try refine gs_Ub ?_
      refine Rn.call (c_Check d (s := adS s x) nb (by show (insL _ _).length < _; omega) ((q6.keep fun j g1 g2 => sS_Ub).sl (by omega)) ((q5.keep fun j g1 g2 => sS_Ub).sl (by omega))) ?_
      rintro _ h7 N7 ⟨rfl, f7, o7, l7⟩
      cases hv2 : validB (adS s x) with
      | true =>
        have e1 : adE s x = 0 := by unfold adE; rw [hv, if_pos rfl, if_neg (by omega), hv2]; rfl
        have e2 : ckE (adS s x) = 0 := by unfold ckE; rw [hv2]; rfl
        have e3 : adR s x = adS s x := if_pos e1
        rw [e1, e2, e3]
        clear zr e1 e2 e3
        try refine gs_Ub ?_
        refine Rn.ret ⟨⟨b', r'', rfl, ?_, ?_⟩, (Gw.of fr_Ub (by omega))⟩
        · exact (q6.keep fun j g1 g2 => sS_Ub).sl (by omega)
        · exact (q5.keep fun j g1 g2 => sS_Ub).sl (by omega)
      | false =>
        have e1 : adE s x = 12 := by unfold adE; rw [hv, if_pos rfl, if_neg (by omega), hv2]; rfl
        have e2 : ckE (adS s x) = 10 := by unfold ckE; rw [hv2]; rfl
        rw [zr 12 (by decide) e1, e1, e2]
        clear zr e1 e2
        try refine gs_Ub ?_
        exact Rn.ret ⟨⟨snil, snil, rfl, Sl.nil _ _, Sl.nil _ _⟩, (Gw.of fr_Ub (by omega))⟩
end
end Go.Proofs.Ytpilgokdbliklaa
end

section
namespace Go.Proofs.Ytpilgokdbliklaa
open Go.Ev Go.RowKit
set_option linter.unusedVariables false
set_option linter.unusedSimpArgs false
set_option linter.unusedSectionVars false
set_option maxRecDepth 100000
set_option maxHeartbeats 4000000
/-- One spring tells what another tells, and may be more. -/
structure Nar (s t : Sp) : Prop where
  w : t.weeks = s.weeks
  m : t.most = s.most
  f : t.fall = s.fall
  a : t.slo = s.slo
  b : t.shi = s.shi
  c : t.wlo = s.wlo
  d : t.whi = s.whi
  bk : ∀ x ∈ s.book, x ∈ t.book
  rd : ∀ x ∈ s.reads, x ∈ t.reads
def Les (f g : Bd) : Prop := ∀ j, (f j).1 ≤ (g j).1 ∧ (g j).2 ≤ (f j).2
theorem up_les {f g : Bd} (h : Les f g) (k : Nat) {u v : Int × Int} (h1 : u.1 ≤ v.1) (h2 : v.2 ≤ u.2) : Les (up f k u) (up g k v) := by
  intro j
  simp only [up]
  split
  · exact ⟨h1, h2⟩
  · exact h j
theorem fwd_les {fall : Int} {f g : Bd} (h : Les f g) : ∀ k, Les (fwdN fall k f) (fwdN fall k g)
  | 0 => h
  | k + 1 => by
    have i := fwd_les (fall := fall) h k
    have a := i k
    have c := i (k + 1)
    refine up_les i _ ?_ ?_
    · show max _ _ ≤ max _ _; omega
    · show min _ _ ≤ min _ _; omega
theorem bwd_les {fall : Int} {n : Nat} {f g : Bd} (h : Les f g) : ∀ k, Les (bwdN fall n k f) (bwdN fall n k g)
  | 0 => h
  | k + 1 => by
    have i := bwd_les (fall := fall) (n := n) h k
    have a := i (n - 2 - k)
    have c := i (n - 2 - k + 1)
    refine up_les i _ ?_ ?_
    · show max _ _ ≤ max _ _; omega
    · show min _ _ ≤ min _ _; omega
section
variable {s t : Sp}
theorem told_nar (h : Nar s t) (x : Rd) : toldB t x = toldB s x := by unfold toldB; rw [h.a, h.b, h.m]
theorem pre_les (h : Nar s t) (r : Int) : Les (preS s r) (preS t r) := by
  intro j
  have ei : iniN t.most t.weeks.toNat = iniN s.most s.weeks.toNat := by rw [h.m, h.w]
  constructor
  · obtain ⟨h1, h2⟩ := (pre_lo (s := t) r j _).1 (Int.le_refl _)
    unfold redS at h1
    rw [addR_lo] at h1
    refine (pre_lo r j _).2 ⟨?_, fun x hx => h2 x (h.bk x hx)⟩
    unfold redS
    rw [addR_lo, ← ei]
    exact ⟨h1.1, fun x hx hw => by rw [← told_nar h]; exact h1.2 x (h.rd x hx) hw⟩
  · obtain ⟨h1, h2⟩ := (pre_hi (s := t) r j _).1 (Int.le_refl _)
    unfold redS at h1
    rw [addR_hi] at h1
    refine (pre_hi r j _).2 ⟨?_, fun x hx => h2 x (h.bk x hx)⟩
    unfold redS
    rw [addR_hi, ← ei]
    exact ⟨h1.1, fun x hx hw => by rw [← told_nar h]; exact h1.2 x (h.rd x hx) hw⟩
theorem leaves_les (h : Nar s t) (r : Int) : Les (leavesS s r) (leavesS t r) := by
  unfold leavesS narS
  rw [h.f, h.w]
  exact bwd_les (fwd_les (pre_les h r) _) _
theorem rains_nar (h : Nar s t) {r : Int} (hr : r ∈ rainsS t) : r ∈ rainsS s := by
  unfold rainsS rainsN rainN at hr ⊢
  rw [h.c, h.d] at hr
  obtain ⟨h1, h2⟩ := List.mem_filter.1 hr
  refine List.mem_filter.2 ⟨h1, ?_⟩
  unfold okN at h2 ⊢
  rw [h.w] at h2
  simp only [List.all_eq_true, decide_eq_true_eq] at h2 ⊢
  intro k hk
  have := h2 k hk
  have := leaves_les h r k
  omega
theorem can_nar (h : Nar s t) (hc : canS t = true) : canS s = true := by
  unfold canS at hc ⊢
  cases hr : rainsS t with
  | nil => rw [hr] at hc; cases hc
  | cons x l =>
    have := rains_nar h (r := x) (by rw [hr]; simp)
    cases hs : rainsS s with
    | nil => rw [hs] at this; cases this
    | cons => rfl
theorem gvL_lo {w : Nat} {n : Int} : ∀ (L : List Int) (v : Int × Int), (gvL s w L v).1 ≤ n ↔ v.1 ≤ n ∨ ∃ r ∈ L, (leavesS s r w).1 ≤ n
  | [], v => by simp [gvL]
  | x :: L, v => by
    have := gvL_lo (w := w) (n := n) L (arS v (leavesS s x w))
    show (gvL s w L (arS v (leavesS s x w))).1 ≤ n ↔ _
    rw [this]
    have e : (arS v (leavesS s x w)).1 ≤ n ↔ v.1 ≤ n ∨ (leavesS s x w).1 ≤ n := by
      show min _ _ ≤ n ↔ _; omega
    rw [e]
    simp [or_assoc]
theorem gvL_hi {w : Nat} {n : Int} : ∀ (L : List Int) (v : Int × Int), n ≤ (gvL s w L v).2 ↔ n ≤ v.2 ∨ ∃ r ∈ L, n ≤ (leavesS s r w).2
  | [], v => by simp [gvL]
  | x :: L, v => by
    have := gvL_hi (w := w) (n := n) L (arS v (leavesS s x w))
    show n ≤ (gvL s w L (arS v (leavesS s x w))).2 ↔ _
    rw [this]
    have e : n ≤ (arS v (leavesS s x w)).2 ↔ n ≤ v.2 ∨ n ≤ (leavesS s x w).2 := by
      show n ≤ max _ _ ↔ _; omega
    rw [e]
    simp [or_assoc]
/-- What a spring that tells more gives is within. -/
theorem gv_nar (h : Nar s t) (hs : OkS s) (hc : canS t = true) {w : Nat} (hw : w < s.weeks.toNat) : (gvS s w).1 ≤ (gvS t w).1 ∧ (gvS t w).2 ≤ (gvS s w).2 := by
  have hb := gv_bd hs hw (can_nar h hc)
  constructor
  · rcases (gvL_lo (s := t) (w := w) (rainsS t) (t.most, 0)).1 (Int.le_refl (gvS t w).1) with h1 | ⟨r, hr, h1⟩
    · have : t.most = s.most := h.m
      have h1' : t.most ≤ (gvS t w).1 := h1
      omega
    · exact (gvL_lo _ _).2 (.inr ⟨r, rains_nar h hr, by have := leaves_les h r w; omega⟩)
  · rcases (gvL_hi (s := t) (w := w) (rainsS t) (t.most, 0)).1 (Int.le_refl (gvS t w).2) with h1 | ⟨r, hr, h1⟩
    · have h1' : (gvS t w).2 ≤ 0 := h1
      omega
    · exact (gvL_hi _ _).2 (.inr ⟨r, rains_nar h hr, by have := leaves_les h r w; omega⟩)
theorem sh_two {p : Int × Int → Bool} (hv : validB s = true) (hc : canS s = true) : shE s p = 6 ∨ shE s p = 0 := by
  have e0 : beginS s (qw 0 0) [4] = 0 := by rw [beg_c, hv, hc]; rfl
  unfold shE
  rw [if_pos e0]
  split
  · exact .inr rfl
  · exact .inl rfl
/-- A spring that tells more is short no earlier. -/
theorem sh_nar (h : Nar s t) (hv : validB s = true) (hvt : validB t = true) (hc : canS t = true) (need : Int) (he : shE t (loP need) = 0) : shE s (loP need) = 0 ∧ shW s (loP need) ≤ shW t (loP need) := by
  have hs := ok_of_valid hv
  have es : beginS s (qw 0 0) [4] = 0 := by rw [beg_c, hv, can_nar h hc]; rfl
  have et : beginS t (qw 0 0) [4] = 0 := by rw [beg_c, hvt, hc]; rfl
  unfold shE at he
  rw [if_pos et] at he
  unfold shE shW
  rw [if_pos es, if_pos es, if_pos et]
  cases ht : shS t (loP need) with
  | none => rw [ht] at he; cases he
  | some k =>
    obtain ⟨g1, g2, _⟩ := List.find?_range_eq_some.1 ht
    have g2' : k < s.weeks.toNat := by rw [← h.w]; simpa using g2
    have g3 : loP need (gvS s k) = true := by
      have := gv_nar h hs hc g2'
      simp only [loP, decide_eq_true_eq] at g1 ⊢; omega
    cases hq : shS s (loP need) with
    | none =>
      have := List.find?_range_eq_none.1 hq k g2'
      rw [g3] at this
      cases this
    | some k' =>
      obtain ⟨f1, f2, f3⟩ := List.find?_range_eq_some.1 hq
      refine ⟨rfl, ?_⟩
      show (k' : Int) ≤ (k : Int)
      rcases Nat.lt_or_ge k k' with h2 | h2
      · have := f3 k h2
        rw [Bool.not_eq_true', g3] at this
        cases this
      · omega
end
/-- The least number that no reading has. -/
def nxL : Int → List Rd → Int
  | n, [] => n
  | n, x :: l => nxL (if x.Number = n then n + 1 else n) l
theorem rds_gt {w : Int} : ∀ (L : List Rd) (b : Int), rdsB w b L = true → ∀ x ∈ L, b < x.Number
  | [], _, _, x, hx => by cases hx
  | y :: l, b, h, x, hx => by
    simp only [rdsB, Bool.and_eq_true, decide_eq_true_eq] at h
    rcases List.mem_cons.1 hx with rfl | hx
    · exact h.1.1
    · have := rds_gt l _ h.2 x hx
      omega
theorem nx_far : ∀ (L : List Rd) (n : Int), (∀ x ∈ L, n < x.Number) → nxL n L = n
  | [], _, _ => rfl
  | y :: l, n, h => by
    have := h y (by simp)
    simp only [nxL]
    rw [if_neg (by omega)]
    exact nx_far l n fun x hx => h x (List.mem_cons_of_mem _ hx)
theorem nx_out {w : Int} : ∀ (L : List Rd) (n b : Int), b = n - 1 → rdsB w b L = true → n ≤ nxL n L ∧ nxL n L ≤ n + L.length ∧ ∀ x ∈ L, x.Number ≠ nxL n L
  | [], n, _, _, _ => ⟨Int.le_refl _, by simp [nxL], fun x hx => by cases hx⟩
  | y :: l, n, b, hb, h => by
    have h0 := rds_gt _ _ h
    simp only [rdsB, Bool.and_eq_true, decide_eq_true_eq] at h
    obtain ⟨⟨h1, h2⟩, h3⟩ := h
    simp only [nxL]
    by_cases e : y.Number = n
    · rw [if_pos e]
      obtain ⟨i1, i2, i3⟩ := nx_out l (n + 1) y.Number (by omega) h3
      refine ⟨by omega, by simp only [List.length_cons]; omega, fun x hx => ?_⟩
      rcases List.mem_cons.1 hx with rfl | hx
      · omega
      · exact i3 x hx
    · rw [if_neg e]
      have hf := rds_gt l _ h3
      have e2 : nxL n l = n := nx_far l n fun x hx => by have := hf x hx; omega
      rw [e2]
      refine ⟨Int.le_refl _, by simp only [List.length_cons]; omega, fun x hx => ?_⟩
      rcases List.mem_cons.1 hx with rfl | hx
      · exact e
      · have := hf x hx; omega
theorem insL_cons (y : Rd) (l : List Rd) (x : Rd) : insL (y :: l) x = if y.Number < x.Number then y :: insL l x else x :: y :: l := by
  unfold insL
  simp only [atL]
  split
  · simp
  · simp
theorem ins_valid {w : Int} {x : Rd} (hx : readB w x = true) : ∀ (L : List Rd) (b : Int), rdsB w b L = true → b < x.Number → (∀ y ∈ L, y.Number ≠ x.Number) → rdsB w b (insL L x) = true
  | [], b, _, hb, _ => by simp [insL, atL, rdsB, hx, hb]
  | y :: l, b, h, hb, hn => by
    simp only [rdsB, Bool.and_eq_true, decide_eq_true_eq] at h
    obtain ⟨⟨h1, h2⟩, h3⟩ := h
    have hy := hn y (by simp)
    rw [insL_cons]
    split
    · simp only [rdsB, Bool.and_eq_true, decide_eq_true_eq]
      exact ⟨⟨h1, h2⟩, ins_valid hx l _ h3 (by assumption) fun z hz => hn z (List.mem_cons_of_mem _ hz)⟩
    · simp only [rdsB, Bool.and_eq_true, decide_eq_true_eq]
      exact ⟨⟨hb, hx⟩, ⟨by omega, h2⟩, h3⟩
theorem ins_mem {L : List Rd} {x y : Rd} : y ∈ insL L x ↔ y = x ∨ y ∈ L := by
  unfold insL
  constructor
  · intro h
    rcases List.mem_append.1 h with h | h
    · exact .inr (List.mem_of_mem_take h)
    · rcases List.mem_cons.1 h with h | h
      · exact .inl h
      · exact .inr (List.mem_of_mem_drop h)
  · rintro (rfl | h)
    · simp
    · rw [← List.take_append_drop (atL x.Number L) L] at h
      rcases List.mem_append.1 h with h | h
      · exact List.mem_append.2 (.inl h)
      · exact List.mem_append.2 (.inr (List.mem_cons_of_mem _ h))
section
variable {s : Sp}
theorem add_nar (s : Sp) (x : Rd) : Nar s (adS s x) := ⟨rfl, rfl, rfl, rfl, rfl, rfl, rfl, fun _ h => h, fun _ h => ins_mem.2 (.inr h)⟩
theorem ad_three {x : Rd} (hv : validB s = true) : (adE s x = 0 ∧ validB (adS s x) = true) ∨ (adE s x = 9 ∧ s.reads.length = 12) ∨ (adE s x = 12 ∧ s.reads.length ≠ 12 ∧ validB (adS s x) = false) := by
  unfold adE
  rw [hv, if_pos rfl]
  by_cases h : s.reads.length = 12
  · rw [if_pos h]; exact .inr (.inl ⟨rfl, h⟩)
  · rw [if_neg h]
    cases hq : validB (adS s x) with
    | true => exact .inl ⟨rfl, rfl⟩
    | false => exact .inr (.inr ⟨rfl, h, rfl⟩)
/-- A reading with a new number can be added, if it is a reading. -/
theorem ad_right {x : Rd} (hv : validB s = true) (hx : readB s.weeks x = true) (hn : x.Number = nxL 1 s.reads) (hl : s.reads.length ≠ 12) : validB (adS s x) = true := by
  simp only [validB, readsB, Bool.and_eq_true, decide_eq_true_eq] at hv ⊢
  obtain ⟨⟨h1, h2⟩, h3, h4⟩ := hv
  obtain ⟨i1, i2, i3⟩ := nx_out s.reads 1 0 rfl h4
  refine ⟨⟨h1, h2⟩, ?_, ?_⟩
  · show (insL _ _).length ≤ 12
    rw [insL_len]; omega
  · exact ins_valid hx s.reads 0 h4 (by omega) fun y hy => by rw [hn]; exact i3 y hy
theorem read_of_ad {x : Rd} (hv : validB (adS s x) = true) : readB s.weeks x = true := by
  simp only [validB, readsB, Bool.and_eq_true, decide_eq_true_eq] at hv
  obtain ⟨_, _, h⟩ := hv
  have key : ∀ (L : List Rd) (b : Int), rdsB s.weeks b L = true → ∀ y ∈ L, readB s.weeks y = true := by
    intro L
    induction L with
    | nil => intro b _ y hy; cases hy
    | cons z l ih =>
      intro b h y hy
      simp only [rdsB, Bool.and_eq_true, decide_eq_true_eq] at h
      rcases List.mem_cons.1 hy with rfl | hy
      · exact h.1.2
      · exact ih _ h.2 y hy
  exact key _ 0 h x (ins_mem.2 (.inl rfl))
def wrS (s : Sp) (x : Ln) : Sp := { s with book := s.book ++ [x] }
def wrE (s : Sp) (x : Ln) : Int := if validB s then (if s.book.length = 8 then 9 else if validB (wrS s x) then 0 else 13) else 10
def wrR (s : Sp) (x : Ln) : Sp := if wrE s x = 0 then wrS s x else zS
theorem wr_nar (s : Sp) (x : Ln) : Nar s (wrS s x) := ⟨rfl, rfl, rfl, rfl, rfl, rfl, rfl, fun _ h => List.mem_append.2 (.inl h), fun _ h => h⟩
theorem wr_three {x : Ln} (hv : validB s = true) : (wrE s x = 0 ∧ validB (wrS s x) = true) ∨ (wrE s x = 9 ∧ s.book.length = 8) ∨ (wrE s x = 13 ∧ s.book.length ≠ 8 ∧ validB (wrS s x) = false) := by
  unfold wrE
  rw [hv, if_pos rfl]
  by_cases h : s.book.length = 8
  · rw [if_pos h]; exact .inr (.inl ⟨rfl, h⟩)
  · rw [if_neg h]
    cases hq : validB (wrS s x) with
    | true => exact .inl ⟨rfl, rfl⟩
    | false => exact .inr (.inr ⟨rfl, h, rfl⟩)
/-- What a reading tells alone holds what is given with it. -/
theorem told_gv {x : Rd} (hv : validB s = true) (hx : x ∈ s.reads) (hc : canS s = true) (hw : 0 ≤ x.Week ∧ x.Week ≤ s.weeks - 1) : (toldB s x).1 ≤ (gvS s x.Week.toNat).1 ∧ (gvS s x.Week.toNat).2 ≤ (toldB s x).2 := by
  have hs := ok_of_valid hv
  have w1 := hs.ok.w1
  have hwn : x.Week.toNat < s.weeks.toNat := by omega
  have key : ∀ r, (toldB s x).1 ≤ (leavesS s r x.Week.toNat).1 ∧ (leavesS s r x.Week.toNat).2 ≤ (toldB s x).2 := by
    intro r
    have h1 := nar_in s (preS s r) x.Week.toNat
    have h2 := ((pre_lo (s := s) r x.Week.toNat _).1 (Int.le_refl _)).1
    have h3 := ((pre_hi (s := s) r x.Week.toNat _).1 (Int.le_refl _)).1
    unfold redS at h2 h3
    have h4 := ((addR_lo _ _ _ _).1 h2).2 x hx rfl
    have h5 := ((addR_hi _ _ _ _).1 h3).2 x hx rfl
    unfold leavesS
    omega
  have ne : ∃ r, r ∈ rainsS s := by
    unfold canS at hc
    cases h : rainsS s with
    | nil => rw [h] at hc; cases hc
    | cons y l => exact ⟨y, by simp⟩
  obtain ⟨r0, hr0⟩ := ne
  have hb := leaves_bd (s := s) (rains_mem hr0).1 hwn
  have hk0 := key r0
  constructor
  · rcases (gvL_lo (s := s) (w := x.Week.toNat) (rainsS s) (s.most, 0)).1 (Int.le_refl (gvS s x.Week.toNat).1) with h1 | ⟨r, hr, h1⟩
    · have h1' : s.most ≤ (gvS s x.Week.toNat).1 := h1
      omega
    · have := key r; omega
  · rcases (gvL_hi (s := s) (w := x.Week.toNat) (rainsS s) (s.most, 0)).1 (Int.le_refl (gvS s x.Week.toNat).2) with h1 | ⟨r, hr, h1⟩
    · have h1' : (gvS s x.Week.toNat).2 ≤ 0 := h1
      omega
    · have := key r; omega
end
end Go.Proofs.Ytpilgokdbliklaa
end

section
namespace Go.Proofs.Ytpilgokdbliklaa
open Go.Ev Go.RowKit
set_option linter.unusedVariables false
set_option linter.unusedSimpArgs false
set_option linter.unusedSectionVars false
set_option maxRecDepth 100000
set_option maxHeartbeats 4000000
theorem s1_Vb {p : Prop} (h : p := by (simp (disch := omega) only [obind_s, orun_s, ocond_t, fad_p, ld1_e, ldN_e, sto_e, cellO_c, wrO_c, Tr.get_same, Tr.get_other, nth_0, nth_s, drp_0, drp_s, drp_n, tak_0, tak_s, tak_n, over_n, over_c, lay_0, lay_s, lay_n, len_n, len_c, app_n, app_c, reps_0, reps_s, cel_agg, cel_int, cel_bool, cel_str, cel_sl, cel_ptr, cel_map, cel_func, cel_nilf, fil_n, fil_c, beq_r, ble_d, allF_n, allF_c, one_int, one_bool, one_str, one_sl, one_ptr, one_map, one_func, one_nilf, Bool.and_true, Bool.true_and, Bool.not_true, Bool.not_false, iadA_z, Int.reduceToNat, Int.toNat_zero, fl1_a, flN_a, extr_t, unot, not_d, Nat.add_eq, Nat.mul_eq, Nat.mul_one, Nat.one_mul, Nat.zero_mul, Nat.reduceMul, Nat.zero_add, Nat.add_zero, Nat.le_refl, decide_true, Nat.reduceAdd, Nat.reduceLeDiff, bsl_Sint, bsl_SReading, bsl_SLine, bld_Span, bld_spring_work, bld_spring_asked, enc_Line, enc_Reading, ocond_d, Int.toNat_natCast, *]); first | done | fail) : p := h
theorem s2_Vb {p : Prop} (h : p := by (simp (disch := omega) only [obind_s, orun_s, ocond_t, fad_p, ld1_e, ldN_e, sto_e, cellO_c, wrO_c, Tr.get_same, Tr.get_other, nth_0, nth_s, drp_0, drp_s, drp_n, tak_0, tak_s, tak_n, over_n, over_c, lay_0, lay_s, lay_n, len_n, len_c, app_n, app_c, reps_0, reps_s, cel_agg, cel_int, cel_bool, cel_str, cel_sl, cel_ptr, cel_map, cel_func, cel_nilf, fil_n, fil_c, beq_r, ble_d, allF_n, allF_c, one_int, one_bool, one_str, one_sl, one_ptr, one_map, one_func, one_nilf, Bool.and_true, Bool.true_and, Bool.not_true, Bool.not_false, iadA_z, Int.reduceToNat, Int.toNat_zero, fl1_a, flN_a, extr_t, unot, not_d, Nat.add_eq, Nat.mul_eq, Nat.mul_one, Nat.one_mul, Nat.zero_mul, Nat.reduceMul, Nat.zero_add, Nat.add_zero, Nat.le_refl, decide_true, Nat.reduceAdd, Nat.reduceLeDiff, bsl_Sint, bsl_SReading, bsl_SLine, bld_Span, bld_spring_work, bld_spring_asked, enc_Line, enc_Reading, ocond_d, Int.toNat_natCast, *]); rfl) : p := h
theorem sb_Vb {p : Prop} (h : p := by first | ((simp (disch := omega) only [obind_s, orun_s, ocond_t, fad_p, ld1_e, ldN_e, sto_e, cellO_c, wrO_c, Tr.get_same, Tr.get_other, nth_0, nth_s, drp_0, drp_s, drp_n, tak_0, tak_s, tak_n, over_n, over_c, lay_0, lay_s, lay_n, len_n, len_c, app_n, app_c, reps_0, reps_s, cel_agg, cel_int, cel_bool, cel_str, cel_sl, cel_ptr, cel_map, cel_func, cel_nilf, fil_n, fil_c, beq_r, ble_d, allF_n, allF_c, one_int, one_bool, one_str, one_sl, one_ptr, one_map, one_func, one_nilf, Bool.and_true, Bool.true_and, Bool.not_true, Bool.not_false, iadA_z, Int.reduceToNat, Int.toNat_zero, fl1_a, flN_a, extr_t, unot, not_d, Nat.add_eq, Nat.mul_eq, Nat.mul_one, Nat.one_mul, Nat.zero_mul, Nat.reduceMul, Nat.zero_add, Nat.add_zero, Nat.le_refl, decide_true, Nat.reduceAdd, Nat.reduceLeDiff, bsl_Sint, bsl_SReading, bsl_SLine, bld_Span, bld_spring_work, bld_spring_asked, enc_Line, enc_Reading, ocond_d, Int.toNat_natCast, Nat.succ_eq_add_one, Nat.add_assoc, *]); rfl) | ((simp (disch := omega) only [obind_s, orun_s, ocond_t, fad_p, ld1_e, ldN_e, sto_e, cellO_c, wrO_c, Tr.get_same, Tr.get_other, nth_0, nth_s, drp_0, drp_s, drp_n, tak_0, tak_s, tak_n, over_n, over_c, lay_0, lay_s, lay_n, len_n, len_c, app_n, app_c, reps_0, reps_s, cel_agg, cel_int, cel_bool, cel_str, cel_sl, cel_ptr, cel_map, cel_func, cel_nilf, fil_n, fil_c, beq_r, ble_d, allF_n, allF_c, one_int, one_bool, one_str, one_sl, one_ptr, one_map, one_func, one_nilf, Bool.and_true, Bool.true_and, Bool.not_true, Bool.not_false, iadA_z, Int.reduceToNat, Int.toNat_zero, fl1_a, flN_a, extr_t, unot, not_d, Nat.add_eq, Nat.mul_eq, Nat.mul_one, Nat.one_mul, Nat.zero_mul, Nat.reduceMul, Nat.zero_add, Nat.add_zero, Nat.le_refl, decide_true, Nat.reduceAdd, Nat.reduceLeDiff, bsl_Sint, bsl_SReading, bsl_SLine, bld_Span, bld_spring_work, bld_spring_asked, enc_Line, enc_Reading, ocond_d, Int.toNat_natCast, Nat.succ_eq_add_one, Nat.add_assoc, *]); done)) : p := h
theorem fr_Vb {p : Prop} (h : p := by first | assumption | exact Fr.refl _ _ | (simp (disch := omega) only [Fr_set, Fr_refl, *])) : p := h
theorem fl_Vb {p : Prop} (h : p := by first | with_unfolding_all rfl | exact Sl.flat (by assumption) | assumption) : p := h
theorem fll_Vb {p : Prop} (h : p := by first | with_unfolding_all rfl | ((repeat (refine flatL_k fl_Vb ?_)); with_unfolding_all rfl)) : p := h
theorem en_Vb {p : Prop} (h : p := by first | ((simp only [enc_int, enc_str, enc_u8, enc_bool, tak_s, tak_0, tak_n, drp_0, drp_s, drp_n, nth_s, nth_0, bsl_Sint, bsl_SReading, bsl_SLine, bld_Span, bld_spring_work, bld_spring_asked, enc_Line, enc_Reading, ocond_d, Int.toNat_natCast]); rfl) | ((simp only [enc_int, enc_str, enc_u8, enc_bool, tak_s, tak_0, tak_n, drp_0, drp_s, drp_n, nth_s, nth_0, bsl_Sint, bsl_SReading, bsl_SLine, bld_Span, bld_spring_work, bld_spring_asked, enc_Line, enc_Reading, ocond_d, Int.toNat_natCast]); done) | with_unfolding_all rfl) : p := h
theorem sM_Vb {p : Prop} (h : p := by (first | assumption | (simp (disch := omega) only [Tr.get_same, Tr.get_other, *]; rfl) | (simp (disch := omega) only [Tr.get_same, Tr.get_other, *]; done))) : p := h
theorem sS_Vb {p : Prop} (h : p := by first | assumption | exact s1_Vb) : p := h
theorem op_Vb {p : Prop} (h : p := by first | with_reducible exact fad_p _ _ _ | with_reducible exact iop_lss _ _ | with_reducible exact iop_leq _ _ | with_reducible exact iop_gtr _ _ | with_reducible exact iop_geq _ _ | with_reducible exact iop_eql _ _ | with_reducible exact iop_neq _ _ | with_reducible exact Sl.len (by assumption) | with_reducible exact lenS_s _ _ _ | with_reducible exact Sl.iad (by assumption) (by with_unfolding_all rfl) (by first | assumption | omega) | with_reducible exact Sl.fad (by assumption) (by first | assumption | omega) | with_reducible exact Sl.ld1 (by assumption) fr_Vb (by with_unfolding_all rfl) (by assumption) en_Vb | with_reducible exact Sl.ldN (by assumption) fr_Vb (by with_unfolding_all rfl) (by assumption) (by with_unfolding_all rfl) en_Vb | with_reducible exact zadd1 (by omega) | with_reducible exact zsub1 (by omega) (by omega) | with_reducible exact zaddI (by omega) (by omega) | with_reducible exact zsubI (by omega) (by omega) | with_reducible exact min_z | with_reducible exact max_z | with_reducible exact zmulI (by assumption) | with_reducible exact zmulK (by omega) (by omega) | with_reducible exact quo_z (by omega) (by omega) (by omega) | with_reducible exact cv_u8 (by omega) | with_reducible exact rem_z (by omega) (by omega) (by omega) | with_reducible exact neq_bool (by kernel_rfl) | with_reducible exact eql_u8 | with_reducible exact wntT_t (by assumption) | with_reducible exact wntT_f (by assumption) | with_reducible exact wntF_t (by assumption) | with_reducible exact wntF_f (by assumption) | with_reducible exact wnt_tt | with_reducible exact wnt_tf | with_reducible exact wnt_ft | with_reducible exact wnt_ff | with_reducible exact wnt_u _ _ | with_reducible exact pck_t _ _ | with_reducible exact pck_f _ _ | with_reducible exact pckT (by assumption) | with_reducible exact pckF (by assumption) | with_reducible exact wntT_t (by decide) | with_reducible exact wntT_f (by decide) | with_reducible exact wntF_t (by decide) | with_reducible exact wntF_f (by decide) | with_reducible exact pckT (by decide) | with_reducible exact pckF (by decide) | with_reducible exact wntN_tt (by decide) | with_reducible exact wntN_tf (by decide) | with_reducible exact wntN_ft (by decide) | with_reducible exact wntN_ff (by decide) | with_reducible exact pckNT (by decide) | with_reducible exact pckNF (by decide) | with_reducible exact wntN_tt (by assumption) | with_reducible exact wntN_tf (by assumption) | with_reducible exact wntN_ft (by assumption) | with_reducible exact wntN_ff (by assumption) | with_reducible exact pckNT (by assumption) | with_reducible exact pckNF (by assumption) | with_reducible exact wntB_tt (by assumption) | with_reducible exact wntB_tf (by assumption) | with_reducible exact wntB_ft (by assumption) | with_reducible exact wntB_ff (by assumption) | with_reducible exact pckBT (by assumption) | with_reducible exact pckBF (by assumption) | exact s2_Vb | exact s1_Vb) : p := h
theorem co_Vb {p : Prop} (h : p := by first | (simp only [impB_1, impB_0, offB_1, offB_0]; done) | ((try simp only [impB_1, impB_0, offB_1, offB_0]); first | with_reducible exact Sl.ag1 (by assumption) fr_Vb (by with_unfolding_all rfl) (by assumption) en_Vb | with_reducible exact Sl.agN (by assumption) fr_Vb (by with_unfolding_all rfl) (by assumption) (by with_unfolding_all rfl) en_Vb | ((with_reducible refine agL1_e ?_ ?_); (· exact s1_Vb); (· exact fl_Vb)) | ((with_reducible refine agLN_e ?_ ?_); (· exact s1_Vb); (· exact fll_Vb)) | ((with_reducible apply ag_bs); (· exact sM_Vb); (· rfl); (· exact sb_Vb); (· exact fll_Vb)) | ((with_reducible apply ag_al); (· exact sM_Vb); (· rfl); (· exact fll_Vb)) | ((with_reducible apply ag_bx); (· exact sM_Vb); (· rfl); (· rfl); (· exact fll_Vb)) | ((with_reducible apply ag_bd); (· rfl); (· exact s1_Vb); (· exact fll_Vb)) | exact s1_Vb)) : p := h
theorem gs_Vb {r p : Prop} (k : r) (h : Go.Ev.Im r p := by (first | with_reducible apply Im.runS | ((with_reducible apply Im.num); · (simp only [Nat.succ_eq_add_one, Nat.add_assoc, Nat.reduceAdd]; rfl)) | (with_reducible apply Im.unm) | (with_reducible apply Im.selT) | (with_reducible apply Im.selF) | ((with_reducible apply Im.cndT); · assumption) | ((with_reducible apply Im.cndF); · assumption) | ((with_reducible apply Im.cndT); · decide) | ((with_reducible apply Im.cndF); · decide) | ((with_reducible apply Im.cndNT); · decide) | ((with_reducible apply Im.cndNF); · decide) | ((with_reducible apply Im.cndBT); · exact rfl) | ((with_reducible apply Im.cndBF); · exact rfl) | ((with_reducible apply Im.cndNT); · assumption) | ((with_reducible apply Im.cndNF); · assumption) | ((with_reducible apply Im.cndBT); · assumption) | ((with_reducible apply Im.cndBF); · assumption) | ((with_reducible apply Im.bind); · exact op_Vb) | ((with_reducible apply Im.cond); · exact co_Vb) | ((with_reducible apply Im.runB); · exact op_Vb) | ((with_reducible apply Im.runC); · exact co_Vb) | ((with_reducible apply Im.runN); · (simp only [Nat.succ_eq_add_one, Nat.add_assoc, Nat.reduceAdd]; rfl)) | with_reducible apply Im.runR | ((with_reducible apply Im.runE (x := evBuildSlice _ _ _ _ _ _)); · exact sb_Vb)); (repeat (first | with_reducible apply Im.runS | ((with_reducible apply Im.num); · (simp only [Nat.succ_eq_add_one, Nat.add_assoc, Nat.reduceAdd]; rfl)) | (with_reducible apply Im.unm) | (with_reducible apply Im.selT) | (with_reducible apply Im.selF) | ((with_reducible apply Im.cndT); · assumption) | ((with_reducible apply Im.cndF); · assumption) | ((with_reducible apply Im.cndT); · decide) | ((with_reducible apply Im.cndF); · decide) | ((with_reducible apply Im.cndNT); · decide) | ((with_reducible apply Im.cndNF); · decide) | ((with_reducible apply Im.cndBT); · exact rfl) | ((with_reducible apply Im.cndBF); · exact rfl) | ((with_reducible apply Im.cndNT); · assumption) | ((with_reducible apply Im.cndNF); · assumption) | ((with_reducible apply Im.cndBT); · assumption) | ((with_reducible apply Im.cndBF); · assumption) | ((with_reducible apply Im.bind); · exact op_Vb) | ((with_reducible apply Im.cond); · exact co_Vb) | ((with_reducible apply Im.runB); · exact op_Vb) | ((with_reducible apply Im.runC); · exact co_Vb) | ((with_reducible apply Im.runN); · (simp only [Nat.succ_eq_add_one, Nat.add_assoc, Nat.reduceAdd]; rfl)) | with_reducible apply Im.runR | ((with_reducible apply Im.runE (x := evBuildSlice _ _ _ _ _ _)); · exact sb_Vb))); exact Go.Ev.Im.id) : p := h k
theorem okR_of {s : Sp} {x : Rd} (h2 : readB s.weeks x = true) : OkR s x := by
  simp only [readB, isWeekB, isSpanB, inS, Bool.and_eq_true, decide_eq_true_eq] at h2
  constructor <;> omega
/-- Is a span within another one? -/
def withB (a c p q : Int) : Bool := decide (p ≤ a) && decide (c ≤ q) && decide (a ≤ c)
theorem c_lwithin (call : CallF) {a c p q : Int} {h N} : Rn (s46 call (.agg ⟨[iS a, iS c]⟩) (.agg ⟨[iS p, iS q]⟩) h N) fun v h' N' => v = .bool (withB a c p q) ∧ Gw h N h' N' := by
  unfold s46 withB
  repeat' (first | refine gs_Vb ?_ | (first | with_reducible refine Rn.part (fun _ => ?_) (fun _ => ?_) | with_reducible refine Rn.partN (fun _ => ?_) (fun _ => ?_) | with_reducible refine Rn.partB (fun _ => ?_) (fun _ => ?_)) | (first | with_reducible refine Rn.cnd (fun _ => ?_) (fun _ => ?_) | with_reducible refine Rn.cndN (fun _ => ?_) (fun _ => ?_) | with_reducible refine Rn.cndB (fun _ => ?_) (fun _ => ?_)))
  all_goals exact Rn.ret ⟨congrArg Value.bool (by simp only [*, decide_true, decide_false, Bool.true_and, Bool.false_and, Bool.and_true, Bool.and_false]), (Gw.of fr_Vb (by omega))⟩
theorem c_has (call : CallF) {l : Value} {L : List Int} {n : Int} {h N} (hn : L.length < 1000) (hl : Sl h N l L) : Rn (s33 call l (iS n) h N) fun v h' N' => v = .bool (decide (n ∈ L)) ∧ Gw h N h' N' := by
  unfold s33
  have c1 := hl.flat
  have x1 := flatV_one c1
  have y1 := cel_flat c1
  try refine gs_Vb ?_
  refine Rn.loop4 (fun m a p q k g M => ∃ i : Nat, a = iS n ∧ l = p ∧ q = nS L.length ∧ k = nS i ∧ i + m = L.length ∧ Fr h N g ∧ N ≤ M ∧ (decide (n ∈ L.drop i) = decide (n ∈ L))) L.length (by omega) ⟨0, rfl, rfl, rfl, rfl, by omega, fr_Vb, by omega, rfl⟩ ?_
  rintro m g ih _ _ _ _ h2 N2 ⟨i, rfl, rfl, rfl, rfl, e2, f2, l2, q2⟩
  try refine gs_Vb ?_
  (first | with_reducible refine Rn.cnd (fun _ => ?_) (fun _ => ?_) | with_reducible refine Rn.cndN (fun _ => ?_) (fun _ => ?_) | with_reducible refine Rn.cndB (fun _ => ?_) (fun _ => ?_))
  · obtain ⟨y, hy⟩ := at_of (L := L) (k := i) (by omega)
    rw [drop_at hy] at q2
    try refine gs_Vb ?_
    (first | with_reducible refine Rn.cnd (fun _ => ?_) (fun _ => ?_) | with_reducible refine Rn.cndN (fun _ => ?_) (fun _ => ?_) | with_reducible refine Rn.cndB (fun _ => ?_) (fun _ => ?_))
    · try refine gs_Vb ?_
      refine Rn.ret ⟨?_, (Gw.of fr_Vb (by omega))⟩
      rw [← q2]
      simp [*]
    · have hne : ¬ n = y := by omega
      try refine gs_Vb ?_
      refine ih (m - 1) (by omega) _ _ _ _ _ _ ⟨i + 1, rfl, rfl, rfl, rfl, by omega, fr_Vb, by omega, ?_⟩
      rw [← q2]
      simp [hne]
  · rw [List.drop_eq_nil_of_le (by omega)] at q2
    try refine gs_Vb ?_
    refine Rn.ret ⟨?_, (Gw.of fr_Vb (by omega))⟩
    rw [← q2]
    simp
section
variable {s : Sp} {b r : Value}
theorem c_next (call : CallF) {h N} (nb : s.book.length < 1000) (nr : s.reads.length < 1000) (hb : Sl h N b s.book) (hr : Sl h N r s.reads) : Rn (s42 call (.agg ⟨[iS s.weeks, iS s.most, iS s.fall, iS s.slo, iS s.shi, iS s.wlo, iS s.whi, b, r]⟩) h N) fun v h' N' => v = iS (nxL 1 s.reads) ∧ Gw h N h' N' := by
  unfold s42
  have cb := hb.flat; have cr := hr.flat; have x1 := flatV_one cb; have y1 := cel_flat cb; have x2 := flatV_one cr; have y2 := cel_flat cr
  try refine gs_Vb ?_
  refine Rn.loop4 (fun m a p q k g M => ∃ (i : Nat) (n : Int), a = iS n ∧ r = p ∧ q = nS s.reads.length ∧ k = nS i ∧ i + m = s.reads.length ∧ Fr h N g ∧ N + 1 ≤ M ∧ nxL n (s.reads.drop i) = nxL 1 s.reads ∧ 0 ≤ n ∧ n ≤ 1 + (i : Int)) s.reads.length (by omega) ⟨0, 1, rfl, rfl, rfl, rfl, by omega, fr_Vb, by omega, rfl, by omega, by omega⟩ ?_
  rintro m g ih _ _ _ _ h2 N2 ⟨i, n, rfl, rfl, rfl, rfl, e2, f2, l2, q2, n1, n2⟩
  try refine gs_Vb ?_
  (first | with_reducible refine Rn.cnd (fun _ => ?_) (fun _ => ?_) | with_reducible refine Rn.cndN (fun _ => ?_) (fun _ => ?_) | with_reducible refine Rn.cndB (fun _ => ?_) (fun _ => ?_))
  · obtain ⟨y, hy⟩ := at_of (L := s.reads) (k := i) (by omega)
    rw [drop_at hy] at q2
    simp only [nxL] at q2
    try refine gs_Vb ?_
    unfold jnR
    (first | with_reducible refine Rn.cnd (fun _ => ?_) (fun _ => ?_) | with_reducible refine Rn.cndN (fun _ => ?_) (fun _ => ?_) | with_reducible refine Rn.cndB (fun _ => ?_) (fun _ => ?_))
    · rw [if_pos (by omega)] at q2
      try refine gs_Vb ?_
      exact ih (m - 1) (by omega) _ _ _ _ _ _ ⟨i + 1, n + 1, rfl, rfl, rfl, rfl, by omega, fr_Vb, by omega, q2, by omega, by omega⟩
    · rw [if_neg (by omega)] at q2
      try refine gs_Vb ?_
      exact ih (m - 1) (by omega) _ _ _ _ _ _ ⟨i + 1, n, rfl, rfl, rfl, rfl, by omega, fr_Vb, by omega, q2, by omega, by omega⟩
  · rw [List.drop_eq_nil_of_le (by omega)] at q2
    simp only [nxL] at q2
    subst q2
    try refine gs_Vb ?_
    exact Rn.ret ⟨rfl, (Gw.of fr_Vb (by omega))⟩
def rdA (x : Rd) : Ask := ⟨0, 0, x⟩
def reE (s : Sp) (x : Rd) : Int := if beginS s (rdA x) [3] = 0 then (if (toldB s x).2 < (toldB s x).1 then 6 else 0) else beginS s (rdA x) [3]
def reG (s : Sp) (x : Rd) : Int × Int := if reE s x = 0 then toldB s x else (0, 0)
theorem c_Read (d : Nat) {x : Rd} {h N} (nb : s.book.length < 1000) (nr : s.reads.length < 1000) (hb : Sl h N b s.book) (hr : Sl h N r s.reads) : Rn (s47 (cN (d + 3)) (.agg ⟨[iS s.weeks, iS s.most, iS s.fall, iS s.slo, iS s.shi, iS s.wlo, iS s.whi, b, r]⟩) (.agg ⟨[iS x.Number, iS x.Week, iS x.Bucket, iS x.Songs_Lo, iS x.Songs_Hi]⟩) h N) fun v h' N' => v = .tuple ⟨[.agg ⟨[iS (reG s x).1, iS (reG s x).2]⟩, iS (reE s x)]⟩ ∧ Gw h N h' N' := by
  unfold s47
  have cb := hb.flat; have cr := hr.flat; have x1 := flatV_one cb; have y1 := cel_flat cb; have x2 := flatV_one cr; have y2 := cel_flat cr
  try refine gs_Vb ?_
  refine Rn.call (c_begin d (q := rdA x) (L := [3]) nb nr (Sl.up (by assumption) fr_Vb (by omega)) (Sl.up (by assumption) fr_Vb (by omega)) (by simp) (Sl.lit _ sM_Vb (by omega) rfl rfl) (by simp)) ?_
  rintro _ h1 N1 ⟨⟨e0, hv, rfl⟩ | ⟨e0, rfl⟩, f1, o1, l1⟩
  · have hx : readB s.weeks x = true := by
      have : beginS s (rdA x) [3] = if validB s then (if readB s.weeks x then 0 else errN 3) else 10 := rfl
      rw [this, hv, if_pos rfl] at e0
      cases hq : readB s.weeks x with
      | true => rfl
      | false => rw [hq] at e0; exact absurd e0 (by decide)
    have hs := ok_of_valid hv
    try refine gs_Vb ?_
    refine Rn.call (c_told _ (x := x) hs.ok (okR_of hx) cb cr) ?_
    rintro _ h2 N2 ⟨rfl, f2, o2, l2⟩
    have e1 : reE s x = if (toldB s x).2 < (toldB s x).1 then 6 else 0 := if_pos e0
    try refine gs_Vb ?_
    (first | with_reducible refine Rn.cnd (fun _ => ?_) (fun _ => ?_) | with_reducible refine Rn.cndN (fun _ => ?_) (fun _ => ?_) | with_reducible refine Rn.cndB (fun _ => ?_) (fun _ => ?_))
    · rw [if_pos (by omega)] at e1
      have e2 : reG s x = (0, 0) := if_neg (by rw [e1]; decide)
      rw [e1, e2]
      try refine gs_Vb ?_
      exact Rn.ret ⟨rfl, (Gw.of fr_Vb (by omega))⟩
    · rw [if_neg (by omega)] at e1
      have e2 : reG s x = toldB s x := if_pos e1
      rw [e1, e2]
      try refine gs_Vb ?_
      exact Rn.ret ⟨rfl, (Gw.of fr_Vb (by omega))⟩
  · have e1 : reE s x = beginS s (rdA x) [3] := if_neg e0
    have e2 : reG s x = (0, 0) := if_neg (by rw [e1]; exact e0)
    rw [e1, e2]
    try refine gs_Vb ?_
    exact Rn.ret ⟨rfl, (Gw.of fr_Vb (by omega))⟩
theorem c_Write (d : Nat) {x : Ln} {h N} (nb : s.book.length < 1000) (nr : s.reads.length < 1000) (hb : Sl h N b s.book) (hr : Sl h N r s.reads) :
    Rn (s45 (cN (d + 3)) (.agg ⟨[iS s.weeks, iS s.most, iS s.fall, iS s.slo, iS s.shi, iS s.wlo, iS s.whi, b, r]⟩) (.agg ⟨[iS x.Rain_Lo, iS x.Rain_Hi, iS x.Week, iS x.Gives_Lo, iS x.Gives_Hi]⟩) h N) fun v h' N' =>
      (∃ b' r', v = .tuple ⟨[.agg ⟨[iS (wrR s x).weeks, iS (wrR s x).most, iS (wrR s x).fall, iS (wrR s x).slo, iS (wrR s x).shi, iS (wrR s x).wlo, iS (wrR s x).whi, b', r']⟩, iS (wrE s x)]⟩ ∧ Sl h' N' b' (wrR s x).book ∧ Sl h' N' r' (wrR s x).reads) ∧ Gw h N h' N' := by
  unfold s45
  have cb := hb.flat; have cr := hr.flat; have x1 := flatV_one cb; have y1 := cel_flat cb; have x2 := flatV_one cr; have y2 := cel_flat cr
  try refine gs_Vb ?_
  refine Rn.call (c_Check d nb nr (Sl.up (by assumption) fr_Vb (by omega)) (Sl.up (by assumption) fr_Vb (by omega))) ?_
  rintro _ h1 N1 ⟨rfl, f1, o1, l1⟩
  have zr : ∀ e : Int, e ≠ 0 → wrE s x = e → wrR s x = zS := fun e h1 h2 => if_neg (by rw [h2]; exact h1)
  cases hv : validB s with
  | false =>
    have e1 : wrE s x = 10 := by unfold wrE; rw [hv]; rfl
    have e2 : ckE s = 10 := by unfold ckE; rw [hv]; rfl
    rw [zr 10 (by decide) e1, e1, e2]
    clear zr e1 e2
    try refine gs_Vb ?_
    exact Rn.ret ⟨⟨snil, snil, rfl, Sl.nil _ _, Sl.nil _ _⟩, (Gw.of fr_Vb (by omega))⟩
  | true =>
    have hs := ok_of_valid hv
    have hn := hs.nb
    have e2 : ckE s = 0 := by unfold ckE; rw [hv]; rfl
    rw [e2]
    clear e2
    try refine gs_Vb ?_
    (first | with_reducible refine Rn.cnd (fun _ => ?_) (fun _ => ?_) | with_reducible refine Rn.cndN (fun _ => ?_) (fun _ => ?_) | with_reducible refine Rn.cndB (fun _ => ?_) (fun _ => ?_))
    · have e1 : wrE s x = 9 := by unfold wrE; rw [hv, if_pos rfl, if_pos (by omega)]
      rw [zr 9 (by decide) e1, e1]
      clear zr e1
      try refine gs_Vb ?_
      exact Rn.ret ⟨⟨snil, snil, rfl, Sl.nil _ _, Sl.nil _ _⟩, (Gw.of fr_Vb (by omega))⟩
    have hl8 : s.book.length ≠ 8 := by omega
    try refine gs_Vb ?_
    refine Rn.call (c_copied _ nb nr (Sl.up (by assumption) fr_Vb (by omega)) (Sl.up (by assumption) fr_Vb (by omega))) ?_
    rintro _ h3 N3 ⟨⟨b', r', K, rfl, k1, k2, q3, q4⟩, f3, o3, l3⟩
    have s1 := q3.sl k2
    have s2 := q4.sl (Nat.le_refl _)
    have a1 := flatV_one s1.flat
    have a2 := flatV_one s2.flat
    have b1 := cel_flat s1.flat
    have b2 := cel_flat s2.flat
    try refine gs_Vb ?_
    have w : ∃ i, N1 ≤ i ∧ i < N3 + 1 ∧ (i < K ∨ i = N3) ∧ ∀ h' : Tr Ob, (∀ j, N1 ≤ j → j < K → h'.get j = h3.get j) → Ow h' 73 b' s.book i := by
      rcases q3 with ⟨rfl, e⟩ | ⟨i, g1, g2, o⟩
      · rw [e]; exact ⟨N3, by omega, by omega, .inr rfl, fun h' _ => Ow.nil _ _ _⟩
      · exact ⟨i, g1, by omega, .inl g2, fun h' hk => o.keep (hk i g1 g2)⟩
    obtain ⟨i, i1, i2, i3, w⟩ := w
    refine Rn.call (Ow.app (α := Ln) (K := [x]) (i := i) ap_SLine (w _ fun j g1 g2 => sS_Vb) (by omega) (Sl.lit [x] sM_Vb (by omega : N3 < N3 + 1) rfl rfl) (Fr.refl _ _) (by simp; omega)) ?_
    rintro b'' h4 N4 ⟨i', q5, e5, e5', f5, o5, l5⟩
    have s5 := q5.sl e5'
    have a5 := flatV_one s5.flat
    have b5 := cel_flat s5.flat
    have q6 : OwR K N3 h4 71 r' s.reads := q4.keep fun j g1 g2 => (o5 (by omega) (by omega)).trans sS_Vb
    clear w q3 q4
    try refine gs_Vb ?_
    have el : (s.book ++ [x]) = (wrS s x).book := rfl
    rw [el] at q5 s5
    refine Rn.call (c_Check d (s := wrS s x) (by show (s.book ++ [x]).length < 1000; simp; omega) nr ((q5.keep sS_Vb).sl (by omega)) ((q6.keep fun j g1 g2 => sS_Vb).sl (by omega))) ?_
    rintro _ h7 N7 ⟨rfl, f7, o7, l7⟩
    cases hv2 : validB (wrS s x) with
    | true =>
      have e1 : wrE s x = 0 := by unfold wrE; rw [hv, if_pos rfl, if_neg hl8, hv2]; rfl
      have e2 : ckE (wrS s x) = 0 := by unfold ckE; rw [hv2]; rfl
      have e3 : wrR s x = wrS s x := if_pos e1
      rw [e1, e2, e3]
      clear zr e1 e2 e3
      try refine gs_Vb ?_
      refine Rn.ret ⟨⟨b'', r', rfl, ?_, ?_⟩, (Gw.of fr_Vb (by omega))⟩
      · exact (q5.keep sS_Vb).sl (by omega)
      · exact (q6.keep fun j g1 g2 => sS_Vb).sl (by omega)
    | false =>
      have e1 : wrE s x = 13 := by unfold wrE; rw [hv, if_pos rfl, if_neg hl8, hv2]; rfl
      have e2 : ckE (wrS s x) = 10 := by unfold ckE; rw [hv2]; rfl
      rw [zr 13 (by decide) e1, e1, e2]
      clear zr e1 e2
      try refine gs_Vb ?_
      exact Rn.ret ⟨⟨snil, snil, rfl, Sl.nil _ _, Sl.nil _ _⟩, (Gw.of fr_Vb (by omega))⟩
end
end Go.Proofs.Ytpilgokdbliklaa
end

section
namespace Go.Proofs.Ytpilgokdbliklaa
open Go.Ev
set_option linter.unusedVariables false
set_option linter.unusedSimpArgs false
set_option maxRecDepth 100000
set_option maxHeartbeats 4000000
noncomputable def T6 (call : CallF) (a4 : Value) (N : Nat) (N0 : Nat) (v3 : Value) (v42 : Value) (N52 : Nat) (v61 : Value) (v62 : Value) (v67 : Value) (N112 : Nat) (v114 : Value) (v261 : Value) (v264 : Value) (h262 : Tr Ob) (N263 : Nat) : OpR :=
  (lpR (α := C14) (fun v265 v266 v267 v268 v269 v270 v271 v272 v273 v274 v275 v276 v277 v278 d279 h280 N281 => none) (fun g282 v283 v284 v285 v286 v287 v288 v289 v290 v291 v292 v293 v294 v295 v296 d297 h298 N299 => (obind (Ev.iop .lss v296 v295) (fun v300 => (Ev.cnd v300 (jnR (α := C14) (fun v301 v302 v303 v304 v305 v306 v307 v308 v309 v310 v311 v312 v313 v314 d315 h316 N317 => (obind (Ev.iop .add v314 (.int .i64 1)) (fun v318 => (g282 v301 v302 v303 v304 v305 v306 v307 v308 v309 v310 v311 v312 v313 v318 d315 h316 N317)))) (fun g319 => (obind (Ev.iadS 10 v294 v296) (fun v320 => (obind (Ev.ldN 10 h298 v320) (fun v321 => (fN (.succ N299) (fun N322 => (obind (Ev.sto 10 (.pointer (some ⟨N299, 0, none⟩)) v321 (Tr.set h298 (some (.c [(.int .i64 0), (.int .i64 0), (.int .i64 0), (.int .i64 0), (.int .i64 0), (.int .i64 0), (.int .i64 0), (.slice none 0 0), (.slice none 0 0), (.int .i64 0)] 79)) N299)) (fun h323 => (obind (Ev.fad 9 (.pointer (some ⟨N299, 0, none⟩))) (fun v324 => (obind (Ev.ld1 h323 v324) (fun v325 => (obind (Ev.iop .neq v325 (.int .i64 0)) (fun v326 => (Ev.cnd v326 (g319 v283 v284 v285 v286 v287 v288 v289 v290 v291 v292 v293 v294 v295 v296 d297 h323 N322) (obind (Ev.fad 0 (.pointer (some ⟨N299, 0, none⟩))) (fun v327 => (obind (Ev.ldN 9 h323 v327) (fun v328 => (orun (s31 call v328 h323 N322) (fun v329 h330 N331 => (obind (Ev.extr 0 v329) (fun v332 => (obind (Ev.extr 1 v329) (fun v333 => (obind (Ev.iop .neq v333 (.int .i64 0)) (fun v334 => (Ev.cnd v334 (obind (Ev.unmark d297 h330) (fun h335 => (some ((.bool false), (h335, N331))))) (obind (Ev.unV Pr .not v332) (fun v336 => (Ev.cnd v336 (g319 v283 v284 v285 v286 v287 v288 v289 v290 v291 v292 v293 v294 v295 v296 d297 h330 N331) (obind (Ev.fad 0 (.pointer (some ⟨N299, 0, none⟩))) (fun v337 => (obind (Ev.ldN 9 h330 v337) (fun v338 => (orun (s34 call v338 v287 h330 N331) (fun v339 h340 N341 => (obind (Ev.extr 0 v339) (fun v342 => (obind (Ev.extr 1 v339) (fun v343 => (fN (.succ N341) (fun N344 => (obind (Ev.sto 2 (.pointer (some ⟨N341, 0, none⟩)) v342 (Tr.set h340 (some (.c [(.int .i64 0), (.int .i64 0)] 23)) N341)) (fun h345 => (obind (Ev.fad 0 (.pointer (some ⟨N299, 0, none⟩))) (fun v346 => (obind (Ev.ldN 9 h345 v346) (fun v347 => (orun (s14 call v347 v283 h345 N344) (fun v348 h349 N350 => (obind (Ev.extr 0 v348) (fun v351 => (obind (Ev.extr 1 v348) (fun v352 => (obind (Ev.fad 0 (.pointer (some ⟨N299, 0, none⟩))) (fun v353 => (obind (Ev.ldN 9 h349 v353) (fun v354 => (orun (s32 call v354 h349 N350) (fun v355 h356 N357 => (obind (Ev.extr 0 v355) (fun v358 => (obind (Ev.extr 1 v355) (fun v359 => (obind (Ev.iop .neq v343 (.int .i64 0)) (fun v360 => (obind (Ev.wntV v360 false) (fun v361 => (orun (Ev.sel v361 (some ((.tuple ⟨[]⟩), (h356, N357))) (obind (Ev.ldN 2 h356 (.pointer (some ⟨N341, 0, none⟩))) (fun v362 => (some (v362, (h356, N357)))))) (fun v363 h364 N365 => (obind (Ev.wntV v360 false) (fun v366 => (orun (Ev.sel v366 (some ((.tuple ⟨[]⟩), (h364, N365))) (obind (Ev.ldN 2 h364 v288) (fun v367 => (some (v367, (h364, N365)))))) (fun v368 h369 N370 => (obind (Ev.wntV v360 false) (fun v371 => (orun (Ev.sel v371 (some ((.tuple ⟨[]⟩), (h369, N370))) (orun (s46 call v363 v368 h369 N370) (fun v372 h373 N374 => (some (v372, (h373, N374)))))) (fun v375 h376 N377 => (obind (Ev.wntV v360 false) (fun v378 => (orun (Ev.sel v378 (some ((.tuple ⟨[]⟩), (h376, N377))) (obind (Ev.unV Pr .not v375) (fun v379 => (some (v379, (h376, N377)))))) (fun v380 h381 N382 => (obind (Ev.pck v360 (some (.bool true)) (some v380)) (fun v383 => (obind (Ev.wntV v383 false) (fun v384 => (orun (Ev.sel v384 (some ((.tuple ⟨[]⟩), (h381, N382))) (some (v359, (h381, N382)))) (fun v385 h386 N387 => (obind (Ev.wntV v383 false) (fun v388 => (orun (Ev.sel v388 (some ((.tuple ⟨[]⟩), (h386, N387))) (obind (Ev.iop .neq v385 (.int .i64 0)) (fun v389 => (some (v389, (h386, N387)))))) (fun v390 h391 N392 => (obind (Ev.pck v383 (some (.bool true)) (some v390)) (fun v393 => (obind (Ev.wntV v393 false) (fun v394 => (orun (Ev.sel v394 (some ((.tuple ⟨[]⟩), (h391, N392))) (some (v352, (h391, N392)))) (fun v395 h396 N397 => (obind (Ev.wntV v393 false) (fun v398 => (orun (Ev.sel v398 (some ((.tuple ⟨[]⟩), (h396, N397))) (obind (Ev.iop .eql v395 (.int .i64 0)) (fun v399 => (some (v399, (h396, N397)))))) (fun v400 h401 N402 => (obind (Ev.wntV v393 false) (fun v403 => (orun (Ev.sel v403 (some ((.tuple ⟨[]⟩), (h401, N402))) (some (v400, (h401, N402)))) (fun v404 h405 N406 => (obind (Ev.wntV v404 true) (fun v407 => (orun (Ev.sel v407 (some ((.tuple ⟨[]⟩), (h405, N406))) (some (v290, (h405, N406)))) (fun v408 h409 N410 => (obind (Ev.wntV v404 true) (fun v411 => (orun (Ev.sel v411 (some ((.tuple ⟨[]⟩), (h409, N410))) (obind (Ev.iop .neq v408 (.int .i64 0)) (fun v412 => (some (v412, (h409, N410)))))) (fun v413 h414 N415 => (obind (Ev.wntV v404 true) (fun v416 => (orun (Ev.sel v416 (some ((.tuple ⟨[]⟩), (h414, N415))) (some (v413, (h414, N415)))) (fun v417 h418 N419 => (obind (Ev.wntV v417 false) (fun v420 => (orun (Ev.sel v420 (some ((.tuple ⟨[]⟩), (h418, N419))) (some (v351, (h418, N419)))) (fun v421 h422 N423 => (obind (Ev.wntV v417 false) (fun v424 => (orun (Ev.sel v424 (some ((.tuple ⟨[]⟩), (h422, N423))) (some (v289, (h422, N423)))) (fun v425 h426 N427 => (obind (Ev.wntV v417 false) (fun v428 => (orun (Ev.sel v428 (some ((.tuple ⟨[]⟩), (h426, N427))) (obind (Ev.iop .lss v421 v425) (fun v429 => (some (v429, (h426, N427)))))) (fun v430 h431 N432 => (obind (Ev.wntV v404 true) (fun v433 => (orun (Ev.sel v433 (some ((.tuple ⟨[]⟩), (h431, N432))) (obind (Ev.pck v417 (some (.bool true)) (some v430)) (fun v434 => (some (v434, (h431, N432)))))) (fun v435 h436 N437 => (obind (Ev.wntV v393 false) (fun v438 => (orun (Ev.sel v438 (some ((.tuple ⟨[]⟩), (h436, N437))) (obind (Ev.pck v404 (some v435) (some (.bool false))) (fun v439 => (some (v439, (h436, N437)))))) (fun v440 h441 N442 => (obind (Ev.pck v393 (some (.bool true)) (some v440)) (fun v443 => (Ev.cnd v443 (obind (Ev.unmark d297 h441) (fun h444 => (some ((.bool false), (h444, N442))))) (obind (Ev.lenS v358) (fun v445 => (lpR (α := C17) (fun v446 v447 v448 v449 v450 v451 v452 v453 v454 v455 v456 v457 v458 v459 v460 v461 v462 d463 h464 N465 => none) (fun g466 v467 v468 v469 v470 v471 v472 v473 v474 v475 v476 v477 v478 v479 v480 v481 v482 v483 d484 h485 N486 => (obind (Ev.iop .lss v483 v482) (fun v487 => (Ev.cnd v487 (obind (Ev.iadS 1 v481 v483) (fun v488 => (obind (Ev.ld1 h485 v488) (fun v489 => (orun (s33 call v475 v489 h485 N486) (fun v490 h491 N492 => (obind (Ev.unV Pr .not v490) (fun v493 => (Ev.cnd v493 (obind (Ev.unmark d484 h491) (fun h494 => (some ((.bool false), (h494, N492))))) (obind (Ev.iop .add v483 (.int .i64 1)) (fun v495 => (g466 v467 v468 v469 v470 v471 v472 v473 v474 v475 v476 v477 v478 v479 v480 v481 v482 v495 d484 h491 N492)))))))))))) (g319 v467 v468 v469 v470 v471 v472 v473 v474 v475 v476 v477 v478 v479 v480 d484 h485 N486))))) v283 v284 v285 v286 v287 v288 v289 v290 v291 v292 v293 v294 v295 v296 v358 v445 (.int .i64 0) d297 h441 N442))))))))))))))))))))))))))))))))))))))))))))))))))))))))))))))))))))))))))))))))))))))))))))))))))))))))))))))))))))))))))))))))))))))))))))))))))) (obind (Ev.iop .neq v293 (.int .i64 0)) (fun v496 => (Ev.cnd v496 (obind (Ev.unmark d297 h298) (fun h497 => (some (v286, (h497, N299))))) (obind (Ev.ldN 9 h298 v284) (fun v498 => (obind (Ev.ldN 5 h298 v285) (fun v499 => (orun (s47 call v498 v499 h298 N299) (fun v500 h501 N502 => (obind (Ev.extr 0 v500) (fun v503 => (obind (Ev.extr 1 v500) (fun v504 => (fN (.succ N502) (fun N505 => (obind (Ev.sto 2 (.pointer (some ⟨N502, 0, none⟩)) v503 (Tr.set h501 (some (.c [(.int .i64 0), (.int .i64 0)] 23)) N502)) (fun h506 => (obind (Ev.ldN 9 h506 v292) (fun v507 => (obind (Ev.fad 1 v285) (fun v508 => (obind (Ev.ld1 h506 v508) (fun v509 => (orun (s34 call v507 v509 h506 N505) (fun v510 h511 N512 => (obind (Ev.extr 0 v510) (fun v513 => (obind (Ev.extr 1 v510) (fun v514 => (fN (.succ N512) (fun N515 => (obind (Ev.sto 2 (.pointer (some ⟨N512, 0, none⟩)) v513 (Tr.set h511 (some (.c [(.int .i64 0), (.int .i64 0)] 23)) N512)) (fun h516 => (obind (Ev.wntV v286 true) (fun v517 => (orun (Ev.sel v517 (some ((.tuple ⟨[]⟩), (h516, N515))) (some (v514, (h516, N515)))) (fun v518 h519 N520 => (obind (Ev.wntV v286 true) (fun v521 => (orun (Ev.sel v521 (some ((.tuple ⟨[]⟩), (h519, N520))) (obind (Ev.iop .neq v518 (.int .i64 0)) (fun v522 => (some (v522, (h519, N520)))))) (fun v523 h524 N525 => (obind (Ev.wntV v286 true) (fun v526 => (orun (Ev.sel v526 (some ((.tuple ⟨[]⟩), (h524, N525))) (some (v523, (h524, N525)))) (fun v527 h528 N529 => (obind (Ev.wntV v527 false) (fun v530 => (orun (Ev.sel v530 (some ((.tuple ⟨[]⟩), (h528, N529))) (some (v504, (h528, N529)))) (fun v531 h532 N533 => (obind (Ev.wntV v527 false) (fun v534 => (orun (Ev.sel v534 (some ((.tuple ⟨[]⟩), (h532, N533))) (obind (Ev.iop .eql v531 (.int .i64 0)) (fun v535 => (some (v535, (h532, N533)))))) (fun v536 h537 N538 => (obind (Ev.wntV v527 false) (fun v539 => (orun (Ev.sel v539 (some ((.tuple ⟨[]⟩), (h537, N538))) (some (v536, (h537, N538)))) (fun v540 h541 N542 => (obind (Ev.wntV v540 true) (fun v543 => (orun (Ev.sel v543 (some ((.tuple ⟨[]⟩), (h541, N542))) (obind (Ev.ldN 2 h541 (.pointer (some ⟨N512, 0, none⟩))) (fun v544 => (some (v544, (h541, N542)))))) (fun v545 h546 N547 => (obind (Ev.wntV v540 true) (fun v548 => (orun (Ev.sel v548 (some ((.tuple ⟨[]⟩), (h546, N547))) (obind (Ev.ldN 2 h546 (.pointer (some ⟨N502, 0, none⟩))) (fun v549 => (some (v549, (h546, N547)))))) (fun v550 h551 N552 => (obind (Ev.wntV v540 true) (fun v553 => (orun (Ev.sel v553 (some ((.tuple ⟨[]⟩), (h551, N552))) (orun (s46 call v545 v550 h551 N552) (fun v554 h555 N556 => (some (v554, (h555, N556)))))) (fun v557 h558 N559 => (obind (Ev.wntV v527 false) (fun v560 => (orun (Ev.sel v560 (some ((.tuple ⟨[]⟩), (h558, N559))) (obind (Ev.pck v540 (some v557) (some (.bool false))) (fun v561 => (some (v561, (h558, N559)))))) (fun v562 h563 N564 => (obind (Ev.wntV v286 true) (fun v565 => (orun (Ev.sel v565 (some ((.tuple ⟨[]⟩), (h563, N564))) (obind (Ev.pck v527 (some (.bool true)) (some v562)) (fun v566 => (some (v566, (h563, N564)))))) (fun v567 h568 N569 => (obind (Ev.pck v286 (some v567) (some (.bool false))) (fun v570 => (obind (Ev.unmark d297 h568) (fun h571 => (some (v570, (h571, N569)))))))))))))))))))))))))))))))))))))))))))))))))))))))))))))))))))))))))))))))))))))))) a4 (.pointer (some ⟨N, 0, none⟩)) (.pointer (some ⟨N0, 0, none⟩)) v3 v42 (.pointer (some ⟨N52, 0, none⟩)) v61 v62 v67 (.pointer (some ⟨N112, 0, none⟩)) v114 v261 v264 (.int .i64 0) [] h262 N263)
end Go.Proofs.Ytpilgokdbliklaa
end

section
namespace Go.Proofs.Ytpilgokdbliklaa
open Go.Ev Go.RowKit
set_option linter.unusedVariables false
set_option linter.unusedSimpArgs false
set_option linter.unusedSectionVars false
set_option maxRecDepth 100000
set_option maxHeartbeats 4000000
theorem s1_Vc {p : Prop} (h : p := by (simp (disch := omega) only [obind_s, orun_s, ocond_t, fad_p, ld1_e, ldN_e, sto_e, cellO_c, wrO_c, Tr.get_same, Tr.get_other, nth_0, nth_s, drp_0, drp_s, drp_n, tak_0, tak_s, tak_n, over_n, over_c, lay_0, lay_s, lay_n, len_n, len_c, app_n, app_c, reps_0, reps_s, cel_agg, cel_int, cel_bool, cel_str, cel_sl, cel_ptr, cel_map, cel_func, cel_nilf, fil_n, fil_c, beq_r, ble_d, allF_n, allF_c, one_int, one_bool, one_str, one_sl, one_ptr, one_map, one_func, one_nilf, Bool.and_true, Bool.true_and, Bool.not_true, Bool.not_false, iadA_z, Int.reduceToNat, Int.toNat_zero, fl1_a, flN_a, extr_t, unot, not_d, Nat.add_eq, Nat.mul_eq, Nat.mul_one, Nat.one_mul, Nat.zero_mul, Nat.reduceMul, Nat.zero_add, Nat.add_zero, Nat.le_refl, decide_true, Nat.reduceAdd, Nat.reduceLeDiff, bsl_Sint, bsl_SReading, bsl_SLine, bld_Span, bld_spring_work, bld_spring_asked, enc_Line, enc_Reading, enc_Zc, ocond_d, Int.toNat_natCast, *]); first | done | fail) : p := h
theorem s2_Vc {p : Prop} (h : p := by (simp (disch := omega) only [obind_s, orun_s, ocond_t, fad_p, ld1_e, ldN_e, sto_e, cellO_c, wrO_c, Tr.get_same, Tr.get_other, nth_0, nth_s, drp_0, drp_s, drp_n, tak_0, tak_s, tak_n, over_n, over_c, lay_0, lay_s, lay_n, len_n, len_c, app_n, app_c, reps_0, reps_s, cel_agg, cel_int, cel_bool, cel_str, cel_sl, cel_ptr, cel_map, cel_func, cel_nilf, fil_n, fil_c, beq_r, ble_d, allF_n, allF_c, one_int, one_bool, one_str, one_sl, one_ptr, one_map, one_func, one_nilf, Bool.and_true, Bool.true_and, Bool.not_true, Bool.not_false, iadA_z, Int.reduceToNat, Int.toNat_zero, fl1_a, flN_a, extr_t, unot, not_d, Nat.add_eq, Nat.mul_eq, Nat.mul_one, Nat.one_mul, Nat.zero_mul, Nat.reduceMul, Nat.zero_add, Nat.add_zero, Nat.le_refl, decide_true, Nat.reduceAdd, Nat.reduceLeDiff, bsl_Sint, bsl_SReading, bsl_SLine, bld_Span, bld_spring_work, bld_spring_asked, enc_Line, enc_Reading, enc_Zc, ocond_d, Int.toNat_natCast, *]); rfl) : p := h
theorem sb_Vc {p : Prop} (h : p := by first | ((simp (disch := omega) only [obind_s, orun_s, ocond_t, fad_p, ld1_e, ldN_e, sto_e, cellO_c, wrO_c, Tr.get_same, Tr.get_other, nth_0, nth_s, drp_0, drp_s, drp_n, tak_0, tak_s, tak_n, over_n, over_c, lay_0, lay_s, lay_n, len_n, len_c, app_n, app_c, reps_0, reps_s, cel_agg, cel_int, cel_bool, cel_str, cel_sl, cel_ptr, cel_map, cel_func, cel_nilf, fil_n, fil_c, beq_r, ble_d, allF_n, allF_c, one_int, one_bool, one_str, one_sl, one_ptr, one_map, one_func, one_nilf, Bool.and_true, Bool.true_and, Bool.not_true, Bool.not_false, iadA_z, Int.reduceToNat, Int.toNat_zero, fl1_a, flN_a, extr_t, unot, not_d, Nat.add_eq, Nat.mul_eq, Nat.mul_one, Nat.one_mul, Nat.zero_mul, Nat.reduceMul, Nat.zero_add, Nat.add_zero, Nat.le_refl, decide_true, Nat.reduceAdd, Nat.reduceLeDiff, bsl_Sint, bsl_SReading, bsl_SLine, bld_Span, bld_spring_work, bld_spring_asked, enc_Line, enc_Reading, enc_Zc, ocond_d, Int.toNat_natCast, Nat.succ_eq_add_one, Nat.add_assoc, *]); rfl) | ((simp (disch := omega) only [obind_s, orun_s, ocond_t, fad_p, ld1_e, ldN_e, sto_e, cellO_c, wrO_c, Tr.get_same, Tr.get_other, nth_0, nth_s, drp_0, drp_s, drp_n, tak_0, tak_s, tak_n, over_n, over_c, lay_0, lay_s, lay_n, len_n, len_c, app_n, app_c, reps_0, reps_s, cel_agg, cel_int, cel_bool, cel_str, cel_sl, cel_ptr, cel_map, cel_func, cel_nilf, fil_n, fil_c, beq_r, ble_d, allF_n, allF_c, one_int, one_bool, one_str, one_sl, one_ptr, one_map, one_func, one_nilf, Bool.and_true, Bool.true_and, Bool.not_true, Bool.not_false, iadA_z, Int.reduceToNat, Int.toNat_zero, fl1_a, flN_a, extr_t, unot, not_d, Nat.add_eq, Nat.mul_eq, Nat.mul_one, Nat.one_mul, Nat.zero_mul, Nat.reduceMul, Nat.zero_add, Nat.add_zero, Nat.le_refl, decide_true, Nat.reduceAdd, Nat.reduceLeDiff, bsl_Sint, bsl_SReading, bsl_SLine, bld_Span, bld_spring_work, bld_spring_asked, enc_Line, enc_Reading, enc_Zc, ocond_d, Int.toNat_natCast, Nat.succ_eq_add_one, Nat.add_assoc, *]); done)) : p := h
theorem fr_Vc {p : Prop} (h : p := by first | assumption | exact Fr.refl _ _ | (simp (disch := omega) only [Fr_set, Fr_refl, *])) : p := h
theorem fl_Vc {p : Prop} (h : p := by first | with_unfolding_all rfl | exact Sl.flat (by assumption) | assumption) : p := h
theorem fll_Vc {p : Prop} (h : p := by first | with_unfolding_all rfl | ((repeat (refine flatL_k fl_Vc ?_)); with_unfolding_all rfl)) : p := h
theorem en_Vc {p : Prop} (h : p := by first | ((simp only [enc_int, enc_str, enc_u8, enc_bool, tak_s, tak_0, tak_n, drp_0, drp_s, drp_n, nth_s, nth_0, bsl_Sint, bsl_SReading, bsl_SLine, bld_Span, bld_spring_work, bld_spring_asked, enc_Line, enc_Reading, enc_Zc, ocond_d, Int.toNat_natCast]); rfl) | ((simp only [enc_int, enc_str, enc_u8, enc_bool, tak_s, tak_0, tak_n, drp_0, drp_s, drp_n, nth_s, nth_0, bsl_Sint, bsl_SReading, bsl_SLine, bld_Span, bld_spring_work, bld_spring_asked, enc_Line, enc_Reading, enc_Zc, ocond_d, Int.toNat_natCast]); done) | with_unfolding_all rfl) : p := h
theorem sM_Vc {p : Prop} (h : p := by (first | assumption | (simp (disch := omega) only [Tr.get_same, Tr.get_other, *]; rfl) | (simp (disch := omega) only [Tr.get_same, Tr.get_other, *]; done))) : p := h
theorem op_Vc {p : Prop} (h : p := by first | with_reducible exact fad_p _ _ _ | with_reducible exact iop_lss _ _ | with_reducible exact iop_leq _ _ | with_reducible exact iop_gtr _ _ | with_reducible exact iop_geq _ _ | with_reducible exact iop_eql _ _ | with_reducible exact iop_neq _ _ | with_reducible exact Sl.len (by assumption) | with_reducible exact lenS_s _ _ _ | with_reducible exact Sl.iad (by assumption) (by with_unfolding_all rfl) (by first | assumption | omega) | with_reducible exact Sl.fad (by assumption) (by first | assumption | omega) | with_reducible exact Sl.ld1 (by assumption) fr_Vc (by with_unfolding_all rfl) (by assumption) en_Vc | with_reducible exact Sl.ldN (by assumption) fr_Vc (by with_unfolding_all rfl) (by assumption) (by with_unfolding_all rfl) en_Vc | with_reducible exact zadd1 (by omega) | with_reducible exact zsub1 (by omega) (by omega) | with_reducible exact zaddI (by omega) (by omega) | with_reducible exact zsubI (by omega) (by omega) | with_reducible exact min_z | with_reducible exact max_z | with_reducible exact zmulI (by assumption) | with_reducible exact zmulK (by omega) (by omega) | with_reducible exact quo_z (by omega) (by omega) (by omega) | with_reducible exact cv_u8 (by omega) | with_reducible exact rem_z (by omega) (by omega) (by omega) | with_reducible exact neq_bool (by kernel_rfl) | with_reducible exact eql_u8 | with_reducible exact wntT_t (by assumption) | with_reducible exact wntT_f (by assumption) | with_reducible exact wntF_t (by assumption) | with_reducible exact wntF_f (by assumption) | with_reducible exact wnt_tt | with_reducible exact wnt_tf | with_reducible exact wnt_ft | with_reducible exact wnt_ff | with_reducible exact wnt_u _ _ | with_reducible exact pck_t _ _ | with_reducible exact pck_f _ _ | with_reducible exact pckT (by assumption) | with_reducible exact pckF (by assumption) | with_reducible exact wntT_t (by decide) | with_reducible exact wntT_f (by decide) | with_reducible exact wntF_t (by decide) | with_reducible exact wntF_f (by decide) | with_reducible exact pckT (by decide) | with_reducible exact pckF (by decide) | with_reducible exact wntN_tt (by decide) | with_reducible exact wntN_tf (by decide) | with_reducible exact wntN_ft (by decide) | with_reducible exact wntN_ff (by decide) | with_reducible exact pckNT (by decide) | with_reducible exact pckNF (by decide) | with_reducible exact wntN_tt (by assumption) | with_reducible exact wntN_tf (by assumption) | with_reducible exact wntN_ft (by assumption) | with_reducible exact wntN_ff (by assumption) | with_reducible exact pckNT (by assumption) | with_reducible exact pckNF (by assumption) | with_reducible exact wntB_tt (by assumption) | with_reducible exact wntB_tf (by assumption) | with_reducible exact wntB_ft (by assumption) | with_reducible exact wntB_ff (by assumption) | with_reducible exact pckBT (by assumption) | with_reducible exact pckBF (by assumption) | exact s2_Vc | exact s1_Vc) : p := h
theorem co_Vc {p : Prop} (h : p := by first | (simp only [impB_1, impB_0, offB_1, offB_0]; done) | ((try simp only [impB_1, impB_0, offB_1, offB_0]); first | with_reducible exact Sl.ag1 (by assumption) fr_Vc (by with_unfolding_all rfl) (by assumption) en_Vc | with_reducible exact Sl.agN (by assumption) fr_Vc (by with_unfolding_all rfl) (by assumption) (by with_unfolding_all rfl) en_Vc | ((with_reducible refine agL1_e ?_ ?_); (· exact s1_Vc); (· exact fl_Vc)) | ((with_reducible refine agLN_e ?_ ?_); (· exact s1_Vc); (· exact fll_Vc)) | ((with_reducible apply ag_bs); (· exact sM_Vc); (· rfl); (· exact sb_Vc); (· exact fll_Vc)) | ((with_reducible apply ag_al); (· exact sM_Vc); (· rfl); (· exact fll_Vc)) | ((with_reducible apply ag_bx); (· exact sM_Vc); (· rfl); (· rfl); (· exact fll_Vc)) | ((with_reducible apply ag_bd); (· rfl); (· exact s1_Vc); (· exact fll_Vc)) | exact s1_Vc)) : p := h
theorem gs_Vc {r p : Prop} (k : r) (h : Go.Ev.Im r p := by (first | with_reducible apply Im.runS | ((with_reducible apply Im.num); · (simp only [Nat.succ_eq_add_one, Nat.add_assoc, Nat.reduceAdd]; rfl)) | (with_reducible apply Im.unm) | (with_reducible apply Im.selT) | (with_reducible apply Im.selF) | ((with_reducible apply Im.cndT); · assumption) | ((with_reducible apply Im.cndF); · assumption) | ((with_reducible apply Im.cndT); · decide) | ((with_reducible apply Im.cndF); · decide) | ((with_reducible apply Im.cndNT); · decide) | ((with_reducible apply Im.cndNF); · decide) | ((with_reducible apply Im.cndBT); · exact rfl) | ((with_reducible apply Im.cndBF); · exact rfl) | ((with_reducible apply Im.cndNT); · assumption) | ((with_reducible apply Im.cndNF); · assumption) | ((with_reducible apply Im.cndBT); · assumption) | ((with_reducible apply Im.cndBF); · assumption) | ((with_reducible apply Im.bind); · exact op_Vc) | ((with_reducible apply Im.cond); · exact co_Vc) | ((with_reducible apply Im.runB); · exact op_Vc) | ((with_reducible apply Im.runC); · exact co_Vc) | ((with_reducible apply Im.runN); · (simp only [Nat.succ_eq_add_one, Nat.add_assoc, Nat.reduceAdd]; rfl)) | with_reducible apply Im.runR | ((with_reducible apply Im.runE (x := evBuildSlice _ _ _ _ _ _)); · exact sb_Vc)); (repeat (first | with_reducible apply Im.runS | ((with_reducible apply Im.num); · (simp only [Nat.succ_eq_add_one, Nat.add_assoc, Nat.reduceAdd]; rfl)) | (with_reducible apply Im.unm) | (with_reducible apply Im.selT) | (with_reducible apply Im.selF) | ((with_reducible apply Im.cndT); · assumption) | ((with_reducible apply Im.cndF); · assumption) | ((with_reducible apply Im.cndT); · decide) | ((with_reducible apply Im.cndF); · decide) | ((with_reducible apply Im.cndNT); · decide) | ((with_reducible apply Im.cndNF); · decide) | ((with_reducible apply Im.cndBT); · exact rfl) | ((with_reducible apply Im.cndBF); · exact rfl) | ((with_reducible apply Im.cndNT); · assumption) | ((with_reducible apply Im.cndNF); · assumption) | ((with_reducible apply Im.cndBT); · assumption) | ((with_reducible apply Im.cndBF); · assumption) | ((with_reducible apply Im.bind); · exact op_Vc) | ((with_reducible apply Im.cond); · exact co_Vc) | ((with_reducible apply Im.runB); · exact op_Vc) | ((with_reducible apply Im.runC); · exact co_Vc) | ((with_reducible apply Im.runN); · (simp only [Nat.succ_eq_add_one, Nat.add_assoc, Nat.reduceAdd]; rfl)) | with_reducible apply Im.runR | ((with_reducible apply Im.runE (x := evBuildSlice _ _ _ _ _ _)); · exact sb_Vc))); exact Go.Ev.Im.id) : p := h k
/-- A spring and an error, as the law keeps them. -/
structure Zc where
  t : Sp
  b : Value
  r : Value
  e : Int
  cb : flatV b = true
  cr : flatV r = true
instance : Rwc Zc := ⟨10, fun z => [iS z.t.weeks, iS z.t.most, iS z.t.fall, iS z.t.slo, iS z.t.shi, iS z.t.wlo, iS z.t.whi, z.b, z.r, iS z.e], fun _ => rfl, fun z => by
  have x1 := z.cb
  have x2 := z.cr
  repeat (refine flatL_k (by first | rfl | assumption) ?_)
  rfl, by omega⟩
theorem enc_Zc (z : Zc) : Rwc.enc z = [iS z.t.weeks, iS z.t.most, iS z.t.fall, iS z.t.slo, iS z.t.shi, iS z.t.wlo, iS z.t.whi, z.b, z.r, iS z.e] := rfl
section
variable {s : Sp} {b r : Value}
theorem r_tail (d : Nat) {need w was f : Int} {g0 : Int × Int} {rl : Value} {R : List Int} {x : Rd} {z0 z1 : Zc} {h : Tr Ob} {N n0 n1 n2 n3 n4 : Nat}
    (hv : validB s = true) (hb : Sl h N b s.book) (hr : Sl h N r s.reads) (hl : Sl h N rl R) (hRl : R.length < 1000) (hw : 0 ≤ w ∧ w ≤ s.weeks - 1) (hf : f = 6 ∨ f = 0)
    (hsh : ∀ t, Nar s t → validB t = true → canS t = true → shE t (loP need) = 0 → f = 0 ∧ was ≤ shW t (loP need))
    (hg : ∀ t, Nar s t → validB t = true → canS t = true → g0.1 ≤ (gvS t w.toNat).1 ∧ (gvS t w.toNat).2 ≤ g0.2)
    (hR : ∀ t, Nar s t → ∀ q ∈ rainsS t, q ∈ R)
    (hZ : ∀ z ∈ [z0, z1], z.e = 0 → Sl h N z.b z.t.book ∧ Sl h N z.r z.t.reads ∧ Nar s z.t ∧ validB z.t = true)
    (hx : z0.e = 0 → x ∈ z0.t.reads ∧ readB s.weeks x = true)
    (m0 : h.get n0 = some (.c [iS s.weeks, iS s.most, iS s.fall, iS s.slo, iS s.shi, iS s.wlo, iS s.whi, b, r] 27)) (m1 : h.get n1 = some (.c [iS x.Number, iS x.Week, iS x.Bucket, iS x.Songs_Lo, iS x.Songs_Hi] 71)) (m2 : h.get n2 = some (.c [iS g0.1, iS g0.2] 23)) (m3 : h.get n3 = some (.c [iS z0.t.weeks, iS z0.t.most, iS z0.t.fall, iS z0.t.slo, iS z0.t.shi, iS z0.t.wlo, iS z0.t.whi, z0.b, z0.r] 27))
    (hL : Sl h N (.slice (some ⟨n4, 0, none⟩) 2 2) [z0, z1]) (l0 : n0 < N) (l1 : n1 < N) (l2 : n2 < N) (l3 : n3 < N) :
    Rn (T6 (cN (d + 3)) (iS need) n0 n1 (.bool true) (iS w) n2 (iS was) (iS f) rl n3 (iS z0.e) (.slice (some ⟨n4, 0, none⟩) 2 2) (nS 2) h N) fun v h' N' => v = .bool true := by
  have hs := ok_of_valid hv
  have w1 := hs.ok.w1
  have nb : s.book.length < 1000 := by have := hs.nb; omega
  have nr : s.reads.length < 1000 := by have := hs.nr; omega
  unfold T6
  have cb := hb.flat; have cr := hr.flat; have x1 := flatV_one cb; have y1 := cel_flat cb; have x2 := flatV_one cr; have y2 := cel_flat cr
  have c3 := hl.flat
  have x3 := flatV_one c3
  have y3 := cel_flat c3
  refine Rn.loop14 (fun m a1 a2 a3 a4 a5 a6 a7 a8 a9 a10 a11 a12 a13 a14 g M => ∃ k : Nat, a1 = iS need ∧ a2 = .pointer (some ⟨n0, 0, none⟩) ∧ a3 = .pointer (some ⟨n1, 0, none⟩) ∧ a4 = .bool true ∧ a5 = iS w ∧ a6 = .pointer (some ⟨n2, 0, none⟩) ∧ a7 = iS was ∧ a8 = iS f ∧ rl = a9 ∧ a10 = .pointer (some ⟨n3, 0, none⟩) ∧ a11 = iS z0.e ∧ a12 = .slice (some ⟨n4, 0, none⟩) 2 2 ∧ a13 = nS 2 ∧ a14 = nS k ∧ k + m = 2 ∧ Fr h N g ∧ N ≤ M) 2 (by omega) ⟨0, rfl, rfl, rfl, rfl, rfl, rfl, rfl, rfl, rfl, rfl, rfl, rfl, rfl, rfl, by omega, fr_Vc, by omega⟩ ?_
  rintro m g ih _ _ _ _ _ _ _ _ _ _ _ _ _ _ h2 N2 ⟨k, rfl, rfl, rfl, rfl, rfl, rfl, rfl, rfl, rfl, rfl, rfl, rfl, rfl, rfl, e2, f2, l4⟩
  have p0 := (f2 _ l0).trans m0
  have p1 := (f2 _ l1).trans m1
  have p2 := (f2 _ l2).trans m2
  have p3 := (f2 _ l3).trans m3
  clear m0 m1 m2 m3
  try refine gs_Vc ?_
  (first | with_reducible refine Rn.cnd (fun _ => ?_) (fun _ => ?_) | with_reducible refine Rn.cndN (fun _ => ?_) (fun _ => ?_) | with_reducible refine Rn.cndB (fun _ => ?_) (fun _ => ?_))
  · obtain ⟨z, hz⟩ := at_of (L := [z0, z1]) (k := k) (by simp; omega)
    have hk : k < [z0, z1].length := by simp; omega
    have gz := hZ z (List.mem_of_getElem? hz)
    unfold jnR
    have c4 := z.cb
    have x4 := flatV_one c4
    have y4 := cel_flat c4
    have c5 := z.cr
    have x5 := flatV_one c5
    have y5 := cel_flat c5
    try refine gs_Vc ?_
    (first | with_reducible refine Rn.cnd (fun _ => ?_) (fun _ => ?_) | with_reducible refine Rn.cndN (fun _ => ?_) (fun _ => ?_) | with_reducible refine Rn.cndB (fun _ => ?_) (fun _ => ?_))
    · try refine gs_Vc ?_
      exact ih (m - 1) (by omega) _ _ _ _ _ _ _ _ _ _ _ _ _ _ _ _ ⟨k + 1, rfl, rfl, rfl, rfl, rfl, rfl, rfl, rfl, rfl, rfl, rfl, rfl, rfl, rfl, by omega, fr_Vc, by omega⟩
    · obtain ⟨hb', hr', hn, hvz⟩ := gz (by omega)
      clear gz
      have hsz := ok_of_valid hvz
      have nb' : z.t.book.length < 1000 := by have := hsz.nb; omega
      have nr' : z.t.reads.length < 1000 := by have := hsz.nr; omega
      have hwz : 0 ≤ w ∧ w ≤ z.t.weeks - 1 := by rw [hn.w]; exact hw
      try refine gs_Vc ?_
      refine Rn.call (c_Can d nb' nr' (Sl.up (by assumption) fr_Vc (by omega)) (Sl.up (by assumption) fr_Vc (by omega))) ?_
      rintro _ h3 N3 ⟨rfl, f3, o3, k3⟩
      rw [hvz]
      cases hcz : canS z.t with
      | false =>
        try refine gs_Vc ?_
        exact ih (m - 1) (by omega) _ _ _ _ _ _ _ _ _ _ _ _ _ _ _ _ ⟨k + 1, rfl, rfl, rfl, rfl, rfl, rfl, rfl, rfl, rfl, rfl, rfl, rfl, rfl, rfl, by omega, fr_Vc, by omega⟩
      | true =>
        have qg := hg z.t hn hvz hcz
        have qs := hsh z.t hn hvz hcz
        have qr := hR z.t hn
        have q0 := sh_two (p := loP need) hvz hcz
        have qb := gv_bd hsz (w := w.toNat) (by omega) hcz
        have q1 : erS z.t w = 0 := er_0 hvz hcz hwz
        have q2 : gE z.t w = gvS z.t w.toNat := if_pos q1
        have q3 : rnE z.t = 0 := by unfold rnE; rw [beg_c, hvz, hcz]; rfl
        have q4 : rnL z.t = rainsS z.t := if_pos q3
        have q5 := rains_len hsz
        try refine gs_Vc ?_
        refine Rn.call (c_Gives d nb' nr' (Sl.up (by assumption) fr_Vc (by omega)) (Sl.up (by assumption) fr_Vc (by omega))) ?_
        rintro _ h4 N4 ⟨rfl, f4, o4, k4⟩
        rw [q1, q2]
        generalize gvS z.t w.toNat = gz at *
        try refine gs_Vc ?_
        refine Rn.call (c_Fails d nb' nr' (Sl.up (by assumption) fr_Vc (by omega)) (Sl.up (by assumption) fr_Vc (by omega))) ?_
        rintro _ h5 N5 ⟨rfl, f5, o5, k5⟩
        generalize shE z.t (loP need) = fz at *
        generalize shW z.t (loP need) = wz at *
        try refine gs_Vc ?_
        refine Rn.call (c_Rains d nb' nr' (Sl.up (by assumption) fr_Vc (by omega)) (Sl.up (by assumption) fr_Vc (by omega))) ?_
        rintro _ h6 N6 ⟨⟨q, rfl, hq⟩, f6, o6, k6⟩
        rw [q4] at hq
        rw [q3]
        have c6 := hq.flat
        have x6 := flatV_one c6
        have y6 := cel_flat c6
        clear q1 q2 q3 q4
        try refine gs_Vc ?_
        refine Rn.call (c_lwithin _) ?_
        rintro _ h7 N7 ⟨rfl, f7, o7, k7⟩
        have qw : withB gz.1 gz.2 g0.1 g0.2 = true := by
          unfold withB
          simp only [Bool.and_eq_true, decide_eq_true_eq]
          omega
        rw [qw]
        rcases q0 with rfl | rfl
        · try refine gs_Vc ?_
          refine Rn.loop17 (fun u a1 a2 a3 a4 a5 a6 a7 a8 a9 a10 a11 a12 a13 a14 a15 a16 a17 g' M' => ∃ j : Nat, a1 = iS need ∧ a2 = .pointer (some ⟨n0, 0, none⟩) ∧ a3 = .pointer (some ⟨n1, 0, none⟩) ∧ a4 = .bool true ∧ a5 = iS w ∧ a6 = .pointer (some ⟨n2, 0, none⟩) ∧ a7 = iS was ∧ a8 = iS f ∧ rl = a9 ∧ a10 = .pointer (some ⟨n3, 0, none⟩) ∧ a11 = iS z0.e ∧ a12 = .slice (some ⟨n4, 0, none⟩) 2 2 ∧ a13 = nS 2 ∧ a14 = nS k ∧ q = a15 ∧ a16 = nS (rainsS z.t).length ∧ a17 = nS j ∧ j + u = (rainsS z.t).length ∧ Fr h N g' ∧ Fr h6 N6 g' ∧ N6 ≤ M') (rainsS z.t).length (by omega) ⟨0, rfl, rfl, rfl, rfl, rfl, rfl, rfl, rfl, rfl, rfl, rfl, rfl, rfl, rfl, rfl, rfl, rfl, by omega, fr_Vc, fr_Vc, by omega⟩ ?_
          rintro u g' ih' _ _ _ _ _ _ _ _ _ _ _ _ _ _ _ _ _ h8 N8 ⟨j, rfl, rfl, rfl, rfl, rfl, rfl, rfl, rfl, rfl, rfl, rfl, rfl, rfl, rfl, rfl, rfl, rfl, e8, f8, f9, k8⟩
          try refine gs_Vc ?_
          (first | with_reducible refine Rn.cnd (fun _ => ?_) (fun _ => ?_) | with_reducible refine Rn.cndN (fun _ => ?_) (fun _ => ?_) | with_reducible refine Rn.cndB (fun _ => ?_) (fun _ => ?_))
          · obtain ⟨y, hy⟩ := at_of (L := rainsS z.t) (k := j) (by omega)
            have hj : j < (rainsS z.t).length := by omega
            have hyR := qr y (List.mem_of_getElem? hy)
            try refine gs_Vc ?_
            refine Rn.call (c_has _ hRl (Sl.up (by assumption) fr_Vc (by omega))) ?_
            rintro _ h10 N10 ⟨rfl, f10, o10, k10⟩
            rw [decide_eq_true hyR]
            try refine gs_Vc ?_
            exact ih' (u - 1) (by omega) _ _ _ _ _ _ _ _ _ _ _ _ _ _ _ _ _ _ _ ⟨j + 1, rfl, rfl, rfl, rfl, rfl, rfl, rfl, rfl, rfl, rfl, rfl, rfl, rfl, rfl, rfl, rfl, rfl, by omega, fr_Vc, fr_Vc, by omega⟩
          · try refine gs_Vc ?_
            exact ih (m - 1) (by omega) _ _ _ _ _ _ _ _ _ _ _ _ _ _ _ _ ⟨k + 1, rfl, rfl, rfl, rfl, rfl, rfl, rfl, rfl, rfl, rfl, rfl, rfl, rfl, rfl, by omega, fr_Vc, by omega⟩
        · obtain ⟨rfl, qs⟩ := qs rfl
          have qn : ¬ wz < was := by omega
          try refine gs_Vc ?_
          refine Rn.loop17 (fun u a1 a2 a3 a4 a5 a6 a7 a8 a9 a10 a11 a12 a13 a14 a15 a16 a17 g' M' => ∃ j : Nat, a1 = iS need ∧ a2 = .pointer (some ⟨n0, 0, none⟩) ∧ a3 = .pointer (some ⟨n1, 0, none⟩) ∧ a4 = .bool true ∧ a5 = iS w ∧ a6 = .pointer (some ⟨n2, 0, none⟩) ∧ a7 = iS was ∧ a8 = iS 0 ∧ rl = a9 ∧ a10 = .pointer (some ⟨n3, 0, none⟩) ∧ a11 = iS z0.e ∧ a12 = .slice (some ⟨n4, 0, none⟩) 2 2 ∧ a13 = nS 2 ∧ a14 = nS k ∧ q = a15 ∧ a16 = nS (rainsS z.t).length ∧ a17 = nS j ∧ j + u = (rainsS z.t).length ∧ Fr h N g' ∧ Fr h6 N6 g' ∧ N6 ≤ M') (rainsS z.t).length (by omega) ⟨0, rfl, rfl, rfl, rfl, rfl, rfl, rfl, rfl, rfl, rfl, rfl, rfl, rfl, rfl, rfl, rfl, rfl, by omega, fr_Vc, fr_Vc, by omega⟩ ?_
          rintro u g' ih' _ _ _ _ _ _ _ _ _ _ _ _ _ _ _ _ _ h8 N8 ⟨j, rfl, rfl, rfl, rfl, rfl, rfl, rfl, rfl, rfl, rfl, rfl, rfl, rfl, rfl, rfl, rfl, rfl, e8, f8, f9, k8⟩
          try refine gs_Vc ?_
          (first | with_reducible refine Rn.cnd (fun _ => ?_) (fun _ => ?_) | with_reducible refine Rn.cndN (fun _ => ?_) (fun _ => ?_) | with_reducible refine Rn.cndB (fun _ => ?_) (fun _ => ?_))
          · obtain ⟨y, hy⟩ := at_of (L := rainsS z.t) (k := j) (by omega)
            have hj : j < (rainsS z.t).length := by omega
            have hyR := qr y (List.mem_of_getElem? hy)
            try refine gs_Vc ?_
            refine Rn.call (c_has _ hRl (Sl.up (by assumption) fr_Vc (by omega))) ?_
            rintro _ h10 N10 ⟨rfl, f10, o10, k10⟩
            rw [decide_eq_true hyR]
            try refine gs_Vc ?_
            exact ih' (u - 1) (by omega) _ _ _ _ _ _ _ _ _ _ _ _ _ _ _ _ _ _ _ ⟨j + 1, rfl, rfl, rfl, rfl, rfl, rfl, rfl, rfl, rfl, rfl, rfl, rfl, rfl, rfl, rfl, rfl, rfl, by omega, fr_Vc, fr_Vc, by omega⟩
          · try refine gs_Vc ?_
            exact ih (m - 1) (by omega) _ _ _ _ _ _ _ _ _ _ _ _ _ _ _ _ ⟨k + 1, rfl, rfl, rfl, rfl, rfl, rfl, rfl, rfl, rfl, rfl, rfl, rfl, rfl, rfl, by omega, fr_Vc, by omega⟩
  · try refine gs_Vc ?_
    (first | with_reducible refine Rn.cnd (fun _ => ?_) (fun _ => ?_) | with_reducible refine Rn.cndN (fun _ => ?_) (fun _ => ?_) | with_reducible refine Rn.cndB (fun _ => ?_) (fun _ => ?_))
    · try refine gs_Vc ?_
      exact Rn.ret rfl
    · obtain ⟨hx1, hx2⟩ := hx (by omega)
      obtain ⟨hb', hr', hn, hvz⟩ := hZ z0 (by simp) (by omega)
      have hsz := ok_of_valid hvz
      have nb' : z0.t.book.length < 1000 := by have := hsz.nb; omega
      have nr' : z0.t.reads.length < 1000 := by have := hsz.nr; omega
      have c4 := z0.cb
      have x4 := flatV_one c4
      have y4 := cel_flat c4
      have c5 := z0.cr
      have x5 := flatV_one c5
      have y5 := cel_flat c5
      have hwx : 0 ≤ x.Week ∧ x.Week ≤ s.weeks - 1 := by
        have := okR_of (s := s) hx2
        exact ⟨this.w1, this.w2⟩
      try refine gs_Vc ?_
      refine Rn.call (c_Read d nb nr (Sl.up (by assumption) fr_Vc (by omega)) (Sl.up (by assumption) fr_Vc (by omega))) ?_
      rintro _ h3 N3 ⟨rfl, f3, o3, k3⟩
      try refine gs_Vc ?_
      refine Rn.call (c_Gives d nb' nr' (Sl.up (by assumption) fr_Vc (by omega)) (Sl.up (by assumption) fr_Vc (by omega))) ?_
      rintro _ h4 N4 ⟨rfl, f4, o4, k4⟩
      have q1 : erS z0.t x.Week = if canS z0.t then 0 else 8 := by
        have : isWeekB z0.t.weeks x.Week = true := by simp only [isWeekB, inS, Bool.and_eq_true, decide_eq_true_eq]; rw [hn.w]; exact hwx
        rw [er_eq, hvz, this]; rfl
      cases hcz : canS z0.t with
      | false =>
        rw [hcz] at q1
        have q2 : erS z0.t x.Week = 8 := q1
        rw [q2]
        try refine gs_Vc ?_
        exact Rn.ret rfl
      | true =>
        rw [hcz] at q1
        have q2 : erS z0.t x.Week = 0 := q1
        have q3 : gE z0.t x.Week = gvS z0.t x.Week.toNat := if_pos q2
        have q4 := told_gv hvz hx1 hcz (by rw [hn.w]; exact hwx)
        have q5 := gv_bd hsz (w := x.Week.toNat) (by rw [hn.w]; omega) hcz
        rw [told_nar hn] at q4
        have q6 : reE s x = 0 := by
          have : beginS s (rdA x) [3] = if validB s then (if readB s.weeks x then 0 else errN 3) else 10 := rfl
          unfold reE
          rw [this, hv, hx2, if_pos rfl, if_pos rfl, if_pos rfl, if_neg (by omega)]
        have q7 : reG s x = toldB s x := if_pos q6
        rw [q2, q3, q6]
        try refine gs_Vc ?_
        refine Rn.call (c_lwithin _) ?_
        rintro _ h7 N7 ⟨rfl, f7, o7, k7⟩
        have qw : withB (gvS z0.t x.Week.toNat).1 (gvS z0.t x.Week.toNat).2 (toldB s x).1 (toldB s x).2 = true := by
          unfold withB
          simp only [Bool.and_eq_true, decide_eq_true_eq]
          omega
        rw [qw]
        try refine gs_Vc ?_
        exact Rn.ret rfl
end
end Go.Proofs.Ytpilgokdbliklaa
end

section
namespace Go.Proofs.Ytpilgokdbliklaa
open Go.Ev Go.RowKit
set_option linter.unusedVariables false
set_option linter.unusedSimpArgs false
set_option linter.unusedSectionVars false
set_option maxRecDepth 100000
set_option maxHeartbeats 4000000
theorem s1_Vd {p : Prop} (h : p := by (simp (disch := omega) only [obind_s, orun_s, ocond_t, fad_p, ld1_e, ldN_e, sto_e, cellO_c, wrO_c, Tr.get_same, Tr.get_other, nth_0, nth_s, drp_0, drp_s, drp_n, tak_0, tak_s, tak_n, over_n, over_c, lay_0, lay_s, lay_n, len_n, len_c, app_n, app_c, reps_0, reps_s, cel_agg, cel_int, cel_bool, cel_str, cel_sl, cel_ptr, cel_map, cel_func, cel_nilf, fil_n, fil_c, beq_r, ble_d, allF_n, allF_c, one_int, one_bool, one_str, one_sl, one_ptr, one_map, one_func, one_nilf, Bool.and_true, Bool.true_and, Bool.not_true, Bool.not_false, iadA_z, Int.reduceToNat, Int.toNat_zero, fl1_a, flN_a, extr_t, unot, not_d, Nat.add_eq, Nat.mul_eq, Nat.mul_one, Nat.one_mul, Nat.zero_mul, Nat.reduceMul, Nat.zero_add, Nat.add_zero, Nat.le_refl, decide_true, Nat.reduceAdd, Nat.reduceLeDiff, bld_Z, bsl_SZ, bsl_Sint, bsl_SReading, bsl_SLine, bld_Span, bld_spring_work, bld_spring_asked, enc_Line, enc_Reading, ocond_d, Int.toNat_natCast, *]); first | done | fail) : p := h
theorem s2_Vd {p : Prop} (h : p := by (simp (disch := omega) only [obind_s, orun_s, ocond_t, fad_p, ld1_e, ldN_e, sto_e, cellO_c, wrO_c, Tr.get_same, Tr.get_other, nth_0, nth_s, drp_0, drp_s, drp_n, tak_0, tak_s, tak_n, over_n, over_c, lay_0, lay_s, lay_n, len_n, len_c, app_n, app_c, reps_0, reps_s, cel_agg, cel_int, cel_bool, cel_str, cel_sl, cel_ptr, cel_map, cel_func, cel_nilf, fil_n, fil_c, beq_r, ble_d, allF_n, allF_c, one_int, one_bool, one_str, one_sl, one_ptr, one_map, one_func, one_nilf, Bool.and_true, Bool.true_and, Bool.not_true, Bool.not_false, iadA_z, Int.reduceToNat, Int.toNat_zero, fl1_a, flN_a, extr_t, unot, not_d, Nat.add_eq, Nat.mul_eq, Nat.mul_one, Nat.one_mul, Nat.zero_mul, Nat.reduceMul, Nat.zero_add, Nat.add_zero, Nat.le_refl, decide_true, Nat.reduceAdd, Nat.reduceLeDiff, bld_Z, bsl_SZ, bsl_Sint, bsl_SReading, bsl_SLine, bld_Span, bld_spring_work, bld_spring_asked, enc_Line, enc_Reading, ocond_d, Int.toNat_natCast, *]); rfl) : p := h
theorem sb_Vd {p : Prop} (h : p := by first | ((simp (disch := omega) only [obind_s, orun_s, ocond_t, fad_p, ld1_e, ldN_e, sto_e, cellO_c, wrO_c, Tr.get_same, Tr.get_other, nth_0, nth_s, drp_0, drp_s, drp_n, tak_0, tak_s, tak_n, over_n, over_c, lay_0, lay_s, lay_n, len_n, len_c, app_n, app_c, reps_0, reps_s, cel_agg, cel_int, cel_bool, cel_str, cel_sl, cel_ptr, cel_map, cel_func, cel_nilf, fil_n, fil_c, beq_r, ble_d, allF_n, allF_c, one_int, one_bool, one_str, one_sl, one_ptr, one_map, one_func, one_nilf, Bool.and_true, Bool.true_and, Bool.not_true, Bool.not_false, iadA_z, Int.reduceToNat, Int.toNat_zero, fl1_a, flN_a, extr_t, unot, not_d, Nat.add_eq, Nat.mul_eq, Nat.mul_one, Nat.one_mul, Nat.zero_mul, Nat.reduceMul, Nat.zero_add, Nat.add_zero, Nat.le_refl, decide_true, Nat.reduceAdd, Nat.reduceLeDiff, bld_Z, bsl_SZ, bsl_Sint, bsl_SReading, bsl_SLine, bld_Span, bld_spring_work, bld_spring_asked, enc_Line, enc_Reading, ocond_d, Int.toNat_natCast, Nat.succ_eq_add_one, Nat.add_assoc, *]); rfl) | ((simp (disch := omega) only [obind_s, orun_s, ocond_t, fad_p, ld1_e, ldN_e, sto_e, cellO_c, wrO_c, Tr.get_same, Tr.get_other, nth_0, nth_s, drp_0, drp_s, drp_n, tak_0, tak_s, tak_n, over_n, over_c, lay_0, lay_s, lay_n, len_n, len_c, app_n, app_c, reps_0, reps_s, cel_agg, cel_int, cel_bool, cel_str, cel_sl, cel_ptr, cel_map, cel_func, cel_nilf, fil_n, fil_c, beq_r, ble_d, allF_n, allF_c, one_int, one_bool, one_str, one_sl, one_ptr, one_map, one_func, one_nilf, Bool.and_true, Bool.true_and, Bool.not_true, Bool.not_false, iadA_z, Int.reduceToNat, Int.toNat_zero, fl1_a, flN_a, extr_t, unot, not_d, Nat.add_eq, Nat.mul_eq, Nat.mul_one, Nat.one_mul, Nat.zero_mul, Nat.reduceMul, Nat.zero_add, Nat.add_zero, Nat.le_refl, decide_true, Nat.reduceAdd, Nat.reduceLeDiff, bld_Z, bsl_SZ, bsl_Sint, bsl_SReading, bsl_SLine, bld_Span, bld_spring_work, bld_spring_asked, enc_Line, enc_Reading, ocond_d, Int.toNat_natCast, Nat.succ_eq_add_one, Nat.add_assoc, *]); done)) : p := h
theorem fr_Vd {p : Prop} (h : p := by first | assumption | exact Fr.refl _ _ | (simp (disch := omega) only [Fr_set, Fr_refl, *])) : p := h
theorem fl_Vd {p : Prop} (h : p := by first | with_unfolding_all rfl | exact Sl.flat (by assumption) | assumption) : p := h
theorem fll_Vd {p : Prop} (h : p := by first | with_unfolding_all rfl | ((repeat (refine flatL_k fl_Vd ?_)); with_unfolding_all rfl)) : p := h
theorem en_Vd {p : Prop} (h : p := by first | ((simp only [enc_int, enc_str, enc_u8, enc_bool, tak_s, tak_0, tak_n, drp_0, drp_s, drp_n, nth_s, nth_0, bld_Z, bsl_SZ, bsl_Sint, bsl_SReading, bsl_SLine, bld_Span, bld_spring_work, bld_spring_asked, enc_Line, enc_Reading, ocond_d, Int.toNat_natCast]); rfl) | ((simp only [enc_int, enc_str, enc_u8, enc_bool, tak_s, tak_0, tak_n, drp_0, drp_s, drp_n, nth_s, nth_0, bld_Z, bsl_SZ, bsl_Sint, bsl_SReading, bsl_SLine, bld_Span, bld_spring_work, bld_spring_asked, enc_Line, enc_Reading, ocond_d, Int.toNat_natCast]); done) | with_unfolding_all rfl) : p := h
theorem sM_Vd {p : Prop} (h : p := by (first | assumption | (simp (disch := omega) only [Tr.get_same, Tr.get_other, *]; rfl) | (simp (disch := omega) only [Tr.get_same, Tr.get_other, *]; done))) : p := h
theorem sS_Vd {p : Prop} (h : p := by first | assumption | exact s1_Vd) : p := h
theorem op_Vd {p : Prop} (h : p := by first | with_reducible exact fad_p _ _ _ | with_reducible exact iop_lss _ _ | with_reducible exact iop_leq _ _ | with_reducible exact iop_gtr _ _ | with_reducible exact iop_geq _ _ | with_reducible exact iop_eql _ _ | with_reducible exact iop_neq _ _ | with_reducible exact Sl.len (by assumption) | with_reducible exact lenS_s _ _ _ | with_reducible exact Sl.iad (by assumption) (by with_unfolding_all rfl) (by first | assumption | omega) | with_reducible exact Sl.fad (by assumption) (by first | assumption | omega) | with_reducible exact Sl.ld1 (by assumption) fr_Vd (by with_unfolding_all rfl) (by assumption) en_Vd | with_reducible exact Sl.ldN (by assumption) fr_Vd (by with_unfolding_all rfl) (by assumption) (by with_unfolding_all rfl) en_Vd | with_reducible exact zadd1 (by omega) | with_reducible exact zsub1 (by omega) (by omega) | with_reducible exact zaddI (by omega) (by omega) | with_reducible exact zsubI (by omega) (by omega) | with_reducible exact min_z | with_reducible exact max_z | with_reducible exact zmulI (by assumption) | with_reducible exact zmulK (by omega) (by omega) | with_reducible exact quo_z (by omega) (by omega) (by omega) | with_reducible exact cv_u8 (by omega) | with_reducible exact rem_z (by omega) (by omega) (by omega) | with_reducible exact neq_bool (by kernel_rfl) | with_reducible exact eql_u8 | with_reducible exact wntT_t (by assumption) | with_reducible exact wntT_f (by assumption) | with_reducible exact wntF_t (by assumption) | with_reducible exact wntF_f (by assumption) | with_reducible exact wnt_tt | with_reducible exact wnt_tf | with_reducible exact wnt_ft | with_reducible exact wnt_ff | with_reducible exact wnt_u _ _ | with_reducible exact pck_t _ _ | with_reducible exact pck_f _ _ | with_reducible exact pckT (by assumption) | with_reducible exact pckF (by assumption) | with_reducible exact wntT_t (by decide) | with_reducible exact wntT_f (by decide) | with_reducible exact wntF_t (by decide) | with_reducible exact wntF_f (by decide) | with_reducible exact pckT (by decide) | with_reducible exact pckF (by decide) | with_reducible exact wntN_tt (by decide) | with_reducible exact wntN_tf (by decide) | with_reducible exact wntN_ft (by decide) | with_reducible exact wntN_ff (by decide) | with_reducible exact pckNT (by decide) | with_reducible exact pckNF (by decide) | with_reducible exact wntN_tt (by assumption) | with_reducible exact wntN_tf (by assumption) | with_reducible exact wntN_ft (by assumption) | with_reducible exact wntN_ff (by assumption) | with_reducible exact pckNT (by assumption) | with_reducible exact pckNF (by assumption) | with_reducible exact wntB_tt (by assumption) | with_reducible exact wntB_tf (by assumption) | with_reducible exact wntB_ft (by assumption) | with_reducible exact wntB_ff (by assumption) | with_reducible exact pckBT (by assumption) | with_reducible exact pckBF (by assumption) | exact s2_Vd | exact s1_Vd) : p := h
theorem co_Vd {p : Prop} (h : p := by first | (simp only [impB_1, impB_0, offB_1, offB_0]; done) | ((try simp only [impB_1, impB_0, offB_1, offB_0]); first | with_reducible exact Sl.ag1 (by assumption) fr_Vd (by with_unfolding_all rfl) (by assumption) en_Vd | with_reducible exact Sl.agN (by assumption) fr_Vd (by with_unfolding_all rfl) (by assumption) (by with_unfolding_all rfl) en_Vd | ((with_reducible refine agL1_e ?_ ?_); (· exact s1_Vd); (· exact fl_Vd)) | ((with_reducible refine agLN_e ?_ ?_); (· exact s1_Vd); (· exact fll_Vd)) | ((with_reducible apply ag_bs); (· exact sM_Vd); (· rfl); (· exact sb_Vd); (· exact fll_Vd)) | ((with_reducible apply ag_al); (· exact sM_Vd); (· rfl); (· exact fll_Vd)) | ((with_reducible apply ag_bx); (· exact sM_Vd); (· rfl); (· rfl); (· exact fll_Vd)) | ((with_reducible apply ag_bd); (· rfl); (· exact s1_Vd); (· exact fll_Vd)) | exact s1_Vd)) : p := h
theorem gs_Vd {r p : Prop} (k : r) (h : Go.Ev.Im r p := by (first | with_reducible apply Im.runS | ((with_reducible apply Im.num); · (simp only [Nat.succ_eq_add_one, Nat.add_assoc, Nat.reduceAdd]; rfl)) | (with_reducible apply Im.unm) | (with_reducible apply Im.selT) | (with_reducible apply Im.selF) | ((with_reducible apply Im.cndT); · assumption) | ((with_reducible apply Im.cndF); · assumption) | ((with_reducible apply Im.cndT); · decide) | ((with_reducible apply Im.cndF); · decide) | ((with_reducible apply Im.cndNT); · decide) | ((with_reducible apply Im.cndNF); · decide) | ((with_reducible apply Im.cndBT); · exact rfl) | ((with_reducible apply Im.cndBF); · exact rfl) | ((with_reducible apply Im.cndNT); · assumption) | ((with_reducible apply Im.cndNF); · assumption) | ((with_reducible apply Im.cndBT); · assumption) | ((with_reducible apply Im.cndBF); · assumption) | ((with_reducible apply Im.bind); · exact op_Vd) | ((with_reducible apply Im.cond); · exact co_Vd) | ((with_reducible apply Im.runB); · exact op_Vd) | ((with_reducible apply Im.runC); · exact co_Vd) | ((with_reducible apply Im.runN); · (simp only [Nat.succ_eq_add_one, Nat.add_assoc, Nat.reduceAdd]; rfl)) | with_reducible apply Im.runR | ((with_reducible apply Im.runE (x := evBuildSlice _ _ _ _ _ _)); · exact sb_Vd)); (repeat (first | with_reducible apply Im.runS | ((with_reducible apply Im.num); · (simp only [Nat.succ_eq_add_one, Nat.add_assoc, Nat.reduceAdd]; rfl)) | (with_reducible apply Im.unm) | (with_reducible apply Im.selT) | (with_reducible apply Im.selF) | ((with_reducible apply Im.cndT); · assumption) | ((with_reducible apply Im.cndF); · assumption) | ((with_reducible apply Im.cndT); · decide) | ((with_reducible apply Im.cndF); · decide) | ((with_reducible apply Im.cndNT); · decide) | ((with_reducible apply Im.cndNF); · decide) | ((with_reducible apply Im.cndBT); · exact rfl) | ((with_reducible apply Im.cndBF); · exact rfl) | ((with_reducible apply Im.cndNT); · assumption) | ((with_reducible apply Im.cndNF); · assumption) | ((with_reducible apply Im.cndBT); · assumption) | ((with_reducible apply Im.cndBF); · assumption) | ((with_reducible apply Im.bind); · exact op_Vd) | ((with_reducible apply Im.cond); · exact co_Vd) | ((with_reducible apply Im.runB); · exact op_Vd) | ((with_reducible apply Im.runC); · exact co_Vd) | ((with_reducible apply Im.runN); · (simp only [Nat.succ_eq_add_one, Nat.add_assoc, Nat.reduceAdd]; rfl)) | with_reducible apply Im.runR | ((with_reducible apply Im.runE (x := evBuildSlice _ _ _ _ _ _)); · exact sb_Vd))); exact Go.Ev.Im.id) : p := h k
theorem bld_Z (v : List (Nat × Value)) : evBuild Pr 79 v = obind (fil (fun i => nth [(0, 9), (9, 1)] i) v [.int .i64 0, .int .i64 0, .int .i64 0, .int .i64 0, .int .i64 0, .int .i64 0, .int .i64 0, .slice none 0 0, .slice none 0 0, .int .i64 0]) fun cs => some (.agg ⟨cs⟩) := by kernel_rfl
theorem bsl_SZ (m : Nat) (ps : List (Nat × Value)) (h : Tr Ob) (N : Nat) : evBuildSlice Pr 80 m ps h N = ocond (Nat.ble (Nat.mul m 10) 16777216) (obind (fil (fun i => some (Nat.mul i 10, 10)) ps (reps [.int .i64 0, .int .i64 0, .int .i64 0, .int .i64 0, .int .i64 0, .int .i64 0, .int .i64 0, .slice none 0 0, .slice none 0 0, .int .i64 0] m)) fun cs => some (.slice (some ⟨N, 0, none⟩) m m, h.set (some (.c cs 79)) N, Nat.succ N)) := by kernel_rfl
section
variable {s : Sp} {b r : Value}
theorem r_more (d : Nat) {x : Rd} {y : Ln} {p need : Int} {h N} (hb : Sl h N b s.book) (hr : Sl h N r s.reads) (hp : 0 ≤ p ∧ p < 256) :
    Rn (s6 (cN (d + 3)) (.agg ⟨[iS s.weeks, iS s.most, iS s.fall, iS s.slo, iS s.shi, iS s.wlo, iS s.whi, b, r]⟩) (.agg ⟨[iS x.Number, iS x.Week, iS x.Bucket, iS x.Songs_Lo, iS x.Songs_Hi]⟩) (.agg ⟨[iS y.Rain_Lo, iS y.Rain_Hi, iS y.Week, iS y.Gives_Lo, iS y.Gives_Hi]⟩) (.int .u8 p) (iS need) h N) fun v h' N' => v = .bool true := by
  unfold s6
  have cb := hb.flat; have cr := hr.flat; have x1 := flatV_one cb; have y1 := cel_flat cb; have x2 := flatV_one cr; have y2 := cel_flat cr
  try refine gs_Vd ?_
  refine Rn.runE (show X28 _ [] _ _ = some (.bool true, _, _) from rfl) ?_
  try refine gs_Vd ?_
  refine Rn.call (c_ready _ (Sl.up (by assumption) fr_Vd (by omega)) (Sl.up (by assumption) fr_Vd (by omega))) ?_
  rintro _ h1 N1 ⟨rfl, f1, o1, l1⟩
  try refine gs_Vd ?_
  refine Rn.partN (fun hrd => ?_) (fun hrd => ?_)
  rotate_left
  · try refine gs_Vd ?_
    exact Rn.ret rfl
  obtain ⟨hv, nb, nr⟩ := ready_ok hrd
  have hs := ok_of_valid hv
  try refine gs_Vd ?_
  refine Rn.call (c_rTrue _ hs (Sl.up (by assumption) fr_Vd (by omega)) (Sl.up (by assumption) fr_Vd (by omega))) ?_
  rintro _ h2 N2 ⟨rfl, f2, o2, l2⟩
  try refine gs_Vd ?_
  refine Rn.partN (fun hc => ?_) (fun hc => ?_)
  rotate_left
  · try refine gs_Vd ?_
    exact Rn.ret rfl
  have w1 := hs.ok.w1
  have w2 := hs.ok.w2
  have u1 := Int.emod_nonneg p (b := s.weeks) (by omega)
  have u2 := Int.emod_lt_of_pos p (b := s.weeks) (by omega)
  try refine gs_Vd ?_
  generalize p % s.weeks = w at u1 u2 ⊢
  refine Rn.call (c_next _ nb nr (Sl.up (by assumption) fr_Vd (by omega)) (Sl.up (by assumption) fr_Vd (by omega))) ?_
  rintro _ h3 N3 ⟨rfl, f3, o3, l3⟩
  obtain ⟨x', hx'⟩ : ∃ x' : Rd, x' = { x with Number := nxL 1 s.reads } := ⟨_, rfl⟩
  have j1 : nxL 1 s.reads = x'.Number := by rw [hx']
  have j2 : x.Week = x'.Week := by rw [hx']
  have j3 : x.Bucket = x'.Bucket := by rw [hx']
  have j4 : x.Songs_Lo = x'.Songs_Lo := by rw [hx']
  have j5 : x.Songs_Hi = x'.Songs_Hi := by rw [hx']
  rw [j1]
  clear hx'
  try refine gs_Vd ?_
  refine Rn.call (c_Gives d nb nr (Sl.up (by assumption) fr_Vd (by omega)) (Sl.up (by assumption) fr_Vd (by omega))) ?_
  rintro _ h4 N4 ⟨rfl, f4, o4, l4⟩
  have e1 : erS s w = 0 := er_0 hv hc ⟨u1, by omega⟩
  have e2 : gE s w = gvS s w.toNat := if_pos e1
  rw [e1, e2]
  clear e1 e2
  try refine gs_Vd ?_
  refine Rn.call (c_Fails d nb nr (Sl.up (by assumption) fr_Vd (by omega)) (Sl.up (by assumption) fr_Vd (by omega))) ?_
  rintro _ h5 N5 ⟨rfl, f5, o5, l5⟩
  have hA : adE s x' = 0 ∨ (adE s x' = 9 ∧ ¬ (s.reads.length : Int) < 12) ∨ (adE s x' = 12 ∧ readB s.weeks x' = false) := by
    rcases ad_three (x := x') hv with ⟨e, _⟩ | ⟨e, e'⟩ | ⟨e, e', e''⟩
    · exact .inl e
    · exact .inr (.inl ⟨e, by omega⟩)
    · refine .inr (.inr ⟨e, ?_⟩)
      cases hq : readB s.weeks x' with
      | false => rfl
      | true => rw [ad_right hv hq j1.symm e'] at e''; cases e''
  have hA0 : adE s x' = 0 → Nar s (adR s x') ∧ validB (adR s x') = true ∧ x' ∈ (adR s x').reads ∧ readB s.weeks x' = true := by
    intro he
    have e : adR s x' = adS s x' := if_pos he
    rcases ad_three (x := x') hv with ⟨_, e'⟩ | ⟨e', _⟩ | ⟨e', _⟩
    · rw [e]; exact ⟨add_nar s x', e', ins_mem.2 (.inl rfl), read_of_ad e'⟩
    · omega
    · omega
  have hB : wrE s y = 0 ∨ (wrE s y = 9 ∧ ¬ (s.book.length : Int) < 8) ∨ wrE s y = 13 := by
    rcases wr_three (x := y) hv with ⟨e, _⟩ | ⟨e, e'⟩ | ⟨e, _, _⟩
    · exact .inl e
    · exact .inr (.inl ⟨e, by omega⟩)
    · exact .inr (.inr e)
  have hB0 : wrE s y = 0 → Nar s (wrR s y) ∧ validB (wrR s y) = true := by
    intro he
    have e : wrR s y = wrS s y := if_pos he
    rcases wr_three (x := y) hv with ⟨_, e'⟩ | ⟨e', _⟩ | ⟨e', _, _⟩
    · rw [e]; exact ⟨wr_nar s y, e'⟩
    · omega
    · omega
  have hf := sh_two (p := loP need) hv hc
  have hsh := fun t (hn : Nar s t) hvt hct => sh_nar hn hv hvt hct need
  have hg := fun t (hn : Nar s t) (_ : validB t = true) hct => gv_nar hn hs hct (w := w.toNat) (by omega)
  have hR := fun t (hn : Nar s t) q (hq : q ∈ rainsS t) => rains_nar hn hq
  generalize shE s (loP need) = f at *
  generalize shW s (loP need) = was at *
  generalize gvS s w.toNat = g0 at *
  try refine gs_Vd ?_
  refine Rn.call (c_Rains d nb nr (Sl.up (by assumption) fr_Vd (by omega)) (Sl.up (by assumption) fr_Vd (by omega))) ?_
  rintro _ h6 N6 ⟨⟨rl, rfl, hl⟩, f6, o6, l6⟩
  have q3 : rnE s = 0 := by unfold rnE; rw [beg_c, hv, hc]; rfl
  have q4 : rnL s = rainsS s := if_pos q3
  have q5 := rains_len hs
  rw [q4] at hl
  rw [q3]
  clear q3 q4
  have c6 := hl.flat
  have x6 := flatV_one c6
  have y6 := cel_flat c6
  rcases hf with rfl | rfl
  · try refine gs_Vd ?_
    refine Rn.call (c_Add d (x := x') nb nr (Sl.up (by assumption) fr_Vd (by omega)) (Sl.up (by assumption) fr_Vd (by omega))) ?_
    rintro _ h7 N7 ⟨⟨b', r', rfl, k1, k2⟩, f7, o7, l7⟩
    generalize adE s x' = ia at *
    generalize adR s x' = ta at *
    have g1 := k1.flat
    have g2 := k2.flat
    have g3 := flatV_one g1
    have g4 := cel_flat g1
    have g5 := flatV_one g2
    have g6 := cel_flat g2
    rcases hA with rfl | ⟨rfl, hA⟩ | ⟨rfl, hA⟩
    · try refine gs_Vd ?_
      refine Rn.call (c_Write d (x := y) nb nr (Sl.up (by assumption) fr_Vd (by omega)) (Sl.up (by assumption) fr_Vd (by omega))) ?_
      rintro _ h9 N9 ⟨⟨b'', r'', rfl, k3, k4⟩, f9, o9, l9⟩
      generalize wrE s y = ib at *
      generalize wrR s y = tb at *
      rcases hB with rfl | ⟨rfl, hB⟩ | rfl
      · have i1 := k3.flat
        have i2 := k4.flat
        have i3 := flatV_one i1
        have i4 := cel_flat i1
        have i5 := flatV_one i2
        have i6 := cel_flat i2
        clear hs
        try refine gs_Vd ?_
        refine r_tail d (s := s) (b := b) (r := r) (rl := rl) (x := x') (z0 := ⟨ta, b', r', _, g1, g2⟩) (z1 := ⟨tb, b'', r'', 0, i1, i2⟩) hv ?_ ?_ ?_ (by omega) ⟨u1, by omega⟩ (by omega) hsh hg hR ?_ ?_ ?_ ?_ ?_ ?_ ?_ ?_ ?_ ?_ ?_
        · exact (Sl.up (by assumption) fr_Vd (by omega))
        · exact (Sl.up (by assumption) fr_Vd (by omega))
        · exact (Sl.up (by assumption) fr_Vd (by omega))
        rotate_left
        · exact fun he => (hA0 he).2.2
        · exact sS_Vd
        · exact sS_Vd
        · exact sS_Vd
        · exact sS_Vd
        · exact Sl.lit _ sM_Vd (by omega) rfl rfl
        · omega
        · omega
        · omega
        · omega
        intro z hz he
        rcases List.mem_cons.1 hz with rfl | hz
        · exact ⟨(Sl.up (by assumption) fr_Vd (by omega)), (Sl.up (by assumption) fr_Vd (by omega)), (hA0 he).1, (hA0 he).2.1⟩
        · rcases List.mem_cons.1 hz with rfl | hz
          · exact ⟨(Sl.up (by assumption) fr_Vd (by omega)), (Sl.up (by assumption) fr_Vd (by omega)), (hB0 he).1, (hB0 he).2⟩
          · cases hz
      · have i1 := k3.flat
        have i2 := k4.flat
        have i3 := flatV_one i1
        have i4 := cel_flat i1
        have i5 := flatV_one i2
        have i6 := cel_flat i2
        clear hs
        try refine gs_Vd ?_
        refine r_tail d (s := s) (b := b) (r := r) (rl := rl) (x := x') (z0 := ⟨ta, b', r', _, g1, g2⟩) (z1 := ⟨tb, b'', r'', 9, i1, i2⟩) hv ?_ ?_ ?_ (by omega) ⟨u1, by omega⟩ (by omega) hsh hg hR ?_ ?_ ?_ ?_ ?_ ?_ ?_ ?_ ?_ ?_ ?_
        · exact (Sl.up (by assumption) fr_Vd (by omega))
        · exact (Sl.up (by assumption) fr_Vd (by omega))
        · exact (Sl.up (by assumption) fr_Vd (by omega))
        rotate_left
        · exact fun he => (hA0 he).2.2
        · exact sS_Vd
        · exact sS_Vd
        · exact sS_Vd
        · exact sS_Vd
        · exact Sl.lit _ sM_Vd (by omega) rfl rfl
        · omega
        · omega
        · omega
        · omega
        intro z hz he
        rcases List.mem_cons.1 hz with rfl | hz
        · exact ⟨(Sl.up (by assumption) fr_Vd (by omega)), (Sl.up (by assumption) fr_Vd (by omega)), (hA0 he).1, (hA0 he).2.1⟩
        · rcases List.mem_cons.1 hz with rfl | hz
          · exact ⟨(Sl.up (by assumption) fr_Vd (by omega)), (Sl.up (by assumption) fr_Vd (by omega)), (hB0 he).1, (hB0 he).2⟩
          · cases hz
      · have i1 := k3.flat
        have i2 := k4.flat
        have i3 := flatV_one i1
        have i4 := cel_flat i1
        have i5 := flatV_one i2
        have i6 := cel_flat i2
        clear hs
        try refine gs_Vd ?_
        refine r_tail d (s := s) (b := b) (r := r) (rl := rl) (x := x') (z0 := ⟨ta, b', r', _, g1, g2⟩) (z1 := ⟨tb, b'', r'', 13, i1, i2⟩) hv ?_ ?_ ?_ (by omega) ⟨u1, by omega⟩ (by omega) hsh hg hR ?_ ?_ ?_ ?_ ?_ ?_ ?_ ?_ ?_ ?_ ?_
        · exact (Sl.up (by assumption) fr_Vd (by omega))
        · exact (Sl.up (by assumption) fr_Vd (by omega))
        · exact (Sl.up (by assumption) fr_Vd (by omega))
        rotate_left
        · exact fun he => (hA0 he).2.2
        · exact sS_Vd
        · exact sS_Vd
        · exact sS_Vd
        · exact sS_Vd
        · exact Sl.lit _ sM_Vd (by omega) rfl rfl
        · omega
        · omega
        · omega
        · omega
        intro z hz he
        rcases List.mem_cons.1 hz with rfl | hz
        · exact ⟨(Sl.up (by assumption) fr_Vd (by omega)), (Sl.up (by assumption) fr_Vd (by omega)), (hA0 he).1, (hA0 he).2.1⟩
        · rcases List.mem_cons.1 hz with rfl | hz
          · exact ⟨(Sl.up (by assumption) fr_Vd (by omega)), (Sl.up (by assumption) fr_Vd (by omega)), (hB0 he).1, (hB0 he).2⟩
          · cases hz
    · try refine gs_Vd ?_
      refine Rn.call (c_Write d (x := y) nb nr (Sl.up (by assumption) fr_Vd (by omega)) (Sl.up (by assumption) fr_Vd (by omega))) ?_
      rintro _ h9 N9 ⟨⟨b'', r'', rfl, k3, k4⟩, f9, o9, l9⟩
      generalize wrE s y = ib at *
      generalize wrR s y = tb at *
      rcases hB with rfl | ⟨rfl, hB⟩ | rfl
      · have i1 := k3.flat
        have i2 := k4.flat
        have i3 := flatV_one i1
        have i4 := cel_flat i1
        have i5 := flatV_one i2
        have i6 := cel_flat i2
        clear hs
        try refine gs_Vd ?_
        refine r_tail d (s := s) (b := b) (r := r) (rl := rl) (x := x') (z0 := ⟨ta, b', r', _, g1, g2⟩) (z1 := ⟨tb, b'', r'', 0, i1, i2⟩) hv ?_ ?_ ?_ (by omega) ⟨u1, by omega⟩ (by omega) hsh hg hR ?_ ?_ ?_ ?_ ?_ ?_ ?_ ?_ ?_ ?_ ?_
        · exact (Sl.up (by assumption) fr_Vd (by omega))
        · exact (Sl.up (by assumption) fr_Vd (by omega))
        · exact (Sl.up (by assumption) fr_Vd (by omega))
        rotate_left
        · exact fun he => (hA0 he).2.2
        · exact sS_Vd
        · exact sS_Vd
        · exact sS_Vd
        · exact sS_Vd
        · exact Sl.lit _ sM_Vd (by omega) rfl rfl
        · omega
        · omega
        · omega
        · omega
        intro z hz he
        rcases List.mem_cons.1 hz with rfl | hz
        · exact ⟨(Sl.up (by assumption) fr_Vd (by omega)), (Sl.up (by assumption) fr_Vd (by omega)), (hA0 he).1, (hA0 he).2.1⟩
        · rcases List.mem_cons.1 hz with rfl | hz
          · exact ⟨(Sl.up (by assumption) fr_Vd (by omega)), (Sl.up (by assumption) fr_Vd (by omega)), (hB0 he).1, (hB0 he).2⟩
          · cases hz
      · have i1 := k3.flat
        have i2 := k4.flat
        have i3 := flatV_one i1
        have i4 := cel_flat i1
        have i5 := flatV_one i2
        have i6 := cel_flat i2
        clear hs
        try refine gs_Vd ?_
        refine r_tail d (s := s) (b := b) (r := r) (rl := rl) (x := x') (z0 := ⟨ta, b', r', _, g1, g2⟩) (z1 := ⟨tb, b'', r'', 9, i1, i2⟩) hv ?_ ?_ ?_ (by omega) ⟨u1, by omega⟩ (by omega) hsh hg hR ?_ ?_ ?_ ?_ ?_ ?_ ?_ ?_ ?_ ?_ ?_
        · exact (Sl.up (by assumption) fr_Vd (by omega))
        · exact (Sl.up (by assumption) fr_Vd (by omega))
        · exact (Sl.up (by assumption) fr_Vd (by omega))
        rotate_left
        · exact fun he => (hA0 he).2.2
        · exact sS_Vd
        · exact sS_Vd
        · exact sS_Vd
        · exact sS_Vd
        · exact Sl.lit _ sM_Vd (by omega) rfl rfl
        · omega
        · omega
        · omega
        · omega
        intro z hz he
        rcases List.mem_cons.1 hz with rfl | hz
        · exact ⟨(Sl.up (by assumption) fr_Vd (by omega)), (Sl.up (by assumption) fr_Vd (by omega)), (hA0 he).1, (hA0 he).2.1⟩
        · rcases List.mem_cons.1 hz with rfl | hz
          · exact ⟨(Sl.up (by assumption) fr_Vd (by omega)), (Sl.up (by assumption) fr_Vd (by omega)), (hB0 he).1, (hB0 he).2⟩
          · cases hz
      · have i1 := k3.flat
        have i2 := k4.flat
        have i3 := flatV_one i1
        have i4 := cel_flat i1
        have i5 := flatV_one i2
        have i6 := cel_flat i2
        clear hs
        try refine gs_Vd ?_
        refine r_tail d (s := s) (b := b) (r := r) (rl := rl) (x := x') (z0 := ⟨ta, b', r', _, g1, g2⟩) (z1 := ⟨tb, b'', r'', 13, i1, i2⟩) hv ?_ ?_ ?_ (by omega) ⟨u1, by omega⟩ (by omega) hsh hg hR ?_ ?_ ?_ ?_ ?_ ?_ ?_ ?_ ?_ ?_ ?_
        · exact (Sl.up (by assumption) fr_Vd (by omega))
        · exact (Sl.up (by assumption) fr_Vd (by omega))
        · exact (Sl.up (by assumption) fr_Vd (by omega))
        rotate_left
        · exact fun he => (hA0 he).2.2
        · exact sS_Vd
        · exact sS_Vd
        · exact sS_Vd
        · exact sS_Vd
        · exact Sl.lit _ sM_Vd (by omega) rfl rfl
        · omega
        · omega
        · omega
        · omega
        intro z hz he
        rcases List.mem_cons.1 hz with rfl | hz
        · exact ⟨(Sl.up (by assumption) fr_Vd (by omega)), (Sl.up (by assumption) fr_Vd (by omega)), (hA0 he).1, (hA0 he).2.1⟩
        · rcases List.mem_cons.1 hz with rfl | hz
          · exact ⟨(Sl.up (by assumption) fr_Vd (by omega)), (Sl.up (by assumption) fr_Vd (by omega)), (hB0 he).1, (hB0 he).2⟩
          · cases hz
    · try refine gs_Vd ?_
      refine Rn.call (c_rReading _ (x := x') (by omega)) ?_
      rintro _ h8 N8 ⟨rfl, f8, o8, l8⟩
      rw [hA]
      try refine gs_Vd ?_
      refine Rn.call (c_Write d (x := y) nb nr (Sl.up (by assumption) fr_Vd (by omega)) (Sl.up (by assumption) fr_Vd (by omega))) ?_
      rintro _ h9 N9 ⟨⟨b'', r'', rfl, k3, k4⟩, f9, o9, l9⟩
      generalize wrE s y = ib at *
      generalize wrR s y = tb at *
      rcases hB with rfl | ⟨rfl, hB⟩ | rfl
      · have i1 := k3.flat
        have i2 := k4.flat
        have i3 := flatV_one i1
        have i4 := cel_flat i1
        have i5 := flatV_one i2
        have i6 := cel_flat i2
        clear hs
        try refine gs_Vd ?_
        refine r_tail d (s := s) (b := b) (r := r) (rl := rl) (x := x') (z0 := ⟨ta, b', r', _, g1, g2⟩) (z1 := ⟨tb, b'', r'', 0, i1, i2⟩) hv ?_ ?_ ?_ (by omega) ⟨u1, by omega⟩ (by omega) hsh hg hR ?_ ?_ ?_ ?_ ?_ ?_ ?_ ?_ ?_ ?_ ?_
        · exact (Sl.up (by assumption) fr_Vd (by omega))
        · exact (Sl.up (by assumption) fr_Vd (by omega))
        · exact (Sl.up (by assumption) fr_Vd (by omega))
        rotate_left
        · exact fun he => (hA0 he).2.2
        · exact sS_Vd
        · exact sS_Vd
        · exact sS_Vd
        · exact sS_Vd
        · exact Sl.lit _ sM_Vd (by omega) rfl rfl
        · omega
        · omega
        · omega
        · omega
        intro z hz he
        rcases List.mem_cons.1 hz with rfl | hz
        · exact ⟨(Sl.up (by assumption) fr_Vd (by omega)), (Sl.up (by assumption) fr_Vd (by omega)), (hA0 he).1, (hA0 he).2.1⟩
        · rcases List.mem_cons.1 hz with rfl | hz
          · exact ⟨(Sl.up (by assumption) fr_Vd (by omega)), (Sl.up (by assumption) fr_Vd (by omega)), (hB0 he).1, (hB0 he).2⟩
          · cases hz
      · have i1 := k3.flat
        have i2 := k4.flat
        have i3 := flatV_one i1
        have i4 := cel_flat i1
        have i5 := flatV_one i2
        have i6 := cel_flat i2
        clear hs
        try refine gs_Vd ?_
        refine r_tail d (s := s) (b := b) (r := r) (rl := rl) (x := x') (z0 := ⟨ta, b', r', _, g1, g2⟩) (z1 := ⟨tb, b'', r'', 9, i1, i2⟩) hv ?_ ?_ ?_ (by omega) ⟨u1, by omega⟩ (by omega) hsh hg hR ?_ ?_ ?_ ?_ ?_ ?_ ?_ ?_ ?_ ?_ ?_
        · exact (Sl.up (by assumption) fr_Vd (by omega))
        · exact (Sl.up (by assumption) fr_Vd (by omega))
        · exact (Sl.up (by assumption) fr_Vd (by omega))
        rotate_left
        · exact fun he => (hA0 he).2.2
        · exact sS_Vd
        · exact sS_Vd
        · exact sS_Vd
        · exact sS_Vd
        · exact Sl.lit _ sM_Vd (by omega) rfl rfl
        · omega
        · omega
        · omega
        · omega
        intro z hz he
        rcases List.mem_cons.1 hz with rfl | hz
        · exact ⟨(Sl.up (by assumption) fr_Vd (by omega)), (Sl.up (by assumption) fr_Vd (by omega)), (hA0 he).1, (hA0 he).2.1⟩
        · rcases List.mem_cons.1 hz with rfl | hz
          · exact ⟨(Sl.up (by assumption) fr_Vd (by omega)), (Sl.up (by assumption) fr_Vd (by omega)), (hB0 he).1, (hB0 he).2⟩
          · cases hz
      · have i1 := k3.flat
        have i2 := k4.flat
        have i3 := flatV_one i1
        have i4 := cel_flat i1
        have i5 := flatV_one i2
        have i6 := cel_flat i2
        clear hs
        try refine gs_Vd ?_
        refine r_tail d (s := s) (b := b) (r := r) (rl := rl) (x := x') (z0 := ⟨ta, b', r', _, g1, g2⟩) (z1 := ⟨tb, b'', r'', 13, i1, i2⟩) hv ?_ ?_ ?_ (by omega) ⟨u1, by omega⟩ (by omega) hsh hg hR ?_ ?_ ?_ ?_ ?_ ?_ ?_ ?_ ?_ ?_ ?_
        · exact (Sl.up (by assumption) fr_Vd (by omega))
        · exact (Sl.up (by assumption) fr_Vd (by omega))
        · exact (Sl.up (by assumption) fr_Vd (by omega))
        rotate_left
        · exact fun he => (hA0 he).2.2
        · exact sS_Vd
        · exact sS_Vd
        · exact sS_Vd
        · exact sS_Vd
        · exact Sl.lit _ sM_Vd (by omega) rfl rfl
        · omega
        · omega
        · omega
        · omega
        intro z hz he
        rcases List.mem_cons.1 hz with rfl | hz
        · exact ⟨(Sl.up (by assumption) fr_Vd (by omega)), (Sl.up (by assumption) fr_Vd (by omega)), (hA0 he).1, (hA0 he).2.1⟩
        · rcases List.mem_cons.1 hz with rfl | hz
          · exact ⟨(Sl.up (by assumption) fr_Vd (by omega)), (Sl.up (by assumption) fr_Vd (by omega)), (hB0 he).1, (hB0 he).2⟩
          · cases hz
  · try refine gs_Vd ?_
    refine Rn.call (c_Add d (x := x') nb nr (Sl.up (by assumption) fr_Vd (by omega)) (Sl.up (by assumption) fr_Vd (by omega))) ?_
    rintro _ h7 N7 ⟨⟨b', r', rfl, k1, k2⟩, f7, o7, l7⟩
    generalize adE s x' = ia at *
    generalize adR s x' = ta at *
    have g1 := k1.flat
    have g2 := k2.flat
    have g3 := flatV_one g1
    have g4 := cel_flat g1
    have g5 := flatV_one g2
    have g6 := cel_flat g2
    rcases hA with rfl | ⟨rfl, hA⟩ | ⟨rfl, hA⟩
    · try refine gs_Vd ?_
      refine Rn.call (c_Write d (x := y) nb nr (Sl.up (by assumption) fr_Vd (by omega)) (Sl.up (by assumption) fr_Vd (by omega))) ?_
      rintro _ h9 N9 ⟨⟨b'', r'', rfl, k3, k4⟩, f9, o9, l9⟩
      generalize wrE s y = ib at *
      generalize wrR s y = tb at *
      rcases hB with rfl | ⟨rfl, hB⟩ | rfl
      · have i1 := k3.flat
        have i2 := k4.flat
        have i3 := flatV_one i1
        have i4 := cel_flat i1
        have i5 := flatV_one i2
        have i6 := cel_flat i2
        clear hs
        try refine gs_Vd ?_
        refine r_tail d (s := s) (b := b) (r := r) (rl := rl) (x := x') (z0 := ⟨ta, b', r', _, g1, g2⟩) (z1 := ⟨tb, b'', r'', 0, i1, i2⟩) hv ?_ ?_ ?_ (by omega) ⟨u1, by omega⟩ (by omega) hsh hg hR ?_ ?_ ?_ ?_ ?_ ?_ ?_ ?_ ?_ ?_ ?_
        · exact (Sl.up (by assumption) fr_Vd (by omega))
        · exact (Sl.up (by assumption) fr_Vd (by omega))
        · exact (Sl.up (by assumption) fr_Vd (by omega))
        rotate_left
        · exact fun he => (hA0 he).2.2
        · exact sS_Vd
        · exact sS_Vd
        · exact sS_Vd
        · exact sS_Vd
        · exact Sl.lit _ sM_Vd (by omega) rfl rfl
        · omega
        · omega
        · omega
        · omega
        intro z hz he
        rcases List.mem_cons.1 hz with rfl | hz
        · exact ⟨(Sl.up (by assumption) fr_Vd (by omega)), (Sl.up (by assumption) fr_Vd (by omega)), (hA0 he).1, (hA0 he).2.1⟩
        · rcases List.mem_cons.1 hz with rfl | hz
          · exact ⟨(Sl.up (by assumption) fr_Vd (by omega)), (Sl.up (by assumption) fr_Vd (by omega)), (hB0 he).1, (hB0 he).2⟩
          · cases hz
      · have i1 := k3.flat
        have i2 := k4.flat
        have i3 := flatV_one i1
        have i4 := cel_flat i1
        have i5 := flatV_one i2
        have i6 := cel_flat i2
        clear hs
        try refine gs_Vd ?_
        refine r_tail d (s := s) (b := b) (r := r) (rl := rl) (x := x') (z0 := ⟨ta, b', r', _, g1, g2⟩) (z1 := ⟨tb, b'', r'', 9, i1, i2⟩) hv ?_ ?_ ?_ (by omega) ⟨u1, by omega⟩ (by omega) hsh hg hR ?_ ?_ ?_ ?_ ?_ ?_ ?_ ?_ ?_ ?_ ?_
        · exact (Sl.up (by assumption) fr_Vd (by omega))
        · exact (Sl.up (by assumption) fr_Vd (by omega))
        · exact (Sl.up (by assumption) fr_Vd (by omega))
        rotate_left
        · exact fun he => (hA0 he).2.2
        · exact sS_Vd
        · exact sS_Vd
        · exact sS_Vd
        · exact sS_Vd
        · exact Sl.lit _ sM_Vd (by omega) rfl rfl
        · omega
        · omega
        · omega
        · omega
        intro z hz he
        rcases List.mem_cons.1 hz with rfl | hz
        · exact ⟨(Sl.up (by assumption) fr_Vd (by omega)), (Sl.up (by assumption) fr_Vd (by omega)), (hA0 he).1, (hA0 he).2.1⟩
        · rcases List.mem_cons.1 hz with rfl | hz
          · exact ⟨(Sl.up (by assumption) fr_Vd (by omega)), (Sl.up (by assumption) fr_Vd (by omega)), (hB0 he).1, (hB0 he).2⟩
          · cases hz
      · have i1 := k3.flat
        have i2 := k4.flat
        have i3 := flatV_one i1
        have i4 := cel_flat i1
        have i5 := flatV_one i2
        have i6 := cel_flat i2
        clear hs
        try refine gs_Vd ?_
        refine r_tail d (s := s) (b := b) (r := r) (rl := rl) (x := x') (z0 := ⟨ta, b', r', _, g1, g2⟩) (z1 := ⟨tb, b'', r'', 13, i1, i2⟩) hv ?_ ?_ ?_ (by omega) ⟨u1, by omega⟩ (by omega) hsh hg hR ?_ ?_ ?_ ?_ ?_ ?_ ?_ ?_ ?_ ?_ ?_
        · exact (Sl.up (by assumption) fr_Vd (by omega))
        · exact (Sl.up (by assumption) fr_Vd (by omega))
        · exact (Sl.up (by assumption) fr_Vd (by omega))
        rotate_left
        · exact fun he => (hA0 he).2.2
        · exact sS_Vd
        · exact sS_Vd
        · exact sS_Vd
        · exact sS_Vd
        · exact Sl.lit _ sM_Vd (by omega) rfl rfl
        · omega
        · omega
        · omega
        · omega
        intro z hz he
        rcases List.mem_cons.1 hz with rfl | hz
        · exact ⟨(Sl.up (by assumption) fr_Vd (by omega)), (Sl.up (by assumption) fr_Vd (by omega)), (hA0 he).1, (hA0 he).2.1⟩
        · rcases List.mem_cons.1 hz with rfl | hz
          · exact ⟨(Sl.up (by assumption) fr_Vd (by omega)), (Sl.up (by assumption) fr_Vd (by omega)), (hB0 he).1, (hB0 he).2⟩
          · cases hz
    · try refine gs_Vd ?_
      refine Rn.call (c_Write d (x := y) nb nr (Sl.up (by assumption) fr_Vd (by omega)) (Sl.up (by assumption) fr_Vd (by omega))) ?_
      rintro _ h9 N9 ⟨⟨b'', r'', rfl, k3, k4⟩, f9, o9, l9⟩
      generalize wrE s y = ib at *
      generalize wrR s y = tb at *
      rcases hB with rfl | ⟨rfl, hB⟩ | rfl
      · have i1 := k3.flat
        have i2 := k4.flat
        have i3 := flatV_one i1
        have i4 := cel_flat i1
        have i5 := flatV_one i2
        have i6 := cel_flat i2
        clear hs
        try refine gs_Vd ?_
        refine r_tail d (s := s) (b := b) (r := r) (rl := rl) (x := x') (z0 := ⟨ta, b', r', _, g1, g2⟩) (z1 := ⟨tb, b'', r'', 0, i1, i2⟩) hv ?_ ?_ ?_ (by omega) ⟨u1, by omega⟩ (by omega) hsh hg hR ?_ ?_ ?_ ?_ ?_ ?_ ?_ ?_ ?_ ?_ ?_
        · exact (Sl.up (by assumption) fr_Vd (by omega))
        · exact (Sl.up (by assumption) fr_Vd (by omega))
        · exact (Sl.up (by assumption) fr_Vd (by omega))
        rotate_left
        · exact fun he => (hA0 he).2.2
        · exact sS_Vd
        · exact sS_Vd
        · exact sS_Vd
        · exact sS_Vd
        · exact Sl.lit _ sM_Vd (by omega) rfl rfl
        · omega
        · omega
        · omega
        · omega
        intro z hz he
        rcases List.mem_cons.1 hz with rfl | hz
        · exact ⟨(Sl.up (by assumption) fr_Vd (by omega)), (Sl.up (by assumption) fr_Vd (by omega)), (hA0 he).1, (hA0 he).2.1⟩
        · rcases List.mem_cons.1 hz with rfl | hz
          · exact ⟨(Sl.up (by assumption) fr_Vd (by omega)), (Sl.up (by assumption) fr_Vd (by omega)), (hB0 he).1, (hB0 he).2⟩
          · cases hz
      · have i1 := k3.flat
        have i2 := k4.flat
        have i3 := flatV_one i1
        have i4 := cel_flat i1
        have i5 := flatV_one i2
        have i6 := cel_flat i2
        clear hs
        try refine gs_Vd ?_
        refine r_tail d (s := s) (b := b) (r := r) (rl := rl) (x := x') (z0 := ⟨ta, b', r', _, g1, g2⟩) (z1 := ⟨tb, b'', r'', 9, i1, i2⟩) hv ?_ ?_ ?_ (by omega) ⟨u1, by omega⟩ (by omega) hsh hg hR ?_ ?_ ?_ ?_ ?_ ?_ ?_ ?_ ?_ ?_ ?_
        · exact (Sl.up (by assumption) fr_Vd (by omega))
        · exact (Sl.up (by assumption) fr_Vd (by omega))
        · exact (Sl.up (by assumption) fr_Vd (by omega))
        rotate_left
        · exact fun he => (hA0 he).2.2
        · exact sS_Vd
        · exact sS_Vd
        · exact sS_Vd
        · exact sS_Vd
        · exact Sl.lit _ sM_Vd (by omega) rfl rfl
        · omega
        · omega
        · omega
        · omega
        intro z hz he
        rcases List.mem_cons.1 hz with rfl | hz
        · exact ⟨(Sl.up (by assumption) fr_Vd (by omega)), (Sl.up (by assumption) fr_Vd (by omega)), (hA0 he).1, (hA0 he).2.1⟩
        · rcases List.mem_cons.1 hz with rfl | hz
          · exact ⟨(Sl.up (by assumption) fr_Vd (by omega)), (Sl.up (by assumption) fr_Vd (by omega)), (hB0 he).1, (hB0 he).2⟩
          · cases hz
      · have i1 := k3.flat
        have i2 := k4.flat
        have i3 := flatV_one i1
        have i4 := cel_flat i1
        have i5 := flatV_one i2
        have i6 := cel_flat i2
        clear hs
        try refine gs_Vd ?_
        refine r_tail d (s := s) (b := b) (r := r) (rl := rl) (x := x') (z0 := ⟨ta, b', r', _, g1, g2⟩) (z1 := ⟨tb, b'', r'', 13, i1, i2⟩) hv ?_ ?_ ?_ (by omega) ⟨u1, by omega⟩ (by omega) hsh hg hR ?_ ?_ ?_ ?_ ?_ ?_ ?_ ?_ ?_ ?_ ?_
        · exact (Sl.up (by assumption) fr_Vd (by omega))
        · exact (Sl.up (by assumption) fr_Vd (by omega))
        · exact (Sl.up (by assumption) fr_Vd (by omega))
        rotate_left
        · exact fun he => (hA0 he).2.2
        · exact sS_Vd
        · exact sS_Vd
        · exact sS_Vd
        · exact sS_Vd
        · exact Sl.lit _ sM_Vd (by omega) rfl rfl
        · omega
        · omega
        · omega
        · omega
        intro z hz he
        rcases List.mem_cons.1 hz with rfl | hz
        · exact ⟨(Sl.up (by assumption) fr_Vd (by omega)), (Sl.up (by assumption) fr_Vd (by omega)), (hA0 he).1, (hA0 he).2.1⟩
        · rcases List.mem_cons.1 hz with rfl | hz
          · exact ⟨(Sl.up (by assumption) fr_Vd (by omega)), (Sl.up (by assumption) fr_Vd (by omega)), (hB0 he).1, (hB0 he).2⟩
          · cases hz
    · try refine gs_Vd ?_
      refine Rn.call (c_rReading _ (x := x') (by omega)) ?_
      rintro _ h8 N8 ⟨rfl, f8, o8, l8⟩
      rw [hA]
      try refine gs_Vd ?_
      refine Rn.call (c_Write d (x := y) nb nr (Sl.up (by assumption) fr_Vd (by omega)) (Sl.up (by assumption) fr_Vd (by omega))) ?_
      rintro _ h9 N9 ⟨⟨b'', r'', rfl, k3, k4⟩, f9, o9, l9⟩
      generalize wrE s y = ib at *
      generalize wrR s y = tb at *
      rcases hB with rfl | ⟨rfl, hB⟩ | rfl
      · have i1 := k3.flat
        have i2 := k4.flat
        have i3 := flatV_one i1
        have i4 := cel_flat i1
        have i5 := flatV_one i2
        have i6 := cel_flat i2
        clear hs
        try refine gs_Vd ?_
        refine r_tail d (s := s) (b := b) (r := r) (rl := rl) (x := x') (z0 := ⟨ta, b', r', _, g1, g2⟩) (z1 := ⟨tb, b'', r'', 0, i1, i2⟩) hv ?_ ?_ ?_ (by omega) ⟨u1, by omega⟩ (by omega) hsh hg hR ?_ ?_ ?_ ?_ ?_ ?_ ?_ ?_ ?_ ?_ ?_
        · exact (Sl.up (by assumption) fr_Vd (by omega))
        · exact (Sl.up (by assumption) fr_Vd (by omega))
        · exact (Sl.up (by assumption) fr_Vd (by omega))
        rotate_left
        · exact fun he => (hA0 he).2.2
        · exact sS_Vd
        · exact sS_Vd
        · exact sS_Vd
        · exact sS_Vd
        · exact Sl.lit _ sM_Vd (by omega) rfl rfl
        · omega
        · omega
        · omega
        · omega
        intro z hz he
        rcases List.mem_cons.1 hz with rfl | hz
        · exact ⟨(Sl.up (by assumption) fr_Vd (by omega)), (Sl.up (by assumption) fr_Vd (by omega)), (hA0 he).1, (hA0 he).2.1⟩
        · rcases List.mem_cons.1 hz with rfl | hz
          · exact ⟨(Sl.up (by assumption) fr_Vd (by omega)), (Sl.up (by assumption) fr_Vd (by omega)), (hB0 he).1, (hB0 he).2⟩
          · cases hz
      · have i1 := k3.flat
        have i2 := k4.flat
        have i3 := flatV_one i1
        have i4 := cel_flat i1
        have i5 := flatV_one i2
        have i6 := cel_flat i2
        clear hs
        try refine gs_Vd ?_
        refine r_tail d (s := s) (b := b) (r := r) (rl := rl) (x := x') (z0 := ⟨ta, b', r', _, g1, g2⟩) (z1 := ⟨tb, b'', r'', 9, i1, i2⟩) hv ?_ ?_ ?_ (by omega) ⟨u1, by omega⟩ (by omega) hsh hg hR ?_ ?_ ?_ ?_ ?_ ?_ ?_ ?_ ?_ ?_ ?_
        · exact (Sl.up (by assumption) fr_Vd (by omega))
        · exact (Sl.up (by assumption) fr_Vd (by omega))
        · exact (Sl.up (by assumption) fr_Vd (by omega))
        rotate_left
        · exact fun he => (hA0 he).2.2
        · exact sS_Vd
        · exact sS_Vd
        · exact sS_Vd
        · exact sS_Vd
        · exact Sl.lit _ sM_Vd (by omega) rfl rfl
        · omega
        · omega
        · omega
        · omega
        intro z hz he
        rcases List.mem_cons.1 hz with rfl | hz
        · exact ⟨(Sl.up (by assumption) fr_Vd (by omega)), (Sl.up (by assumption) fr_Vd (by omega)), (hA0 he).1, (hA0 he).2.1⟩
        · rcases List.mem_cons.1 hz with rfl | hz
          · exact ⟨(Sl.up (by assumption) fr_Vd (by omega)), (Sl.up (by assumption) fr_Vd (by omega)), (hB0 he).1, (hB0 he).2⟩
          · cases hz
      · have i1 := k3.flat
        have i2 := k4.flat
        have i3 := flatV_one i1
        have i4 := cel_flat i1
        have i5 := flatV_one i2
        have i6 := cel_flat i2
        clear hs
        try refine gs_Vd ?_
        refine r_tail d (s := s) (b := b) (r := r) (rl := rl) (x := x') (z0 := ⟨ta, b', r', _, g1, g2⟩) (z1 := ⟨tb, b'', r'', 13, i1, i2⟩) hv ?_ ?_ ?_ (by omega) ⟨u1, by omega⟩ (by omega) hsh hg hR ?_ ?_ ?_ ?_ ?_ ?_ ?_ ?_ ?_ ?_ ?_
        · exact (Sl.up (by assumption) fr_Vd (by omega))
        · exact (Sl.up (by assumption) fr_Vd (by omega))
        · exact (Sl.up (by assumption) fr_Vd (by omega))
        rotate_left
        · exact fun he => (hA0 he).2.2
        · exact sS_Vd
        · exact sS_Vd
        · exact sS_Vd
        · exact sS_Vd
        · exact Sl.lit _ sM_Vd (by omega) rfl rfl
        · omega
        · omega
        · omega
        · omega
        intro z hz he
        rcases List.mem_cons.1 hz with rfl | hz
        · exact ⟨(Sl.up (by assumption) fr_Vd (by omega)), (Sl.up (by assumption) fr_Vd (by omega)), (hA0 he).1, (hA0 he).2.1⟩
        · rcases List.mem_cons.1 hz with rfl | hz
          · exact ⟨(Sl.up (by assumption) fr_Vd (by omega)), (Sl.up (by assumption) fr_Vd (by omega)), (hB0 he).1, (hB0 he).2⟩
          · cases hz
end
end Go.Proofs.Ytpilgokdbliklaa
end

section
namespace Go.Proofs.Ytpilgokdbliklaa
open Go.Ev Go.RowKit
set_option linter.unusedVariables false
set_option linter.unusedSimpArgs false
set_option linter.unusedSectionVars false
set_option maxRecDepth 100000
set_option maxHeartbeats 4000000
open Go.Sx Go.ChangeShapes Go.WideShapes Go.ChangeAt
section
variable {H : Type} {enc : TypeId × Value → H} {P : Program} {w : World} {base : Nat} {spare : Nat → Bool} {held : Bool}
theorem trodAll_five {t t1 t2 t3 t4 : TypeId} {args : Array Value} {ds : List (DataW H)} {ps : List MemPlace} (h : DataW.TrodAll enc P w base spare held [t, t1, t2, t3, t4] args.toList ds ps) :
    ∃ v v1 v2 v3 v4 d d1 d2 d3 d4 p p1 p2 p3 p4, args = #[v, v1, v2, v3, v4] ∧ ds = [d, d1, d2, d3, d4] ∧ ps = p ++ p1 ++ p2 ++ p3 ++ p4 ∧ DataW.Trod enc P w base spare held t v d p ∧ DataW.Trod enc P w base spare held t1 v1 d1 p1 ∧ DataW.Trod enc P w base spare held t2 v2 d2 p2 ∧ DataW.Trod enc P w base spare held t3 v3 d3 p3 ∧ DataW.Trod enc P w base spare held t4 v4 d4 p4 := by
  obtain ⟨v, vs, d, ds', p, q, hargs, rfl, rfl, hd, hrest⟩ := trodAll_cons h
  obtain ⟨v1, vs1, d1, ds1, p1, q1, rfl, rfl, rfl, hd1, hrest⟩ := trodAll_cons hrest
  obtain ⟨v2, vs2, d2, ds2, p2, q2, rfl, rfl, rfl, hd2, hrest⟩ := trodAll_cons hrest
  obtain ⟨v3, vs3, d3, ds3, p3, q3, rfl, rfl, rfl, hd3, hrest⟩ := trodAll_cons hrest
  obtain ⟨v4, vs4, d4, ds4, p4, q4, rfl, rfl, rfl, hd4, hrest⟩ := trodAll_cons hrest
  obtain ⟨rfl, rfl, rfl⟩ := trodAll_nil hrest
  exact ⟨v, v1, v2, v3, v4, d, d1, d2, d3, d4, p, p1, p2, p3, p4, by cases args; simp_all, rfl, by simp, hd, hd1, hd2, hd3, hd4⟩
theorem trodAll_mk5 {t t1 t2 t3 t4 : TypeId} {v v1 v2 v3 v4 : Value} {d d1 d2 d3 d4 : DataW H} {p p1 p2 p3 p4 : List MemPlace} (h : DataW.Trod enc P w base spare held t v d p) (h1 : DataW.Trod enc P w base spare held t1 v1 d1 p1)
    (h2 : DataW.Trod enc P w base spare held t2 v2 d2 p2) (h3 : DataW.Trod enc P w base spare held t3 v3 d3 p3) (h4 : DataW.Trod enc P w base spare held t4 v4 d4 p4) :
    DataW.TrodAll enc P w base spare held [t, t1, t2, t3, t4] [v, v1, v2, v3, v4] [d, d1, d2, d3, d4] (p ++ (p1 ++ (p2 ++ (p3 ++ p4)))) := ⟨p, p1 ++ (p2 ++ (p3 ++ p4)), h, trodAll_mk4 h1 h2 h3 h4, rfl⟩
end
section
variable {H : Type} {enc : TypeId × Value → H} {w : World} {b0 : Nat} {spare : Nat → Bool} {held : Bool} {v : Value}
theorem open_rd {d : DataW H} {ps : List MemPlace} (hv : Value.okWide Try.prog w .any b0 71 v) (h : DataW.Trod enc Try.prog w 0 spare held 71 v d ps) :
    ∃ x : Rd, v = .agg ⟨[iS x.Number, iS x.Week, iS x.Bucket, iS x.Songs_Lo, iS x.Songs_Hi]⟩ := by
  obtain ⟨cs, rfl, hcs⟩ := okWide_struct Try.underlying71 hv
  obtain ⟨fuel, h⟩ := h
  obtain ⟨r, hr⟩ := rd_reading h
  refine ⟨r, congrArg Value.agg (Array.ext' ?_)⟩
  exact hr
theorem open_ln {d : DataW H} {ps : List MemPlace} (hv : Value.okWide Try.prog w .any b0 73 v) (h : DataW.Trod enc Try.prog w 0 spare held 73 v d ps) :
    ∃ x : Ln, v = .agg ⟨[iS x.Rain_Lo, iS x.Rain_Hi, iS x.Week, iS x.Gives_Lo, iS x.Gives_Hi]⟩ := by
  obtain ⟨cs, rfl, hcs⟩ := okWide_struct Try.underlying73 hv
  obtain ⟨fuel, h⟩ := h
  obtain ⟨r, hr⟩ := rd_line h
  refine ⟨r, congrArg Value.agg (Array.ext' ?_)⟩
  exact hr
end
end Go.Proofs.Ytpilgokdbliklaa
end

