/-
  What the functions of the law return.
  Conditions: none.
-/
import Derived.Test.YtpilgokdbliklaaLb
import Derived.Test.YtpilgokdbliklaaRows
import Derived.Test.YtpilgokdbliklaaChecked
import Derived.Lib.SmallJoins
import Derived.ProofKit

section
namespace Go.Proofs.Ytpilgokdbliklaa
open Go.Ev Go.RowKit
set_option linter.unusedVariables false
set_option linter.unusedSimpArgs false
set_option linter.unusedSectionVars false
set_option maxRecDepth 100000
set_option maxHeartbeats 4000000
def zR : Rd := ⟨0, 0, 0, 0, 0⟩
/-- What is asked: a week, a bucket. -/
def qw (w k : Int) : Ask := ⟨w, k, zR⟩
theorem beg_c {s : Sp} {q : Ask} : beginS s q [4] = if validB s then (if canS s then 0 else 8) else 10 := rfl
def erS (s : Sp) (w : Int) : Int := beginS s (qw w 0) [1, 4]
theorem er_eq {s : Sp} {w : Int} : erS s w = if validB s then (if isWeekB s.weeks w then (if canS s then 0 else 8) else 11) else 10 := rfl
theorem er_ok {s : Sp} {w : Int} (h : erS s w = 0) : validB s = true ∧ 0 ≤ w ∧ w ≤ s.weeks - 1 ∧ canS s = true := by
  rw [er_eq] at h
  split at h
  · rename_i hv
    split at h
    · rename_i hw
      split at h
      · rename_i hc
        simp only [isWeekB, inS, Bool.and_eq_true, decide_eq_true_eq] at hw
        exact ⟨hv, hw.1, hw.2, hc⟩
      · cases h
    · cases h
  · cases h
def gE (s : Sp) (w : Int) : Int × Int := if erS s w = 0 then gvS s w.toNat else (0, 0)
theorem gv_bd {s : Sp} (hs : OkS s) {w : Nat} (hw : w < s.weeks.toNat) (hc : canS s = true) : 0 ≤ (gvS s w).1 ∧ (gvS s w).1 ≤ (gvS s w).2 ∧ (gvS s w).2 ≤ s.most := by
  have key : ∀ L : List Int, (∀ r ∈ L, okN s (leavesS s r) = true) → ∀ v : Int × Int, (0 ≤ v.1 ∧ v.2 ≤ s.most ∧ (v.1 ≤ v.2 ∨ v = (s.most, 0))) → 0 ≤ (gvL s w L v).1 ∧ (gvL s w L v).2 ≤ s.most ∧ ((gvL s w L v).1 ≤ (gvL s w L v).2 ∨ (L = [] ∧ gvL s w L v = (s.most, 0))) := by
    intro L
    induction L with
    | nil => intro _ v hv; exact ⟨hv.1, hv.2.1, hv.2.2.imp (fun h => h) (fun h => ⟨rfl, h⟩)⟩
    | cons x L ih =>
      intro hL v hv
      have hx := leaves_bd (hL x (by simp)) hw
      have h2 := ih (fun r hr => hL r (List.mem_cons_of_mem _ hr)) (arS v (leavesS s x w)) (by
        unfold arS
        refine ⟨?_, ?_, .inl ?_⟩
        · show 0 ≤ min _ _; omega
        · show max _ _ ≤ _; omega
        · show min _ _ ≤ max _ _; omega)
      refine ⟨h2.1, h2.2.1, .inl ?_⟩
      rcases h2.2.2 with h | ⟨h, h'⟩
      · exact h
      · subst h
        show (arS v (leavesS s x w)).1 ≤ (arS v (leavesS s x w)).2
        unfold arS
        show min _ _ ≤ max _ _
        omega
  have hm := hs.ok.m1
  have h := key (rainsS s) (fun r hr => (rains_mem hr).1) (s.most, 0) ⟨hm, hm, .inr rfl⟩
  refine ⟨h.1, ?_, h.2.1⟩
  rcases h.2.2 with h | ⟨h, h'⟩
  · exact h
  · unfold canS at hc; rw [h] at hc; cases hc
def shS (s : Sp) (p : Int × Int → Bool) : Option Nat := (List.range s.weeks.toNat).find? fun w => p (gvS s w)
def shE (s : Sp) (p : Int × Int → Bool) : Int := if beginS s (qw 0 0) [4] = 0 then (if (shS s p).isSome then 0 else 6) else beginS s (qw 0 0) [4]
def shW (s : Sp) (p : Int × Int → Bool) : Int := if beginS s (qw 0 0) [4] = 0 then (((shS s p).getD 0 : Nat) : Int) else 0
section
variable {s : Sp} {b r : Value}
theorem c_short (d : Nat) {f : Int × Int → Int} {fv : Value} {need : Int} {h N} (nb : s.book.length < 1000) (nr : s.reads.length < 1000) (hb : Sl h N b s.book) (hr : Sl h N r s.reads)
    (hf : ∀ a c h1 N1, Rn (callW [(61, F61), (62, F62)] (cN (d + 3)) fv [.agg ⟨[iS a, iS c]⟩] h1 N1) fun v h' N' => v = iS (f (a, c)) ∧ Gw h1 N1 h' N') :
    Rn (s53 (cN (d + 3)) (.agg ⟨[iS s.weeks, iS s.most, iS s.fall, iS s.slo, iS s.shi, iS s.wlo, iS s.whi, b, r]⟩) fv (iS need) h N) fun v h' N' => v = .tuple ⟨[iS (shW s fun v => decide (f v < need)), iS (shE s fun v => decide (f v < need))]⟩ ∧ Gw h N h' N' := by
  unfold s53
  have cb := hb.flat; have cr := hr.flat; have x1 := flatV_one cb; have y1 := cel_flat cb; have x2 := flatV_one cr; have y2 := cel_flat cr
  try refine gs_Sc ?_
  refine Rn.call (c_begin d (q := qw 0 0) (L := [4]) nb nr (Sl.up (by assumption) fr_Sc (by omega)) (Sl.up (by assumption) fr_Sc (by omega)) (by simp) (Sl.lit _ sM_Sc (by omega) rfl rfl) (by simp)) ?_
  rintro _ h1 N1 ⟨⟨e0, hv, rfl⟩ | ⟨e0, rfl⟩, f1, o1, l1⟩
  · have hs := ok_of_valid hv
    have w1 := hs.ok.w1
    have w2 := hs.ok.w2
    have e1 : ∀ p, shW s p = (((shS s p).getD 0 : Nat) : Int) := fun p => if_pos e0
    have e2 : ∀ p, shE s p = if (shS s p).isSome then 0 else 6 := fun p => if_pos e0
    rw [e1, e2]
    try refine gs_Sc ?_
    refine Rn.loop5 (fun n p1 p2 p3 l k g M => ∃ i : Nat, fv = p1 ∧ p2 = iS need ∧ p3 = .func (.func 62) ⟨[.agg ⟨[iS s.weeks, iS s.most, iS s.fall, iS s.slo, iS s.shi, iS s.wlo, iS s.whi, b, r]⟩]⟩ ⟨[]⟩ ∧ l = iS s.weeks ∧ k = nS i ∧ (i : Int) + n = s.weeks ∧ Fr h N g ∧ N ≤ M ∧ ∀ j, j < i → ¬ f (gvS s j) < need) s.weeks.toNat (by omega) ⟨0, rfl, rfl, rfl, rfl, rfl, by omega, fr_Sc, by omega, fun j hj => by omega⟩ ?_
    rintro n g ih _ _ _ _ _ h2 N2 ⟨i, rfl, rfl, rfl, rfl, rfl, e3, f2, l2, q1⟩
    try refine gs_Sc ?_
    (first | with_reducible refine Rn.cnd (fun _ => ?_) (fun _ => ?_) | with_reducible refine Rn.cndN (fun _ => ?_) (fun _ => ?_) | with_reducible refine Rn.cndB (fun _ => ?_) (fun _ => ?_))
    · try refine gs_Sc ?_
      refine Rn.call (show Rn (callW [(61, F61), (62, F62)] (cN (d + 3)) (.func (.func 62) ⟨[.agg ⟨[iS s.weeks, iS s.most, iS s.fall, iS s.slo, iS s.shi, iS s.wlo, iS s.whi, b, r]⟩]⟩ ⟨[]⟩) [nS i] _ _) _ from c_gives (d + 1) (w := (i : Int)) hs (by omega) (Sl.up (by assumption) fr_Sc (by omega)) (Sl.up (by assumption) fr_Sc (by omega))) ?_
      rintro _ h3 N3 ⟨rfl, f3, o3, l3⟩
      try refine gs_Sc ?_
      refine Rn.call (hf _ _ _ _) ?_
      rintro _ h4 N4 ⟨rfl, f4, o4, l4⟩
      try refine gs_Sc ?_
      rw [Int.toNat_natCast]
      (first | with_reducible refine Rn.cnd (fun _ => ?_) (fun _ => ?_) | with_reducible refine Rn.cndN (fun _ => ?_) (fun _ => ?_) | with_reducible refine Rn.cndB (fun _ => ?_) (fun _ => ?_))
      · have e4 : shS s (fun v => decide (f v < need)) = some i := by
          unfold shS
          rw [List.find?_range_eq_some]
          refine ⟨?_, List.mem_range.2 (by omega), fun j hj => ?_⟩
          · exact decide_eq_true (by assumption)
          · rw [Bool.not_eq_true', decide_eq_false_iff_not]; exact q1 j hj
        rw [e4]
        try refine gs_Sc ?_
        exact Rn.ret ⟨rfl, (Gw.of fr_Sc (by omega))⟩
      · try refine gs_Sc ?_
        exact ih (n - 1) (by omega) _ _ _ _ _ _ _ ⟨i + 1, rfl, rfl, rfl, rfl, rfl, by omega, fr_Sc, by omega, fun j hj => by
          rcases Nat.lt_or_ge j i with h | h
          · exact q1 j h
          · obtain rfl : j = i := by omega
            assumption⟩
    · have e4 : shS s (fun v => decide (f v < need)) = none := by
        unfold shS
        rw [List.find?_range_eq_none]
        intro j hj
        rw [Bool.not_eq_true', decide_eq_false_iff_not]; exact q1 j (by omega)
      rw [e4]
      try refine gs_Sc ?_
      exact Rn.ret ⟨rfl, (Gw.of fr_Sc (by omega))⟩
  · have e1 : ∀ p, shW s p = 0 := fun p => if_neg e0
    have e2 : ∀ p, shE s p = beginS s (qw 0 0) [4] := fun p => if_neg e0
    rw [e1, e2]
    generalize beginS s (qw 0 0) [4] = e at e0
    try refine gs_Sc ?_
    exact Rn.ret ⟨rfl, (Gw.of fr_Sc (by omega))⟩
theorem c_least (call : CallF) {a c : Int} {h N} : Rn (s54 call (.agg ⟨[iS a, iS c]⟩) h N) fun v h' N' => v = iS a ∧ Gw h N h' N' := by
  unfold s54
  try refine gs_Sc ?_
  exact Rn.ret ⟨rfl, (Gw.of fr_Sc (by omega))⟩
theorem c_most (call : CallF) {a c : Int} {h N} : Rn (s57 call (.agg ⟨[iS a, iS c]⟩) h N) fun v h' N' => v = iS c ∧ Gw h N h' N' := by
  unfold s57
  try refine gs_Sc ?_
  exact Rn.ret ⟨rfl, (Gw.of fr_Sc (by omega))⟩
def loP (need : Int) : Int × Int → Bool := fun v => decide (v.1 < need)
def hiP (need : Int) : Int × Int → Bool := fun v => decide (v.2 < need)
theorem c_Fails (d : Nat) {need : Int} {h N} (nb : s.book.length < 1000) (nr : s.reads.length < 1000) (hb : Sl h N b s.book) (hr : Sl h N r s.reads) : Rn (s14 (cN (d + 3)) (.agg ⟨[iS s.weeks, iS s.most, iS s.fall, iS s.slo, iS s.shi, iS s.wlo, iS s.whi, b, r]⟩) (iS need) h N) fun v h' N' => v = .tuple ⟨[iS (shW s (loP need)), iS (shE s (loP need))]⟩ ∧ Gw h N h' N' := by
  unfold s14
  have cb := hb.flat; have cr := hr.flat; have x1 := flatV_one cb; have y1 := cel_flat cb; have x2 := flatV_one cr; have y2 := cel_flat cr
  try refine gs_Sc ?_
  refine Rn.call (c_short d (f := fun v => v.1) nb nr (Sl.up (by assumption) fr_Sc (by omega)) (Sl.up (by assumption) fr_Sc (by omega)) (fun a c h1 N1 => c_least (cN (d + 2)))) ?_
  rintro _ h1 N1 ⟨rfl, f1, o1, l1⟩
  try refine gs_Sc ?_
  exact Rn.ret ⟨rfl, (Gw.of fr_Sc (by omega))⟩
theorem c_Surely (d : Nat) {need : Int} {h N} (nb : s.book.length < 1000) (nr : s.reads.length < 1000) (hb : Sl h N b s.book) (hr : Sl h N r s.reads) : Rn (s16 (cN (d + 3)) (.agg ⟨[iS s.weeks, iS s.most, iS s.fall, iS s.slo, iS s.shi, iS s.wlo, iS s.whi, b, r]⟩) (iS need) h N) fun v h' N' => v = .tuple ⟨[iS (shW s (hiP need)), iS (shE s (hiP need))]⟩ ∧ Gw h N h' N' := by
  unfold s16
  have cb := hb.flat; have cr := hr.flat; have x1 := flatV_one cb; have y1 := cel_flat cb; have x2 := flatV_one cr; have y2 := cel_flat cr
  try refine gs_Sc ?_
  refine Rn.call (c_short d (f := fun v => v.2) nb nr (Sl.up (by assumption) fr_Sc (by omega)) (Sl.up (by assumption) fr_Sc (by omega)) (fun a c h1 N1 => c_most (cN (d + 2)))) ?_
  rintro _ h1 N1 ⟨rfl, f1, o1, l1⟩
  try refine gs_Sc ?_
  exact Rn.ret ⟨rfl, (Gw.of fr_Sc (by omega))⟩
end
end Go.Proofs.Ytpilgokdbliklaa
end

section
namespace Go.Proofs.Ytpilgokdbliklaa
open Go.Ev Go.RowKit
set_option linter.unusedVariables false
set_option linter.unusedSimpArgs false
set_option linter.unusedSectionVars false
set_option maxRecDepth 100000
set_option maxHeartbeats 4000000
theorem c_rwithin (call : CallF) {n a c : Int} {h N} : Rn (s66 call (iS n) (iS a) (iS c) h N) fun v h' N' => v = .bool (inS a c n) ∧ Gw h N h' N' := by
  unfold s66
  repeat' (first | refine gs_Sc ?_ | (first | with_reducible refine Rn.part (fun _ => ?_) (fun _ => ?_) | with_reducible refine Rn.partN (fun _ => ?_) (fun _ => ?_) | with_reducible refine Rn.partB (fun _ => ?_) (fun _ => ?_)) | (first | with_reducible refine Rn.cnd (fun _ => ?_) (fun _ => ?_) | with_reducible refine Rn.cndN (fun _ => ?_) (fun _ => ?_) | with_reducible refine Rn.cndB (fun _ => ?_) (fun _ => ?_)))
  · exact Rn.ret ⟨congrArg Value.bool (by unfold inS; rw [decide_eq_true (p := a ≤ n) (by omega), Bool.true_and]), (Gw.of fr_Sc (by omega))⟩
  · exact Rn.ret ⟨congrArg Value.bool (by unfold inS; rw [decide_eq_false (p := a ≤ n) (by omega), Bool.false_and]), (Gw.of fr_Sc (by omega))⟩
theorem spanned_eq (lo hi a b : Int) : (inS a b hi && inS a hi lo) = isSpanB lo hi a b := by
  rw [Bool.eq_iff_iff]; simp [inS, isSpanB]; omega
theorem c_rspanned (call : CallF) {lo hi a c : Int} {h N} : Rn (s84 call (.agg ⟨[iS lo, iS hi]⟩) (iS a) (iS c) h N) fun v h' N' => v = .bool (isSpanB lo hi a c) ∧ Gw h N h' N' := by
  unfold s84
  rw [← spanned_eq]
  try refine gs_Sc ?_
  refine Rn.call (c_rwithin _) ?_
  rintro _ h1 N1 ⟨rfl, f1, o1, l1⟩
  repeat' (first | refine gs_Sc ?_ | (first | with_reducible refine Rn.part (fun _ => ?_) (fun _ => ?_) | with_reducible refine Rn.partN (fun _ => ?_) (fun _ => ?_) | with_reducible refine Rn.partB (fun _ => ?_) (fun _ => ?_)) | (first | with_reducible refine Rn.cnd (fun _ => ?_) (fun _ => ?_) | with_reducible refine Rn.cndN (fun _ => ?_) (fun _ => ?_) | with_reducible refine Rn.cndB (fun _ => ?_) (fun _ => ?_)))
  rotate_left
  · exact Rn.ret ⟨congrArg Value.bool (by simp only [frameB, lineB, readB, isWeekB, *, Bool.and_true, Bool.true_and, Bool.false_and, Bool.and_false]), (Gw.of fr_Sc (by omega))⟩
  refine Rn.call (c_rwithin _) ?_
  rintro _ h2 N2 ⟨rfl, f2, o2, l2⟩
  try refine gs_Sc ?_
  exact Rn.ret ⟨congrArg Value.bool (by simp only [frameB, lineB, readB, isWeekB, *, Bool.and_true, Bool.true_and, Bool.false_and, Bool.and_false]), (Gw.of fr_Sc (by omega))⟩
theorem c_rReading (call : CallF) {x : Rd} {w : Int} {h N} (hw : -1000000000 ≤ w ∧ w ≤ 1000000000) : Rn (s44 call (.agg ⟨Rwc.enc x⟩) (iS w) h N) fun v h' N' => v = .bool (readB w x) ∧ Gw h N h' N' := by
  unfold s44
  simp only [enc_Reading]
  try refine gs_Sc ?_
  refine Rn.call (c_rwithin _) ?_
  rintro _ h1 N1 ⟨rfl, f1, o1, l1⟩
  repeat' (first | refine gs_Sc ?_ | (first | with_reducible refine Rn.part (fun _ => ?_) (fun _ => ?_) | with_reducible refine Rn.partN (fun _ => ?_) (fun _ => ?_) | with_reducible refine Rn.partB (fun _ => ?_) (fun _ => ?_)) | (first | with_reducible refine Rn.cnd (fun _ => ?_) (fun _ => ?_) | with_reducible refine Rn.cndN (fun _ => ?_) (fun _ => ?_) | with_reducible refine Rn.cndB (fun _ => ?_) (fun _ => ?_)))
  rotate_left
  · exact Rn.ret ⟨congrArg Value.bool (by simp only [frameB, lineB, readB, isWeekB, *, Bool.and_true, Bool.true_and, Bool.false_and, Bool.and_false]), (Gw.of fr_Sc (by omega))⟩
  refine Rn.call (c_rwithin _) ?_
  rintro _ h2 N2 ⟨rfl, f2, o2, l2⟩
  repeat' (first | refine gs_Sc ?_ | (first | with_reducible refine Rn.part (fun _ => ?_) (fun _ => ?_) | with_reducible refine Rn.partN (fun _ => ?_) (fun _ => ?_) | with_reducible refine Rn.partB (fun _ => ?_) (fun _ => ?_)) | (first | with_reducible refine Rn.cnd (fun _ => ?_) (fun _ => ?_) | with_reducible refine Rn.cndN (fun _ => ?_) (fun _ => ?_) | with_reducible refine Rn.cndB (fun _ => ?_) (fun _ => ?_)))
  rotate_left
  · exact Rn.ret ⟨congrArg Value.bool (by simp only [frameB, lineB, readB, isWeekB, *, Bool.and_true, Bool.true_and, Bool.false_and, Bool.and_false]), (Gw.of fr_Sc (by omega))⟩
  refine Rn.call (c_rwithin _) ?_
  rintro _ h3 N3 ⟨rfl, f3, o3, l3⟩
  repeat' (first | refine gs_Sc ?_ | (first | with_reducible refine Rn.part (fun _ => ?_) (fun _ => ?_) | with_reducible refine Rn.partN (fun _ => ?_) (fun _ => ?_) | with_reducible refine Rn.partB (fun _ => ?_) (fun _ => ?_)) | (first | with_reducible refine Rn.cnd (fun _ => ?_) (fun _ => ?_) | with_reducible refine Rn.cndN (fun _ => ?_) (fun _ => ?_) | with_reducible refine Rn.cndB (fun _ => ?_) (fun _ => ?_)))
  rotate_left
  · exact Rn.ret ⟨congrArg Value.bool (by simp only [frameB, lineB, readB, isWeekB, *, Bool.and_true, Bool.true_and, Bool.false_and, Bool.and_false]), (Gw.of fr_Sc (by omega))⟩
  refine Rn.call (c_rspanned _) ?_
  rintro _ h4 N4 ⟨rfl, f4, o4, l4⟩
  repeat' (first | refine gs_Sc ?_ | (first | with_reducible refine Rn.part (fun _ => ?_) (fun _ => ?_) | with_reducible refine Rn.partN (fun _ => ?_) (fun _ => ?_) | with_reducible refine Rn.partB (fun _ => ?_) (fun _ => ?_)) | (first | with_reducible refine Rn.cnd (fun _ => ?_) (fun _ => ?_) | with_reducible refine Rn.cndN (fun _ => ?_) (fun _ => ?_) | with_reducible refine Rn.cndB (fun _ => ?_) (fun _ => ?_)))
  · refine Rn.ret ⟨congrArg Value.bool ?_, (Gw.of fr_Sc (by omega))⟩
    simp only [readB, isWeekB, *, Bool.true_and]; rw [Bool.eq_iff_iff]; simp only [decide_eq_true_eq]; omega
  · exact Rn.ret ⟨congrArg Value.bool (by simp only [frameB, lineB, readB, isWeekB, *, Bool.and_true, Bool.true_and, Bool.false_and, Bool.and_false]), (Gw.of fr_Sc (by omega))⟩
section
variable {s : Sp} {b r : Value}
theorem c_rSpring (call : CallF) {h N} (nb : s.book.length < 1000) (nr : s.reads.length < 1000) (hb : Sl h N b s.book) (hr : Sl h N r s.reads) : Rn (s65 call (.agg ⟨[iS s.weeks, iS s.most, iS s.fall, iS s.slo, iS s.shi, iS s.wlo, iS s.whi, b, r]⟩) h N) fun v h' N' => v = .bool (validB s) ∧ Gw h N h' N' := by
  have cb := hb.flat
  have cr := hr.flat
  unfold s65
  have x1 := flatV_one cb; have y1 := cel_flat cb; have x2 := flatV_one cr; have y2 := cel_flat cr
  have no : ∀ {t : Bool}, (frameB s && bookB s.weeks s.book && readsB s.weeks s.reads) = t → validB s = t := fun h => h
  try refine gs_Sc ?_
  refine Rn.call (c_rwithin _) ?_
  rintro _ h1 N1 ⟨rfl, f1, o1, l1⟩
  repeat' (first | refine gs_Sc ?_ | (first | with_reducible refine Rn.part (fun _ => ?_) (fun _ => ?_) | with_reducible refine Rn.partN (fun _ => ?_) (fun _ => ?_) | with_reducible refine Rn.partB (fun _ => ?_) (fun _ => ?_)) | (first | with_reducible refine Rn.cnd (fun _ => ?_) (fun _ => ?_) | with_reducible refine Rn.cndN (fun _ => ?_) (fun _ => ?_) | with_reducible refine Rn.cndB (fun _ => ?_) (fun _ => ?_)))
  all_goals try ((refine Rn.ret ⟨congrArg Value.bool (no ?_).symm, (Gw.of fr_Sc (by omega))⟩); (simp only [frameB, *, Bool.false_and, Bool.and_false]; done))
  refine Rn.call (c_rwithin _) ?_
  rintro _ h2 N2 ⟨rfl, f2, o2, l2⟩
  repeat' (first | refine gs_Sc ?_ | (first | with_reducible refine Rn.part (fun _ => ?_) (fun _ => ?_) | with_reducible refine Rn.partN (fun _ => ?_) (fun _ => ?_) | with_reducible refine Rn.partB (fun _ => ?_) (fun _ => ?_)) | (first | with_reducible refine Rn.cnd (fun _ => ?_) (fun _ => ?_) | with_reducible refine Rn.cndN (fun _ => ?_) (fun _ => ?_) | with_reducible refine Rn.cndB (fun _ => ?_) (fun _ => ?_)))
  all_goals try ((refine Rn.ret ⟨congrArg Value.bool (no ?_).symm, (Gw.of fr_Sc (by omega))⟩); (simp only [frameB, *, Bool.false_and, Bool.and_false]; done))
  refine Rn.call (c_rwithin _) ?_
  rintro _ h3 N3 ⟨rfl, f3, o3, l3⟩
  repeat' (first | refine gs_Sc ?_ | (first | with_reducible refine Rn.part (fun _ => ?_) (fun _ => ?_) | with_reducible refine Rn.partN (fun _ => ?_) (fun _ => ?_) | with_reducible refine Rn.partB (fun _ => ?_) (fun _ => ?_)) | (first | with_reducible refine Rn.cnd (fun _ => ?_) (fun _ => ?_) | with_reducible refine Rn.cndN (fun _ => ?_) (fun _ => ?_) | with_reducible refine Rn.cndB (fun _ => ?_) (fun _ => ?_)))
  all_goals try ((refine Rn.ret ⟨congrArg Value.bool (no ?_).symm, (Gw.of fr_Sc (by omega))⟩); (simp only [frameB, *, Bool.false_and, Bool.and_false]; done))
  refine Rn.call (c_rspanned _) ?_
  rintro _ h4 N4 ⟨rfl, f4, o4, l4⟩
  repeat' (first | refine gs_Sc ?_ | (first | with_reducible refine Rn.part (fun _ => ?_) (fun _ => ?_) | with_reducible refine Rn.partN (fun _ => ?_) (fun _ => ?_) | with_reducible refine Rn.partB (fun _ => ?_) (fun _ => ?_)) | (first | with_reducible refine Rn.cnd (fun _ => ?_) (fun _ => ?_) | with_reducible refine Rn.cndN (fun _ => ?_) (fun _ => ?_) | with_reducible refine Rn.cndB (fun _ => ?_) (fun _ => ?_)))
  all_goals try ((refine Rn.ret ⟨congrArg Value.bool (no ?_).symm, (Gw.of fr_Sc (by omega))⟩); (simp only [frameB, *, Bool.false_and, Bool.and_false]; done))
  refine Rn.call (c_rspanned _) ?_
  rintro _ h5 N5 ⟨rfl, f5, o5, l5⟩
  repeat' (first | refine gs_Sc ?_ | (first | with_reducible refine Rn.part (fun _ => ?_) (fun _ => ?_) | with_reducible refine Rn.partN (fun _ => ?_) (fun _ => ?_) | with_reducible refine Rn.partB (fun _ => ?_) (fun _ => ?_)) | (first | with_reducible refine Rn.cnd (fun _ => ?_) (fun _ => ?_) | with_reducible refine Rn.cndN (fun _ => ?_) (fun _ => ?_) | with_reducible refine Rn.cndB (fun _ => ?_) (fun _ => ?_)))
  all_goals try ((refine Rn.ret ⟨congrArg Value.bool (no ?_).symm, (Gw.of fr_Sc (by omega))⟩); (simp only [frameB, *, Bool.false_and, Bool.and_false]; done))
  all_goals try ((refine Rn.ret ⟨congrArg Value.bool (no ?_).symm, (Gw.of fr_Sc (by omega))⟩); (unfold bookB; rw [decide_eq_false (p := s.book.length ≤ 8) (by omega)]; simp only [Bool.false_and, Bool.and_false]; done))
  all_goals try ((refine Rn.ret ⟨congrArg Value.bool (no ?_).symm, (Gw.of fr_Sc (by omega))⟩); (unfold readsB; rw [decide_eq_false (p := s.reads.length ≤ 12) (by omega)]; simp only [Bool.false_and, Bool.and_false]; done))
  have hfr : frameB s = true := by simp only [frameB, *, Bool.and_true]
  have hw := frame_weeks hfr
  have hall : validB s = (s.book.all (lineB s.weeks) && rdsB s.weeks 0 s.reads) := by
    unfold validB bookB readsB; rw [hfr, decide_eq_true (by omega), decide_eq_true (by omega)]; rfl
  clear no
  rw [hall]
  refine Rn.loop4 (fun n p u l k g M => ∃ i : Nat, p = .pointer (some ⟨N, 0, none⟩) ∧ b = u ∧ l = nS s.book.length ∧ k = nS i ∧ i + n = s.book.length ∧ Fr h N g ∧ N + 1 ≤ M ∧ g.get N = some (.c [iS s.weeks, iS s.most, iS s.fall, iS s.slo, iS s.shi, iS s.wlo, iS s.whi, b, r] 27) ∧ (s.book.drop i).all (lineB s.weeks) = s.book.all (lineB s.weeks)) s.book.length (by omega) ⟨0, rfl, rfl, rfl, rfl, by omega, fr_Sc, by omega, sS_Sc, rfl⟩ ?_
  rintro n g ih _ _ _ _ h6 N6 ⟨i, rfl, rfl, rfl, rfl, e1, f6, l6, g1, q1⟩
  try refine gs_Sc ?_
  (first | with_reducible refine Rn.cnd (fun _ => ?_) (fun _ => ?_) | with_reducible refine Rn.cndN (fun _ => ?_) (fun _ => ?_) | with_reducible refine Rn.cndB (fun _ => ?_) (fun _ => ?_))
  · obtain ⟨x, hx⟩ := at_of (L := s.book) (k := i) (by omega)
    rw [drop_at hx] at q1
    simp only [List.all_cons] at q1
    have no : lineB s.weeks x = false → false = (s.book.all (lineB s.weeks) && rdsB s.weeks 0 s.reads) := fun h => by rw [← q1, h]; rfl
    have yes : lineB s.weeks x = true → (s.book.drop (i + 1)).all (lineB s.weeks) = s.book.all (lineB s.weeks) := fun h => by rw [← q1, h]; rfl
    clear q1
    try refine gs_Sc ?_
    refine Rn.call (c_rspanned _) ?_
    rintro _ h7 N7 ⟨rfl, f7, o7, l7⟩
    repeat' (first | refine gs_Sc ?_ | (first | with_reducible refine Rn.part (fun _ => ?_) (fun _ => ?_) | with_reducible refine Rn.partN (fun _ => ?_) (fun _ => ?_) | with_reducible refine Rn.partB (fun _ => ?_) (fun _ => ?_)) | (first | with_reducible refine Rn.cnd (fun _ => ?_) (fun _ => ?_) | with_reducible refine Rn.cndN (fun _ => ?_) (fun _ => ?_) | with_reducible refine Rn.cndB (fun _ => ?_) (fun _ => ?_)))
    all_goals try ((refine Rn.ret ⟨congrArg Value.bool (no ?_), (Gw.of fr_Sc (by omega))⟩); (simp only [lineB, isWeekB, *, Bool.false_and, Bool.and_false]; done))
    refine Rn.call (c_rwithin _) ?_
    rintro _ h8 N8 ⟨rfl, f8, o8, l8⟩
    repeat' (first | refine gs_Sc ?_ | (first | with_reducible refine Rn.part (fun _ => ?_) (fun _ => ?_) | with_reducible refine Rn.partN (fun _ => ?_) (fun _ => ?_) | with_reducible refine Rn.partB (fun _ => ?_) (fun _ => ?_)) | (first | with_reducible refine Rn.cnd (fun _ => ?_) (fun _ => ?_) | with_reducible refine Rn.cndN (fun _ => ?_) (fun _ => ?_) | with_reducible refine Rn.cndB (fun _ => ?_) (fun _ => ?_)))
    all_goals try ((refine Rn.ret ⟨congrArg Value.bool (no ?_), (Gw.of fr_Sc (by omega))⟩); (simp only [lineB, isWeekB, *, Bool.false_and, Bool.and_false]; done))
    refine Rn.call (c_rspanned _) ?_
    rintro _ h9 N9 ⟨rfl, f9, o9, l9⟩
    repeat' (first | refine gs_Sc ?_ | (first | with_reducible refine Rn.part (fun _ => ?_) (fun _ => ?_) | with_reducible refine Rn.partN (fun _ => ?_) (fun _ => ?_) | with_reducible refine Rn.partB (fun _ => ?_) (fun _ => ?_)) | (first | with_reducible refine Rn.cnd (fun _ => ?_) (fun _ => ?_) | with_reducible refine Rn.cndN (fun _ => ?_) (fun _ => ?_) | with_reducible refine Rn.cndB (fun _ => ?_) (fun _ => ?_)))
    all_goals try ((refine Rn.ret ⟨congrArg Value.bool (no ?_), (Gw.of fr_Sc (by omega))⟩); (simp only [lineB, isWeekB, *, Bool.false_and, Bool.and_false]; done))
    exact ih (n - 1) (by omega) _ _ _ _ _ _ ⟨i + 1, rfl, rfl, rfl, rfl, by omega, fr_Sc, by omega, sS_Sc, yes (by simp only [lineB, isWeekB, *, Bool.and_true])⟩
  · rw [List.drop_eq_nil_of_le (by omega)] at q1
    have q2 : s.book.all (lineB s.weeks) = true := q1.symm
    rw [q2, Bool.true_and]
    clear ih q1
    try refine gs_Sc ?_
    refine Rn.loop4 (fun n p u l k g M => ∃ (i : Nat) (y : Int), p = .pointer (some ⟨N, 0, none⟩) ∧ r = u ∧ l = nS s.reads.length ∧ k = nS i ∧ i + n = s.reads.length ∧ Fr h N g ∧ N + 1 ≤ M ∧ g.get N = some (.c [iS s.weeks, iS s.most, iS s.fall, iS s.slo, iS s.shi, iS s.wlo, iS s.whi, b, r] 27) ∧ rdsB s.weeks y (s.reads.drop i) = rdsB s.weeks 0 s.reads ∧ (i = 0 ∧ y = 0 ∨ 0 < i ∧ ∃ p, s.reads[i - 1]? = some p ∧ p.Number = y)) s.reads.length (by omega) ⟨0, 0, rfl, rfl, rfl, rfl, by omega, fr_Sc, by omega, sS_Sc, rfl, .inl ⟨rfl, rfl⟩⟩ ?_
    rintro n g ih _ _ _ _ h6 N6 ⟨i, y, rfl, rfl, rfl, rfl, e1, f6, l6, g1, q1, q3⟩
    try refine gs_Sc ?_
    (first | with_reducible refine Rn.cnd (fun _ => ?_) (fun _ => ?_) | with_reducible refine Rn.cndN (fun _ => ?_) (fun _ => ?_) | with_reducible refine Rn.cndB (fun _ => ?_) (fun _ => ?_))
    · obtain ⟨x, hx⟩ := at_of (L := s.reads) (k := i) (by omega)
      rw [drop_at hx] at q1
      simp only [rdsB] at q1
      have xe : s.reads[i + 1 - 1]? = some x := hx
      try refine gs_Sc ?_
      refine Rn.call (c_rReading _ (by omega)) ?_
      rintro _ h7 N7 ⟨rfl, f7, o7, l7⟩
      cases hrd : readB s.weeks x with
      | false =>
        rw [hrd] at q1
        simp only [Bool.and_false, Bool.false_and] at q1
        clear ih q3
        generalize rdsB s.weeks 0 s.reads = z at q1 ⊢
        subst q1
        repeat' (first | refine gs_Sc ?_ | (first | with_reducible refine Rn.part (fun _ => ?_) (fun _ => ?_) | with_reducible refine Rn.partN (fun _ => ?_) (fun _ => ?_) | with_reducible refine Rn.partB (fun _ => ?_) (fun _ => ?_)) | (first | with_reducible refine Rn.cnd (fun _ => ?_) (fun _ => ?_) | with_reducible refine Rn.cndN (fun _ => ?_) (fun _ => ?_) | with_reducible refine Rn.cndB (fun _ => ?_) (fun _ => ?_)))
        exact Rn.ret ⟨rfl, (Gw.of fr_Sc (by omega))⟩
      | true =>
        have hn : 1 ≤ x.Number := by simp only [readB, inS, Bool.and_eq_true, decide_eq_true_eq] at hrd; omega
        rw [hrd] at q1
        simp only [Bool.and_true] at q1
        rcases q3 with ⟨rfl, rfl⟩ | ⟨hi, p, hp, rfl⟩
        · rw [decide_eq_true (by omega)] at q1
          repeat' (first | refine gs_Sc ?_ | (first | with_reducible refine Rn.part (fun _ => ?_) (fun _ => ?_) | with_reducible refine Rn.partN (fun _ => ?_) (fun _ => ?_) | with_reducible refine Rn.partB (fun _ => ?_) (fun _ => ?_)) | (first | with_reducible refine Rn.cnd (fun _ => ?_) (fun _ => ?_) | with_reducible refine Rn.cndN (fun _ => ?_) (fun _ => ?_) | with_reducible refine Rn.cndB (fun _ => ?_) (fun _ => ?_)))
          all_goals first | omega | exact ih (n - 1) (by omega) _ _ _ _ _ _ ⟨0 + 1, x.Number, rfl, rfl, rfl, rfl, by omega, fr_Sc, by omega, sS_Sc, q1, .inr ⟨by omega, x, xe, rfl⟩⟩
        · repeat' (first | refine gs_Sc ?_ | (first | with_reducible refine Rn.part (fun _ => ?_) (fun _ => ?_) | with_reducible refine Rn.partN (fun _ => ?_) (fun _ => ?_) | with_reducible refine Rn.partB (fun _ => ?_) (fun _ => ?_)) | (first | with_reducible refine Rn.cnd (fun _ => ?_) (fun _ => ?_) | with_reducible refine Rn.cndN (fun _ => ?_) (fun _ => ?_) | with_reducible refine Rn.cndB (fun _ => ?_) (fun _ => ?_)))
          all_goals try (exfalso; omega)
          · rw [decide_eq_false (by omega)] at q1
            exact Rn.ret ⟨congrArg Value.bool q1, (Gw.of fr_Sc (by omega))⟩
          · rw [decide_eq_true (by omega)] at q1
            exact ih (n - 1) (by omega) _ _ _ _ _ _ ⟨i + 1, x.Number, rfl, rfl, rfl, rfl, by omega, fr_Sc, by omega, sS_Sc, q1, .inr ⟨by omega, x, xe, rfl⟩⟩
    · rw [List.drop_eq_nil_of_le (by omega)] at q1
      try refine gs_Sc ?_
      exact Rn.ret ⟨congrArg Value.bool q1, (Gw.of fr_Sc (by omega))⟩
end
end Go.Proofs.Ytpilgokdbliklaa
end

section
namespace Go.Proofs.Ytpilgokdbliklaa
open Go.Ev Go.RowKit
set_option linter.unusedVariables false
set_option linter.unusedSimpArgs false
set_option linter.unusedSectionVars false
set_option maxRecDepth 100000
set_option maxHeartbeats 4000000
theorem s1_Sk {p : Prop} (h : p := by (simp (disch := omega) only [obind_s, orun_s, ocond_t, fad_p, ld1_e, ldN_e, sto_e, cellO_c, wrO_c, Tr.get_same, Tr.get_other, nth_0, nth_s, drp_0, drp_s, drp_n, tak_0, tak_s, tak_n, over_n, over_c, lay_0, lay_s, lay_n, len_n, len_c, app_n, app_c, reps_0, reps_s, cel_agg, cel_int, cel_bool, cel_str, cel_sl, cel_ptr, cel_map, cel_func, cel_nilf, fil_n, fil_c, beq_r, ble_d, allF_n, allF_c, one_int, one_bool, one_str, one_sl, one_ptr, one_map, one_func, one_nilf, Bool.and_true, Bool.true_and, Bool.not_true, Bool.not_false, iadA_z, Int.reduceToNat, Int.toNat_zero, fl1_a, flN_a, extr_t, unot, not_d, Nat.add_eq, Nat.mul_eq, Nat.mul_one, Nat.one_mul, Nat.zero_mul, Nat.reduceMul, Nat.zero_add, Nat.add_zero, Nat.le_refl, decide_true, Nat.reduceAdd, Nat.reduceLeDiff, bsl_Sint, bld_Span, bld_spring_work, bld_spring_asked, enc_Line, enc_Reading, ocond_d, Int.toNat_natCast, bd_drp0, bd_drp1, bd_lay, bd_len, bd_self, bd_tak, bd_over, qc_drp0, qc_drp1, setSt_e, stO_n, stO_s, isReady_r, anySt_t, unmark_e, unO_d, bsl_Saguadorref01_left, enc_Lf, le_lo, le_hi, le_laylo, le_layhi, le_len, le_self, le_tak, le_over, up_same, up_up, Nat.add_sub_cancel, *]); first | done | fail) : p := h
theorem s2_Sk {p : Prop} (h : p := by (simp (disch := omega) only [obind_s, orun_s, ocond_t, fad_p, ld1_e, ldN_e, sto_e, cellO_c, wrO_c, Tr.get_same, Tr.get_other, nth_0, nth_s, drp_0, drp_s, drp_n, tak_0, tak_s, tak_n, over_n, over_c, lay_0, lay_s, lay_n, len_n, len_c, app_n, app_c, reps_0, reps_s, cel_agg, cel_int, cel_bool, cel_str, cel_sl, cel_ptr, cel_map, cel_func, cel_nilf, fil_n, fil_c, beq_r, ble_d, allF_n, allF_c, one_int, one_bool, one_str, one_sl, one_ptr, one_map, one_func, one_nilf, Bool.and_true, Bool.true_and, Bool.not_true, Bool.not_false, iadA_z, Int.reduceToNat, Int.toNat_zero, fl1_a, flN_a, extr_t, unot, not_d, Nat.add_eq, Nat.mul_eq, Nat.mul_one, Nat.one_mul, Nat.zero_mul, Nat.reduceMul, Nat.zero_add, Nat.add_zero, Nat.le_refl, decide_true, Nat.reduceAdd, Nat.reduceLeDiff, bsl_Sint, bld_Span, bld_spring_work, bld_spring_asked, enc_Line, enc_Reading, ocond_d, Int.toNat_natCast, bd_drp0, bd_drp1, bd_lay, bd_len, bd_self, bd_tak, bd_over, qc_drp0, qc_drp1, setSt_e, stO_n, stO_s, isReady_r, anySt_t, unmark_e, unO_d, bsl_Saguadorref01_left, enc_Lf, le_lo, le_hi, le_laylo, le_layhi, le_len, le_self, le_tak, le_over, up_same, up_up, Nat.add_sub_cancel, *]); rfl) : p := h
theorem sb_Sk {p : Prop} (h : p := by first | ((simp (disch := omega) only [obind_s, orun_s, ocond_t, fad_p, ld1_e, ldN_e, sto_e, cellO_c, wrO_c, Tr.get_same, Tr.get_other, nth_0, nth_s, drp_0, drp_s, drp_n, tak_0, tak_s, tak_n, over_n, over_c, lay_0, lay_s, lay_n, len_n, len_c, app_n, app_c, reps_0, reps_s, cel_agg, cel_int, cel_bool, cel_str, cel_sl, cel_ptr, cel_map, cel_func, cel_nilf, fil_n, fil_c, beq_r, ble_d, allF_n, allF_c, one_int, one_bool, one_str, one_sl, one_ptr, one_map, one_func, one_nilf, Bool.and_true, Bool.true_and, Bool.not_true, Bool.not_false, iadA_z, Int.reduceToNat, Int.toNat_zero, fl1_a, flN_a, extr_t, unot, not_d, Nat.add_eq, Nat.mul_eq, Nat.mul_one, Nat.one_mul, Nat.zero_mul, Nat.reduceMul, Nat.zero_add, Nat.add_zero, Nat.le_refl, decide_true, Nat.reduceAdd, Nat.reduceLeDiff, bsl_Sint, bld_Span, bld_spring_work, bld_spring_asked, enc_Line, enc_Reading, ocond_d, Int.toNat_natCast, bd_drp0, bd_drp1, bd_lay, bd_len, bd_self, bd_tak, bd_over, qc_drp0, qc_drp1, setSt_e, stO_n, stO_s, isReady_r, anySt_t, unmark_e, unO_d, bsl_Saguadorref01_left, enc_Lf, le_lo, le_hi, le_laylo, le_layhi, le_len, le_self, le_tak, le_over, up_same, up_up, Nat.add_sub_cancel, Nat.succ_eq_add_one, Nat.add_assoc, *]); rfl) | ((simp (disch := omega) only [obind_s, orun_s, ocond_t, fad_p, ld1_e, ldN_e, sto_e, cellO_c, wrO_c, Tr.get_same, Tr.get_other, nth_0, nth_s, drp_0, drp_s, drp_n, tak_0, tak_s, tak_n, over_n, over_c, lay_0, lay_s, lay_n, len_n, len_c, app_n, app_c, reps_0, reps_s, cel_agg, cel_int, cel_bool, cel_str, cel_sl, cel_ptr, cel_map, cel_func, cel_nilf, fil_n, fil_c, beq_r, ble_d, allF_n, allF_c, one_int, one_bool, one_str, one_sl, one_ptr, one_map, one_func, one_nilf, Bool.and_true, Bool.true_and, Bool.not_true, Bool.not_false, iadA_z, Int.reduceToNat, Int.toNat_zero, fl1_a, flN_a, extr_t, unot, not_d, Nat.add_eq, Nat.mul_eq, Nat.mul_one, Nat.one_mul, Nat.zero_mul, Nat.reduceMul, Nat.zero_add, Nat.add_zero, Nat.le_refl, decide_true, Nat.reduceAdd, Nat.reduceLeDiff, bsl_Sint, bld_Span, bld_spring_work, bld_spring_asked, enc_Line, enc_Reading, ocond_d, Int.toNat_natCast, bd_drp0, bd_drp1, bd_lay, bd_len, bd_self, bd_tak, bd_over, qc_drp0, qc_drp1, setSt_e, stO_n, stO_s, isReady_r, anySt_t, unmark_e, unO_d, bsl_Saguadorref01_left, enc_Lf, le_lo, le_hi, le_laylo, le_layhi, le_len, le_self, le_tak, le_over, up_same, up_up, Nat.add_sub_cancel, Nat.succ_eq_add_one, Nat.add_assoc, *]); done)) : p := h
theorem fr_Sk {p : Prop} (h : p := by first | assumption | exact Fr.refl _ _ | (simp (disch := omega) only [Fr_set, Fr_refl, *])) : p := h
theorem fl_Sk {p : Prop} (h : p := by first | with_unfolding_all rfl | exact Sl.flat (by assumption) | assumption) : p := h
theorem fll_Sk {p : Prop} (h : p := by first | with_unfolding_all rfl | ((repeat (refine flatL_k fl_Sk ?_)); with_unfolding_all rfl)) : p := h
theorem en_Sk {p : Prop} (h : p := by first | ((simp only [enc_int, enc_str, enc_u8, enc_bool, tak_s, tak_0, tak_n, drp_0, drp_s, drp_n, nth_s, nth_0, bsl_Sint, bld_Span, bld_spring_work, bld_spring_asked, enc_Line, enc_Reading, ocond_d, Int.toNat_natCast, bd_drp0, bd_drp1, bd_lay, bd_len, bd_self, bd_tak, bd_over, qc_drp0, qc_drp1, setSt_e, stO_n, stO_s, isReady_r, anySt_t, unmark_e, unO_d, bsl_Saguadorref01_left, enc_Lf, le_lo, le_hi, le_laylo, le_layhi, le_len, le_self, le_tak, le_over, up_same, up_up, Nat.add_sub_cancel]); rfl) | ((simp only [enc_int, enc_str, enc_u8, enc_bool, tak_s, tak_0, tak_n, drp_0, drp_s, drp_n, nth_s, nth_0, bsl_Sint, bld_Span, bld_spring_work, bld_spring_asked, enc_Line, enc_Reading, ocond_d, Int.toNat_natCast, bd_drp0, bd_drp1, bd_lay, bd_len, bd_self, bd_tak, bd_over, qc_drp0, qc_drp1, setSt_e, stO_n, stO_s, isReady_r, anySt_t, unmark_e, unO_d, bsl_Saguadorref01_left, enc_Lf, le_lo, le_hi, le_laylo, le_layhi, le_len, le_self, le_tak, le_over, up_same, up_up, Nat.add_sub_cancel]); done) | with_unfolding_all rfl) : p := h
theorem sM_Sk {p : Prop} (h : p := by (first | assumption | (simp (disch := omega) only [Tr.get_same, Tr.get_other, *]; rfl) | (simp (disch := omega) only [Tr.get_same, Tr.get_other, *]; done))) : p := h
theorem sS_Sk {p : Prop} (h : p := by first | assumption | exact s1_Sk) : p := h
theorem sR_Sk {p : Prop} (h : p := by first | assumption | exact s1_Sk | exact s2_Sk | with_unfolding_all rfl) : p := h
theorem op_Sk {p : Prop} (h : p := by first | with_reducible exact fad_p _ _ _ | with_reducible exact iop_lss _ _ | with_reducible exact iop_leq _ _ | with_reducible exact iop_gtr _ _ | with_reducible exact iop_geq _ _ | with_reducible exact iop_eql _ _ | with_reducible exact iop_neq _ _ | with_reducible exact Sl.len (by assumption) | with_reducible exact lenS_s _ _ _ | with_reducible exact Sl.iad (by assumption) (by with_unfolding_all rfl) (by first | assumption | omega) | with_reducible exact Sl.fad (by assumption) (by first | assumption | omega) | with_reducible exact Sl.ld1 (by assumption) fr_Sk (by with_unfolding_all rfl) (by assumption) en_Sk | with_reducible exact Sl.ldN (by assumption) fr_Sk (by with_unfolding_all rfl) (by assumption) (by with_unfolding_all rfl) en_Sk | with_reducible exact zadd1 (by omega) | with_reducible exact zsub1 (by omega) (by omega) | with_reducible exact zaddI (by omega) (by omega) | with_reducible exact zsubI (by omega) (by omega) | with_reducible exact min_z | with_reducible exact max_z | with_reducible exact zmulI (by assumption) | with_reducible exact zmulK (by omega) (by omega) | with_reducible exact quo_z (by omega) (by omega) (by omega) | with_reducible exact cv_u8 (by omega) | with_reducible exact rem_z (by omega) (by omega) (by omega) | with_reducible exact neq_bool (by kernel_rfl) | with_reducible exact eql_u8 | with_reducible exact wntT_t (by assumption) | with_reducible exact wntT_f (by assumption) | with_reducible exact wntF_t (by assumption) | with_reducible exact wntF_f (by assumption) | with_reducible exact wnt_tt | with_reducible exact wnt_tf | with_reducible exact wnt_ft | with_reducible exact wnt_ff | with_reducible exact wnt_u _ _ | with_reducible exact pck_t _ _ | with_reducible exact pck_f _ _ | with_reducible exact pckT (by assumption) | with_reducible exact pckF (by assumption) | with_reducible exact wntT_t (by decide) | with_reducible exact wntT_f (by decide) | with_reducible exact wntF_t (by decide) | with_reducible exact wntF_f (by decide) | with_reducible exact pckT (by decide) | with_reducible exact pckF (by decide) | with_reducible exact wntN_tt (by decide) | with_reducible exact wntN_tf (by decide) | with_reducible exact wntN_ft (by decide) | with_reducible exact wntN_ff (by decide) | with_reducible exact pckNT (by decide) | with_reducible exact pckNF (by decide) | with_reducible exact wntN_tt (by assumption) | with_reducible exact wntN_tf (by assumption) | with_reducible exact wntN_ft (by assumption) | with_reducible exact wntN_ff (by assumption) | with_reducible exact pckNT (by assumption) | with_reducible exact pckNF (by assumption) | with_reducible exact wntB_tt (by assumption) | with_reducible exact wntB_tf (by assumption) | with_reducible exact wntB_ft (by assumption) | with_reducible exact wntB_ff (by assumption) | with_reducible exact pckBT (by assumption) | with_reducible exact pckBF (by assumption) | exact s2_Sk | exact s1_Sk) : p := h
theorem co_Sk {p : Prop} (h : p := by first | (simp only [impB_1, impB_0, offB_1, offB_0]; done) | ((try simp only [impB_1, impB_0, offB_1, offB_0]); first | with_reducible exact Sl.ag1 (by assumption) fr_Sk (by with_unfolding_all rfl) (by assumption) en_Sk | with_reducible exact Sl.agN (by assumption) fr_Sk (by with_unfolding_all rfl) (by assumption) (by with_unfolding_all rfl) en_Sk | ((with_reducible refine agL1_e ?_ ?_); (· exact s1_Sk); (· exact fl_Sk)) | ((with_reducible refine agLN_e ?_ ?_); (· exact s1_Sk); (· exact fll_Sk)) | ((with_reducible apply ag_bs); (· exact sM_Sk); (· rfl); (· exact sb_Sk); (· exact fll_Sk)) | ((with_reducible apply ag_al); (· exact sM_Sk); (· rfl); (· exact fll_Sk)) | ((with_reducible apply ag_bx); (· exact sM_Sk); (· rfl); (· rfl); (· exact fll_Sk)) | ((with_reducible apply ag_bd); (· rfl); (· exact s1_Sk); (· exact fll_Sk)) | exact s1_Sk)) : p := h
theorem gs_Sk {r p : Prop} (k : r) (h : Go.Ev.Im r p := by (first | with_reducible apply Im.runS | ((with_reducible apply Im.num); · (simp only [Nat.succ_eq_add_one, Nat.add_assoc, Nat.reduceAdd]; rfl)) | (with_reducible apply Im.unm) | (with_reducible apply Im.selT) | (with_reducible apply Im.selF) | ((with_reducible apply Im.cndT); · assumption) | ((with_reducible apply Im.cndF); · assumption) | ((with_reducible apply Im.cndT); · decide) | ((with_reducible apply Im.cndF); · decide) | ((with_reducible apply Im.cndNT); · decide) | ((with_reducible apply Im.cndNF); · decide) | ((with_reducible apply Im.cndBT); · exact rfl) | ((with_reducible apply Im.cndBF); · exact rfl) | ((with_reducible apply Im.cndNT); · assumption) | ((with_reducible apply Im.cndNF); · assumption) | ((with_reducible apply Im.cndBT); · assumption) | ((with_reducible apply Im.cndBF); · assumption) | ((with_reducible apply Im.bind); · exact op_Sk) | ((with_reducible apply Im.cond); · exact co_Sk) | ((with_reducible apply Im.runB); · exact op_Sk) | ((with_reducible apply Im.runC); · exact co_Sk) | ((with_reducible apply Im.runN); · (simp only [Nat.succ_eq_add_one, Nat.add_assoc, Nat.reduceAdd]; rfl)) | with_reducible apply Im.runR | ((with_reducible apply Im.runE (x := evBuildSlice _ _ _ _ _ _)); · exact sb_Sk)); (repeat (first | with_reducible apply Im.runS | ((with_reducible apply Im.num); · (simp only [Nat.succ_eq_add_one, Nat.add_assoc, Nat.reduceAdd]; rfl)) | (with_reducible apply Im.unm) | (with_reducible apply Im.selT) | (with_reducible apply Im.selF) | ((with_reducible apply Im.cndT); · assumption) | ((with_reducible apply Im.cndF); · assumption) | ((with_reducible apply Im.cndT); · decide) | ((with_reducible apply Im.cndF); · decide) | ((with_reducible apply Im.cndNT); · decide) | ((with_reducible apply Im.cndNF); · decide) | ((with_reducible apply Im.cndBT); · exact rfl) | ((with_reducible apply Im.cndBF); · exact rfl) | ((with_reducible apply Im.cndNT); · assumption) | ((with_reducible apply Im.cndNF); · assumption) | ((with_reducible apply Im.cndBT); · assumption) | ((with_reducible apply Im.cndBF); · assumption) | ((with_reducible apply Im.bind); · exact op_Sk) | ((with_reducible apply Im.cond); · exact co_Sk) | ((with_reducible apply Im.runB); · exact op_Sk) | ((with_reducible apply Im.runC); · exact co_Sk) | ((with_reducible apply Im.runN); · (simp only [Nat.succ_eq_add_one, Nat.add_assoc, Nat.reduceAdd]; rfl)) | with_reducible apply Im.runR | ((with_reducible apply Im.runE (x := evBuildSlice _ _ _ _ _ _)); · exact sb_Sk))); exact Go.Ev.Im.id) : p := h k
def leC (f : Bd) : List Value := [iS (f 0).1, iS (f 1).1, iS (f 2).1, iS (f 3).1, iS (f 4).1, iS (f 5).1, iS (f 6).1, iS (f 7).1, iS (f 8).1, iS (f 9).1, iS (f 0).2, iS (f 1).2, iS (f 2).2, iS (f 3).2, iS (f 4).2, iS (f 5).2, iS (f 6).2, iS (f 7).2, iS (f 8).2, iS (f 9).2]
theorem le_lo (f : Bd) {k : Nat} (hk : k < 10) : nth (drp (leC f) k) 0 = some (iS (f k).1) :=
  ten (p := fun k => nth (drp (leC f) k) 0 = some (iS (f k).1)) rfl rfl rfl rfl rfl rfl rfl rfl rfl rfl k hk
theorem le_hi (f : Bd) {k : Nat} (hk : k < 10) : nth (drp (leC f) (10 + k)) 0 = some (iS (f k).2) :=
  ten (p := fun k => nth (drp (leC f) (10 + k)) 0 = some (iS (f k).2)) rfl rfl rfl rfl rfl rfl rfl rfl rfl rfl k hk
theorem le_laylo (f : Bd) {k : Nat} (hk : k < 10) (a : Int) : lay (leC f) [iS a] k = leC (up f k (a, (f k).2)) :=
  ten (p := fun k => lay (leC f) [iS a] k = leC (up f k (a, (f k).2))) rfl rfl rfl rfl rfl rfl rfl rfl rfl rfl k hk
theorem le_layhi (f : Bd) {k : Nat} (hk : k < 10) (a : Int) : lay (leC f) [iS a] (10 + k) = leC (up f k ((f k).1, a)) :=
  ten (p := fun k => lay (leC f) [iS a] (10 + k) = leC (up f k ((f k).1, a))) rfl rfl rfl rfl rfl rfl rfl rfl rfl rfl k hk
theorem le_len (f : Bd) : len (leC f) = 20 := rfl
theorem le_self (f g : Bd) : lay (leC f) (leC g) 0 = leC g := rfl
theorem le_tak (f : Bd) : tak (leC f) 20 = leC f := rfl
theorem le_over (f : Bd) : over (leC f) [iS 0, iS 0, iS 0, iS 0, iS 0, iS 0, iS 0, iS 0, iS 0, iS 0, iS 0, iS 0, iS 0, iS 0, iS 0, iS 0, iS 0, iS 0, iS 0, iS 0] = leC f := rfl
/-- What a rain leaves, as the reference keeps it. -/
structure Lf where
  f : Bd
instance : Rwc Lf := ⟨20, fun x => leC x.f, fun _ => rfl, fun _ => rfl, by omega⟩
theorem enc_Lf (x : Lf) : Rwc.enc x = leC x.f := rfl
theorem allR_snoc {s : Sp} {w n : Int} {j : Nat} {x : Rd} (h : s.reads[j]? = some x) : allR s w n (s.reads.take (j + 1)) = (allR s w n (s.reads.take j) && (!(decide (x.Week = w)) || rightB s x n)) := by
  rw [List.take_add_one, h]; simp [allR, List.all_append]
section
variable {s : Sp} {b r : Value}
theorem c_Right (call : CallF) {x : Rd} {g : Int} {h N} (ho : Ok s) (hx : OkR s x) (hg : -1000 ≤ g ∧ g ≤ 1000) (cb : flatV b = true) (cr : flatV r = true) : Rn (s101 call (.agg ⟨[iS s.weeks, iS s.most, iS s.fall, iS s.slo, iS s.shi, iS s.wlo, iS s.whi, b, r]⟩) (.agg ⟨Rwc.enc x⟩) (iS g) h N) fun v h' N' => v = .bool (rightB s x g) ∧ Gw h N h' N' := by
  obtain ⟨w1, w2, m1, m2, p1, p2, a1, a2, a3, v1, v2, v3⟩ := ho
  obtain ⟨n1, n2, k1, k2, b1, b2, l1, l2, l3, l4⟩ := hx
  have hp1 := mul_bd (a := x.Songs_Hi) (b := s.shi) (by omega) l3 (by omega) a3
  have hp3 := mul_bd (a := x.Songs_Lo) (b := s.slo) (m := 99) (n := 600) l1 (by omega) (by omega) (by omega)
  have hp4 : 0 < g → 0 ≤ x.Songs_Lo * s.slo * g ∧ x.Songs_Lo * s.slo * g ≤ 99 * 600 * 1000 := fun h => mul_bd (by omega) hp3.2 (by omega) (by omega)
  have hp5 : 0 < g → 0 ≤ x.Songs_Hi * s.shi * g ∧ x.Songs_Hi * s.shi * g ≤ 99 * 600 * 1000 := fun h => mul_bd (by omega) hp1.2 (by omega) (by omega)
  unfold s101
  simp only [enc_Reading]
  have x1 := flatV_one cb; have y1 := cel_flat cb; have x2 := flatV_one cr; have y2 := cel_flat cr
  try refine gs_Sk ?_
  refine Rn.part (fun hpos => ?_) (fun hpos => ?_)
  · have hq4 := hp4 hpos
    have hq5 := hp5 hpos
    clear hp4 hp5
    repeat' (first | refine gs_Sk ?_ | (first | with_reducible refine Rn.part (fun _ => ?_) (fun _ => ?_) | with_reducible refine Rn.partN (fun _ => ?_) (fun _ => ?_) | with_reducible refine Rn.partB (fun _ => ?_) (fun _ => ?_)) | (first | with_reducible refine Rn.cnd (fun _ => ?_) (fun _ => ?_) | with_reducible refine Rn.cndN (fun _ => ?_) (fun _ => ?_) | with_reducible refine Rn.cndB (fun _ => ?_) (fun _ => ?_)))
    all_goals exact Rn.ret ⟨congrArg Value.bool (by simp only [rightB, *, decide_true, decide_false, Bool.true_and, Bool.false_and, Bool.and_true]), (Gw.of fr_Sk (by omega))⟩
  · clear hp4 hp5
    repeat' (first | refine gs_Sk ?_ | (first | with_reducible refine Rn.part (fun _ => ?_) (fun _ => ?_) | with_reducible refine Rn.partN (fun _ => ?_) (fun _ => ?_) | with_reducible refine Rn.partB (fun _ => ?_) (fun _ => ?_)) | (first | with_reducible refine Rn.cnd (fun _ => ?_) (fun _ => ?_) | with_reducible refine Rn.cndN (fun _ => ?_) (fun _ => ?_) | with_reducible refine Rn.cndB (fun _ => ?_) (fun _ => ?_)))
    all_goals exact Rn.ret ⟨congrArg Value.bool (by simp only [rightB, *, decide_true, decide_false, Bool.true_and, Bool.false_and, Bool.and_true]), (Gw.of fr_Sk (by omega))⟩
theorem c_base (call : CallF) {h N} (hs : OkS s) (hr : Sl h N r s.reads) (cb : flatV b = true) : Rn (s90 call (.agg ⟨[iS s.weeks, iS s.most, iS s.fall, iS s.slo, iS s.shi, iS s.wlo, iS s.whi, b, r]⟩) h N) fun v h' N' => v = .agg ⟨leC (baseS s)⟩ ∧ Gw h N h' N' := by
  have ho := hs.ok
  have ho2 := ho
  have nr := hs.nr
  obtain ⟨w1, w2, m1, m2, p1, p2, a1, a2, a3, v1, v2, v3⟩ := ho2
  have cr := hr.flat
  unfold s90
  have x1 := flatV_one cb; have y1 := cel_flat cb; have x2 := flatV_one cr; have y2 := cel_flat cr
  try refine gs_Sk ?_
  refine Rn.loop4 (fun n p q u k g M => ∃ i : Nat, p = .pointer (some ⟨N, 0, none⟩) ∧ q = .pointer (some ⟨N + 1, 0, none⟩) ∧ u = .pointer (some ⟨N + 2, 0, none⟩) ∧ k = nS i ∧ (i : Int) + n = s.weeks ∧ Fr h N g ∧ N + 3 ≤ M ∧ g.get N = some (.c [iS s.weeks, iS s.most, iS s.fall, iS s.slo, iS s.shi, iS s.wlo, iS s.whi, b, r] 27) ∧ g.get (N + 1) = some (.c (leC bz) 104) ∧ g.get (N + 2) = some (.c (leC (baseN s i)) 104)) s.weeks.toNat (by omega) ⟨0, rfl, rfl, rfl, rfl, by omega, fr_Sk, by omega, sS_Sk, sR_Sk, sR_Sk⟩ ?_
  rintro n g ih _ _ _ _ h1 N1 ⟨i, rfl, rfl, rfl, rfl, e1, f1, l1, g1, g2, g3⟩
  try refine gs_Sk ?_
  (first | with_reducible refine Rn.cnd (fun _ => ?_) (fun _ => ?_) | with_reducible refine Rn.cndN (fun _ => ?_) (fun _ => ?_) | with_reducible refine Rn.cndB (fun _ => ?_) (fun _ => ?_))
  · have eb : baseN s (i + 1) = up (baseN s i) i (stepW s i (s.most + 1).toNat) := rfl
    generalize baseN s i = F at g3 eb
    try refine gs_Sk ?_
    refine Rn.loop5 (fun n p q u k t g M => ∃ j : Nat, p = .pointer (some ⟨N, 0, none⟩) ∧ q = .pointer (some ⟨N + 1, 0, none⟩) ∧ u = .pointer (some ⟨N + 2, 0, none⟩) ∧ k = nS i ∧ t = nS j ∧ (j : Int) + n = s.most + 1 ∧ Fr h N g ∧ N + 3 ≤ M ∧ g.get N = some (.c [iS s.weeks, iS s.most, iS s.fall, iS s.slo, iS s.shi, iS s.wlo, iS s.whi, b, r] 27) ∧ g.get (N + 1) = some (.c (leC bz) 104) ∧ g.get (N + 2) = some (.c (leC (up F i (stepW s i j))) 104)) (s.most + 1).toNat (by omega) ⟨0, rfl, rfl, rfl, rfl, rfl, by omega, fr_Sk, by omega, sS_Sk, sS_Sk, sR_Sk⟩ ?_
    rintro m g' ih' _ _ _ _ _ h2 N2 ⟨j, rfl, rfl, rfl, rfl, rfl, e2, f2, l2, k1, k2, k3⟩
    try refine gs_Sk ?_
    (first | with_reducible refine Rn.cnd (fun _ => ?_) (fun _ => ?_) | with_reducible refine Rn.cndN (fun _ => ?_) (fun _ => ?_) | with_reducible refine Rn.cndB (fun _ => ?_) (fun _ => ?_))
    · have es : stepW s i (j + 1) = if allR s i j s.reads then (min (stepW s i j).1 j, (j : Int)) else stepW s i j := rfl
      generalize stepW s i j = v at k3 es
      try refine gs_Sk ?_
      refine Rn.loop9 (fun n p q u k t a e l c g M => ∃ z : Nat, p = .pointer (some ⟨N, 0, none⟩) ∧ q = .pointer (some ⟨N + 1, 0, none⟩) ∧ u = .pointer (some ⟨N + 2, 0, none⟩) ∧ k = nS i ∧ t = nS j ∧ a = .bool (allR s i j (s.reads.take z)) ∧ r = e ∧ l = nS s.reads.length ∧ c = nS z ∧ z + n = s.reads.length ∧ Fr h N g ∧ N + 3 ≤ M ∧ g.get N = some (.c [iS s.weeks, iS s.most, iS s.fall, iS s.slo, iS s.shi, iS s.wlo, iS s.whi, b, r] 27) ∧ g.get (N + 1) = some (.c (leC bz) 104) ∧ g.get (N + 2) = some (.c (leC (up F i v)) 104)) s.reads.length (by omega) ⟨0, rfl, rfl, rfl, rfl, rfl, rfl, rfl, rfl, rfl, by omega, fr_Sk, by omega, sS_Sk, sS_Sk, sS_Sk⟩ ?_
      rintro c g'' ih'' _ _ _ _ _ _ _ _ _ h3 N3 ⟨z, rfl, rfl, rfl, rfl, rfl, rfl, rfl, rfl, rfl, e3, f3, l3, j1, j2, j3⟩
      try refine gs_Sk ?_
      (first | with_reducible refine Rn.cnd (fun _ => ?_) (fun _ => ?_) | with_reducible refine Rn.cndN (fun _ => ?_) (fun _ => ?_) | with_reducible refine Rn.cndB (fun _ => ?_) (fun _ => ?_))
      · obtain ⟨x, hx⟩ := at_of (L := s.reads) (k := z) (by omega)
        have ox := hs.reads x (List.mem_of_getElem? hx)
        have ea := allR_snoc (s := s) (w := i) (n := j) hx
        generalize allR s i j (s.reads.take z) = A at ea
        try refine gs_Sk ?_
        refine Rn.partB (fun hA => ?_) (fun hA => ?_)
        · try refine gs_Sk ?_
          refine Rn.part (fun hw => ?_) (fun hw => ?_)
          · try refine gs_Sk ?_
            refine ih'' (c - 1) (by omega) _ _ _ _ _ _ _ _ _ _ _ ⟨z + 1, rfl, rfl, rfl, rfl, rfl, ?_, rfl, rfl, rfl, by omega, fr_Sk, by omega, sS_Sk, sS_Sk, sS_Sk⟩
            rw [ea, hA, decide_eq_false hw]; rfl
          · try refine gs_Sk ?_
            refine Rn.call (c_Right _ (x := x) ho ox (by omega) cb cr) ?_
            rintro _ h4 N4 ⟨rfl, f4, o4, l4⟩
            try refine gs_Sk ?_
            refine ih'' (c - 1) (by omega) _ _ _ _ _ _ _ _ _ _ _ ⟨z + 1, rfl, rfl, rfl, rfl, rfl, ?_, rfl, rfl, rfl, by omega, fr_Sk, by omega, sS_Sk, sS_Sk, sS_Sk⟩
            rw [ea, hA, decide_eq_true (by omega)]; rfl
        · try refine gs_Sk ?_
          refine ih'' (c - 1) (by omega) _ _ _ _ _ _ _ _ _ _ _ ⟨z + 1, rfl, rfl, rfl, rfl, rfl, ?_, rfl, rfl, rfl, by omega, fr_Sk, by omega, sS_Sk, sS_Sk, sS_Sk⟩
          rw [ea, hA]; rfl
      · obtain rfl : z = s.reads.length := by omega
        rw [List.take_length]
        unfold jnR
        try refine gs_Sk ?_
        (first | with_reducible refine Rn.cnd (fun _ => ?_) (fun _ => ?_) | with_reducible refine Rn.cndN (fun _ => ?_) (fun _ => ?_) | with_reducible refine Rn.cndB (fun _ => ?_) (fun _ => ?_))
        · rw [if_pos (by assumption)] at es
          try refine gs_Sk ?_
          exact ih' (m - 1) (by omega) _ _ _ _ _ _ _ ⟨j + 1, rfl, rfl, rfl, rfl, rfl, by omega, fr_Sk, by omega, sS_Sk, sS_Sk, by rw [es]; exact sR_Sk⟩
        · rw [if_neg (by simp only [*]; simp)] at es
          try refine gs_Sk ?_
          exact ih' (m - 1) (by omega) _ _ _ _ _ _ _ ⟨j + 1, rfl, rfl, rfl, rfl, rfl, by omega, fr_Sk, by omega, sS_Sk, sS_Sk, by rw [es]; exact sR_Sk⟩
    · obtain rfl : j = (s.most + 1).toNat := by omega
      try refine gs_Sk ?_
      exact ih (n - 1) (by omega) _ _ _ _ _ _ ⟨i + 1, rfl, rfl, rfl, rfl, by omega, fr_Sk, by omega, sS_Sk, sS_Sk, by rw [eb]; exact sR_Sk⟩
  · obtain rfl : i = s.weeks.toNat := by omega
    try refine gs_Sk ?_
    exact Rn.ret ⟨rfl, (Gw.of fr_Sk (by omega))⟩
end
end Go.Proofs.Ytpilgokdbliklaa
end

section
namespace Go.Proofs.Ytpilgokdbliklaa
open Go.Ev Go.RowKit
set_option linter.unusedVariables false
set_option linter.unusedSimpArgs false
set_option linter.unusedSectionVars false
set_option maxRecDepth 100000
set_option maxHeartbeats 4000000
section
variable {s : Sp} {b r : Value}
theorem c_rleaves (call : CallF) {f : Bd} {rain : Int} {h N} (hs : OkS s) (hf : BdOk f) (hb : Sl h N b s.book) (cr : flatV r = true) : Rn (s122 call (.agg ⟨[iS s.weeks, iS s.most, iS s.fall, iS s.slo, iS s.shi, iS s.wlo, iS s.whi, b, r]⟩) (.agg ⟨leC f⟩) (iS rain) h N) fun v h' N' => (v = .tuple ⟨[.agg ⟨leC (leavesF s f rain)⟩, .bool (okN s (leavesF s f rain))]⟩ ∧ N + 2 ≤ N') ∧ Gw h N h' N' := by
  have ho := hs.ok
  have ho2 := ho
  have nb := hs.nb
  obtain ⟨w1, w2, m1, m2, p1, p2, a1, a2, a3, v1, v2, v3⟩ := ho2
  have cb := hb.flat
  unfold s122
  have x1 := flatV_one cb; have y1 := cel_flat cb; have x2 := flatV_one cr; have y2 := cel_flat cr
  try refine gs_Sk ?_
  refine Rn.loop7 (fun n a p q u t l k g M => ∃ i : Nat, a = iS rain ∧ p = .pointer (some ⟨N, 0, none⟩) ∧ q = .pointer (some ⟨N + 1, 0, none⟩) ∧ u = .pointer (some ⟨N + 2, 0, none⟩) ∧ b = t ∧ l = nS s.book.length ∧ k = nS i ∧ i + n = s.book.length ∧ Fr h N g ∧ N + 3 ≤ M ∧ g.get N = some (.c [iS s.weeks, iS s.most, iS s.fall, iS s.slo, iS s.shi, iS s.wlo, iS s.whi, b, r] 27) ∧ g.get (N + 2) = some (.c (leC bz) 104) ∧ g.get (N + 1) = some (.c (leC ((s.book.take i).foldl (addL rain) f)) 104)) s.book.length (by omega) ⟨0, rfl, rfl, rfl, rfl, rfl, rfl, rfl, by omega, fr_Sk, by omega, sS_Sk, sR_Sk, sR_Sk⟩ ?_
  rintro n g ih _ _ _ _ _ _ _ h1 N1 ⟨i, rfl, rfl, rfl, rfl, rfl, rfl, rfl, e1, f1, l1, g1, g2, g3⟩
  try refine gs_Sk ?_
  (first | with_reducible refine Rn.cnd (fun _ => ?_) (fun _ => ?_) | with_reducible refine Rn.cndN (fun _ => ?_) (fun _ => ?_) | with_reducible refine Rn.cndB (fun _ => ?_) (fun _ => ?_))
  · obtain ⟨x, hx⟩ := at_of (L := s.book) (k := i) (by omega)
    have ox := hs.book x (List.mem_of_getElem? hx)
    obtain ⟨r1, r2, r3, t1, t2, t3, t4, t5⟩ := ox
    have ef := fold_take (addL rain) hx f
    generalize (s.book.take i).foldl (addL rain) f = f at g3 ef
    try refine gs_Sk ?_
    refine Rn.call (c_rwithin _) ?_
    rintro _ h2 N2 ⟨rfl, f2, o2, l2⟩
    try refine gs_Sk ?_
    unfold jnR
    (first | with_reducible refine Rn.cnd (fun _ => ?_) (fun _ => ?_) | with_reducible refine Rn.cndN (fun _ => ?_) (fun _ => ?_) | with_reducible refine Rn.cndB (fun _ => ?_) (fun _ => ?_))
    · have e2 : addL rain f x = up f x.Week.toNat (max (f x.Week.toNat).1 x.Gives_Lo, min (f x.Week.toNat).2 x.Gives_Hi) := if_pos (by assumption)
      try refine gs_Sk ?_
      exact ih (n - 1) (by omega) _ _ _ _ _ _ _ _ _ ⟨i + 1, rfl, rfl, rfl, rfl, rfl, rfl, rfl, by omega, fr_Sk, by omega, sS_Sk, sS_Sk, by rw [ef, e2]; exact sR_Sk⟩
    · have e2 : addL rain f x = f := if_neg (by simp only [*]; simp)
      try refine gs_Sk ?_
      exact ih (n - 1) (by omega) _ _ _ _ _ _ _ _ _ ⟨i + 1, rfl, rfl, rfl, rfl, rfl, rfl, rfl, by omega, fr_Sk, by omega, sS_Sk, sS_Sk, by rw [ef, e2]; exact sR_Sk⟩
  obtain rfl : i = s.book.length := by omega
  rw [List.take_length] at g3
  clear ih
  have hf0 : BdOk (s.book.foldl (addL rain) f) := fold_ok (fun f x hx h => addL_ok h (hs.book x hx)) hf
  have hF : leavesF s f rain = narS s (s.book.foldl (addL rain) f) := rfl
  rw [hF]
  generalize s.book.foldl (addL rain) f = f at g3 hf0
  clear hF hf
  try refine gs_Sk ?_
  refine Rn.loop4 (fun n p q u k g M => ∃ i : Nat, p = .pointer (some ⟨N, 0, none⟩) ∧ q = .pointer (some ⟨N + 1, 0, none⟩) ∧ u = .pointer (some ⟨N + 2, 0, none⟩) ∧ k = nS (i + 1) ∧ (i : Int) + n = s.weeks - 1 ∧ Fr h N g ∧ N + 3 ≤ M ∧ g.get N = some (.c [iS s.weeks, iS s.most, iS s.fall, iS s.slo, iS s.shi, iS s.wlo, iS s.whi, b, r] 27) ∧ g.get (N + 2) = some (.c (leC bz) 104) ∧ g.get (N + 1) = some (.c (leC (fwdN s.fall i f)) 104)) (s.weeks - 1).toNat (by omega) ⟨0, rfl, rfl, rfl, rfl, by omega, fr_Sk, by omega, sS_Sk, sS_Sk, sR_Sk⟩ ?_
  rintro n g ih _ _ _ _ h1 N1 ⟨i, rfl, rfl, rfl, rfl, e1, f1, l1, g1, g2, g3⟩
  have hb1 := fwd_ok p1 p2 hf0 i i
  have hb2 := fwd_ok p1 p2 hf0 i (i + 1)
  try refine gs_Sk ?_
  (first | with_reducible refine Rn.cnd (fun _ => ?_) (fun _ => ?_) | with_reducible refine Rn.cndN (fun _ => ?_) (fun _ => ?_) | with_reducible refine Rn.cndB (fun _ => ?_) (fun _ => ?_))
  · have ef : fwdN s.fall (i + 1) f = up (fwdN s.fall i f) (i + 1) (max (fwdN s.fall i f (i + 1)).1 ((fwdN s.fall i f i).1 - s.fall), min (fwdN s.fall i f (i + 1)).2 (fwdN s.fall i f i).2) := rfl
    generalize fwdN s.fall i f = F at g3 ef hb1 hb2
    try refine gs_Sk ?_
    exact ih (n - 1) (by omega) _ _ _ _ _ _ ⟨i + 1, rfl, rfl, rfl, rfl, by omega, fr_Sk, by omega, sS_Sk, sS_Sk, by rw [ef]; exact sR_Sk⟩
  have en : s.weeks.toNat - 1 = i := by omega
  clear ih
  try refine gs_Sk ?_
  refine Rn.loop4 (fun n p q u k g M => ∃ j : Nat, p = .pointer (some ⟨N, 0, none⟩) ∧ q = .pointer (some ⟨N + 1, 0, none⟩) ∧ u = .pointer (some ⟨N + 2, 0, none⟩) ∧ k = iS (s.weeks - 2 - (j : Int)) ∧ (j : Int) + n = s.weeks - 1 ∧ Fr h N g ∧ N + 3 ≤ M ∧ g.get N = some (.c [iS s.weeks, iS s.most, iS s.fall, iS s.slo, iS s.shi, iS s.wlo, iS s.whi, b, r] 27) ∧ g.get (N + 2) = some (.c (leC bz) 104) ∧ g.get (N + 1) = some (.c (leC (bwdN s.fall s.weeks.toNat j (fwdN s.fall i f))) 104)) (s.weeks - 1).toNat (by omega) ⟨0, rfl, rfl, rfl, by simp, by omega, fr_Sk, by omega, sS_Sk, sS_Sk, sR_Sk⟩ ?_
  rintro m g' ih' _ _ _ _ h2 N2 ⟨j, rfl, rfl, rfl, rfl, e2, f2, l2, k1, k2, k3⟩
  have hb := bwd_ok (n := s.weeks.toNat) p1 p2 (fwd_ok p1 p2 hf0 i) j
  have hb3 := hb (s.weeks.toNat - 2 - j)
  have hb4 := hb (s.weeks.toNat - 2 - j + 1)
  try refine gs_Sk ?_
  (first | with_reducible refine Rn.cnd (fun _ => ?_) (fun _ => ?_) | with_reducible refine Rn.cndN (fun _ => ?_) (fun _ => ?_) | with_reducible refine Rn.cndB (fun _ => ?_) (fun _ => ?_))
  · have t1 : (s.weeks - 2 - (j : Int)).toNat = s.weeks.toNat - 2 - j := by omega
    have t2 : (s.weeks - 2 - (j : Int) + 1).toNat = s.weeks.toNat - 2 - j + 1 := by omega
    have ef : bwdN s.fall s.weeks.toNat (j + 1) (fwdN s.fall i f) = up (bwdN s.fall s.weeks.toNat j (fwdN s.fall i f)) (s.weeks.toNat - 2 - j) (max (bwdN s.fall s.weeks.toNat j (fwdN s.fall i f) (s.weeks.toNat - 2 - j)).1 (bwdN s.fall s.weeks.toNat j (fwdN s.fall i f) (s.weeks.toNat - 2 - j + 1)).1, min (bwdN s.fall s.weeks.toNat j (fwdN s.fall i f) (s.weeks.toNat - 2 - j)).2 ((bwdN s.fall s.weeks.toNat j (fwdN s.fall i f) (s.weeks.toNat - 2 - j + 1)).2 + s.fall)) := rfl
    clear hb
    generalize bwdN s.fall s.weeks.toNat j (fwdN s.fall i f) = F at k3 ef hb3 hb4
    try refine gs_Sk ?_
    exact ih' (m - 1) (by omega) _ _ _ _ _ _ ⟨j + 1, rfl, rfl, rfl, by rw [show s.weeks - 2 - ((j + 1 : Nat) : Int) = s.weeks - 2 - (j : Int) - 1 by omega], by omega, fr_Sk, by omega, sS_Sk, sS_Sk, by rw [ef]; exact sR_Sk⟩
  obtain rfl : j = i := by omega
  have hN : narS s f = bwdN s.fall s.weeks.toNat j (fwdN s.fall j f) := by unfold narS; rw [en]
  rw [← hN] at k3
  clear ih' hb3 hb4 hb hN
  generalize narS s f = F at k3
  try refine gs_Sk ?_
  refine Rn.loop4 (fun n p q u k g M => ∃ j : Nat, p = .pointer (some ⟨N, 0, none⟩) ∧ q = .pointer (some ⟨N + 1, 0, none⟩) ∧ u = .pointer (some ⟨N + 2, 0, none⟩) ∧ k = nS j ∧ (j : Int) + n = s.weeks ∧ Fr h N g ∧ N + 3 ≤ M ∧ g.get N = some (.c [iS s.weeks, iS s.most, iS s.fall, iS s.slo, iS s.shi, iS s.wlo, iS s.whi, b, r] 27) ∧ g.get (N + 2) = some (.c (leC bz) 104) ∧ g.get (N + 1) = some (.c (leC F) 104) ∧ ∀ q, q < j → (F q).1 ≤ (F q).2) s.weeks.toNat (by omega) ⟨0, rfl, rfl, rfl, rfl, by omega, fr_Sk, by omega, sS_Sk, sS_Sk, sS_Sk, fun q hq => by omega⟩ ?_
  rintro m g' ih' _ _ _ _ h2 N2 ⟨z, rfl, rfl, rfl, rfl, e2, f2, l2, k1, k2, k3, q1⟩
  try refine gs_Sk ?_
  (first | with_reducible refine Rn.cnd (fun _ => ?_) (fun _ => ?_) | with_reducible refine Rn.cndN (fun _ => ?_) (fun _ => ?_) | with_reducible refine Rn.cndB (fun _ => ?_) (fun _ => ?_))
  · try refine gs_Sk ?_
    (first | with_reducible refine Rn.cnd (fun _ => ?_) (fun _ => ?_) | with_reducible refine Rn.cndN (fun _ => ?_) (fun _ => ?_) | with_reducible refine Rn.cndB (fun _ => ?_) (fun _ => ?_))
    · have hno : okN s F = false := okN_not (k := z) (by omega) (by omega)
      rw [hno]
      try refine gs_Sk ?_
      exact Rn.ret ⟨⟨rfl, by omega⟩, (Gw.of fr_Sk (by omega))⟩
    · try refine gs_Sk ?_
      exact ih' (m - 1) (by omega) _ _ _ _ _ _ ⟨z + 1, rfl, rfl, rfl, rfl, by omega, fr_Sk, by omega, sS_Sk, sS_Sk, sS_Sk, fun q hq => by
        rcases Nat.lt_or_ge q z with h | h
        · exact q1 q h
        · obtain rfl : q = z := by omega
          omega⟩
  · have hok : okN s F = true := okN_of rfl (fun q hq => q1 q (by omega))
    rw [hok]
    try refine gs_Sk ?_
    exact Rn.ret ⟨⟨rfl, by omega⟩, (Gw.of fr_Sk (by omega))⟩
end
end Go.Proofs.Ytpilgokdbliklaa
end

section
namespace Go.Proofs.Ytpilgokdbliklaa
open Go.Ev Go.RowKit
set_option linter.unusedVariables false
set_option linter.unusedSimpArgs false
set_option linter.unusedSectionVars false
set_option maxRecDepth 100000
set_option maxHeartbeats 4000000
def lfs (s : Sp) (f : Bd) (L : List Int) : List Lf := L.map fun r => ⟨leavesF s f r⟩
section
variable {s : Sp} {b r : Value}
theorem c_rained (call : CallF) {f : Bd} {h N} (hs : OkS s) (hf : BdOk f) (hb : Sl h N b s.book) (cr : flatV r = true) : Rn (s100 call (.agg ⟨[iS s.weeks, iS s.most, iS s.fall, iS s.slo, iS s.shi, iS s.wlo, iS s.whi, b, r]⟩) (.agg ⟨leC f⟩) h N) fun v h' N' => (∃ p q, v = .tuple ⟨[p, q]⟩ ∧ Sl h' N' p (rainsF s f) ∧ Sl h' N' q (lfs s f (rainsF s f))) ∧ Gw h N h' N' := by
  have ho := hs.ok
  obtain ⟨w1, w2, m1, m2, p1, p2, a1, a2, a3, v1, v2, v3⟩ := ho
  have cb := hb.flat
  unfold s100
  have x1 := flatV_one cb; have y1 := cel_flat cb; have x2 := flatV_one cr; have y2 := cel_flat cr
  try refine gs_Sk ?_
  refine Rn.loop5 (fun n p q u t k g M => ∃ i : Nat, p = .pointer (some ⟨N, 0, none⟩) ∧ q = .pointer (some ⟨N + 1, 0, none⟩) ∧ k = iS (s.wlo + (i : Int)) ∧ i + n = rainN s ∧ Fr h N g ∧ N + 2 ≤ M ∧ g.get N = some (.c [iS s.weeks, iS s.most, iS s.fall, iS s.slo, iS s.shi, iS s.wlo, iS s.whi, b, r] 27) ∧ g.get (N + 1) = some (.c (leC f) 104) ∧ (u = .slice none 0 0 ∧ t = .slice none 0 0 ∧ rainsFN s f i = [] ∨ ∃ i1 i2, N + 2 ≤ i1 ∧ N + 2 ≤ i2 ∧ i1 < M ∧ i2 < M ∧ i1 ≠ i2 ∧ Ow g 3 u (rainsFN s f i) i1 ∧ Ow g 104 t (lfs s f (rainsFN s f i)) i2)) (rainN s) (by unfold rainN; omega) ⟨0, rfl, rfl, by simp, by omega, fr_Sk, by omega, sS_Sk, sS_Sk, .inl ⟨rfl, rfl, rfl⟩⟩ ?_
  rintro n g ih _ _ u t _ h1 N1 ⟨i, rfl, rfl, rfl, e1, f1, l1, g1, g2, q1⟩
  have en : rainN s = (s.whi + 1 - s.wlo).toNat := rfl
  try refine gs_Sk ?_
  (first | with_reducible refine Rn.cnd (fun _ => ?_) (fun _ => ?_) | with_reducible refine Rn.cndN (fun _ => ?_) (fun _ => ?_) | with_reducible refine Rn.cndB (fun _ => ?_) (fun _ => ?_))
  · try refine gs_Sk ?_
    refine Rn.call (c_rleaves _ (rain := s.wlo + (i : Int)) hs hf (Sl.up (by assumption) fr_Sk (by omega)) cr) ?_
    rintro _ h2 N2 ⟨⟨rfl, l2'⟩, f2, o2, l2⟩
    have es := rainsFN_succ s f i
    have el := rainsFN_len s f i
    have q2 : ∃ i1 i2, N + 2 ≤ i1 ∧ N + 2 ≤ i2 ∧ i1 < N2 ∧ i2 < N2 ∧ i1 ≠ i2 ∧ Ow h2 3 u (rainsFN s f i) i1 ∧ Ow h2 104 t (lfs s f (rainsFN s f i)) i2 := by
      rcases q1 with ⟨rfl, rfl, e⟩ | ⟨i1, i2, k1, k2, k3, k4, k5, k6, k7⟩
      · rw [e]
        exact ⟨N1, N1 + 1, by omega, by omega, by omega, by omega, by omega, Ow.nil _ _ _, Ow.nil _ _ _⟩
      · exact ⟨i1, i2, k1, k2, by omega, by omega, k5, k6.keep (o2 (by omega)), k7.keep (o2 (by omega))⟩
    clear q1
    obtain ⟨i1, i2, k1, k2, k3, k4, k5, k6, k7⟩ := q2
    have ll : (lfs s f (rainsFN s f i)).length = (rainsFN s f i).length := by simp [lfs]
    generalize hF : leavesF s f (s.wlo + (i : Int)) = F at es
    try refine gs_Sk ?_
    unfold jnR
    (first | with_reducible refine Rn.cnd (fun _ => ?_) (fun _ => ?_) | with_reducible refine Rn.cndN (fun _ => ?_) (fun _ => ?_) | with_reducible refine Rn.cndB (fun _ => ?_) (fun _ => ?_))
    · have hok : okN s F = true := by assumption
      rw [if_pos hok] at es
      have cu := (k6.sl (N := N2) k3).flat
      have ct := (k7.sl (N := N2) k4).flat
      have z1 := flatV_one cu
      have z2 := cel_flat cu
      have z3 := flatV_one ct
      have z4 := cel_flat ct
      have k6' : Ow ((h2.set (some (.c (leC F) 104)) N2)) 3 u (rainsFN s f i) i1 := k6.keep sS_Sk
      have k7' : Ow ((h2.set (some (.c (leC F) 104)) N2)) 104 t (lfs s f (rainsFN s f i)) i2 := k7.keep sS_Sk
      try refine gs_Sk ?_
      refine Rn.call (Ow.app (α := Int) (K := [s.wlo + (i : Int)]) (i := i1) ap_Sint (k6.keep sS_Sk) (by omega) (Sl.lit [s.wlo + (i : Int)] sM_Sk (by omega : N2 + 1 < N2 + 1 + 1 + 1) rfl rfl) (Fr.refl _ _) (by simp; omega)) ?_
      rintro r1 h3 N3 ⟨i3, w3, e3, e3', f3, o3, l3⟩
      try refine gs_Sk ?_
      refine Rn.call (Ow.app (α := Lf) (K := [⟨F⟩]) (i := i2) ap_Saguadorref01_left (k7.keep sS_Sk) (by omega) (Sl.lit [(⟨F⟩ : Lf)] sM_Sk (by omega : N2 + 1 + 1 < N3) rfl rfl) (Fr.refl _ _) (by simp; omega)) ?_
      rintro r2 h4 N4 ⟨i4, w4, e4, e4', f4, o4, l4⟩
      try refine gs_Sk ?_
      refine ih (n - 1) (by omega) _ _ _ _ _ _ _ ⟨i + 1, rfl, rfl, by rw [show s.wlo + ((i + 1 : Nat) : Int) = s.wlo + (i : Int) + 1 by omega], by omega, fr_Sk, by omega, sS_Sk, sS_Sk, .inr ⟨i3, i4, by omega, by omega, by omega, by omega, by omega, ?_, ?_⟩⟩
      · rw [es]; exact w3.keep (o4 (by omega) (by omega))
      · rw [es]
        have : lfs s f (rainsFN s f i ++ [s.wlo + (i : Int)]) = lfs s f (rainsFN s f i) ++ [⟨F⟩] := by simp [lfs, hF]
        rw [this]; exact w4
    · have hok : okN s F = false := by assumption
      rw [if_neg (by rw [hok]; simp)] at es
      try refine gs_Sk ?_
      refine ih (n - 1) (by omega) _ _ _ _ _ _ _ ⟨i + 1, rfl, rfl, by rw [show s.wlo + ((i + 1 : Nat) : Int) = s.wlo + (i : Int) + 1 by omega], by omega, fr_Sk, by omega, sS_Sk, sS_Sk, .inr ⟨i1, i2, by omega, by omega, by omega, by omega, by omega, ?_, ?_⟩⟩
      · rw [es]; exact k6.keep sS_Sk
      · rw [es]; exact k7.keep sS_Sk
  · obtain rfl : i = rainN s := by omega
    try refine gs_Sk ?_
    refine Rn.ret ⟨⟨_, _, rfl, ?_⟩, (Gw.of fr_Sk (by omega))⟩
    rcases q1 with ⟨rfl, rfl, e⟩ | ⟨i1, i2, k1, k2, k3, k4, k5, k6, k7⟩
    · have e' : rainsF s f = [] := e
      rw [e']; exact ⟨Sl.nil _ _, Sl.nil _ _⟩
    · exact ⟨k6.sl k3, k7.sl k4⟩
theorem c_rrains (call : CallF) {h N} (hs : OkS s) (hb : Sl h N b s.book) (hr : Sl h N r s.reads) : Rn (s79 call (.agg ⟨[iS s.weeks, iS s.most, iS s.fall, iS s.slo, iS s.shi, iS s.wlo, iS s.whi, b, r]⟩) h N) fun v h' N' => (∃ p q, v = .tuple ⟨[p, q]⟩ ∧ Sl h' N' p (rainsS s) ∧ Sl h' N' q (lfs s (baseS s) (rainsS s))) ∧ Gw h N h' N' := by
  have cb := hb.flat
  have cr := hr.flat
  unfold s79
  have x1 := flatV_one cb; have y1 := cel_flat cb; have x2 := flatV_one cr; have y2 := cel_flat cr
  try refine gs_Sk ?_
  refine Rn.call (c_base _ hs (Sl.up (by assumption) fr_Sk (by omega)) cb) ?_
  rintro _ h1 N1 ⟨rfl, f1, o1, l1⟩
  try refine gs_Sk ?_
  refine Rn.call (c_rained _ hs (base_ok hs) (Sl.up (by assumption) fr_Sk (by omega)) cr) ?_
  rintro _ h2 N2 ⟨⟨p, q, rfl, k1, k2⟩, f2, o2, l2⟩
  rw [rainsF_base hs] at k1 k2
  try refine gs_Sk ?_
  exact Rn.ret ⟨⟨p, q, rfl, k1, k2⟩, (Gw.of fr_Sk (by omega))⟩
def greatB (s : Sp) : Bool := decide (30 < s.book.length) || decide (30 < s.reads.length)
theorem c_rGreat (call : CallF) {h N} (hb : Sl h N b s.book) (hr : Sl h N r s.reads) : Rn (s12 call (.agg ⟨[iS s.weeks, iS s.most, iS s.fall, iS s.slo, iS s.shi, iS s.wlo, iS s.whi, b, r]⟩) h N) fun v h' N' => v = .bool (greatB s) ∧ Gw h N h' N' := by
  have cb := hb.flat
  have cr := hr.flat
  unfold s12
  have x1 := flatV_one cb; have y1 := cel_flat cb; have x2 := flatV_one cr; have y2 := cel_flat cr
  repeat' (first | refine gs_Sk ?_ | (first | with_reducible refine Rn.part (fun _ => ?_) (fun _ => ?_) | with_reducible refine Rn.partN (fun _ => ?_) (fun _ => ?_) | with_reducible refine Rn.partB (fun _ => ?_) (fun _ => ?_)) | (first | with_reducible refine Rn.cnd (fun _ => ?_) (fun _ => ?_) | with_reducible refine Rn.cndN (fun _ => ?_) (fun _ => ?_) | with_reducible refine Rn.cndB (fun _ => ?_) (fun _ => ?_)))
  all_goals exact Rn.ret ⟨congrArg Value.bool (by simp only [greatB]; rw [Bool.eq_iff_iff]; simp; omega), (Gw.of fr_Sk (by omega))⟩
end
end Go.Proofs.Ytpilgokdbliklaa
end

section
namespace Go.Proofs.Ytpilgokdbliklaa
open Go.Ev Go.RowKit
set_option linter.unusedVariables false
set_option linter.unusedSimpArgs false
set_option linter.unusedSectionVars false
set_option maxRecDepth 100000
set_option maxHeartbeats 4000000
def beF (s : Sp) (w k : Int) : Int := beginS s (qw w k) [1, 2, 4]
theorem beF_eq {s : Sp} {w k : Int} : beF s w k = if validB s then (if isWeekB s.weeks w then (if inS 1 40 k then (if canS s then 0 else 8) else 14) else 11) else 10 := rfl
theorem beF_ok {s : Sp} {w k : Int} (h : beF s w k = 0) : validB s = true ∧ 0 ≤ w ∧ w ≤ s.weeks - 1 ∧ 1 ≤ k ∧ k ≤ 40 ∧ canS s = true := by
  rw [beF_eq] at h
  split at h
  · rename_i hv
    split at h
    · rename_i hw
      split at h
      · rename_i hk
        split at h
        · rename_i hc
          simp only [isWeekB, inS, Bool.and_eq_true, decide_eq_true_eq] at hw hk
          exact ⟨hv, hw.1, hw.2, hk.1, hk.2, hc⟩
        · cases h
      · cases h
    · cases h
  · cases h
def fE (s : Sp) (w k : Int) : Int := if beF s w k = 0 then (if (gvS s w.toNat).1 = 0 then 6 else 0) else beF s w k
def fG (s : Sp) (w k : Int) : Int × Int := if fE s w k = 0 then (3600 * k / (gvS s w.toNat).2, upS (3600 * k) (gvS s w.toNat).1) else (0, 0)
section
variable {s : Sp} {b r : Value}
theorem c_Fill (d : Nat) {w k : Int} {h N} (nb : s.book.length < 1000) (nr : s.reads.length < 1000) (hb : Sl h N b s.book) (hr : Sl h N r s.reads) : Rn (s22 (cN (d + 3)) (.agg ⟨[iS s.weeks, iS s.most, iS s.fall, iS s.slo, iS s.shi, iS s.wlo, iS s.whi, b, r]⟩) (iS w) (iS k) h N) fun v h' N' => v = .tuple ⟨[.agg ⟨[iS (fG s w k).1, iS (fG s w k).2]⟩, iS (fE s w k)]⟩ ∧ Gw h N h' N' := by
  unfold s22
  have cb := hb.flat; have cr := hr.flat; have x1 := flatV_one cb; have y1 := cel_flat cb; have x2 := flatV_one cr; have y2 := cel_flat cr
  try refine gs_Sk ?_
  refine Rn.call (c_begin d (q := qw w k) (L := [1, 2, 4]) nb nr (Sl.up (by assumption) fr_Sk (by omega)) (Sl.up (by assumption) fr_Sk (by omega)) (by simp) (Sl.lit _ sM_Sk (by omega) rfl rfl) (by simp)) ?_
  rintro _ h1 N1 ⟨⟨e0, hv, rfl⟩ | ⟨e0, rfl⟩, f1, o1, l1⟩
  · have e1 : beF s w k = 0 := e0
    obtain ⟨_, k1, k2, k3, k4, k5⟩ := beF_ok e1
    have hs := ok_of_valid hv
    have hg := gv_bd hs (w := w.toNat) (by omega) k5
    have m2 := hs.ok.m2
    have e2 : fE s w k = if (gvS s w.toNat).1 = 0 then 6 else 0 := if_pos e1
    clear e0
    try refine gs_Sk ?_
    refine Rn.call (c_gives (d + 1) hs ⟨k1, k2⟩ (Sl.up (by assumption) fr_Sk (by omega)) (Sl.up (by assumption) fr_Sk (by omega))) ?_
    rintro _ h2 N2 ⟨rfl, f2, o2, l2⟩
    try refine gs_Sk ?_
    (first | with_reducible refine Rn.cnd (fun _ => ?_) (fun _ => ?_) | with_reducible refine Rn.cndN (fun _ => ?_) (fun _ => ?_) | with_reducible refine Rn.cndB (fun _ => ?_) (fun _ => ?_))
    · have e3 : fE s w k = 6 := by rw [e2, if_pos (by assumption)]
      have e4 : fG s w k = (0, 0) := if_neg (by rw [e3]; decide)
      rw [e3, e4]
      clear e2 e3 e4
      try refine gs_Sk ?_
      exact Rn.ret ⟨rfl, (Gw.of fr_Sk (by omega))⟩
    · have e3 : fE s w k = 0 := by rw [e2, if_neg (by assumption)]
      have e4 : fG s w k = (3600 * k / (gvS s w.toNat).2, upS (3600 * k) (gvS s w.toNat).1) := if_pos e3
      rw [e3, e4]
      clear e2 e3 e4
      try refine gs_Sk ?_
      refine Rn.call (c_dividedUp _ (by omega) (by omega)) ?_
      rintro _ h3 N3 ⟨rfl, f3, o3, l3⟩
      try refine gs_Sk ?_
      refine Rn.call (c_span _) ?_
      rintro _ h4 N4 ⟨rfl, f4, o4, l4⟩
      try refine gs_Sk ?_
      exact Rn.ret ⟨rfl, (Gw.of fr_Sk (by omega))⟩
  · have e1 : beginS s (qw w k) [1, 2, 4] = beF s w k := rfl
    rw [e1] at e0 ⊢
    have e2 : fE s w k = beF s w k := if_neg e0
    have e3 : fG s w k = (0, 0) := if_neg (by rw [e2]; exact e0)
    rw [e3, e2]
    clear e3 e2 e1
    try refine gs_Sk ?_
    exact Rn.ret ⟨rfl, (Gw.of fr_Sk (by omega))⟩
end
end Go.Proofs.Ytpilgokdbliklaa
end

section
namespace Go.Proofs.Ytpilgokdbliklaa
open Go.Ev Go.RowKit
set_option linter.unusedVariables false
set_option linter.unusedSimpArgs false
set_option linter.unusedSectionVars false
set_option maxRecDepth 100000
set_option maxHeartbeats 4000000
theorem fwd_at (fall : Int) (f : Bd) : ∀ k j : Nat, fwdN fall k f j = if j ≤ k then fwdN fall j f j else f j
  | 0, j => by
    by_cases h : j ≤ 0
    · obtain rfl : j = 0 := by omega
      simp
    · rw [if_neg h]; rfl
  | k + 1, j => by
    by_cases e : j = k + 1
    · subst e; simp
    · have h1 : fwdN fall (k + 1) f j = fwdN fall k f j := by simp only [fwdN, up, if_neg e]
      rw [h1, fwd_at fall f k j]
      by_cases h : j ≤ k
      · rw [if_pos h, if_pos (by omega)]
      · rw [if_neg h, if_neg (by omega)]
theorem fwd_step (fall : Int) (f : Bd) {n k : Nat} (hk : k + 1 ≤ n) : (fwdN fall n f k).1 - fall ≤ (fwdN fall n f (k + 1)).1 ∧ (fwdN fall n f (k + 1)).2 ≤ (fwdN fall n f k).2 := by
  rw [fwd_at fall f n k, fwd_at fall f n (k + 1), if_pos (by omega), if_pos hk]
  have e : fwdN fall (k + 1) f (k + 1) = (max (fwdN fall k f (k + 1)).1 ((fwdN fall k f k).1 - fall), min (fwdN fall k f (k + 1)).2 (fwdN fall k f k).2) := by simp only [fwdN, up_same]
  rw [e]
  constructor
  · show _ ≤ max _ _; omega
  · show min _ _ ≤ _; omega
theorem bwd_at (fall : Int) (n : Nat) (f : Bd) : ∀ m j : Nat, m + 1 ≤ n → j + 1 ≤ n → bwdN fall n m f j = if n ≤ j + m + 1 then bwdN fall n (n - 1 - j) f j else f j
  | 0, j, _, hj => by
    by_cases h : n ≤ j + 0 + 1
    · obtain rfl : n = j + 1 := by omega
      simp
    · rw [if_neg h]; rfl
  | m + 1, j, hm, hj => by
    by_cases e : j = n - 2 - m
    · rw [if_pos (by omega), show n - 1 - j = m + 1 by omega]
    · have h1 : bwdN fall n (m + 1) f j = bwdN fall n m f j := by simp only [bwdN, up, if_neg e]
      rw [h1, bwd_at fall n f m j (by omega) hj]
      by_cases h : n ≤ j + m + 1
      · rw [if_pos h, if_pos (by omega)]
      · rw [if_neg h, if_neg (by omega)]
theorem nar_step {s : Sp} (h0 : 0 ≤ s.fall) (f : Bd) {k : Nat} (hk : k + 1 < s.weeks.toNat) :
    (narS s f (k + 1)).1 ≤ (narS s f k).1 ∧ (narS s f k).1 - s.fall ≤ (narS s f (k + 1)).1 ∧ (narS s f (k + 1)).2 ≤ (narS s f k).2 ∧ (narS s f k).2 - s.fall ≤ (narS s f (k + 1)).2 := by
  unfold narS
  generalize hn : s.weeks.toNat = n at hk ⊢
  have h1 := fwd_step s.fall f (n := n - 1) (k := k) (by omega)
  generalize fwdN s.fall (n - 1) f = G at h1
  have hin := bwd_in (fall := s.fall) (n := n) G (n - 1) (k + 1)
  rw [bwd_at s.fall n G (n - 1) k (by omega) (by omega), if_pos (by omega)]
  have hb : bwdN s.fall n (n - 1) G (k + 1) = bwdN s.fall n (n - 1 - (k + 1)) G (k + 1) := by
    rw [bwd_at s.fall n G (n - 1) (k + 1) (by omega) (by omega), if_pos (by omega)]
  rw [hb] at hin ⊢
  obtain ⟨m, hm⟩ : ∃ m, m = n - 1 - (k + 1) := ⟨_, rfl⟩
  rw [← hm] at hin ⊢
  have hk1 : n - 1 - k = m + 1 := by omega
  have hk2 : n - 2 - m = k := by omega
  rw [hk1]
  have hg : bwdN s.fall n m G k = G k := by rw [bwd_at s.fall n G m k (by omega) (by omega), if_neg (by omega)]
  have e : bwdN s.fall n (m + 1) G k = (max (G k).1 (bwdN s.fall n m G (k + 1)).1, min (G k).2 ((bwdN s.fall n m G (k + 1)).2 + s.fall)) := by
    simp only [bwdN, hk2, up_same, hg]
  rw [e]
  generalize bwdN s.fall n m G (k + 1) = H at hin
  refine ⟨?_, ?_, ?_, ?_⟩
  · show _ ≤ max _ _; omega
  · show max _ _ - _ ≤ _; omega
  · show _ ≤ min _ _; omega
  · show min _ _ - _ ≤ _; omega
theorem cv_u8 {z : Int} (h : 0 ≤ z ∧ z < 256) : cvV Pr 5 3 (.int .u8 z) = some (iS z) := by
  have hw : IntKind.i64.wrap z = z := Go.Sx.wrap_in (by omega)
  have g : still Pr (convert 5 3 (.int .u8 z)) = some (iS z) := by
    have u1 : Pr.underlying 5 = some (.int .u8) := by kernel_rfl
    have u2 : Pr.underlying 3 = some (.int .i64) := by kernel_rfl
    unfold convert
    simp [still_bnd, still_undl u1, still_undl u2, obind_s, still_pure, Conv.intToInt, hw]
  show ocond true (obind (still Pr _) fun r => ocond (scal r) (some r)) = _
  rw [g]; rfl
end Go.Proofs.Ytpilgokdbliklaa
end

section
namespace Go.Proofs.Ytpilgokdbliklaa
open Go.Ev Go.RowKit
set_option linter.unusedVariables false
set_option linter.unusedSimpArgs false
set_option linter.unusedSectionVars false
set_option maxRecDepth 100000
set_option maxHeartbeats 4000000
section
variable {s : Sp} {b r : Value}
end
end Go.Proofs.Ytpilgokdbliklaa
end

section
namespace Go.Proofs.Ytpilgokdbliklaa
open Go.Ev Go.RowKit
set_option linter.unusedVariables false
set_option linter.unusedSimpArgs false
set_option linter.unusedSectionVars false
set_option maxRecDepth 100000
set_option maxHeartbeats 4000000
open Go.Sx Go.ChangeShapes Go.WideShapes Go.ChangeAt
theorem Try.own : ownKnob Try.prog.godebug = none := by kernel_rfl
theorem Try.laidOut : laidOutB Try.prog = true := by kernel_rfl
theorem plains_ln (K : List Ln) : ∀ u ∈ encs K, plain u = true := by
  intro u hu
  simp only [encs, List.mem_flatMap] at hu
  obtain ⟨n, _, h⟩ := hu
  exact plain_Line n u h
theorem plains_rd (K : List Rd) : ∀ u ∈ encs K, plain u = true := by
  intro u hu
  simp only [encs, List.mem_flatMap] at hu
  obtain ⟨n, _, h⟩ := hu
  exact plain_Reading n u h
section
variable {H : Type} {enc : TypeId × Value → H} {w : World} {b0 base fuel : Nat} {spare : Nat → Bool} {held : Bool} {v : Value} {cs : List Value} {x : DataW H × List MemPlace}
theorem cells_int : Try.prog.cellsOf 3 = 1 := by kernel_rfl
theorem cells_span : Try.prog.cellsOf 23 = 2 := by kernel_rfl
theorem cells_line : Try.prog.cellsOf 73 = 5 := by kernel_rfl
theorem cells_reading : Try.prog.cellsOf 71 = 5 := by kernel_rfl
theorem cells_spring : Try.prog.cellsOf 27 = 9 := by kernel_rfl
theorem cells_lines : Try.prog.cellsOf 24 = 1 := by kernel_rfl
theorem cells_readings : Try.prog.cellsOf 25 = 1 := by kernel_rfl
theorem fld {fs : Array Field} {xs : List (DataW H × List MemPlace)} {n : Nat} {cs : List Value} (hf : ∀ (i : Nat) (f : Field), fs[i]? = some f → DataW.trod enc Try.prog w base spare held n f.type ((cs.drop f.offset).take (Try.prog.cellsOf f.type)) = xs[i]?)
    (i off T k : Nat) (hi : ∃ f, fs[i]? = some f ∧ f.type = T ∧ f.offset = off) (hc : Try.prog.cellsOf T = k) {y : DataW H × List MemPlace} (hx : xs[i]? = some y) : DataW.trod enc Try.prog w base spare held n T ((cs.drop off).take k) = some y := by
  obtain ⟨f, h1, rfl, rfl⟩ := hi
  rw [← hc, hf i f h1, hx]
theorem rd_int (h : DataW.trod enc Try.prog w base spare held fuel 3 cs = some x) : ∃ n : Int, cs = [.int .i64 n] := by
  obtain ⟨n, h1, _⟩ := DataW.trod_int Try.underlying3 h
  exact ⟨n, h1⟩
theorem rd_span (h : DataW.trod enc Try.prog w base spare held fuel 23 cs = some x) : ∃ a b : Int, cs = [.int .i64 a, .int .i64 b] := by
  obtain ⟨xs, n, _, _, hl, hxl, hf⟩ := DataW.trod_struct Try.underlying23 h
  rw [cells_span] at hl
  match cs, hl with
  | [c0, c1], _ =>
    match xs, hxl with
    | [x0, x1], _ =>
      have f0 := fld hf 0 0 3 1 ⟨_, rfl, rfl, rfl⟩ cells_int (y := x0) rfl
      have f1 := fld hf 1 1 3 1 ⟨_, rfl, rfl, rfl⟩ cells_int (y := x1) rfl
      obtain ⟨a, ha⟩ := rd_int f0
      obtain ⟨b, hb⟩ := rd_int f1
      simp at ha hb
      exact ⟨a, b, by rw [ha, hb]⟩
theorem rd_line (h : DataW.trod enc Try.prog w base spare held fuel 73 cs = some x) : ∃ r : Ln, cs = Rwc.enc r := by
  obtain ⟨xs, n, _, _, hl, hxl, hf⟩ := DataW.trod_struct Try.underlying73 h
  rw [cells_line] at hl
  match cs, hl with
  | [c0, c1, c2, c3, c4], _ =>
    match xs, hxl with
    | [x0, x1, x2], _ =>
      have f0 := fld hf 0 0 23 2 ⟨_, rfl, rfl, rfl⟩ cells_span (y := x0) rfl
      have f1 := fld hf 1 2 3 1 ⟨_, rfl, rfl, rfl⟩ cells_int (y := x1) rfl
      have f2 := fld hf 2 3 23 2 ⟨_, rfl, rfl, rfl⟩ cells_span (y := x2) rfl
      obtain ⟨a, b, ha⟩ := rd_span f0
      obtain ⟨c, hc⟩ := rd_int f1
      obtain ⟨d, e, hd⟩ := rd_span f2
      simp at ha hc hd
      exact ⟨⟨a, b, c, d, e⟩, by rw [enc_Line, ha.1, ha.2, hc, hd.1, hd.2]⟩
theorem rd_reading (h : DataW.trod enc Try.prog w base spare held fuel 71 cs = some x) : ∃ r : Rd, cs = Rwc.enc r := by
  obtain ⟨xs, n, _, _, hl, hxl, hf⟩ := DataW.trod_struct Try.underlying71 h
  rw [cells_reading] at hl
  match cs, hl with
  | [c0, c1, c2, c3, c4], _ =>
    match xs, hxl with
    | [x0, x1, x2, x3], _ =>
      have f0 := fld hf 0 0 3 1 ⟨_, rfl, rfl, rfl⟩ cells_int (y := x0) rfl
      have f1 := fld hf 1 1 3 1 ⟨_, rfl, rfl, rfl⟩ cells_int (y := x1) rfl
      have f2 := fld hf 2 2 3 1 ⟨_, rfl, rfl, rfl⟩ cells_int (y := x2) rfl
      have f3 := fld hf 3 3 23 2 ⟨_, rfl, rfl, rfl⟩ cells_span (y := x3) rfl
      obtain ⟨a, ha⟩ := rd_int f0
      obtain ⟨b, hb⟩ := rd_int f1
      obtain ⟨c, hc⟩ := rd_int f2
      obtain ⟨d, e, hd⟩ := rd_span f3
      simp at ha hb hc hd
      exact ⟨⟨a, b, c, d, e⟩, by rw [enc_Reading, ha, hb, hc, hd.1, hd.2]⟩
theorem open_spring {d : DataW H} {ps : List MemPlace} (hv : Value.okWide Try.prog w .any b0 27 v) (h : DataW.Trod enc Try.prog w 0 spare held 27 v d ps) :
    ∃ (s : Sp) (b r : Value), v = .agg ⟨[iS s.weeks, iS s.most, iS s.fall, iS s.slo, iS s.shi, iS s.wlo, iS s.whi, b, r]⟩ ∧ In w b s.book ∧ In w r s.reads ∧ Pl b s.book.length ∧ Pl r s.reads.length := by
  have hv0 := hv
  obtain ⟨cs, rfl, hcs⟩ := okWide_struct Try.underlying27 hv
  obtain ⟨fuel, h⟩ := h
  obtain ⟨xs, n, _, _, hl, hxl, hf⟩ := DataW.trod_struct Try.underlying27 h
  have hl' : cs.toList.length = 9 := by rw [cells_spring] at hl; exact hl
  obtain ⟨c0, c1, c2, c3, c4, c5, c6, c7, c8, hc⟩ : ∃ c0 c1 c2 c3 c4 c5 c6 c7 c8, cs.toList = [c0, c1, c2, c3, c4, c5, c6, c7, c8] := by
    match hz : cs.toList, hl' with
    | [c0, c1, c2, c3, c4, c5, c6, c7, c8], _ => exact ⟨c0, c1, c2, c3, c4, c5, c6, c7, c8, rfl⟩
  have hce : (Value.agg cs).cells.toList = [c0, c1, c2, c3, c4, c5, c6, c7, c8] := hc
  rw [hce] at hf
  have hca : cs = ⟨[c0, c1, c2, c3, c4, c5, c6, c7, c8]⟩ := Array.ext' hc
  subst hca
  simp only [Value.okWide, Try.underlying27] at hv0
  obtain ⟨_, he, _, ts, hts, _, hk⟩ := hv0
  cases he
  have e : Try.prog.cellTypes Try.prog.depth 27 = some [3, 3, 3, 3, 3, 3, 3, 24, 25] := by kernel_rfl
  rw [e] at hts
  cases hts
  obtain ⟨u7, g7, k7⟩ := hk 7 c7 rfl
  obtain ⟨u8, g8, k8⟩ := hk 8 c8 rfl
  cases g7; cases g8
  match xs, hxl with
  | [x0, x1, x2, x3, x4, x5, x6], _ =>
    have f0 := fld hf 0 0 3 1 ⟨_, rfl, rfl, rfl⟩ cells_int (y := x0) rfl
    have f1 := fld hf 1 1 3 1 ⟨_, rfl, rfl, rfl⟩ cells_int (y := x1) rfl
    have f2 := fld hf 2 2 3 1 ⟨_, rfl, rfl, rfl⟩ cells_int (y := x2) rfl
    have f3 := fld hf 3 3 23 2 ⟨_, rfl, rfl, rfl⟩ cells_span (y := x3) rfl
    have f4 := fld hf 4 5 23 2 ⟨_, rfl, rfl, rfl⟩ cells_span (y := x4) rfl
    have f5 := fld hf 5 7 24 1 ⟨_, rfl, rfl, rfl⟩ cells_lines (y := x5) rfl
    have f6 := fld hf 6 8 25 1 ⟨_, rfl, rfl, rfl⟩ cells_readings (y := x6) rfl
    obtain ⟨i0, e0⟩ := rd_int f0
    obtain ⟨i1, e1⟩ := rd_int f1
    obtain ⟨i2, e2⟩ := rd_int f2
    obtain ⟨i3, i4, e3⟩ := rd_span f3
    obtain ⟨i5, i6, e4⟩ := rd_span f4
    simp at e0 e1 e2 e3 e4
    obtain ⟨e3, e3'⟩ := e3
    obtain ⟨e4, e4'⟩ := e4
    subst e0 e1 e2 e3 e3' e4 e4'
    obtain ⟨L1, i1'⟩ := open_in (α := Ln) cells_line Try.underlying24 (fun _ _ _ h => rd_line h) k7 f5
    obtain ⟨L2, i2'⟩ := open_in (α := Rd) cells_reading Try.underlying25 (fun _ _ _ h => rd_reading h) k8 f6
    exact ⟨⟨i0, i1, i2, i3, i4, i5, i6, L1, L2⟩, c7, c8, rfl, i1', i2', in_pl Try.underlying24 k7 i1', in_pl Try.underlying25 k8 i2'⟩
end
/-- A spring that came in is told. -/
theorem tell_spring {W : World} {s : Sp} {b r : Value} (h1 : In W b s.book) (h2 : In W r s.reads) :
    ∃ σ h u1 u2, Go.Ev.Told W σ h 2 ∧ Rl σ u1 b ∧ Rl σ u2 r ∧ Sl h 2 u1 s.book ∧ Sl h 2 u2 s.reads ∧ (Pl b s.book.length → Pl u1 s.book.length) ∧ (Pl r s.reads.length → Pl u2 s.reads.length) := by
  obtain ⟨σ1, m1, u1, T1, le1, g1, r1, t1, c1⟩ := tell2 h1 (plains_ln _) (Go.Ev.Told.start W)
  obtain ⟨σ2, m2, u2, T2, le2, g2, r2, t2, c2⟩ := tell2 h2 (plains_rd _) T1
  exact ⟨σ2, m2, u1, u2, T2, r1.mono le2, r2, t1.up g2 (by omega), t2, c1, c2⟩
theorem rl_spring {σ : Sg} {s : Sp} {b r u1 u2 : Value} (r1 : Rl σ u1 b) (r2 : Rl σ u2 r) : Rl σ (.agg ⟨[iS s.weeks, iS s.most, iS s.fall, iS s.slo, iS s.shi, iS s.wlo, iS s.whi, u1, u2]⟩) (.agg ⟨[iS s.weeks, iS s.most, iS s.fall, iS s.slo, iS s.shi, iS s.wlo, iS s.whi, b, r]⟩) :=
  RlL.agg (RlL.cons (.sc rfl) (RlL.cons (.sc rfl) (RlL.cons (.sc rfl) (RlL.cons (.sc rfl) (RlL.cons (.sc rfl) (RlL.cons (.sc rfl) (RlL.cons (.sc rfl) (RlL.cons r1 (RlL.cons r2 (RlL.nil _))))))))))
end Go.Proofs.Ytpilgokdbliklaa
end

section
namespace Go.Proofs.Ytpilgokdbliklaa
open Go.Ev Go.RowKit
set_option linter.unusedVariables false
set_option linter.unusedSimpArgs false
set_option linter.unusedSectionVars false
set_option maxRecDepth 100000
set_option maxHeartbeats 4000000
/-- A list of one's own, nil at first. -/
def OwZ {α : Type} [Rwc α] (h : Tr Ob) (M el : Nat) (v : Value) (L : List α) (P : Nat → Prop) : Prop := (v = .slice none 0 0 ∧ L = []) ∨ ∃ i, P i ∧ i < M ∧ Ow h el v L i
theorem OwZ.sl {α : Type} [Rwc α] {h : Tr Ob} {M el : Nat} {v : Value} {L : List α} {P : Nat → Prop} (o : OwZ h M el v L P) : Sl h M v L := by
  rcases o with ⟨rfl, rfl⟩ | ⟨i, _, hi, o⟩
  · exact Sl.nil _ _
  · exact o.sl hi
theorem OwZ.keep {α : Type} [Rwc α] {h h' : Tr Ob} {M M' el : Nat} {v : Value} {L : List α} {P : Nat → Prop} (o : OwZ h M el v L P) (hm : M ≤ M') (hk : ∀ i, P i → i < M → h'.get i = h.get i) : OwZ h' M' el v L P := by
  rcases o with e | ⟨i, p, hi, o⟩
  · exact .inl e
  · exact .inr ⟨i, p, by omega, o.keep (hk i p hi)⟩
theorem rains_len {s : Sp} (hs : OkS s) : (rainsS s).length ≤ 21 := by
  have h := hs.ok
  obtain ⟨w1, w2, m1, m2, p1, p2, a1, a2, a3, v1, v2, v3⟩ := h
  have : (rainsS s).length ≤ rainN s := by
    unfold rainsS rainsN
    refine Nat.le_trans (List.length_filter_le _ _) ?_
    simp
  unfold rainN at this
  omega
section
variable {s : Sp} {b r : Value}
end
end Go.Proofs.Ytpilgokdbliklaa
end

section
namespace Go.Proofs.Ytpilgokdbliklaa
open Go.Ev Go.RowKit
set_option linter.unusedVariables false
set_option linter.unusedSimpArgs false
set_option linter.unusedSectionVars false
set_option maxRecDepth 100000
set_option maxHeartbeats 4000000
section
variable {s : Sp} {b r : Value}
end
end Go.Proofs.Ytpilgokdbliklaa
end

section
namespace Go.Proofs.Ytpilgokdbliklaa
open Go.Ev Go.RowKit
set_option linter.unusedVariables false
set_option linter.unusedSimpArgs false
set_option linter.unusedSectionVars false
set_option maxRecDepth 100000
set_option maxHeartbeats 4000000
section
variable {s t : Sp}
end
section
variable {s : Sp}
end
end Go.Proofs.Ytpilgokdbliklaa
end

section
namespace Go.Proofs.Ytpilgokdbliklaa
open Go.Ev Go.RowKit
set_option linter.unusedVariables false
set_option linter.unusedSimpArgs false
set_option linter.unusedSectionVars false
set_option maxRecDepth 100000
set_option maxHeartbeats 4000000
section
variable {s : Sp} {b r : Value}
end
end Go.Proofs.Ytpilgokdbliklaa
end

section
namespace Go.Proofs.Ytpilgokdbliklaa
open Go.Ev Go.RowKit
set_option linter.unusedVariables false
set_option linter.unusedSimpArgs false
set_option linter.unusedSectionVars false
set_option maxRecDepth 100000
set_option maxHeartbeats 4000000
section
variable {s : Sp} {b r : Value}
end
end Go.Proofs.Ytpilgokdbliklaa
end

section
namespace Go.Proofs.Ytpilgokdbliklaa
open Go.Ev Go.RowKit
set_option linter.unusedVariables false
set_option linter.unusedSimpArgs false
set_option linter.unusedSectionVars false
set_option maxRecDepth 100000
set_option maxHeartbeats 4000000
section
variable {s : Sp} {b r : Value}
end
end Go.Proofs.Ytpilgokdbliklaa
end

section
namespace Go.Proofs.Ytpilgokdbliklaa
open Go.Ev Go.RowKit
set_option linter.unusedVariables false
set_option linter.unusedSimpArgs false
set_option linter.unusedSectionVars false
set_option maxRecDepth 100000
set_option maxHeartbeats 4000000
theorem s1_Wc {p : Prop} (h : p := by (simp (disch := omega) only [obind_s, orun_s, ocond_t, fad_p, ld1_e, ldN_e, sto_e, cellO_c, wrO_c, Tr.get_same, Tr.get_other, nth_0, nth_s, drp_0, drp_s, drp_n, tak_0, tak_s, tak_n, over_n, over_c, lay_0, lay_s, lay_n, len_n, len_c, app_n, app_c, reps_0, reps_s, cel_agg, cel_int, cel_bool, cel_str, cel_sl, cel_ptr, cel_map, cel_func, cel_nilf, fil_n, fil_c, beq_r, ble_d, allF_n, allF_c, one_int, one_bool, one_str, one_sl, one_ptr, one_map, one_func, one_nilf, Bool.and_true, Bool.true_and, Bool.not_true, Bool.not_false, iadA_z, Int.reduceToNat, Int.toNat_zero, fl1_a, flN_a, extr_t, unot, not_d, Nat.add_eq, Nat.mul_eq, Nat.mul_one, Nat.one_mul, Nat.zero_mul, Nat.reduceMul, Nat.zero_add, Nat.add_zero, Nat.le_refl, decide_true, Nat.reduceAdd, Nat.reduceLeDiff, bsl_Sint, bsl_SReading, bsl_SLine, bld_Span, bld_spring_work, bld_spring_asked, enc_Line, enc_Reading, ocond_d, Int.toNat_natCast, *]); first | done | fail) : p := h
theorem s2_Wc {p : Prop} (h : p := by (simp (disch := omega) only [obind_s, orun_s, ocond_t, fad_p, ld1_e, ldN_e, sto_e, cellO_c, wrO_c, Tr.get_same, Tr.get_other, nth_0, nth_s, drp_0, drp_s, drp_n, tak_0, tak_s, tak_n, over_n, over_c, lay_0, lay_s, lay_n, len_n, len_c, app_n, app_c, reps_0, reps_s, cel_agg, cel_int, cel_bool, cel_str, cel_sl, cel_ptr, cel_map, cel_func, cel_nilf, fil_n, fil_c, beq_r, ble_d, allF_n, allF_c, one_int, one_bool, one_str, one_sl, one_ptr, one_map, one_func, one_nilf, Bool.and_true, Bool.true_and, Bool.not_true, Bool.not_false, iadA_z, Int.reduceToNat, Int.toNat_zero, fl1_a, flN_a, extr_t, unot, not_d, Nat.add_eq, Nat.mul_eq, Nat.mul_one, Nat.one_mul, Nat.zero_mul, Nat.reduceMul, Nat.zero_add, Nat.add_zero, Nat.le_refl, decide_true, Nat.reduceAdd, Nat.reduceLeDiff, bsl_Sint, bsl_SReading, bsl_SLine, bld_Span, bld_spring_work, bld_spring_asked, enc_Line, enc_Reading, ocond_d, Int.toNat_natCast, *]); rfl) : p := h
theorem sb_Wc {p : Prop} (h : p := by first | ((simp (disch := omega) only [obind_s, orun_s, ocond_t, fad_p, ld1_e, ldN_e, sto_e, cellO_c, wrO_c, Tr.get_same, Tr.get_other, nth_0, nth_s, drp_0, drp_s, drp_n, tak_0, tak_s, tak_n, over_n, over_c, lay_0, lay_s, lay_n, len_n, len_c, app_n, app_c, reps_0, reps_s, cel_agg, cel_int, cel_bool, cel_str, cel_sl, cel_ptr, cel_map, cel_func, cel_nilf, fil_n, fil_c, beq_r, ble_d, allF_n, allF_c, one_int, one_bool, one_str, one_sl, one_ptr, one_map, one_func, one_nilf, Bool.and_true, Bool.true_and, Bool.not_true, Bool.not_false, iadA_z, Int.reduceToNat, Int.toNat_zero, fl1_a, flN_a, extr_t, unot, not_d, Nat.add_eq, Nat.mul_eq, Nat.mul_one, Nat.one_mul, Nat.zero_mul, Nat.reduceMul, Nat.zero_add, Nat.add_zero, Nat.le_refl, decide_true, Nat.reduceAdd, Nat.reduceLeDiff, bsl_Sint, bsl_SReading, bsl_SLine, bld_Span, bld_spring_work, bld_spring_asked, enc_Line, enc_Reading, ocond_d, Int.toNat_natCast, Nat.succ_eq_add_one, Nat.add_assoc, *]); rfl) | ((simp (disch := omega) only [obind_s, orun_s, ocond_t, fad_p, ld1_e, ldN_e, sto_e, cellO_c, wrO_c, Tr.get_same, Tr.get_other, nth_0, nth_s, drp_0, drp_s, drp_n, tak_0, tak_s, tak_n, over_n, over_c, lay_0, lay_s, lay_n, len_n, len_c, app_n, app_c, reps_0, reps_s, cel_agg, cel_int, cel_bool, cel_str, cel_sl, cel_ptr, cel_map, cel_func, cel_nilf, fil_n, fil_c, beq_r, ble_d, allF_n, allF_c, one_int, one_bool, one_str, one_sl, one_ptr, one_map, one_func, one_nilf, Bool.and_true, Bool.true_and, Bool.not_true, Bool.not_false, iadA_z, Int.reduceToNat, Int.toNat_zero, fl1_a, flN_a, extr_t, unot, not_d, Nat.add_eq, Nat.mul_eq, Nat.mul_one, Nat.one_mul, Nat.zero_mul, Nat.reduceMul, Nat.zero_add, Nat.add_zero, Nat.le_refl, decide_true, Nat.reduceAdd, Nat.reduceLeDiff, bsl_Sint, bsl_SReading, bsl_SLine, bld_Span, bld_spring_work, bld_spring_asked, enc_Line, enc_Reading, ocond_d, Int.toNat_natCast, Nat.succ_eq_add_one, Nat.add_assoc, *]); done)) : p := h
theorem fr_Wc {p : Prop} (h : p := by first | assumption | exact Fr.refl _ _ | (simp (disch := omega) only [Fr_set, Fr_refl, *])) : p := h
theorem fl_Wc {p : Prop} (h : p := by first | with_unfolding_all rfl | exact Sl.flat (by assumption) | assumption) : p := h
theorem fll_Wc {p : Prop} (h : p := by first | with_unfolding_all rfl | ((repeat (refine flatL_k fl_Wc ?_)); with_unfolding_all rfl)) : p := h
theorem en_Wc {p : Prop} (h : p := by first | ((simp only [enc_int, enc_str, enc_u8, enc_bool, tak_s, tak_0, tak_n, drp_0, drp_s, drp_n, nth_s, nth_0, bsl_Sint, bsl_SReading, bsl_SLine, bld_Span, bld_spring_work, bld_spring_asked, enc_Line, enc_Reading, ocond_d, Int.toNat_natCast]); rfl) | ((simp only [enc_int, enc_str, enc_u8, enc_bool, tak_s, tak_0, tak_n, drp_0, drp_s, drp_n, nth_s, nth_0, bsl_Sint, bsl_SReading, bsl_SLine, bld_Span, bld_spring_work, bld_spring_asked, enc_Line, enc_Reading, ocond_d, Int.toNat_natCast]); done) | with_unfolding_all rfl) : p := h
theorem sM_Wc {p : Prop} (h : p := by (first | assumption | (simp (disch := omega) only [Tr.get_same, Tr.get_other, *]; rfl) | (simp (disch := omega) only [Tr.get_same, Tr.get_other, *]; done))) : p := h
theorem sS_Wc {p : Prop} (h : p := by first | assumption | exact s1_Wc) : p := h
theorem op_Wc {p : Prop} (h : p := by first | with_reducible exact fad_p _ _ _ | with_reducible exact iop_lss _ _ | with_reducible exact iop_leq _ _ | with_reducible exact iop_gtr _ _ | with_reducible exact iop_geq _ _ | with_reducible exact iop_eql _ _ | with_reducible exact iop_neq _ _ | with_reducible exact Sl.len (by assumption) | with_reducible exact lenS_s _ _ _ | with_reducible exact Sl.iad (by assumption) (by with_unfolding_all rfl) (by first | assumption | omega) | with_reducible exact Sl.fad (by assumption) (by first | assumption | omega) | with_reducible exact Sl.ld1 (by assumption) fr_Wc (by with_unfolding_all rfl) (by assumption) en_Wc | with_reducible exact Sl.ldN (by assumption) fr_Wc (by with_unfolding_all rfl) (by assumption) (by with_unfolding_all rfl) en_Wc | with_reducible exact zadd1 (by omega) | with_reducible exact zsub1 (by omega) (by omega) | with_reducible exact zaddI (by omega) (by omega) | with_reducible exact zsubI (by omega) (by omega) | with_reducible exact min_z | with_reducible exact max_z | with_reducible exact zmulI (by assumption) | with_reducible exact zmulK (by omega) (by omega) | with_reducible exact quo_z (by omega) (by omega) (by omega) | with_reducible exact cv_u8 (by omega) | with_reducible exact rem_z (by omega) (by omega) (by omega) | with_reducible exact neq_bool (by kernel_rfl) | with_reducible exact eql_u8 | with_reducible exact wntT_t (by assumption) | with_reducible exact wntT_f (by assumption) | with_reducible exact wntF_t (by assumption) | with_reducible exact wntF_f (by assumption) | with_reducible exact wnt_tt | with_reducible exact wnt_tf | with_reducible exact wnt_ft | with_reducible exact wnt_ff | with_reducible exact wnt_u _ _ | with_reducible exact pck_t _ _ | with_reducible exact pck_f _ _ | with_reducible exact pckT (by assumption) | with_reducible exact pckF (by assumption) | with_reducible exact wntT_t (by decide) | with_reducible exact wntT_f (by decide) | with_reducible exact wntF_t (by decide) | with_reducible exact wntF_f (by decide) | with_reducible exact pckT (by decide) | with_reducible exact pckF (by decide) | with_reducible exact wntN_tt (by decide) | with_reducible exact wntN_tf (by decide) | with_reducible exact wntN_ft (by decide) | with_reducible exact wntN_ff (by decide) | with_reducible exact pckNT (by decide) | with_reducible exact pckNF (by decide) | with_reducible exact wntN_tt (by assumption) | with_reducible exact wntN_tf (by assumption) | with_reducible exact wntN_ft (by assumption) | with_reducible exact wntN_ff (by assumption) | with_reducible exact pckNT (by assumption) | with_reducible exact pckNF (by assumption) | with_reducible exact wntB_tt (by assumption) | with_reducible exact wntB_tf (by assumption) | with_reducible exact wntB_ft (by assumption) | with_reducible exact wntB_ff (by assumption) | with_reducible exact pckBT (by assumption) | with_reducible exact pckBF (by assumption) | exact s2_Wc | exact s1_Wc) : p := h
theorem co_Wc {p : Prop} (h : p := by first | (simp only [impB_1, impB_0, offB_1, offB_0]; done) | ((try simp only [impB_1, impB_0, offB_1, offB_0]); first | with_reducible exact Sl.ag1 (by assumption) fr_Wc (by with_unfolding_all rfl) (by assumption) en_Wc | with_reducible exact Sl.agN (by assumption) fr_Wc (by with_unfolding_all rfl) (by assumption) (by with_unfolding_all rfl) en_Wc | ((with_reducible refine agL1_e ?_ ?_); (· exact s1_Wc); (· exact fl_Wc)) | ((with_reducible refine agLN_e ?_ ?_); (· exact s1_Wc); (· exact fll_Wc)) | ((with_reducible apply ag_bs); (· exact sM_Wc); (· rfl); (· exact sb_Wc); (· exact fll_Wc)) | ((with_reducible apply ag_al); (· exact sM_Wc); (· rfl); (· exact fll_Wc)) | ((with_reducible apply ag_bx); (· exact sM_Wc); (· rfl); (· rfl); (· exact fll_Wc)) | ((with_reducible apply ag_bd); (· rfl); (· exact s1_Wc); (· exact fll_Wc)) | exact s1_Wc)) : p := h
theorem gs_Wc {r p : Prop} (k : r) (h : Go.Ev.Im r p := by (first | with_reducible apply Im.runS | ((with_reducible apply Im.num); · (simp only [Nat.succ_eq_add_one, Nat.add_assoc, Nat.reduceAdd]; rfl)) | (with_reducible apply Im.unm) | (with_reducible apply Im.selT) | (with_reducible apply Im.selF) | ((with_reducible apply Im.cndT); · assumption) | ((with_reducible apply Im.cndF); · assumption) | ((with_reducible apply Im.cndT); · decide) | ((with_reducible apply Im.cndF); · decide) | ((with_reducible apply Im.cndNT); · decide) | ((with_reducible apply Im.cndNF); · decide) | ((with_reducible apply Im.cndBT); · exact rfl) | ((with_reducible apply Im.cndBF); · exact rfl) | ((with_reducible apply Im.cndNT); · assumption) | ((with_reducible apply Im.cndNF); · assumption) | ((with_reducible apply Im.cndBT); · assumption) | ((with_reducible apply Im.cndBF); · assumption) | ((with_reducible apply Im.bind); · exact op_Wc) | ((with_reducible apply Im.cond); · exact co_Wc) | ((with_reducible apply Im.runB); · exact op_Wc) | ((with_reducible apply Im.runC); · exact co_Wc) | ((with_reducible apply Im.runN); · (simp only [Nat.succ_eq_add_one, Nat.add_assoc, Nat.reduceAdd]; rfl)) | with_reducible apply Im.runR | ((with_reducible apply Im.runE (x := evBuildSlice _ _ _ _ _ _)); · exact sb_Wc)); (repeat (first | with_reducible apply Im.runS | ((with_reducible apply Im.num); · (simp only [Nat.succ_eq_add_one, Nat.add_assoc, Nat.reduceAdd]; rfl)) | (with_reducible apply Im.unm) | (with_reducible apply Im.selT) | (with_reducible apply Im.selF) | ((with_reducible apply Im.cndT); · assumption) | ((with_reducible apply Im.cndF); · assumption) | ((with_reducible apply Im.cndT); · decide) | ((with_reducible apply Im.cndF); · decide) | ((with_reducible apply Im.cndNT); · decide) | ((with_reducible apply Im.cndNF); · decide) | ((with_reducible apply Im.cndBT); · exact rfl) | ((with_reducible apply Im.cndBF); · exact rfl) | ((with_reducible apply Im.cndNT); · assumption) | ((with_reducible apply Im.cndNF); · assumption) | ((with_reducible apply Im.cndBT); · assumption) | ((with_reducible apply Im.cndBF); · assumption) | ((with_reducible apply Im.bind); · exact op_Wc) | ((with_reducible apply Im.cond); · exact co_Wc) | ((with_reducible apply Im.runB); · exact op_Wc) | ((with_reducible apply Im.runC); · exact co_Wc) | ((with_reducible apply Im.runN); · (simp only [Nat.succ_eq_add_one, Nat.add_assoc, Nat.reduceAdd]; rfl)) | with_reducible apply Im.runR | ((with_reducible apply Im.runE (x := evBuildSlice _ _ _ _ _ _)); · exact sb_Wc))); exact Go.Ev.Im.id) : p := h k
section
variable {s : Sp} {b r : Value}
/-- Springs alike. -/
theorem c_Same (call : CallF) {b' r' : Value} {h N} (nb : s.book.length < 1000) (nr : s.reads.length < 1000) (hb : Sl h N b s.book) (hr : Sl h N r s.reads) (hb' : Sl h N b' s.book) (hr' : Sl h N r' s.reads) : Rn (s27 call (.agg ⟨[iS s.weeks, iS s.most, iS s.fall, iS s.slo, iS s.shi, iS s.wlo, iS s.whi, b', r']⟩) (.agg ⟨[iS s.weeks, iS s.most, iS s.fall, iS s.slo, iS s.shi, iS s.wlo, iS s.whi, b, r]⟩) h N) fun v h' N' => v = .bool true ∧ Gw h N h' N' := by
  unfold s27
  have cb := hb.flat; have cr := hr.flat; have x1 := flatV_one cb; have y1 := cel_flat cb; have x2 := flatV_one cr; have y2 := cel_flat cr
  have cb' := hb'.flat
  have cr' := hr'.flat
  have x3 := flatV_one cb'
  have y3 := cel_flat cb'
  have x4 := flatV_one cr'
  have y4 := cel_flat cr'
  have n1 : ∀ u v, evBin Pr .neq 23 u v (.agg ⟨[iS s.slo, iS s.shi]⟩) (.agg ⟨[iS s.slo, iS s.shi]⟩) = some (.bool false) := fun u v => by
    rw [neqE_Span u v ⟨s.slo, s.shi⟩ ⟨s.slo, s.shi⟩, decide_eq_true rfl]; rfl
  have n2 : ∀ u v, evBin Pr .neq 23 u v (.agg ⟨[iS s.wlo, iS s.whi]⟩) (.agg ⟨[iS s.wlo, iS s.whi]⟩) = some (.bool false) := fun u v => by
    rw [neqE_Span u v ⟨s.wlo, s.whi⟩ ⟨s.wlo, s.whi⟩, decide_eq_true rfl]; rfl
  have z1 : ¬ s.weeks ≠ s.weeks := fun h => h rfl
  have z2 : ¬ s.most ≠ s.most := fun h => h rfl
  have z3 : ¬ s.fall ≠ s.fall := fun h => h rfl
  have z4 : ¬ (s.book.length : Int) ≠ (s.book.length : Int) := fun h => h rfl
  have z5 : ¬ (s.reads.length : Int) ≠ (s.reads.length : Int) := fun h => h rfl
  try refine gs_Wc ?_
  refine Rn.loop3 (fun n a1 a2 a3 g M => ∃ i : Nat, a1 = .pointer (some ⟨N, 0, none⟩) ∧ a2 = .pointer (some ⟨N + 1, 0, none⟩) ∧ a3 = nS i ∧ i + n = s.book.length ∧ Fr h N g ∧ N + 2 ≤ M ∧ g.get N = some (.c [iS s.weeks, iS s.most, iS s.fall, iS s.slo, iS s.shi, iS s.wlo, iS s.whi, b', r'] 27) ∧ g.get (N + 1) = some (.c [iS s.weeks, iS s.most, iS s.fall, iS s.slo, iS s.shi, iS s.wlo, iS s.whi, b, r] 27)) s.book.length (by omega) ⟨0, rfl, rfl, rfl, by omega, fr_Wc, by omega, sS_Wc, sS_Wc⟩ ?_
  rintro n g ih _ _ _ h2 N2 ⟨i, rfl, rfl, rfl, e2, f2, l2, g1, g2⟩
  try refine gs_Wc ?_
  (first | with_reducible refine Rn.cnd (fun _ => ?_) (fun _ => ?_) | with_reducible refine Rn.cndN (fun _ => ?_) (fun _ => ?_) | with_reducible refine Rn.cndB (fun _ => ?_) (fun _ => ?_))
  · obtain ⟨x, hx⟩ := at_of (L := s.book) (k := i) (by omega)
    have hi : i < s.book.length := by omega
    have n3 : ∀ u v, evBin Pr .neq 73 u v (.agg ⟨[iS x.Rain_Lo, iS x.Rain_Hi, iS x.Week, iS x.Gives_Lo, iS x.Gives_Hi]⟩) (.agg ⟨[iS x.Rain_Lo, iS x.Rain_Hi, iS x.Week, iS x.Gives_Lo, iS x.Gives_Hi]⟩) = some (.bool false) := fun u v => by
      rw [neqE_Line u v x x, decide_eq_true rfl]; rfl
    try refine gs_Wc ?_
    exact ih (n - 1) (by omega) _ _ _ _ _ ⟨i + 1, rfl, rfl, rfl, by omega, fr_Wc, by omega, sS_Wc, sS_Wc⟩
  · clear ih
    try refine gs_Wc ?_
    refine Rn.loop3 (fun n a1 a2 a3 g M => ∃ i : Nat, a1 = .pointer (some ⟨N, 0, none⟩) ∧ a2 = .pointer (some ⟨N + 1, 0, none⟩) ∧ a3 = nS i ∧ i + n = s.reads.length ∧ Fr h N g ∧ N + 2 ≤ M ∧ g.get N = some (.c [iS s.weeks, iS s.most, iS s.fall, iS s.slo, iS s.shi, iS s.wlo, iS s.whi, b', r'] 27) ∧ g.get (N + 1) = some (.c [iS s.weeks, iS s.most, iS s.fall, iS s.slo, iS s.shi, iS s.wlo, iS s.whi, b, r] 27)) s.reads.length (by omega) ⟨0, rfl, rfl, rfl, by omega, fr_Wc, by omega, sS_Wc, sS_Wc⟩ ?_
    clear f2 l2 g1 g2 e2
    rintro n g ih _ _ _ h2 N2 ⟨i, rfl, rfl, rfl, e2, f2, l2, g1, g2⟩
    try refine gs_Wc ?_
    (first | with_reducible refine Rn.cnd (fun _ => ?_) (fun _ => ?_) | with_reducible refine Rn.cndN (fun _ => ?_) (fun _ => ?_) | with_reducible refine Rn.cndB (fun _ => ?_) (fun _ => ?_))
    · obtain ⟨x, hx⟩ := at_of (L := s.reads) (k := i) (by omega)
      have hi : i < s.reads.length := by omega
      have n3 : ∀ u v, evBin Pr .neq 71 u v (.agg ⟨[iS x.Number, iS x.Week, iS x.Bucket, iS x.Songs_Lo, iS x.Songs_Hi]⟩) (.agg ⟨[iS x.Number, iS x.Week, iS x.Bucket, iS x.Songs_Lo, iS x.Songs_Hi]⟩) = some (.bool false) := fun u v => by
        rw [neqE_Reading u v x x, decide_eq_true rfl]; rfl
      try refine gs_Wc ?_
      exact ih (n - 1) (by omega) _ _ _ _ _ ⟨i + 1, rfl, rfl, rfl, by omega, fr_Wc, by omega, sS_Wc, sS_Wc⟩
    · try refine gs_Wc ?_
      exact Rn.ret ⟨rfl, (Gw.of fr_Wc (by omega))⟩
end
end Go.Proofs.Ytpilgokdbliklaa
end

section
namespace Go.Proofs.Ytpilgokdbliklaa
open Go.Ev Go.RowKit
set_option linter.unusedVariables false
set_option linter.unusedSimpArgs false
set_option linter.unusedSectionVars false
set_option maxRecDepth 100000
set_option maxHeartbeats 4000000
theorem s1_Ya {p : Prop} (h : p := by (simp (disch := omega) only [obind_s, orun_s, ocond_t, fad_p, ld1_e, ldN_e, sto_e, cellO_c, wrO_c, Tr.get_same, Tr.get_other, nth_0, nth_s, drp_0, drp_s, drp_n, tak_0, tak_s, tak_n, over_n, over_c, lay_0, lay_s, lay_n, len_n, len_c, app_n, app_c, reps_0, reps_s, cel_agg, cel_int, cel_bool, cel_str, cel_sl, cel_ptr, cel_map, cel_func, cel_nilf, fil_n, fil_c, beq_r, ble_d, allF_n, allF_c, one_int, one_bool, one_str, one_sl, one_ptr, one_map, one_func, one_nilf, Bool.and_true, Bool.true_and, Bool.not_true, Bool.not_false, iadA_z, Int.reduceToNat, Int.toNat_zero, fl1_a, flN_a, extr_t, unot, not_d, Nat.add_eq, Nat.mul_eq, Nat.mul_one, Nat.one_mul, Nat.zero_mul, Nat.reduceMul, Nat.zero_add, Nat.add_zero, Nat.le_refl, decide_true, Nat.reduceAdd, Nat.reduceLeDiff, bsl_Sspring_truth, bld_spring_truth, enc_Tu, bsl_Sint, bld_Span, bld_spring_work, bld_spring_asked, enc_Line, enc_Reading, ocond_d, Int.toNat_natCast, bd_drp0, bd_drp1, bd_lay, bd_len, bd_self, bd_tak, bd_over, qc_drp0, qc_drp1, setSt_e, stO_n, stO_s, isReady_r, anySt_t, unmark_e, unO_d, *]); first | done | fail) : p := h
theorem s2_Ya {p : Prop} (h : p := by (simp (disch := omega) only [obind_s, orun_s, ocond_t, fad_p, ld1_e, ldN_e, sto_e, cellO_c, wrO_c, Tr.get_same, Tr.get_other, nth_0, nth_s, drp_0, drp_s, drp_n, tak_0, tak_s, tak_n, over_n, over_c, lay_0, lay_s, lay_n, len_n, len_c, app_n, app_c, reps_0, reps_s, cel_agg, cel_int, cel_bool, cel_str, cel_sl, cel_ptr, cel_map, cel_func, cel_nilf, fil_n, fil_c, beq_r, ble_d, allF_n, allF_c, one_int, one_bool, one_str, one_sl, one_ptr, one_map, one_func, one_nilf, Bool.and_true, Bool.true_and, Bool.not_true, Bool.not_false, iadA_z, Int.reduceToNat, Int.toNat_zero, fl1_a, flN_a, extr_t, unot, not_d, Nat.add_eq, Nat.mul_eq, Nat.mul_one, Nat.one_mul, Nat.zero_mul, Nat.reduceMul, Nat.zero_add, Nat.add_zero, Nat.le_refl, decide_true, Nat.reduceAdd, Nat.reduceLeDiff, bsl_Sspring_truth, bld_spring_truth, enc_Tu, bsl_Sint, bld_Span, bld_spring_work, bld_spring_asked, enc_Line, enc_Reading, ocond_d, Int.toNat_natCast, bd_drp0, bd_drp1, bd_lay, bd_len, bd_self, bd_tak, bd_over, qc_drp0, qc_drp1, setSt_e, stO_n, stO_s, isReady_r, anySt_t, unmark_e, unO_d, *]); rfl) : p := h
theorem sb_Ya {p : Prop} (h : p := by first | ((simp (disch := omega) only [obind_s, orun_s, ocond_t, fad_p, ld1_e, ldN_e, sto_e, cellO_c, wrO_c, Tr.get_same, Tr.get_other, nth_0, nth_s, drp_0, drp_s, drp_n, tak_0, tak_s, tak_n, over_n, over_c, lay_0, lay_s, lay_n, len_n, len_c, app_n, app_c, reps_0, reps_s, cel_agg, cel_int, cel_bool, cel_str, cel_sl, cel_ptr, cel_map, cel_func, cel_nilf, fil_n, fil_c, beq_r, ble_d, allF_n, allF_c, one_int, one_bool, one_str, one_sl, one_ptr, one_map, one_func, one_nilf, Bool.and_true, Bool.true_and, Bool.not_true, Bool.not_false, iadA_z, Int.reduceToNat, Int.toNat_zero, fl1_a, flN_a, extr_t, unot, not_d, Nat.add_eq, Nat.mul_eq, Nat.mul_one, Nat.one_mul, Nat.zero_mul, Nat.reduceMul, Nat.zero_add, Nat.add_zero, Nat.le_refl, decide_true, Nat.reduceAdd, Nat.reduceLeDiff, bsl_Sspring_truth, bld_spring_truth, enc_Tu, bsl_Sint, bld_Span, bld_spring_work, bld_spring_asked, enc_Line, enc_Reading, ocond_d, Int.toNat_natCast, bd_drp0, bd_drp1, bd_lay, bd_len, bd_self, bd_tak, bd_over, qc_drp0, qc_drp1, setSt_e, stO_n, stO_s, isReady_r, anySt_t, unmark_e, unO_d, Nat.succ_eq_add_one, Nat.add_assoc, *]); rfl) | ((simp (disch := omega) only [obind_s, orun_s, ocond_t, fad_p, ld1_e, ldN_e, sto_e, cellO_c, wrO_c, Tr.get_same, Tr.get_other, nth_0, nth_s, drp_0, drp_s, drp_n, tak_0, tak_s, tak_n, over_n, over_c, lay_0, lay_s, lay_n, len_n, len_c, app_n, app_c, reps_0, reps_s, cel_agg, cel_int, cel_bool, cel_str, cel_sl, cel_ptr, cel_map, cel_func, cel_nilf, fil_n, fil_c, beq_r, ble_d, allF_n, allF_c, one_int, one_bool, one_str, one_sl, one_ptr, one_map, one_func, one_nilf, Bool.and_true, Bool.true_and, Bool.not_true, Bool.not_false, iadA_z, Int.reduceToNat, Int.toNat_zero, fl1_a, flN_a, extr_t, unot, not_d, Nat.add_eq, Nat.mul_eq, Nat.mul_one, Nat.one_mul, Nat.zero_mul, Nat.reduceMul, Nat.zero_add, Nat.add_zero, Nat.le_refl, decide_true, Nat.reduceAdd, Nat.reduceLeDiff, bsl_Sspring_truth, bld_spring_truth, enc_Tu, bsl_Sint, bld_Span, bld_spring_work, bld_spring_asked, enc_Line, enc_Reading, ocond_d, Int.toNat_natCast, bd_drp0, bd_drp1, bd_lay, bd_len, bd_self, bd_tak, bd_over, qc_drp0, qc_drp1, setSt_e, stO_n, stO_s, isReady_r, anySt_t, unmark_e, unO_d, Nat.succ_eq_add_one, Nat.add_assoc, *]); done)) : p := h
theorem fr_Ya {p : Prop} (h : p := by first | assumption | exact Fr.refl _ _ | (simp (disch := omega) only [Fr_set, Fr_refl, *])) : p := h
theorem fl_Ya {p : Prop} (h : p := by first | with_unfolding_all rfl | exact Sl.flat (by assumption) | assumption) : p := h
theorem fll_Ya {p : Prop} (h : p := by first | with_unfolding_all rfl | ((repeat (refine flatL_k fl_Ya ?_)); with_unfolding_all rfl)) : p := h
theorem en_Ya {p : Prop} (h : p := by first | ((simp only [enc_int, enc_str, enc_u8, enc_bool, tak_s, tak_0, tak_n, drp_0, drp_s, drp_n, nth_s, nth_0, bsl_Sspring_truth, bld_spring_truth, enc_Tu, bsl_Sint, bld_Span, bld_spring_work, bld_spring_asked, enc_Line, enc_Reading, ocond_d, Int.toNat_natCast, bd_drp0, bd_drp1, bd_lay, bd_len, bd_self, bd_tak, bd_over, qc_drp0, qc_drp1, setSt_e, stO_n, stO_s, isReady_r, anySt_t, unmark_e, unO_d]); rfl) | ((simp only [enc_int, enc_str, enc_u8, enc_bool, tak_s, tak_0, tak_n, drp_0, drp_s, drp_n, nth_s, nth_0, bsl_Sspring_truth, bld_spring_truth, enc_Tu, bsl_Sint, bld_Span, bld_spring_work, bld_spring_asked, enc_Line, enc_Reading, ocond_d, Int.toNat_natCast, bd_drp0, bd_drp1, bd_lay, bd_len, bd_self, bd_tak, bd_over, qc_drp0, qc_drp1, setSt_e, stO_n, stO_s, isReady_r, anySt_t, unmark_e, unO_d]); done) | with_unfolding_all rfl) : p := h
theorem sM_Ya {p : Prop} (h : p := by (first | assumption | (simp (disch := omega) only [Tr.get_same, Tr.get_other, *]; rfl) | (simp (disch := omega) only [Tr.get_same, Tr.get_other, *]; done))) : p := h
theorem sS_Ya {p : Prop} (h : p := by first | assumption | exact s1_Ya) : p := h
theorem sR_Ya {p : Prop} (h : p := by first | assumption | exact s1_Ya | exact s2_Ya | with_unfolding_all rfl) : p := h
theorem op_Ya {p : Prop} (h : p := by first | with_reducible exact fad_p _ _ _ | with_reducible exact iop_lss _ _ | with_reducible exact iop_leq _ _ | with_reducible exact iop_gtr _ _ | with_reducible exact iop_geq _ _ | with_reducible exact iop_eql _ _ | with_reducible exact iop_neq _ _ | with_reducible exact Sl.len (by assumption) | with_reducible exact lenS_s _ _ _ | with_reducible exact Sl.iad (by assumption) (by with_unfolding_all rfl) (by first | assumption | omega) | with_reducible exact Sl.fad (by assumption) (by first | assumption | omega) | with_reducible exact Sl.ld1 (by assumption) fr_Ya (by with_unfolding_all rfl) (by assumption) en_Ya | with_reducible exact Sl.ldN (by assumption) fr_Ya (by with_unfolding_all rfl) (by assumption) (by with_unfolding_all rfl) en_Ya | with_reducible exact zadd1 (by omega) | with_reducible exact zsub1 (by omega) (by omega) | with_reducible exact zaddI (by omega) (by omega) | with_reducible exact zsubI (by omega) (by omega) | with_reducible exact min_z | with_reducible exact max_z | with_reducible exact zmulI (by assumption) | with_reducible exact zmulK (by omega) (by omega) | with_reducible exact quo_z (by omega) (by omega) (by omega) | with_reducible exact cv_u8 (by omega) | with_reducible exact rem_z (by omega) (by omega) (by omega) | with_reducible exact neq_bool (by kernel_rfl) | with_reducible exact eql_u8 | with_reducible exact wntT_t (by assumption) | with_reducible exact wntT_f (by assumption) | with_reducible exact wntF_t (by assumption) | with_reducible exact wntF_f (by assumption) | with_reducible exact wnt_tt | with_reducible exact wnt_tf | with_reducible exact wnt_ft | with_reducible exact wnt_ff | with_reducible exact wnt_u _ _ | with_reducible exact pck_t _ _ | with_reducible exact pck_f _ _ | with_reducible exact pckT (by assumption) | with_reducible exact pckF (by assumption) | with_reducible exact wntT_t (by decide) | with_reducible exact wntT_f (by decide) | with_reducible exact wntF_t (by decide) | with_reducible exact wntF_f (by decide) | with_reducible exact pckT (by decide) | with_reducible exact pckF (by decide) | with_reducible exact wntN_tt (by decide) | with_reducible exact wntN_tf (by decide) | with_reducible exact wntN_ft (by decide) | with_reducible exact wntN_ff (by decide) | with_reducible exact pckNT (by decide) | with_reducible exact pckNF (by decide) | with_reducible exact wntN_tt (by assumption) | with_reducible exact wntN_tf (by assumption) | with_reducible exact wntN_ft (by assumption) | with_reducible exact wntN_ff (by assumption) | with_reducible exact pckNT (by assumption) | with_reducible exact pckNF (by assumption) | with_reducible exact wntB_tt (by assumption) | with_reducible exact wntB_tf (by assumption) | with_reducible exact wntB_ft (by assumption) | with_reducible exact wntB_ff (by assumption) | with_reducible exact pckBT (by assumption) | with_reducible exact pckBF (by assumption) | exact s2_Ya | exact s1_Ya) : p := h
theorem co_Ya {p : Prop} (h : p := by first | (simp only [impB_1, impB_0, offB_1, offB_0]; done) | ((try simp only [impB_1, impB_0, offB_1, offB_0]); first | with_reducible exact Sl.ag1 (by assumption) fr_Ya (by with_unfolding_all rfl) (by assumption) en_Ya | with_reducible exact Sl.agN (by assumption) fr_Ya (by with_unfolding_all rfl) (by assumption) (by with_unfolding_all rfl) en_Ya | ((with_reducible refine agL1_e ?_ ?_); (· exact s1_Ya); (· exact fl_Ya)) | ((with_reducible refine agLN_e ?_ ?_); (· exact s1_Ya); (· exact fll_Ya)) | ((with_reducible apply ag_bs); (· exact sM_Ya); (· rfl); (· exact sb_Ya); (· exact fll_Ya)) | ((with_reducible apply ag_al); (· exact sM_Ya); (· rfl); (· exact fll_Ya)) | ((with_reducible apply ag_bx); (· exact sM_Ya); (· rfl); (· rfl); (· exact fll_Ya)) | ((with_reducible apply ag_bd); (· rfl); (· exact s1_Ya); (· exact fll_Ya)) | exact s1_Ya)) : p := h
theorem gs_Ya {r p : Prop} (k : r) (h : Go.Ev.Im r p := by (first | with_reducible apply Im.runS | ((with_reducible apply Im.num); · (simp only [Nat.succ_eq_add_one, Nat.add_assoc, Nat.reduceAdd]; rfl)) | (with_reducible apply Im.unm) | (with_reducible apply Im.selT) | (with_reducible apply Im.selF) | ((with_reducible apply Im.cndT); · assumption) | ((with_reducible apply Im.cndF); · assumption) | ((with_reducible apply Im.cndT); · decide) | ((with_reducible apply Im.cndF); · decide) | ((with_reducible apply Im.cndNT); · decide) | ((with_reducible apply Im.cndNF); · decide) | ((with_reducible apply Im.cndBT); · exact rfl) | ((with_reducible apply Im.cndBF); · exact rfl) | ((with_reducible apply Im.cndNT); · assumption) | ((with_reducible apply Im.cndNF); · assumption) | ((with_reducible apply Im.cndBT); · assumption) | ((with_reducible apply Im.cndBF); · assumption) | ((with_reducible apply Im.bind); · exact op_Ya) | ((with_reducible apply Im.cond); · exact co_Ya) | ((with_reducible apply Im.runB); · exact op_Ya) | ((with_reducible apply Im.runC); · exact co_Ya) | ((with_reducible apply Im.runN); · (simp only [Nat.succ_eq_add_one, Nat.add_assoc, Nat.reduceAdd]; rfl)) | with_reducible apply Im.runR | ((with_reducible apply Im.runE (x := evBuildSlice _ _ _ _ _ _)); · exact sb_Ya)); (repeat (first | with_reducible apply Im.runS | ((with_reducible apply Im.num); · (simp only [Nat.succ_eq_add_one, Nat.add_assoc, Nat.reduceAdd]; rfl)) | (with_reducible apply Im.unm) | (with_reducible apply Im.selT) | (with_reducible apply Im.selF) | ((with_reducible apply Im.cndT); · assumption) | ((with_reducible apply Im.cndF); · assumption) | ((with_reducible apply Im.cndT); · decide) | ((with_reducible apply Im.cndF); · decide) | ((with_reducible apply Im.cndNT); · decide) | ((with_reducible apply Im.cndNF); · decide) | ((with_reducible apply Im.cndBT); · exact rfl) | ((with_reducible apply Im.cndBF); · exact rfl) | ((with_reducible apply Im.cndNT); · assumption) | ((with_reducible apply Im.cndNF); · assumption) | ((with_reducible apply Im.cndBT); · assumption) | ((with_reducible apply Im.cndBF); · assumption) | ((with_reducible apply Im.bind); · exact op_Ya) | ((with_reducible apply Im.cond); · exact co_Ya) | ((with_reducible apply Im.runB); · exact op_Ya) | ((with_reducible apply Im.runC); · exact co_Ya) | ((with_reducible apply Im.runN); · (simp only [Nat.succ_eq_add_one, Nat.add_assoc, Nat.reduceAdd]; rfl)) | with_reducible apply Im.runR | ((with_reducible apply Im.runE (x := evBuildSlice _ _ _ _ _ _)); · exact sb_Ya))); exact Go.Ev.Im.id) : p := h k
/-- A truth, as the program keeps it. -/
structure Tu where
  rain : Int
  sum : Int
  v : Value
  fv : flatV v = true
instance : Rwc Tu := ⟨3, fun x => [iS x.rain, iS x.sum, x.v], fun _ => rfl, fun x => by
  have x1 := x.fv
  repeat (refine flatL_k (by first | rfl | assumption) ?_)
  rfl, by omega⟩
theorem enc_Tu (x : Tu) : Rwc.enc x = [iS x.rain, iS x.sum, x.v] := rfl
/-- What is given in the first weeks, by one end. -/
def giL (f : Int × Int → Int) (g : Bd) : Nat → List Int
  | 0 => []
  | n + 1 => giL f g n ++ [f (g n)]
def suL (f : Int × Int → Int) (g : Bd) : Nat → Int
  | 0 => 0
  | n + 1 => suL f g n + f (g n)
theorem giL_len (f : Int × Int → Int) (g : Bd) : ∀ n, (giL f g n).length = n
  | 0 => rfl
  | n + 1 => by simp [giL, giL_len f g n]
theorem suL_bd {f : Int × Int → Int} {g : Bd} (hf : ∀ k, -1000000 ≤ f (g k) ∧ f (g k) ≤ 1000000) : ∀ n : Nat, -1000000 * (n : Int) ≤ suL f g n ∧ suL f g n ≤ 1000000 * (n : Int)
  | 0 => by simp [suL]
  | n + 1 => by
    have := suL_bd hf n
    have := hf n
    simp only [suL]
    omega
def TuAt (f : Int × Int → Int) (s : Sp) (g : Tr Ob) (lo M i : Nat) (x : Tu) (r : Int) : Prop :=
  x.rain = r ∧ x.sum = suL f (leavesS s r) s.weeks.toNat ∧ ∃ j, j ≠ i ∧ lo ≤ j ∧ j < M ∧ Ow g 3 x.v (giL f (leavesS s r) s.weeks.toNat) j
def TsP (f : Int × Int → Int) (s : Sp) (lo : Nat) (g : Tr Ob) (M : Nat) (v : Value) (k : Nat) : Prop :=
  (v = .slice none 0 0 ∧ k = 0) ∨ ∃ (L : List Tu) (i : Nat), lo ≤ i ∧ i < M ∧ Ow g 100 v L i ∧ L.length = k ∧ ∀ (m : Nat) (x : Tu), L[m]? = some x → ∃ r, (rainsS s)[m]? = some r ∧ TuAt f s g lo M i x r
theorem TsP.keep {f : Int × Int → Int} {s : Sp} {lo : Nat} {g g' : Tr Ob} {M M' : Nat} {v : Value} {k : Nat} (t : TsP f s lo g M v k) (hm : M ≤ M') (hk : ∀ j, lo ≤ j → j < M → g'.get j = g.get j) : TsP f s lo g' M' v k := by
  rcases t with e | ⟨L, i, h1, h2, h3, h4, h5⟩
  · exact .inl e
  · refine .inr ⟨L, i, h1, by omega, h3.keep (hk i h1 h2), h4, fun m x hx => ?_⟩
    obtain ⟨r, q1, q2, q3, j, q4, q5, q6, q7⟩ := h5 m x hx
    exact ⟨r, q1, q2, q3, j, q4, q5, by omega, q7.keep (hk j q5 q6)⟩
theorem TsP.flat {f : Int × Int → Int} {s : Sp} {lo : Nat} {g : Tr Ob} {M : Nat} {v : Value} {k : Nat} (t : TsP f s lo g M v k) : flatV v = true := by
  rcases t with ⟨rfl, _⟩ | ⟨L, i, h1, h2, h3, _⟩
  · rfl
  · exact (h3.sl h2).flat
section
variable {s : Sp} {b r : Value}
theorem c_truths (d : Nat) {f : Int × Int → Int} {fv : Value} {h N} (hs : OkS s) (ff : flatV fv = true) (hb : Sl h N b s.book) (hr : Sl h N r s.reads) (hfb : ∀ v : Int × Int, f v = v.1 ∨ f v = v.2)
    (hf : ∀ a c h1 N1, Rn (callW [(78, F78)] (cN d) fv [.agg ⟨[iS a, iS c]⟩] h1 N1) fun v h' N' => v = iS (f (a, c)) ∧ Gw h1 N1 h' N') :
    Rn (s93 (cN (d + 2)) (.agg ⟨[iS s.weeks, iS s.most, iS s.fall, iS s.slo, iS s.shi, iS s.wlo, iS s.whi, b, r]⟩) fv h N) fun v h' N' => TsP f s (N + 6) h' N' v (rainsS s).length ∧ Gw h N h' N' := by
  unfold s93 s78
  have cb := hb.flat; have cr := hr.flat; have x1 := flatV_one cb; have y1 := cel_flat cb; have x2 := flatV_one cr; have y2 := cel_flat cr
  have x3 := flatV_one ff
  have y3 := cel_flat ff
  have w1 := hs.ok.w1
  have w2 := hs.ok.w2
  have hrl := rains_len hs
  try refine gs_Ya ?_
  unfold jnR
  refine Rn.cond rfl ?_
  try refine gs_Ya ?_
  rw [dyn_rains _ _ rfl]
  refine Rn.call (c_rains1 (s := s) (b := b) (r := r) (d + 1) hs
    (fun k g M => Fr h N g ∧ N + 6 ≤ M ∧ g.get N = some (.c [iS s.weeks, iS s.most, iS s.fall, iS s.slo, iS s.shi, iS s.wlo, iS s.whi, b, r] 106) ∧ g.get (N + 1) = some (.c [fv] 93) ∧ g.get (N + 3) = some (.c [iS s.weeks, iS s.most, iS s.fall, iS s.slo, iS s.shi, iS s.wlo, iS s.whi, b, r] 106) ∧ g.get (N + 4) = some .d ∧ g.get (N + 5) = some (.l .ready .n 45 (Tr.set (Tr.set (Tr.set (.e 32) (some (.pointer (some ⟨N + 2, 0, none⟩))) 5) (some (.pointer (some ⟨N + 1, 0, none⟩))) 3) (some (.pointer (some ⟨N, 0, none⟩))) 2) [13, 14] (rgA Pr 93 0) (rgB Pr 93 0) (N + 4)) ∧ ∃ v, g.get (N + 2) = some (.c [v] 144) ∧ TsP f s (N + 6) g M v k)
    (fun g M => False)
    ?_ (by omega) ?_ ?_ ?_) ?_
  · rintro k g M ⟨f2, l2, g0, g1, g2, g3, g4, v, g5, g6⟩
    exact ⟨hb.up f2 (by omega), hr.up f2 (by omega), g2⟩
  · rintro k g M g' M' ⟨f2, l2, g0, g1, g2, g3, g4, v, g5, g6⟩ f3 l3
    exact ⟨f2.trans f3 (by omega), by omega, by rw [f3 _ (by omega), g0], by rw [f3 _ (by omega), g1], by rw [f3 _ (by omega), g2], by rw [f3 _ (by omega), g3], by rw [f3 _ (by omega), g4], v, by rw [f3 _ (by omega), g5], g6.keep l3 (fun i _ hi => f3 i hi)⟩
  · rintro k x hx g M ⟨f2, l2, g0, g1, g2, g3, g4, v, g5, g6⟩ l3
    have hk := lt_of_at hx
    have cv := g6.flat
    have z1 := flatV_one cv
    have z2 := cel_flat cv
    have hbd := leaves_ok hs x
    rw [show cN (d + 1) = cAll Pr (lookS dynT) rdS (d + 1) from rfl, yld g4 rd_truths rfl rfl]
    unfold r93_0
    simp only [putAll_c, putAll_n]
    generalize hF : leavesS s x = F at hbd
    have hfF : ∀ k, -1000000 ≤ f (F k) ∧ f (F k) ≤ 1000000 := fun k => by
      have := hbd k
      rcases hfb (F k) with e | e <;> rw [e] <;> omega
    try refine gs_Ya ?_
    refine Rn.loop6 (fun m a1 a2 a3 a4 a5 a6 g' M' => ∃ (j : Nat) (u : Value), a1 = .pointer (some ⟨N + 1, 0, none⟩) ∧ a2 = .pointer (some ⟨N + 2, 0, none⟩) ∧ a3 = .pointer (some ⟨M, 0, none⟩) ∧ a4 = .pointer (some ⟨M + 1, 0, none⟩) ∧ a5 = iS s.weeks ∧ a6 = nS j ∧ (j : Int) + m = s.weeks ∧ M + 2 ≤ M' ∧ (∀ z, z < M → z ≠ N + 5 → g'.get z = g.get z) ∧ g'.get (N + 5) = some (.l .busy .n 45 (Tr.set (Tr.set (Tr.set (.e 32) (some (.pointer (some ⟨N + 2, 0, none⟩))) 5) (some (.pointer (some ⟨N + 1, 0, none⟩))) 3) (some (.pointer (some ⟨N, 0, none⟩))) 2) [13, 14] (rgA Pr 93 0) (rgB Pr 93 0) (N + 4)) ∧ g'.get M = some (.c (bdC F) 152) ∧ g'.get (M + 1) = some (.c [iS x, iS (suL f F j), u] 100) ∧ OwZ g' M' 3 u (giL f F j) (fun z => M + 2 ≤ z)) s.weeks.toNat (by omega)
      ⟨0, .slice none 0 0, rfl, rfl, rfl, rfl, rfl, rfl, by omega, by omega, fun z z1 z2 => sS_Ya, sR_Ya, sS_Ya, sR_Ya, .inl ⟨rfl, rfl⟩⟩ ?_
    rintro m g' ih _ _ _ _ _ _ h3 N3 ⟨j, u, rfl, rfl, rfl, rfl, rfl, rfl, e3, l4, hz, k1, k2, k3, k4⟩
    have cu := k4.sl.flat
    have z3 := flatV_one cu
    have z4 := cel_flat cu
    have p1 := (hz (N + 1) (by omega) (by omega)).trans g1
    have p2 := (hz (N + 2) (by omega) (by omega)).trans g5
    try refine gs_Ya ?_
    (first | with_reducible refine Rn.cnd (fun _ => ?_) (fun _ => ?_) | with_reducible refine Rn.cndN (fun _ => ?_) (fun _ => ?_) | with_reducible refine Rn.cndB (fun _ => ?_) (fun _ => ?_))
    · have hj : j < 10 := by omega
      have hsu := suL_bd hfF j
      have hFj := hfF j
      have hcall := hf (F j).1 (F j).2 h3 N3
      rw [show ((F j).1, (F j).2) = F j from rfl] at hcall
      try refine gs_Ya ?_
      refine Rn.call hcall ?_
      rintro _ h4 N4 ⟨rfl, f4, o4, l5⟩
      have own : ∃ q, M + 2 ≤ q ∧ q < N4 + 1 ∧ ∀ h' : Tr Ob, (∀ z, M + 2 ≤ z → z < N3 → h'.get z = h3.get z) → Ow h' 3 u (giL f F j) q := by
        rcases k4 with ⟨rfl, e⟩ | ⟨q, p, hq, o⟩
        · rw [e]; exact ⟨N4, by omega, by omega, fun h' _ => Ow.nil _ _ _⟩
        · exact ⟨q, p, by omega, fun h' hk => o.keep (hk q p hq)⟩
      obtain ⟨q, q1, q2, own⟩ := own
      clear k4 hcall
      try refine gs_Ya ?_
      refine Rn.call (Ow.app (α := Int) (K := [f (F j)]) (i := q) ap_Sint (own _ fun k g1 g2 => sS_Ya) (by omega) (Sl.lit [f (F j)] sM_Ya (by omega : N4 < N4 + 1) rfl rfl) (Fr.refl _ _) (by rw [giL_len]; simp; omega)) ?_
      rintro u2 h5 N5 ⟨q', w5, e5, e5', f5, o5, l6⟩
      have cu2 := (w5.sl e5').flat
      have z5 := flatV_one cu2
      have z6 := cel_flat cu2
      try refine gs_Ya ?_
      exact ih (m - 1) (by omega) _ _ _ _ _ _ _ _ ⟨j + 1, u2, rfl, rfl, rfl, rfl, rfl, rfl, by omega, by omega, fun z z1 z2 => (show _ = h3.get z from sS_Ya).trans (hz z z1 z2), (show _ = h3.get (N + 5) from sS_Ya).trans k1, sS_Ya, sR_Ya, .inr ⟨q', by omega, by omega, w5.keep sS_Ya⟩⟩
    · have ej : j = s.weeks.toNat := by omega
      subst ej
      clear ih
      obtain ⟨q, q1, q2, q3⟩ : ∃ q, M + 2 ≤ q ∧ q < N3 ∧ Ow h3 3 u (giL f F s.weeks.toNat) q := by
        rcases k4 with ⟨_, e⟩ | ⟨q, p, hq, o⟩
        · have := giL_len f F s.weeks.toNat
          rw [e] at this; simp at this; omega
        · exact ⟨q, p, hq, o⟩
      obtain ⟨L, i, i1, i2, i3, i4, own, ent⟩ : ∃ (L : List Tu) (i : Nat), N + 6 ≤ i ∧ i < N3 + 1 ∧ (i < M ∨ i = N3) ∧ L.length = k ∧ (∀ h' : Tr Ob, (∀ z, N + 6 ≤ z → z < N3 → h'.get z = h3.get z) → Ow h' 100 v L i) ∧ ∀ (m : Nat) (y : Tu), L[m]? = some y → ∃ r, (rainsS s)[m]? = some r ∧ TuAt f s g (N + 6) M i y r := by
        rcases g6 with ⟨rfl, rfl⟩ | ⟨L, i, h1, h2, h3', h4, h5⟩
        · exact ⟨[], N3, by omega, by omega, .inr rfl, rfl, fun _ _ => Ow.nil _ _ _, fun m y hy => by cases hy⟩
        · exact ⟨L, i, h1, by omega, .inl h2, h4, fun h' hk' => h3'.keep ((hk' i h1 (by omega)).trans (hz i h2 (by omega))), h5⟩
      try refine gs_Ya ?_
      refine Rn.call (Ow.app (α := Tu) (K := [⟨x, suL f F s.weeks.toNat, u, cu⟩]) (i := i) ap_Sspring_truth (own _ fun k g1 g2 => sS_Ya) (by omega) (Sl.lit [(⟨x, suL f F s.weeks.toNat, u, cu⟩ : Tu)] sM_Ya (by omega : N3 < N3 + 1) rfl rfl) (Fr.refl _ _) (by simp; omega)) ?_
      rintro v2 h6 N6 ⟨i', w6, e6, e6', f6, o6, l6⟩
      have cv2 := (w6.sl e6').flat
      have z7 := flatV_one cv2
      have z8 := cel_flat cv2
      try refine gs_Ya ?_
      refine Rn.ret ⟨by omega, .inl ⟨rfl, fun j hj => (show _ = h3.get j from sS_Ya).trans ((hz j (by omega) (by omega)).trans (f2 j hj)), by omega, (show _ = h3.get N from sS_Ya).trans ((hz N (by omega) (by omega)).trans g0), (show _ = h3.get (N + 1) from sS_Ya).trans p1, (show _ = h3.get (N + 3) from sS_Ya).trans ((hz (N + 3) (by omega) (by omega)).trans g2), (show _ = h3.get (N + 4) from sS_Ya).trans ((hz (N + 4) (by omega) (by omega)).trans g3), sR_Ya, v2, sS_Ya, ?_⟩⟩
      refine .inr ⟨L ++ [⟨x, suL f F s.weeks.toNat, u, cu⟩], i', by omega, e6', w6.keep sS_Ya, by simp [i4], fun m y hy => ?_⟩
      rcases Nat.lt_or_ge m L.length with hm | hm
      · rw [List.getElem?_append_left hm] at hy
        obtain ⟨r', t1, t2, t3, j, t4, t5, t6, t7⟩ := ent m y hy
        exact ⟨r', t1, t2, t3, j, by omega, t5, by omega, t7.keep ((show _ = h3.get j from sS_Ya).trans (hz j t6 (by omega)))⟩
      · have hm2 := lt_of_at hy
        rw [List.length_append] at hm2
        have hm3 : m = k := by simp at hm2; omega
        rw [List.getElem?_append_right hm, show m - L.length = 0 by omega] at hy
        simp only [List.getElem?_cons_zero, Option.some.injEq] at hy
        subst hy
        refine ⟨x, by rw [hm3]; exact hx, rfl, by rw [hF], q, by omega, by omega, by omega, ?_⟩
        rw [hF]
        exact q3.keep sS_Ya
  · exact ⟨fr_Ya, by omega, sS_Ya, sS_Ya, sS_Ya, sS_Ya, sR_Ya, .slice none 0 0, sS_Ya, .inl ⟨rfl, rfl⟩⟩
  · rintro v g M ⟨l2, ⟨f2, l3, g0, g1, g2, g3, g4, v', g5, g6⟩ | h0⟩
    · refine Rn.eq (rEnd_n g4) ?_
      have cv := g6.flat
      have z1 := flatV_one cv
      have z2 := cel_flat cv
      try refine gs_Ya ?_
      exact Rn.ret ⟨g6.keep (Nat.le_refl _) fun j j1 j2 => sS_Ya, (Gw.of fr_Ya (by omega))⟩
    · exact h0.elim
end
end Go.Proofs.Ytpilgokdbliklaa
end

