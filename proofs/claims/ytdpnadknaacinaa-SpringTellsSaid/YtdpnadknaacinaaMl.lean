/-
  What the reference reckons and what the program reckons of a spring is the same.
  Conditions: none.
-/
import Derived.Test.YtdpnadknaacinaaC13
namespace Go.Proofs.Ytdpnadknaacinaa
open Go.Sx Go.Proofs.Ytdpnadknaacinaa.Ty
set_option linter.unusedVariables false
set_option maxHeartbeats 1000000

theorem upS_le {a d n : Int} (hd : 1 ≤ d) : upS a d ≤ n ↔ a ≤ d * n := by
  unfold upS
  have h := Int.mul_ediv_add_emod (a + d - 1) d
  have h1 := Int.emod_nonneg (a + d - 1) (b := d) (by omega)
  have h2 := Int.emod_lt_of_pos (a + d - 1) (b := d) (by omega)
  generalize (a + d - 1) / d = q at h ⊢
  generalize (a + d - 1) % d = r at h h1 h2
  constructor
  · intro hq
    have : d * q ≤ d * n := Int.mul_le_mul_of_nonneg_left hq (by omega)
    omega
  · intro ha
    rcases Int.lt_or_le n q with hlt | hle
    · have : d * (n + 1) ≤ d * q := Int.mul_le_mul_of_nonneg_left (by omega) (by omega)
      rw [Int.mul_add, Int.mul_one] at this
      omega
    · exact hle

theorem right_iff {s : Sp} {x : Rd} (ho : Ok s) (hx : OkR s x) {n : Int} (hn : n ≤ s.most) : rightB s x n = true ↔ (toldB s x).1 ≤ n ∧ n ≤ (toldB s x).2 := by
  have htb := told_bd ho hx
  obtain ⟨w1, w2, m1, m2, f1, f2, a1, a2, a3, v1, v2, v3⟩ := ho
  obtain ⟨n1, n2, k1, k2, b1, b2, l1, l2, l3, l4⟩ := hx
  have hp := mul_pos' (a := x.hi) (b := s.shi) (by omega) (by omega)
  have hq := mul_bd (a := x.lo) (b := s.slo) (m := 99) (n := 600) l1 (by omega) (by omega) (by omega)
  have h1 : (toldB s x).1 ≤ n ↔ 3600 * x.bucket ≤ x.hi * s.shi * n := upS_le hp
  have h2 : n ≤ (toldB s x).2 ↔ x.lo * s.slo * n ≤ 3600 * x.bucket := by
    simp only [toldB]
    split
    · rename_i hlt
      have h3 : n ≤ 3600 * x.bucket / (x.lo * s.slo) ↔ n * (x.lo * s.slo) ≤ 3600 * x.bucket := Int.le_ediv_iff_mul_le hlt
      rw [Int.mul_comm n] at h3
      rw [← h3]
      omega
    · rename_i hlt
      have h0 : x.lo * s.slo = 0 := by omega
      rw [h0, Int.zero_mul]
      omega
  rw [h1, h2]
  simp only [rightB, Bool.and_eq_true, decide_eq_true_eq]
  constructor
  · rintro ⟨⟨_, h⟩, h'⟩; exact ⟨h', h⟩
  · rintro ⟨h', h⟩
    refine ⟨⟨?_, h⟩, h'⟩
    have := h1.2 h'
    omega

/-! Folds, week by week -/
theorem addR_lo {s : Sp} (L : List Rd) (f : Bd) (j : Nat) (n : Int) : (L.foldl (addR s) f j).1 ≤ n ↔ (f j).1 ≤ n ∧ ∀ x ∈ L, x.week.toNat = j → (toldB s x).1 ≤ n := by
  induction L generalizing f with
  | nil => simp
  | cons x L ih =>
    rw [List.foldl_cons, ih]
    simp only [List.forall_mem_cons, addR, up]
    by_cases e : j = x.week.toNat
    · subst e
      simp only [if_true, true_implies]
      constructor
      · rintro ⟨h, h'⟩; exact ⟨by omega, by omega, h'⟩
      · rintro ⟨h, h', h''⟩; exact ⟨by omega, h''⟩
    · rw [if_neg e]
      have : ¬ x.week.toNat = j := fun h => e h.symm
      simp [this]
theorem addR_hi {s : Sp} (L : List Rd) (f : Bd) (j : Nat) (n : Int) : n ≤ (L.foldl (addR s) f j).2 ↔ n ≤ (f j).2 ∧ ∀ x ∈ L, x.week.toNat = j → n ≤ (toldB s x).2 := by
  induction L generalizing f with
  | nil => simp
  | cons x L ih =>
    rw [List.foldl_cons, ih]
    simp only [List.forall_mem_cons, addR, up]
    by_cases e : j = x.week.toNat
    · subst e
      simp only [if_true, true_implies]
      constructor
      · rintro ⟨h, h'⟩; exact ⟨by omega, by omega, h'⟩
      · rintro ⟨h, h', h''⟩; exact ⟨by omega, h''⟩
    · rw [if_neg e]
      have : ¬ x.week.toNat = j := fun h => e h.symm
      simp [this]
theorem addL_lo {rain : Int} (L : List Ln) (f : Bd) (j : Nat) (n : Int) : (L.foldl (addL rain) f j).1 ≤ n ↔ (f j).1 ≤ n ∧ ∀ x ∈ L, inS x.rlo x.rhi rain = true → x.week.toNat = j → x.glo ≤ n := by
  induction L generalizing f with
  | nil => simp
  | cons x L ih =>
    rw [List.foldl_cons, ih]
    simp only [List.forall_mem_cons, addL]
    by_cases hr : inS x.rlo x.rhi rain = true
    · rw [if_pos hr]
      simp only [up, hr, true_implies]
      by_cases e : j = x.week.toNat
      · subst e
        simp only [if_true, true_implies]
        constructor
        · rintro ⟨h, h'⟩; exact ⟨by omega, by omega, h'⟩
        · rintro ⟨h, h', h''⟩; exact ⟨by omega, h''⟩
      · rw [if_neg e]
        have : ¬ x.week.toNat = j := fun h => e h.symm
        simp [this]
    · rw [if_neg hr]
      simp [hr]
theorem addL_hi {rain : Int} (L : List Ln) (f : Bd) (j : Nat) (n : Int) : n ≤ (L.foldl (addL rain) f j).2 ↔ n ≤ (f j).2 ∧ ∀ x ∈ L, inS x.rlo x.rhi rain = true → x.week.toNat = j → n ≤ x.ghi := by
  induction L generalizing f with
  | nil => simp
  | cons x L ih =>
    rw [List.foldl_cons, ih]
    simp only [List.forall_mem_cons, addL]
    by_cases hr : inS x.rlo x.rhi rain = true
    · rw [if_pos hr]
      simp only [up, hr, true_implies]
      by_cases e : j = x.week.toNat
      · subst e
        simp only [if_true, true_implies]
        constructor
        · rintro ⟨h, h'⟩; exact ⟨by omega, by omega, h'⟩
        · rintro ⟨h, h', h''⟩; exact ⟨by omega, h''⟩
      · rw [if_neg e]
        have : ¬ x.week.toNat = j := fun h => e h.symm
        simp [this]
    · rw [if_neg hr]
      simp [hr]

theorem int_ext {a b : Int} (h : ∀ n, a ≤ n ↔ b ≤ n) : a = b := by have h1 := (h a).1 (Int.le_refl _); have h2 := (h b).2 (Int.le_refl _); omega
theorem int_ext' {a b : Int} (h : ∀ n, n ≤ a ↔ n ≤ b) : a = b := by have h1 := (h a).1 (Int.le_refl _); have h2 := (h b).2 (Int.le_refl _); omega

/-- What readings alone leave. -/
def redS (s : Sp) : Bd := s.reads.foldl (addR s) (iniN s.most s.weeks.toNat)

theorem ini_at {most : Int} : ∀ (k j : Nat), iniN most k j = if j < k then (0, most) else (0, 0)
  | 0, j => by simp [iniN, bz]
  | k + 1, j => by
    simp only [iniN, up]
    by_cases e : j = k
    · subst e; simp
    · rw [if_neg e, ini_at k j]
      by_cases h : j < k
      · rw [if_pos h, if_pos (by omega)]
      · rw [if_neg h, if_neg (by omega)]

theorem allR_iff {s : Sp} (hs : OkS s) {j : Nat} {n : Int} (hn : n ≤ s.most) : allR s j n s.reads = true ↔ ∀ x ∈ s.reads, x.week.toNat = j → (toldB s x).1 ≤ n ∧ n ≤ (toldB s x).2 := by
  simp only [allR, List.all_eq_true, Bool.or_eq_true, Bool.not_eq_true', decide_eq_false_iff_not]
  constructor
  · intro h x hx hj
    have hw := (hs.reads x hx).w1
    rcases h x hx with h | h
    · exact absurd (by omega : x.week = (j : Int)) h
    · exact (right_iff hs.ok (hs.reads x hx) hn).1 h
  · intro h x hx
    by_cases e : x.week = (j : Int)
    · exact .inr ((right_iff hs.ok (hs.reads x hx) hn).2 (h x hx (by omega)))
    · exact .inl e

theorem red_iff {s : Sp} (hs : OkS s) {j : Nat} (hj : j < s.weeks.toNat) {n : Int} : ((redS s j).1 ≤ n ∧ n ≤ (redS s j).2) ↔ 0 ≤ n ∧ n ≤ s.most ∧ allR s j n s.reads = true := by
  unfold redS
  rw [addR_lo, addR_hi, ini_at, if_pos hj]
  constructor
  · rintro ⟨⟨h1, h2⟩, h3, h4⟩
    exact ⟨h1, h3, (allR_iff hs h3).2 fun x hx e => ⟨h2 x hx e, h4 x hx e⟩⟩
  · rintro ⟨h1, h2, h3⟩
    have := (allR_iff hs h2).1 h3
    exact ⟨⟨h1, fun x hx e => (this x hx e).1⟩, h2, fun x hx e => (this x hx e).2⟩

theorem red_bd {s : Sp} {j : Nat} (hj : j < s.weeks.toNat) : 0 ≤ (redS s j).1 ∧ (redS s j).2 ≤ s.most := by
  have h1 := (addR_lo (s := s) s.reads (iniN s.most s.weeks.toNat) j (redS s j).1).1 (Int.le_refl _)
  have h2 := (addR_hi (s := s) s.reads (iniN s.most s.weeks.toNat) j (redS s j).2).1 (Int.le_refl _)
  rw [ini_at, if_pos hj] at h1 h2
  exact ⟨h1.1, h2.1⟩

theorem step_eq {s : Sp} (hs : OkS s) {j : Nat} (hj : j < s.weeks.toNat) : ∀ k : Nat, (k : Int) ≤ s.most + 1 →
    stepW s j k = if (redS s j).1 < k ∧ (redS s j).1 ≤ (redS s j).2 then ((redS s j).1, min (redS s j).2 (k - 1)) else (s.most + 1, -1)
  | 0, _ => by
    have := red_bd (s := s) hj
    rw [if_neg (by omega)]; rfl
  | k + 1, hk => by
    have hb := red_bd (s := s) hj
    have ih := step_eq hs hj k (by omega)
    have hi := red_iff hs hj (n := (k : Int))
    simp only [stepW]
    by_cases ha : allR s j k s.reads = true
    · have hin := hi.2 ⟨by omega, by omega, ha⟩
      have e2 : (redS s j).1 < ((k + 1 : Nat) : Int) ∧ (redS s j).1 ≤ (redS s j).2 := ⟨by omega, by omega⟩
      rw [if_pos ha, if_pos e2, ih]
      by_cases hlt : (redS s j).1 < k
      · rw [if_pos ⟨hlt, e2.2⟩]
        apply Prod.ext <;> simp <;> omega
      · rw [if_neg (fun h => hlt h.1)]
        apply Prod.ext <;> simp <;> omega
    · rw [if_neg ha, ih]
      have hn : ¬ ((redS s j).1 ≤ (k : Int) ∧ (k : Int) ≤ (redS s j).2) := fun h => ha (hi.1 h).2.2
      by_cases hle : (redS s j).1 ≤ (redS s j).2
      · by_cases hlt : (redS s j).1 < k
        · have e2 : (redS s j).1 < ((k + 1 : Nat) : Int) ∧ (redS s j).1 ≤ (redS s j).2 := ⟨by omega, hle⟩
          rw [if_pos ⟨hlt, hle⟩, if_pos e2]
          apply Prod.ext <;> simp <;> omega
        · have e2 : ¬ ((redS s j).1 < ((k + 1 : Nat) : Int) ∧ (redS s j).1 ≤ (redS s j).2) := fun h => by omega
          rw [if_neg (fun h => hlt h.1), if_neg e2]
      · rw [if_neg (fun h => hle h.2), if_neg (fun h => hle h.2)]

theorem base_at (s : Sp) : ∀ (k j : Nat), baseN s k j = if j < k then stepW s j (s.most + 1).toNat else (0, 0)
  | 0, j => by simp [baseN, bz]
  | k + 1, j => by
    simp only [baseN, up]
    by_cases e : j = k
    · subst e; simp
    · rw [if_neg e, base_at s k j]
      by_cases h : j < k
      · rw [if_pos h, if_pos (by omega)]
      · rw [if_neg h, if_neg (by omega)]

/-- What the reference's lines leave of what readings leave. -/
def preR (s : Sp) (rain : Int) : Bd := s.book.foldl (addL rain) (baseS s)
def leavesR (s : Sp) (rain : Int) : Bd := narS s (preR s rain)

theorem base_red {s : Sp} (hs : OkS s) (j : Nat) : baseS s j = if j < s.weeks.toNat then (if (redS s j).1 ≤ (redS s j).2 then redS s j else (s.most + 1, -1)) else (0, 0) := by
  unfold baseS
  rw [base_at]
  by_cases h : j < s.weeks.toNat
  · have hb := red_bd (s := s) h
    have hm := hs.ok.m1
    rw [if_pos h, if_pos h, step_eq hs h _ (by omega)]
    by_cases hle : (redS s j).1 ≤ (redS s j).2
    · rw [if_pos (by omega), if_pos hle]
      apply Prod.ext <;> simp <;> omega
    · rw [if_neg (by omega), if_neg hle]
  · rw [if_neg h, if_neg h]

theorem pre_lo {s : Sp} (rain : Int) (j : Nat) (n : Int) : (preS s rain j).1 ≤ n ↔ (redS s j).1 ≤ n ∧ ∀ x ∈ s.book, inS x.rlo x.rhi rain = true → x.week.toNat = j → x.glo ≤ n := by
  unfold preS redS
  rw [addR_lo, addL_lo, addR_lo]
  constructor
  · rintro ⟨⟨h1, h2⟩, h3⟩; exact ⟨⟨h1, h3⟩, h2⟩
  · rintro ⟨⟨h1, h2⟩, h3⟩; exact ⟨⟨h1, h3⟩, h2⟩
theorem pre_hi {s : Sp} (rain : Int) (j : Nat) (n : Int) : n ≤ (preS s rain j).2 ↔ n ≤ (redS s j).2 ∧ ∀ x ∈ s.book, inS x.rlo x.rhi rain = true → x.week.toNat = j → n ≤ x.ghi := by
  unfold preS redS
  rw [addR_hi, addL_hi, addR_hi]
  constructor
  · rintro ⟨⟨h1, h2⟩, h3⟩; exact ⟨⟨h1, h3⟩, h2⟩
  · rintro ⟨⟨h1, h2⟩, h3⟩; exact ⟨⟨h1, h3⟩, h2⟩

theorem red_out {s : Sp} (hs : OkS s) {j : Nat} (hj : ¬ j < s.weeks.toNat) : redS s j = (0, 0) := by
  have hno : ∀ x ∈ s.reads, ¬ x.week.toNat = j := fun x hx e => by
    have := (hs.reads x hx).w1
    have := (hs.reads x hx).w2
    omega
  apply Prod.ext
  · refine int_ext fun n => ?_
    unfold redS
    rw [addR_lo, ini_at, if_neg hj]
    exact ⟨fun h => h.1, fun h => ⟨h, fun x hx e => absurd e (hno x hx)⟩⟩
  · refine int_ext' fun n => ?_
    unfold redS
    rw [addR_hi, ini_at, if_neg hj]
    exact ⟨fun h => h.1, fun h => ⟨h, fun x hx e => absurd e (hno x hx)⟩⟩

theorem pre_same {s : Sp} (hs : OkS s) (h : ∀ j, j < s.weeks.toNat → (redS s j).1 ≤ (redS s j).2) (rain : Int) : preR s rain = preS s rain := by
  have hb : ∀ j, baseS s j = redS s j := fun j => by
    rw [base_red hs]
    by_cases hj : j < s.weeks.toNat
    · rw [if_pos hj, if_pos (h j hj)]
    · rw [if_neg hj, red_out hs hj]
  funext j
  apply Prod.ext
  · refine int_ext fun n => ?_
    rw [pre_lo]
    unfold preR
    rw [addL_lo, hb]
  · refine int_ext' fun n => ?_
    rw [pre_hi]
    unfold preR
    rw [addL_hi, hb]

/-- Narrowing never widens. -/
theorem fwd_in {fall : Int} (f : Bd) : ∀ (k j : Nat), (f j).1 ≤ (fwdN fall k f j).1 ∧ (fwdN fall k f j).2 ≤ (f j).2
  | 0, j => ⟨Int.le_refl _, Int.le_refl _⟩
  | k + 1, j => by
    have ih := fwd_in (fall := fall) f k j
    simp only [fwdN, up]
    split
    · rename_i e; subst e; constructor <;> simp only [] <;> omega
    · exact ih
theorem bwd_in {fall : Int} {n : Nat} (f : Bd) : ∀ (k j : Nat), (f j).1 ≤ (bwdN fall n k f j).1 ∧ (bwdN fall n k f j).2 ≤ (f j).2
  | 0, j => ⟨Int.le_refl _, Int.le_refl _⟩
  | k + 1, j => by
    have ih := bwd_in (fall := fall) (n := n) f k j
    simp only [bwdN, up]
    split
    · rename_i e; subst e; constructor <;> simp only [] <;> omega
    · exact ih
theorem nar_in (s : Sp) (f : Bd) (j : Nat) : (f j).1 ≤ (narS s f j).1 ∧ (narS s f j).2 ≤ (f j).2 := by
  unfold narS
  have h1 := bwd_in (fall := s.fall) (n := s.weeks.toNat) (fwdN s.fall (s.weeks.toNat - 1) f) (s.weeks.toNat - 1) j
  have h2 := fwd_in (fall := s.fall) f (s.weeks.toNat - 1) j
  omega

theorem no_truth {s : Sp} {f : Bd} {j : Nat} (hj : j < s.weeks.toNat) (h : (f j).2 < (f j).1) : okN s (narS s f) = false :=
  okN_not hj (by have := nar_in s f j; omega)

theorem leaves_same {s : Sp} (hs : OkS s) (rain : Int) : okN s (leavesR s rain) = okN s (leavesS s rain) ∧ (okN s (leavesS s rain) = true → leavesR s rain = leavesS s rain) := by
  by_cases h : ∀ j, j < s.weeks.toNat → (redS s j).1 ≤ (redS s j).2
  · have : leavesR s rain = leavesS s rain := by unfold leavesR leavesS; rw [pre_same hs h]
    rw [this]; exact ⟨rfl, fun _ => rfl⟩
  · obtain ⟨j, hj, hlt⟩ : ∃ j, j < s.weeks.toNat ∧ ¬ (redS s j).1 ≤ (redS s j).2 := by
      by_cases hex : ∃ j, j < s.weeks.toNat ∧ ¬ (redS s j).1 ≤ (redS s j).2
      · exact hex
      · exact absurd (fun j hj => by
          by_cases hle : (redS s j).1 ≤ (redS s j).2
          · exact hle
          · exact absurd ⟨j, hj, hle⟩ hex) h
    have hS : okN s (leavesS s rain) = false := by
      refine no_truth hj ?_
      have h1 := ((pre_lo (s := s) rain j _).1 (Int.le_refl _)).1
      have h2 := ((pre_hi (s := s) rain j _).1 (Int.le_refl _)).1
      omega
    have hR : okN s (leavesR s rain) = false := by
      refine no_truth hj ?_
      have h1 := ((addL_lo (rain := rain) s.book (baseS s) j _).1 (Int.le_refl _)).1
      have h2 := ((addL_hi (rain := rain) s.book (baseS s) j _).1 (Int.le_refl _)).1
      rw [base_red hs, if_pos hj, if_neg hlt] at h1 h2
      have := hs.ok.m1
      show (s.book.foldl (addL rain) (baseS s) j).2 < (s.book.foldl (addL rain) (baseS s) j).1
      simp only [] at h1 h2
      omega
    rw [hS, hR]
    exact ⟨rfl, fun h => by cases h⟩

/-! What a spring gives in a week -/
def arS (v u : Int × Int) : Int × Int := (min v.1 u.1, max v.2 u.2)
def gvL (s : Sp) (w : Nat) (L : List Int) (v : Int × Int) : Int × Int := L.foldl (fun v r => arS v (leavesS s r w)) v
/-- What a spring gives in a week. -/
def gvS (s : Sp) (w : Nat) : Int × Int := gvL s w (rainsS s) (s.most, 0)

theorem rains_mem {s : Sp} {r : Int} (h : r ∈ rainsS s) : okN s (leavesS s r) = true ∧ s.wlo ≤ r ∧ r ≤ s.whi := by
  unfold rainsS rainsN at h
  obtain ⟨h1, h2⟩ := List.mem_filter.1 h
  obtain ⟨i, hi, rfl⟩ := List.mem_map.1 h1
  have := List.mem_range.1 hi
  unfold rainN at this
  exact ⟨h2, by omega, by omega⟩

theorem okN_at {s : Sp} {f : Bd} (h : okN s f = true) {w : Nat} (hw : w < s.weeks.toNat) : (f w).1 ≤ (f w).2 := by
  simp only [okN, List.all_eq_true, List.mem_range, decide_eq_true_eq] at h
  exact h w hw

theorem leaves_bd {s : Sp} {r : Int} (h : okN s (leavesS s r) = true) {w : Nat} (hw : w < s.weeks.toNat) : 0 ≤ (leavesS s r w).1 ∧ (leavesS s r w).1 ≤ (leavesS s r w).2 ∧ (leavesS s r w).2 ≤ s.most := by
  have h1 := nar_in s (preS s r) w
  have h2 := ((pre_lo (s := s) r w _).1 (Int.le_refl _)).1
  have h3 := ((pre_hi (s := s) r w _).1 (Int.le_refl _)).1
  have h4 := red_bd (s := s) hw
  have h5 := okN_at h hw
  unfold leavesS at h5 ⊢
  omega

theorem hull_eq {s : Sp} {w : Nat} (hw : w < s.weeks.toNat) {r : Int} {L : List Int} (h : rainsS s = r :: L) : gvL s w (rainsS s) (leavesS s r w) = gvS s w := by
  have hb := leaves_bd (rains_mem (s := s) (r := r) (by rw [h]; simp)).1 hw
  unfold gvS
  rw [h]
  unfold gvL
  simp only [List.foldl_cons]
  congr 1
  apply Prod.ext <;> simp [arS] <;> omega

theorem gvL_bd {s : Sp} {w : Nat} (hw : w < s.weeks.toNat) : ∀ (L : List Int) (v : Int × Int), (∀ r ∈ L, okN s (leavesS s r) = true) → 0 ≤ v.1 → v.1 ≤ s.most → 0 ≤ v.2 → v.2 ≤ s.most →
    0 ≤ (gvL s w L v).1 ∧ (gvL s w L v).1 ≤ s.most ∧ 0 ≤ (gvL s w L v).2 ∧ (gvL s w L v).2 ≤ s.most
  | [], v, _, h1, h2, h3, h4 => ⟨h1, h2, h3, h4⟩
  | r :: L, v, h, h1, h2, h3, h4 => by
    have hb := leaves_bd (h r (by simp)) hw
    refine gvL_bd hw L (arS v (leavesS s r w)) (fun x hx => h x (List.mem_cons_of_mem _ hx)) ?_ ?_ ?_ ?_ <;> simp only [arS] <;> omega
end Go.Proofs.Ytdpnadknaacinaa
