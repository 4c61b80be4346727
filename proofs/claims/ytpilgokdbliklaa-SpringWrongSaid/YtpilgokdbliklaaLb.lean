/-
  What the functions of the law return.
  Conditions: none.
-/
import Derived.Test.YtpilgokdbliklaaLa
import Derived.Test.YtpilgokdbliklaaRows
import Derived.Test.YtpilgokdbliklaaChecked
import Derived.Lib.SmallJoins
import Derived.ProofKit

section
namespace Go.Proofs.Ytpilgokdbliklaa
open Go.Ev Go.RowKit
set_option linter.unusedVariables false
set_option linter.unusedSimpArgs false
set_option maxRecDepth 100000
set_option maxHeartbeats 4000000
theorem bld_Span (v : List (Nat × Value)) : evBuild Pr 23 v = obind (fil (fun i => nth [(0, 1), (1, 1)] i) v [.int .i64 0, .int .i64 0]) fun cs => some (.agg ⟨cs⟩) := by kernel_rfl
structure YSpan where
  Lo : Int
  Hi : Int
instance : Rwc YSpan := ⟨2, fun x => [iS x.Lo, iS x.Hi], fun _ => rfl, fun _ => rfl, by omega⟩
structure YReading where
  Number : Int
  Week : Int
  Bucket : Int
  Songs_Lo : Int
  Songs_Hi : Int
instance : Rwc YReading := ⟨5, fun x => [iS x.Number, iS x.Week, iS x.Bucket, iS x.Songs_Lo, iS x.Songs_Hi], fun _ => rfl, fun _ => rfl, by omega⟩
theorem enc_Reading (x : YReading) : Rwc.enc x = [iS x.Number, iS x.Week, iS x.Bucket, iS x.Songs_Lo, iS x.Songs_Hi] := rfl
theorem plain_Reading (y : YReading) : ∀ v ∈ Rwc.enc y, plain v = true := by
  intro v hv
  rw [enc_Reading] at hv
  simp only [List.mem_cons, List.not_mem_nil, or_false] at hv
  rcases hv with rfl | rfl | rfl | rfl | rfl <;> rfl
structure YLine where
  Rain_Lo : Int
  Rain_Hi : Int
  Week : Int
  Gives_Lo : Int
  Gives_Hi : Int
instance : Rwc YLine := ⟨5, fun x => [iS x.Rain_Lo, iS x.Rain_Hi, iS x.Week, iS x.Gives_Lo, iS x.Gives_Hi], fun _ => rfl, fun _ => rfl, by omega⟩
theorem enc_Line (x : YLine) : Rwc.enc x = [iS x.Rain_Lo, iS x.Rain_Hi, iS x.Week, iS x.Gives_Lo, iS x.Gives_Hi] := rfl
theorem plain_Line (y : YLine) : ∀ v ∈ Rwc.enc y, plain v = true := by
  intro v hv
  rw [enc_Line] at hv
  simp only [List.mem_cons, List.not_mem_nil, or_false] at hv
  rcases hv with rfl | rfl | rfl | rfl | rfl <;> rfl
structure Yaguadorref01_left where
  lo_a0 : Int
  lo_a1 : Int
  lo_a2 : Int
  lo_a3 : Int
  lo_a4 : Int
  lo_a5 : Int
  lo_a6 : Int
  lo_a7 : Int
  lo_a8 : Int
  lo_a9 : Int
  hi_a0 : Int
  hi_a1 : Int
  hi_a2 : Int
  hi_a3 : Int
  hi_a4 : Int
  hi_a5 : Int
  hi_a6 : Int
  hi_a7 : Int
  hi_a8 : Int
  hi_a9 : Int
instance : Rwc Yaguadorref01_left := ⟨20, fun x => [iS x.lo_a0, iS x.lo_a1, iS x.lo_a2, iS x.lo_a3, iS x.lo_a4, iS x.lo_a5, iS x.lo_a6, iS x.lo_a7, iS x.lo_a8, iS x.lo_a9, iS x.hi_a0, iS x.hi_a1, iS x.hi_a2, iS x.hi_a3, iS x.hi_a4, iS x.hi_a5, iS x.hi_a6, iS x.hi_a7, iS x.hi_a8, iS x.hi_a9], fun _ => rfl, fun _ => rfl, by omega⟩
theorem bld_spring_work (v : List (Nat × Value)) : evBuild Pr 106 v = obind (fil (fun i => nth [(0, 9)] i) v [.int .i64 0, .int .i64 0, .int .i64 0, .int .i64 0, .int .i64 0, .int .i64 0, .int .i64 0, .slice none 0 0, .slice none 0 0]) fun cs => some (.agg ⟨cs⟩) := by kernel_rfl
theorem bld_spring_asked (v : List (Nat × Value)) : evBuild Pr 110 v = obind (fil (fun i => nth [(0, 1), (1, 1), (2, 5)] i) v [.int .i64 0, .int .i64 0, .int .i64 0, .int .i64 0, .int .i64 0, .int .i64 0, .int .i64 0]) fun cs => some (.agg ⟨cs⟩) := by kernel_rfl
structure Yspring_asked where
  week : Int
  bucket : Int
  reading_Number : Int
  reading_Week : Int
  reading_Bucket : Int
  reading_Songs_Lo : Int
  reading_Songs_Hi : Int
instance : Rwc Yspring_asked := ⟨7, fun x => [iS x.week, iS x.bucket, iS x.reading_Number, iS x.reading_Week, iS x.reading_Bucket, iS x.reading_Songs_Lo, iS x.reading_Songs_Hi], fun _ => rfl, fun _ => rfl, by omega⟩
structure Yspring_choice where
  week : Int
  left : Int
instance : Rwc Yspring_choice := ⟨2, fun x => [iS x.week, iS x.left], fun _ => rfl, fun _ => rfl, by omega⟩
theorem bsl_SLine (m : Nat) (ps : List (Nat × Value)) (h : Tr Ob) (N : Nat) : evBuildSlice Pr 24 m ps h N = ocond (Nat.ble (Nat.mul m 5) 16777216) (obind (fil (fun i => some (Nat.mul i 5, 5)) ps (reps [.int .i64 0, .int .i64 0, .int .i64 0, .int .i64 0, .int .i64 0] m)) fun cs => some (.slice (some ⟨N, 0, none⟩) m m, h.set (some (.c cs 73)) N, Nat.succ N)) := by kernel_rfl
theorem bs0_SLine (h : Tr Ob) (N : Nat) : evBuildSlice Pr 24 0 [] h N = some (.slice (some ⟨N, 0, none⟩) 0 0, h.set (some (.c [] 73)) N, N + 1) := by kernel_rfl
theorem ap_SLine : appT Pr 24 = some (73, 5) := by kernel_rfl
theorem bsl_SReading (m : Nat) (ps : List (Nat × Value)) (h : Tr Ob) (N : Nat) : evBuildSlice Pr 25 m ps h N = ocond (Nat.ble (Nat.mul m 5) 16777216) (obind (fil (fun i => some (Nat.mul i 5, 5)) ps (reps [.int .i64 0, .int .i64 0, .int .i64 0, .int .i64 0, .int .i64 0] m)) fun cs => some (.slice (some ⟨N, 0, none⟩) m m, h.set (some (.c cs 71)) N, Nat.succ N)) := by kernel_rfl
theorem bs0_SReading (h : Tr Ob) (N : Nat) : evBuildSlice Pr 25 0 [] h N = some (.slice (some ⟨N, 0, none⟩) 0 0, h.set (some (.c [] 71)) N, N + 1) := by kernel_rfl
theorem ap_SReading : appT Pr 25 = some (71, 5) := by kernel_rfl
theorem bsl_Sint (m : Nat) (ps : List (Nat × Value)) (h : Tr Ob) (N : Nat) : evBuildSlice Pr 35 m ps h N = ocond (Nat.ble (Nat.mul m 1) 16777216) (obind (fil (fun i => some (Nat.mul i 1, 1)) ps (reps [.int .i64 0] m)) fun cs => some (.slice (some ⟨N, 0, none⟩) m m, h.set (some (.c cs 3)) N, Nat.succ N)) := by kernel_rfl
theorem ap_Sint : appT Pr 35 = some (3, 1) := by kernel_rfl
theorem bsl_Saguadorref01_left (m : Nat) (ps : List (Nat × Value)) (h : Tr Ob) (N : Nat) : evBuildSlice Pr 94 m ps h N = ocond (Nat.ble (Nat.mul m 20) 16777216) (obind (fil (fun i => some (Nat.mul i 20, 20)) ps (reps [.int .i64 0, .int .i64 0, .int .i64 0, .int .i64 0, .int .i64 0, .int .i64 0, .int .i64 0, .int .i64 0, .int .i64 0, .int .i64 0, .int .i64 0, .int .i64 0, .int .i64 0, .int .i64 0, .int .i64 0, .int .i64 0, .int .i64 0, .int .i64 0, .int .i64 0, .int .i64 0] m)) fun cs => some (.slice (some ⟨N, 0, none⟩) m m, h.set (some (.c cs 104)) N, Nat.succ N)) := by kernel_rfl
instance : DecidableEq YSpan := fun x y => decidable_of_iff (x.Lo = y.Lo ∧ x.Hi = y.Hi) ⟨fun h => by cases x; cases y; simp only at h; simp only [YSpan.mk.injEq]; exact h, fun h => by subst h; exact ⟨rfl, rfl⟩⟩
instance : DecidableEq YReading := fun x y => decidable_of_iff (x.Number = y.Number ∧ x.Week = y.Week ∧ x.Bucket = y.Bucket ∧ x.Songs_Lo = y.Songs_Lo ∧ x.Songs_Hi = y.Songs_Hi) ⟨fun h => by cases x; cases y; simp only at h; simp only [YReading.mk.injEq]; exact h, fun h => by subst h; exact ⟨rfl, rfl, rfl, rfl, rfl⟩⟩
instance : DecidableEq YLine := fun x y => decidable_of_iff (x.Rain_Lo = y.Rain_Lo ∧ x.Rain_Hi = y.Rain_Hi ∧ x.Week = y.Week ∧ x.Gives_Lo = y.Gives_Lo ∧ x.Gives_Hi = y.Gives_Hi) ⟨fun h => by cases x; cases y; simp only at h; simp only [YLine.mk.injEq]; exact h, fun h => by subst h; exact ⟨rfl, rfl, rfl, rfl, rfl⟩⟩
instance : DecidableEq Yspring_choice := fun x y => decidable_of_iff (x.week = y.week ∧ x.left = y.left) ⟨fun h => by cases x; cases y; simp only at h; simp only [Yspring_choice.mk.injEq]; exact h, fun h => by subst h; exact ⟨rfl, rfl⟩⟩
end Go.Proofs.Ytpilgokdbliklaa
end

section
namespace Go.Proofs.Ytpilgokdbliklaa
open Go.Ev Go.RowKit
set_option linter.unusedVariables false
set_option linter.unusedSimpArgs false
set_option linter.unusedSectionVars false
set_option maxRecDepth 100000
set_option maxHeartbeats 4000000
/-- Is the number in the span? -/
def inS (lo hi n : Int) : Bool := decide (lo ≤ n) && decide (n ≤ hi)
abbrev Ln := YLine
abbrev Rd := YReading
structure Sp where
  weeks : Int
  most : Int
  fall : Int
  slo : Int
  shi : Int
  wlo : Int
  whi : Int
  book : List Ln
  reads : List Rd
def isSpanB (a b lo hi : Int) : Bool := decide (a ≤ b) && (inS lo hi a && inS lo hi b)
def isWeekB (weeks k : Int) : Bool := inS 0 (weeks - 1) k
def frameB (s : Sp) : Bool := inS 1 10 s.weeks && (inS 0 100 s.most && inS 0 100 s.fall) && isSpanB s.slo s.shi 1 600 && isSpanB s.wlo s.whi 0 20
def lineB (weeks : Int) (x : Ln) : Bool := isSpanB x.Rain_Lo x.Rain_Hi 0 20 && isWeekB weeks x.Week && isSpanB x.Gives_Lo x.Gives_Hi 0 100
def readB (weeks : Int) (x : Rd) : Bool := inS 1 9999 x.Number && isWeekB weeks x.Week && inS 1 40 x.Bucket && isSpanB x.Songs_Lo x.Songs_Hi 0 99 && decide (1 ≤ x.Songs_Hi)
def bookB (weeks : Int) (L : List Ln) : Bool := decide (L.length ≤ 8) && L.all (lineB weeks)
def rdsB (weeks : Int) : Int → List Rd → Bool
  | _, [] => true
  | before, x :: xs => decide (before < x.Number) && readB weeks x && rdsB weeks x.Number xs
def readsB (weeks : Int) (L : List Rd) : Bool := decide (L.length ≤ 12) && rdsB weeks 0 L
def validB (s : Sp) : Bool := frameB s && bookB s.weeks s.book && readsB s.weeks s.reads
def upS (n d : Int) : Int := (n + d - 1) / d
def toldB (s : Sp) (x : Rd) : Int × Int := (upS (3600 * x.Bucket) (x.Songs_Hi * s.shi), if 0 < x.Songs_Lo * s.slo then min s.most (3600 * x.Bucket / (x.Songs_Lo * s.slo)) else s.most)
structure Ok (s : Sp) : Prop where
  w1 : 1 ≤ s.weeks
  w2 : s.weeks ≤ 10
  m1 : 0 ≤ s.most
  m2 : s.most ≤ 100
  f1 : 0 ≤ s.fall
  f2 : s.fall ≤ 100
  a1 : 1 ≤ s.slo
  a2 : s.slo ≤ s.shi
  a3 : s.shi ≤ 600
  v1 : 0 ≤ s.wlo
  v2 : s.wlo ≤ s.whi
  v3 : s.whi ≤ 20
structure OkR (s : Sp) (x : Rd) : Prop where
  n1 : 1 ≤ x.Number
  n2 : x.Number ≤ 9999
  w1 : 0 ≤ x.Week
  w2 : x.Week ≤ s.weeks - 1
  b1 : 1 ≤ x.Bucket
  b2 : x.Bucket ≤ 40
  l1 : 0 ≤ x.Songs_Lo
  l2 : x.Songs_Lo ≤ x.Songs_Hi
  l3 : x.Songs_Hi ≤ 99
  l4 : 1 ≤ x.Songs_Hi
theorem mul_bd {a b m n : Int} (h1 : 0 ≤ a) (h2 : a ≤ m) (h3 : 0 ≤ b) (h4 : b ≤ n) : 0 ≤ a * b ∧ a * b ≤ m * n :=
  ⟨Int.mul_nonneg h1 h3, Int.mul_le_mul h2 h4 h3 (by omega)⟩
theorem mul_pos' {a b : Int} (h1 : 1 ≤ a) (h2 : 1 ≤ b) : 1 ≤ a * b := by
  have := Int.mul_le_mul h1 h2 (by omega) (by omega : (0 : Int) ≤ a); simpa using this
abbrev Bd := Nat → Int × Int
def up (f : Bd) (k : Nat) (v : Int × Int) : Bd := fun j => if j = k then v else f j
theorem up_def (f : Bd) (k : Nat) (v : Int × Int) : up f k v = fun j => if j = k then v else f j := rfl
def bz : Bd := fun _ => (0, 0)
def BdOk (f : Bd) : Prop := ∀ j, -1000000 ≤ (f j).1 ∧ (f j).1 ≤ 1000000 ∧ -1000000 ≤ (f j).2 ∧ (f j).2 ≤ 1000000
theorem BdOk.up {f : Bd} (h : BdOk f) (k : Nat) {a b : Int} (ha : -1000000 ≤ a ∧ a ≤ 1000000) (hb : -1000000 ≤ b ∧ b ≤ 1000000) : BdOk (up f k (a, b)) := by
  intro j
  simp only [up_def]
  split
  · exact ⟨ha.1, ha.2, hb.1, hb.2⟩
  · exact h j
def fwdN (fall : Int) : Nat → Bd → Bd
  | 0, f => f
  | k + 1, f => up (fwdN fall k f) (k + 1) (max (fwdN fall k f (k + 1)).1 ((fwdN fall k f k).1 - fall), min (fwdN fall k f (k + 1)).2 (fwdN fall k f k).2)
def bwdN (fall : Int) (n : Nat) : Nat → Bd → Bd
  | 0, f => f
  | j + 1, f => up (bwdN fall n j f) (n - 2 - j) (max (bwdN fall n j f (n - 2 - j)).1 (bwdN fall n j f (n - 2 - j + 1)).1, min (bwdN fall n j f (n - 2 - j)).2 ((bwdN fall n j f (n - 2 - j + 1)).2 + fall))
theorem fwd_ok {fall : Int} (h0 : 0 ≤ fall) (h1 : fall ≤ 100) {f : Bd} (h : BdOk f) : ∀ k, BdOk (fwdN fall k f)
  | 0 => h
  | k + 1 => by
    have ih := fwd_ok h0 h1 h k
    have a1 := ih k
    have a2 := ih (k + 1)
    exact ih.up _ (by omega) (by omega)
theorem bwd_ok {fall : Int} {n : Nat} (h0 : 0 ≤ fall) (h1 : fall ≤ 100) {f : Bd} (h : BdOk f) : ∀ k, BdOk (bwdN fall n k f)
  | 0 => h
  | k + 1 => by
    have ih := bwd_ok (n := n) h0 h1 h k
    have a1 := ih (n - 2 - k)
    have a2 := ih (n - 2 - k + 1)
    exact ih.up _ (by omega) (by omega)
def narS (s : Sp) (f : Bd) : Bd := bwdN s.fall s.weeks.toNat (s.weeks.toNat - 1) (fwdN s.fall (s.weeks.toNat - 1) f)
theorem nar_ok {s : Sp} (ho : Ok s) {f : Bd} (h : BdOk f) : BdOk (narS s f) := bwd_ok ho.f1 ho.f2 (fwd_ok ho.f1 ho.f2 h _) _
structure OkLn (s : Sp) (x : Ln) : Prop where
  r1 : 0 ≤ x.Rain_Lo
  r2 : x.Rain_Lo ≤ x.Rain_Hi
  r3 : x.Rain_Hi ≤ 20
  w1 : 0 ≤ x.Week
  w2 : x.Week ≤ s.weeks - 1
  g1 : 0 ≤ x.Gives_Lo
  g2 : x.Gives_Lo ≤ x.Gives_Hi
  g3 : x.Gives_Hi ≤ 100
structure OkS (s : Sp) : Prop where
  ok : Ok s
  book : ∀ x ∈ s.book, OkLn s x
  reads : ∀ x ∈ s.reads, OkR s x
  nb : s.book.length ≤ 8
  nr : s.reads.length ≤ 12
theorem rds_ok {s : Sp} : ∀ (L : List Rd) (bef : Int), rdsB s.weeks bef L = true → ∀ x ∈ L, OkR s x
  | [], _, _, x, hx => by cases hx
  | y :: L, bef, h, x, hx => by
    simp only [rdsB, Bool.and_eq_true] at h
    rcases List.mem_cons.1 hx with e | hx
    · subst e
      have h2 := h.1.2
      simp only [readB, isWeekB, isSpanB, inS, Bool.and_eq_true, decide_eq_true_eq] at h2
      constructor <;> omega
    · exact rds_ok L _ h.2 x hx
theorem ok_of_valid {s : Sp} (h : validB s = true) : OkS s := by
  simp only [validB, Bool.and_eq_true, frameB, isSpanB, inS, bookB, readsB, decide_eq_true_eq, List.all_eq_true, lineB, isWeekB] at h
  obtain ⟨⟨hf, hb⟩, hr⟩ := h
  refine ⟨?_, ?_, rds_ok _ _ hr.2, hb.1, hr.1⟩
  · constructor <;> omega
  · intro x hx
    have := hb.2 x hx
    constructor <;> omega
def iniN (most : Int) : Nat → Bd
  | 0 => bz
  | k + 1 => up (iniN most k) k (0, most)
def addL (rain : Int) (f : Bd) (x : Ln) : Bd := if inS x.Rain_Lo x.Rain_Hi rain then up f x.Week.toNat (max (f x.Week.toNat).1 x.Gives_Lo, min (f x.Week.toNat).2 x.Gives_Hi) else f
def addR (s : Sp) (f : Bd) (x : Rd) : Bd := up f x.Week.toNat (max (f x.Week.toNat).1 (toldB s x).1, min (f x.Week.toNat).2 (toldB s x).2)
def preS (s : Sp) (rain : Int) : Bd := s.reads.foldl (addR s) (s.book.foldl (addL rain) (iniN s.most s.weeks.toNat))
def leavesS (s : Sp) (rain : Int) : Bd := narS s (preS s rain)
theorem ini_ok {most : Int} (h0 : 0 ≤ most) (h1 : most ≤ 100) : ∀ k, BdOk (iniN most k)
  | 0 => fun j => by simp [iniN, bz]
  | k + 1 => (ini_ok h0 h1 k).up _ (by omega) (by omega)
theorem told_bd {s : Sp} {x : Rd} (ho : Ok s) (hx : OkR s x) : 1 ≤ (toldB s x).1 ∧ (toldB s x).1 ≤ 1000000 ∧ 0 ≤ (toldB s x).2 ∧ (toldB s x).2 ≤ 100 := by
  obtain ⟨w1, w2, m1, m2, f1, f2, a1, a2, a3, v1, v2, v3⟩ := ho
  obtain ⟨n1, n2, k1, k2, b1, b2, l1, l2, l3, l4⟩ := hx
  have hp1 := mul_bd (a := x.Songs_Hi) (b := s.shi) (by omega) l3 (by omega) a3
  have hp2 := mul_pos' (a := x.Songs_Hi) (b := s.shi) (by omega) (by omega)
  have e1 : 1 ≤ upS (3600 * x.Bucket) (x.Songs_Hi * s.shi) := by
    unfold upS
    have : x.Songs_Hi * s.shi / (x.Songs_Hi * s.shi) ≤ (3600 * x.Bucket + x.Songs_Hi * s.shi - 1) / (x.Songs_Hi * s.shi) := Int.ediv_le_ediv (by omega) (by omega)
    rw [Int.ediv_self (by omega)] at this
    exact this
  have e2 : upS (3600 * x.Bucket) (x.Songs_Hi * s.shi) ≤ 3600 * x.Bucket + x.Songs_Hi * s.shi - 1 := Int.ediv_le_self _ (by omega)
  refine ⟨e1, by show upS _ _ ≤ _; omega, ?_, ?_⟩
  · simp only [toldB]
    split
    · rename_i hp
      have := Int.ediv_nonneg (a := 3600 * x.Bucket) (b := x.Songs_Lo * s.slo) (by omega) (by omega)
      omega
    · omega
  · simp only [toldB]
    split <;> omega
theorem addL_ok {s : Sp} {rain : Int} {f : Bd} (h : BdOk f) {x : Ln} (hx : OkLn s x) : BdOk (addL rain f x) := by
  unfold addL
  split
  · have := h x.Week.toNat
    obtain ⟨_, _, _, _, _, _, _, _⟩ := hx
    exact h.up _ (by omega) (by omega)
  · exact h
theorem addR_ok {s : Sp} {f : Bd} (ho : Ok s) (h : BdOk f) {x : Rd} (hx : OkR s x) : BdOk (addR s f x) := by
  have := h x.Week.toNat
  have := told_bd ho hx
  exact h.up _ (by omega) (by omega)
theorem fold_ok {α : Type} {step : Bd → α → Bd} {L : List α} (hs : ∀ f x, x ∈ L → BdOk f → BdOk (step f x)) {f : Bd} (h : BdOk f) : BdOk (L.foldl step f) := by
  induction L generalizing f with
  | nil => exact h
  | cons y L ih => exact ih (fun f x hx => hs f x (List.mem_cons_of_mem _ hx)) (hs f y (by simp) h)
theorem fold_take {α : Type} (step : Bd → α → Bd) {L : List α} {k : Nat} {x : α} (h : L[k]? = some x) (f : Bd) : (L.take (k + 1)).foldl step f = step ((L.take k).foldl step f) x := by
  rw [List.take_add_one, h]; simp
theorem lns_ok {s : Sp} (hs : OkS s) (rain : Int) (k : Nat) : BdOk ((s.book.take k).foldl (addL rain) (iniN s.most s.weeks.toNat)) :=
  fold_ok (fun f x hx h => addL_ok h (hs.book x (List.mem_of_mem_take hx))) (ini_ok hs.ok.m1 hs.ok.m2 _)
theorem pre_ok' {s : Sp} (hs : OkS s) (rain : Int) (k : Nat) : BdOk ((s.reads.take k).foldl (addR s) (s.book.foldl (addL rain) (iniN s.most s.weeks.toNat))) := by
  refine fold_ok (fun f x hx h => addR_ok hs.ok h (hs.reads x (List.mem_of_mem_take hx))) ?_
  have := lns_ok hs rain s.book.length
  rwa [List.take_length] at this
def okN (s : Sp) (f : Bd) : Bool := (List.range s.weeks.toNat).all fun k => decide ((f k).1 ≤ (f k).2)
def rainN (s : Sp) : Nat := (s.whi + 1 - s.wlo).toNat
def rainsN (s : Sp) (k : Nat) : List Int := ((List.range k).map fun (i : Nat) => s.wlo + (i : Int)).filter fun r => okN s (leavesS s r)
/-- The rains that there can have been. -/
def rainsS (s : Sp) : List Int := rainsN s (rainN s)
theorem rainsN_succ (s : Sp) (k : Nat) : rainsN s (k + 1) = if okN s (leavesS s (s.wlo + (k : Int))) then rainsN s k ++ [s.wlo + (k : Int)] else rainsN s k := by
  simp only [rainsN, List.range_succ, List.map_append, List.filter_append, List.map_cons, List.map_nil, List.filter_cons, List.filter_nil]
  split <;> simp
theorem rainsN_pre (s : Sp) {k n : Nat} (h : k ≤ n) : rainsN s k <+: rainsN s n := by
  refine List.IsPrefix.filter _ (List.IsPrefix.map _ ?_)
  obtain ⟨m, rfl⟩ := Nat.exists_eq_add_of_le h
  rw [List.range_add]
  exact List.prefix_append _ _
theorem okN_of {s : Sp} {f : Bd} {n : Nat} (hn : n = s.weeks.toNat) (h : ∀ j, j < n → (f j).1 ≤ (f j).2) : okN s f = true := by
  subst hn; simp only [okN, List.all_eq_true, List.mem_range, decide_eq_true_eq]; exact h
theorem okN_not {s : Sp} {f : Bd} {k : Nat} (hk : k < s.weeks.toNat) (h : ¬ (f k).1 ≤ (f k).2) : okN s f = false := by
  rw [okN, List.all_eq_false]; exact ⟨k, by simpa using hk, by simpa using h⟩
theorem leaves_ok {s : Sp} (hs : OkS s) (rain : Int) : BdOk (leavesS s rain) := by
  refine nar_ok hs.ok ?_
  have := pre_ok' hs rain s.reads.length
  rwa [List.take_length] at this
def canS (s : Sp) : Bool := !(rainsS s).isEmpty
theorem up_same (f : Bd) (k : Nat) (v : Int × Int) : up f k v k = v := by simp [up]
theorem up_up (f : Bd) (k : Nat) (v u : Int × Int) : up (up f k v) k u = up f k u := by
  funext j; unfold up; split <;> rfl
theorem addR_lo {s : Sp} (L : List Rd) (f : Bd) (j : Nat) (n : Int) : (L.foldl (addR s) f j).1 ≤ n ↔ (f j).1 ≤ n ∧ ∀ x ∈ L, x.Week.toNat = j → (toldB s x).1 ≤ n := by
  induction L generalizing f with
  | nil => simp
  | cons x L ih =>
    rw [List.foldl_cons, ih]
    simp only [List.forall_mem_cons, addR, up]
    by_cases e : j = x.Week.toNat
    · subst e
      simp only [if_true, true_implies]
      constructor
      · rintro ⟨h, h'⟩; exact ⟨by omega, by omega, h'⟩
      · rintro ⟨h, h', h''⟩; exact ⟨by omega, h''⟩
    · rw [if_neg e]
      have : ¬ x.Week.toNat = j := fun h => e h.symm
      simp [this]
theorem addR_hi {s : Sp} (L : List Rd) (f : Bd) (j : Nat) (n : Int) : n ≤ (L.foldl (addR s) f j).2 ↔ n ≤ (f j).2 ∧ ∀ x ∈ L, x.Week.toNat = j → n ≤ (toldB s x).2 := by
  induction L generalizing f with
  | nil => simp
  | cons x L ih =>
    rw [List.foldl_cons, ih]
    simp only [List.forall_mem_cons, addR, up]
    by_cases e : j = x.Week.toNat
    · subst e
      simp only [if_true, true_implies]
      constructor
      · rintro ⟨h, h'⟩; exact ⟨by omega, by omega, h'⟩
      · rintro ⟨h, h', h''⟩; exact ⟨by omega, h''⟩
    · rw [if_neg e]
      have : ¬ x.Week.toNat = j := fun h => e h.symm
      simp [this]
theorem addL_lo {rain : Int} (L : List Ln) (f : Bd) (j : Nat) (n : Int) : (L.foldl (addL rain) f j).1 ≤ n ↔ (f j).1 ≤ n ∧ ∀ x ∈ L, inS x.Rain_Lo x.Rain_Hi rain = true → x.Week.toNat = j → x.Gives_Lo ≤ n := by
  induction L generalizing f with
  | nil => simp
  | cons x L ih =>
    rw [List.foldl_cons, ih]
    simp only [List.forall_mem_cons, addL]
    by_cases hr : inS x.Rain_Lo x.Rain_Hi rain = true
    · rw [if_pos hr]
      simp only [up, hr, true_implies]
      by_cases e : j = x.Week.toNat
      · subst e
        simp only [if_true, true_implies]
        constructor
        · rintro ⟨h, h'⟩; exact ⟨by omega, by omega, h'⟩
        · rintro ⟨h, h', h''⟩; exact ⟨by omega, h''⟩
      · rw [if_neg e]
        have : ¬ x.Week.toNat = j := fun h => e h.symm
        simp [this]
    · rw [if_neg hr]
      simp [hr]
theorem addL_hi {rain : Int} (L : List Ln) (f : Bd) (j : Nat) (n : Int) : n ≤ (L.foldl (addL rain) f j).2 ↔ n ≤ (f j).2 ∧ ∀ x ∈ L, inS x.Rain_Lo x.Rain_Hi rain = true → x.Week.toNat = j → n ≤ x.Gives_Hi := by
  induction L generalizing f with
  | nil => simp
  | cons x L ih =>
    rw [List.foldl_cons, ih]
    simp only [List.forall_mem_cons, addL]
    by_cases hr : inS x.Rain_Lo x.Rain_Hi rain = true
    · rw [if_pos hr]
      simp only [up, hr, true_implies]
      by_cases e : j = x.Week.toNat
      · subst e
        simp only [if_true, true_implies]
        constructor
        · rintro ⟨h, h'⟩; exact ⟨by omega, by omega, h'⟩
        · rintro ⟨h, h', h''⟩; exact ⟨by omega, h''⟩
      · rw [if_neg e]
        have : ¬ x.Week.toNat = j := fun h => e h.symm
        simp [this]
    · rw [if_neg hr]
      simp [hr]
/-- What readings alone leave. -/
def redS (s : Sp) : Bd := s.reads.foldl (addR s) (iniN s.most s.weeks.toNat)
theorem pre_lo {s : Sp} (rain : Int) (j : Nat) (n : Int) : (preS s rain j).1 ≤ n ↔ (redS s j).1 ≤ n ∧ ∀ x ∈ s.book, inS x.Rain_Lo x.Rain_Hi rain = true → x.Week.toNat = j → x.Gives_Lo ≤ n := by
  unfold preS redS
  rw [addR_lo, addL_lo, addR_lo]
  constructor
  · rintro ⟨⟨h1, h2⟩, h3⟩; exact ⟨⟨h1, h3⟩, h2⟩
  · rintro ⟨⟨h1, h2⟩, h3⟩; exact ⟨⟨h1, h3⟩, h2⟩
theorem pre_hi {s : Sp} (rain : Int) (j : Nat) (n : Int) : n ≤ (preS s rain j).2 ↔ n ≤ (redS s j).2 ∧ ∀ x ∈ s.book, inS x.Rain_Lo x.Rain_Hi rain = true → x.Week.toNat = j → n ≤ x.Gives_Hi := by
  unfold preS redS
  rw [addR_hi, addL_hi, addR_hi]
  constructor
  · rintro ⟨⟨h1, h2⟩, h3⟩; exact ⟨⟨h1, h3⟩, h2⟩
  · rintro ⟨⟨h1, h2⟩, h3⟩; exact ⟨⟨h1, h3⟩, h2⟩
end Go.Proofs.Ytpilgokdbliklaa
end

section
namespace Go.Proofs.Ytpilgokdbliklaa
open Go.Ev Go.RowKit
set_option linter.unusedVariables false
set_option linter.unusedSimpArgs false
set_option linter.unusedSectionVars false
set_option maxRecDepth 100000
set_option maxHeartbeats 4000000
theorem s1_Sa {p : Prop} (h : p := by (simp (disch := omega) only [obind_s, orun_s, ocond_t, fad_p, ld1_e, ldN_e, sto_e, cellO_c, wrO_c, Tr.get_same, Tr.get_other, nth_0, nth_s, drp_0, drp_s, drp_n, tak_0, tak_s, tak_n, over_n, over_c, lay_0, lay_s, lay_n, len_n, len_c, app_n, app_c, reps_0, reps_s, cel_agg, cel_int, cel_bool, cel_str, cel_sl, cel_ptr, cel_map, cel_func, cel_nilf, fil_n, fil_c, beq_r, ble_d, allF_n, allF_c, one_int, one_bool, one_str, one_sl, one_ptr, one_map, one_func, one_nilf, Bool.and_true, Bool.true_and, Bool.not_true, Bool.not_false, iadA_z, Int.reduceToNat, Int.toNat_zero, fl1_a, flN_a, extr_t, unot, not_d, Nat.add_eq, Nat.mul_eq, Nat.mul_one, Nat.one_mul, Nat.zero_mul, Nat.reduceMul, Nat.zero_add, Nat.add_zero, Nat.le_refl, decide_true, Nat.reduceAdd, Nat.reduceLeDiff, bsl_Sint, bld_Span, bld_spring_work, bld_spring_asked, enc_Line, enc_Reading, ocond_d, Int.toNat_natCast, *]); first | done | fail) : p := h
theorem s2_Sa {p : Prop} (h : p := by (simp (disch := omega) only [obind_s, orun_s, ocond_t, fad_p, ld1_e, ldN_e, sto_e, cellO_c, wrO_c, Tr.get_same, Tr.get_other, nth_0, nth_s, drp_0, drp_s, drp_n, tak_0, tak_s, tak_n, over_n, over_c, lay_0, lay_s, lay_n, len_n, len_c, app_n, app_c, reps_0, reps_s, cel_agg, cel_int, cel_bool, cel_str, cel_sl, cel_ptr, cel_map, cel_func, cel_nilf, fil_n, fil_c, beq_r, ble_d, allF_n, allF_c, one_int, one_bool, one_str, one_sl, one_ptr, one_map, one_func, one_nilf, Bool.and_true, Bool.true_and, Bool.not_true, Bool.not_false, iadA_z, Int.reduceToNat, Int.toNat_zero, fl1_a, flN_a, extr_t, unot, not_d, Nat.add_eq, Nat.mul_eq, Nat.mul_one, Nat.one_mul, Nat.zero_mul, Nat.reduceMul, Nat.zero_add, Nat.add_zero, Nat.le_refl, decide_true, Nat.reduceAdd, Nat.reduceLeDiff, bsl_Sint, bld_Span, bld_spring_work, bld_spring_asked, enc_Line, enc_Reading, ocond_d, Int.toNat_natCast, *]); rfl) : p := h
theorem sb_Sa {p : Prop} (h : p := by first | ((simp (disch := omega) only [obind_s, orun_s, ocond_t, fad_p, ld1_e, ldN_e, sto_e, cellO_c, wrO_c, Tr.get_same, Tr.get_other, nth_0, nth_s, drp_0, drp_s, drp_n, tak_0, tak_s, tak_n, over_n, over_c, lay_0, lay_s, lay_n, len_n, len_c, app_n, app_c, reps_0, reps_s, cel_agg, cel_int, cel_bool, cel_str, cel_sl, cel_ptr, cel_map, cel_func, cel_nilf, fil_n, fil_c, beq_r, ble_d, allF_n, allF_c, one_int, one_bool, one_str, one_sl, one_ptr, one_map, one_func, one_nilf, Bool.and_true, Bool.true_and, Bool.not_true, Bool.not_false, iadA_z, Int.reduceToNat, Int.toNat_zero, fl1_a, flN_a, extr_t, unot, not_d, Nat.add_eq, Nat.mul_eq, Nat.mul_one, Nat.one_mul, Nat.zero_mul, Nat.reduceMul, Nat.zero_add, Nat.add_zero, Nat.le_refl, decide_true, Nat.reduceAdd, Nat.reduceLeDiff, bsl_Sint, bld_Span, bld_spring_work, bld_spring_asked, enc_Line, enc_Reading, ocond_d, Int.toNat_natCast, Nat.succ_eq_add_one, Nat.add_assoc, *]); rfl) | ((simp (disch := omega) only [obind_s, orun_s, ocond_t, fad_p, ld1_e, ldN_e, sto_e, cellO_c, wrO_c, Tr.get_same, Tr.get_other, nth_0, nth_s, drp_0, drp_s, drp_n, tak_0, tak_s, tak_n, over_n, over_c, lay_0, lay_s, lay_n, len_n, len_c, app_n, app_c, reps_0, reps_s, cel_agg, cel_int, cel_bool, cel_str, cel_sl, cel_ptr, cel_map, cel_func, cel_nilf, fil_n, fil_c, beq_r, ble_d, allF_n, allF_c, one_int, one_bool, one_str, one_sl, one_ptr, one_map, one_func, one_nilf, Bool.and_true, Bool.true_and, Bool.not_true, Bool.not_false, iadA_z, Int.reduceToNat, Int.toNat_zero, fl1_a, flN_a, extr_t, unot, not_d, Nat.add_eq, Nat.mul_eq, Nat.mul_one, Nat.one_mul, Nat.zero_mul, Nat.reduceMul, Nat.zero_add, Nat.add_zero, Nat.le_refl, decide_true, Nat.reduceAdd, Nat.reduceLeDiff, bsl_Sint, bld_Span, bld_spring_work, bld_spring_asked, enc_Line, enc_Reading, ocond_d, Int.toNat_natCast, Nat.succ_eq_add_one, Nat.add_assoc, *]); done)) : p := h
theorem fr_Sa {p : Prop} (h : p := by first | assumption | exact Fr.refl _ _ | (simp (disch := omega) only [Fr_set, Fr_refl, *])) : p := h
theorem fl_Sa {p : Prop} (h : p := by first | with_unfolding_all rfl | exact Sl.flat (by assumption) | assumption) : p := h
theorem fll_Sa {p : Prop} (h : p := by first | with_unfolding_all rfl | ((repeat (refine flatL_k fl_Sa ?_)); with_unfolding_all rfl)) : p := h
theorem en_Sa {p : Prop} (h : p := by first | ((simp only [enc_int, enc_str, enc_u8, enc_bool, tak_s, tak_0, tak_n, drp_0, drp_s, drp_n, nth_s, nth_0, bsl_Sint, bld_Span, bld_spring_work, bld_spring_asked, enc_Line, enc_Reading, ocond_d, Int.toNat_natCast]); rfl) | ((simp only [enc_int, enc_str, enc_u8, enc_bool, tak_s, tak_0, tak_n, drp_0, drp_s, drp_n, nth_s, nth_0, bsl_Sint, bld_Span, bld_spring_work, bld_spring_asked, enc_Line, enc_Reading, ocond_d, Int.toNat_natCast]); done) | with_unfolding_all rfl) : p := h
theorem sM_Sa {p : Prop} (h : p := by (first | assumption | (simp (disch := omega) only [Tr.get_same, Tr.get_other, *]; rfl) | (simp (disch := omega) only [Tr.get_same, Tr.get_other, *]; done))) : p := h
theorem sS_Sa {p : Prop} (h : p := by first | assumption | exact s1_Sa) : p := h
theorem op_Sa {p : Prop} (h : p := by first | with_reducible exact fad_p _ _ _ | with_reducible exact iop_lss _ _ | with_reducible exact iop_leq _ _ | with_reducible exact iop_gtr _ _ | with_reducible exact iop_geq _ _ | with_reducible exact iop_eql _ _ | with_reducible exact iop_neq _ _ | with_reducible exact Sl.len (by assumption) | with_reducible exact lenS_s _ _ _ | with_reducible exact Sl.iad (by assumption) (by with_unfolding_all rfl) (by first | assumption | omega) | with_reducible exact Sl.fad (by assumption) (by first | assumption | omega) | with_reducible exact Sl.ld1 (by assumption) fr_Sa (by with_unfolding_all rfl) (by assumption) en_Sa | with_reducible exact Sl.ldN (by assumption) fr_Sa (by with_unfolding_all rfl) (by assumption) (by with_unfolding_all rfl) en_Sa | with_reducible exact zadd1 (by omega) | with_reducible exact zsub1 (by omega) (by omega) | with_reducible exact zaddI (by omega) (by omega) | with_reducible exact zsubI (by omega) (by omega) | with_reducible exact min_z | with_reducible exact max_z | with_reducible exact zmulI (by assumption) | with_reducible exact zmulK (by omega) (by omega) | with_reducible exact quo_z (by omega) (by omega) (by omega) | with_reducible exact cv_u8 (by omega) | with_reducible exact rem_z (by omega) (by omega) (by omega) | with_reducible exact neq_bool (by kernel_rfl) | with_reducible exact wntT_t (by assumption) | with_reducible exact wntT_f (by assumption) | with_reducible exact wntF_t (by assumption) | with_reducible exact wntF_f (by assumption) | with_reducible exact wnt_tt | with_reducible exact wnt_tf | with_reducible exact wnt_ft | with_reducible exact wnt_ff | with_reducible exact wnt_u _ _ | with_reducible exact pck_t _ _ | with_reducible exact pck_f _ _ | with_reducible exact pckT (by assumption) | with_reducible exact pckF (by assumption) | with_reducible exact wntT_t (by decide) | with_reducible exact wntT_f (by decide) | with_reducible exact wntF_t (by decide) | with_reducible exact wntF_f (by decide) | with_reducible exact pckT (by decide) | with_reducible exact pckF (by decide) | with_reducible exact wntN_tt (by assumption) | with_reducible exact wntN_tf (by assumption) | with_reducible exact wntN_ft (by assumption) | with_reducible exact wntN_ff (by assumption) | with_reducible exact pckNT (by assumption) | with_reducible exact pckNF (by assumption) | with_reducible exact wntB_tt (by assumption) | with_reducible exact wntB_tf (by assumption) | with_reducible exact wntB_ft (by assumption) | with_reducible exact wntB_ff (by assumption) | with_reducible exact pckBT (by assumption) | with_reducible exact pckBF (by assumption) | exact s2_Sa | exact s1_Sa) : p := h
theorem co_Sa {p : Prop} (h : p := by first | (simp only [impB_1, impB_0, offB_1, offB_0]; done) | ((try simp only [impB_1, impB_0, offB_1, offB_0]); first | with_reducible exact Sl.ag1 (by assumption) fr_Sa (by with_unfolding_all rfl) (by assumption) en_Sa | with_reducible exact Sl.agN (by assumption) fr_Sa (by with_unfolding_all rfl) (by assumption) (by with_unfolding_all rfl) en_Sa | ((with_reducible refine agL1_e ?_ ?_); (· exact s1_Sa); (· exact fl_Sa)) | ((with_reducible refine agLN_e ?_ ?_); (· exact s1_Sa); (· exact fll_Sa)) | ((with_reducible apply ag_bs); (· exact sM_Sa); (· rfl); (· exact sb_Sa); (· exact fll_Sa)) | ((with_reducible apply ag_al); (· exact sM_Sa); (· rfl); (· exact fll_Sa)) | ((with_reducible apply ag_bx); (· exact sM_Sa); (· rfl); (· rfl); (· exact fll_Sa)) | ((with_reducible apply ag_bd); (· rfl); (· exact s1_Sa); (· exact fll_Sa)) | exact s1_Sa)) : p := h
theorem gs_Sa {r p : Prop} (k : r) (h : Go.Ev.Im r p := by (first | with_reducible apply Im.runS | ((with_reducible apply Im.num); · (simp only [Nat.succ_eq_add_one, Nat.add_assoc, Nat.reduceAdd]; rfl)) | (with_reducible apply Im.unm) | (with_reducible apply Im.selT) | (with_reducible apply Im.selF) | ((with_reducible apply Im.cndT); · assumption) | ((with_reducible apply Im.cndF); · assumption) | ((with_reducible apply Im.cndT); · decide) | ((with_reducible apply Im.cndF); · decide) | ((with_reducible apply Im.cndBT); · exact rfl) | ((with_reducible apply Im.cndBF); · exact rfl) | ((with_reducible apply Im.cndNT); · assumption) | ((with_reducible apply Im.cndNF); · assumption) | ((with_reducible apply Im.cndBT); · assumption) | ((with_reducible apply Im.cndBF); · assumption) | ((with_reducible apply Im.bind); · exact op_Sa) | ((with_reducible apply Im.cond); · exact co_Sa) | ((with_reducible apply Im.runB); · exact op_Sa) | ((with_reducible apply Im.runC); · exact co_Sa) | ((with_reducible apply Im.runN); · (simp only [Nat.succ_eq_add_one, Nat.add_assoc, Nat.reduceAdd]; rfl)) | with_reducible apply Im.runR | ((with_reducible apply Im.runE (x := evBuildSlice _ _ _ _ _ _)); · exact sb_Sa)); (repeat (first | with_reducible apply Im.runS | ((with_reducible apply Im.num); · (simp only [Nat.succ_eq_add_one, Nat.add_assoc, Nat.reduceAdd]; rfl)) | (with_reducible apply Im.unm) | (with_reducible apply Im.selT) | (with_reducible apply Im.selF) | ((with_reducible apply Im.cndT); · assumption) | ((with_reducible apply Im.cndF); · assumption) | ((with_reducible apply Im.cndT); · decide) | ((with_reducible apply Im.cndF); · decide) | ((with_reducible apply Im.cndBT); · exact rfl) | ((with_reducible apply Im.cndBF); · exact rfl) | ((with_reducible apply Im.cndNT); · assumption) | ((with_reducible apply Im.cndNF); · assumption) | ((with_reducible apply Im.cndBT); · assumption) | ((with_reducible apply Im.cndBF); · assumption) | ((with_reducible apply Im.bind); · exact op_Sa) | ((with_reducible apply Im.cond); · exact co_Sa) | ((with_reducible apply Im.runB); · exact op_Sa) | ((with_reducible apply Im.runC); · exact co_Sa) | ((with_reducible apply Im.runN); · (simp only [Nat.succ_eq_add_one, Nat.add_assoc, Nat.reduceAdd]; rfl)) | with_reducible apply Im.runR | ((with_reducible apply Im.runE (x := evBuildSlice _ _ _ _ _ _)); · exact sb_Sa))); exact Go.Ev.Im.id) : p := h k
def inL (lo hi : Int) (L : List Int) : Bool := L.all fun x => decide (lo ≤ x ∧ x ≤ hi)
theorem inS_d (lo hi n : Int) : inS lo hi n = decide (lo ≤ n ∧ n ≤ hi) := by
  unfold inS; rw [Bool.decide_and]
theorem inL1 (lo hi x : Int) : inL lo hi [x] = inS lo hi x := by simp [inL, inS_d]
theorem inL2 (lo hi x y : Int) : inL lo hi [x, y] = (inS lo hi x && inS lo hi y) := by simp [inL, inS_d]
theorem c_span (call : CallF) {a b : Int} {h N} : Rn (s63 call (iS a) (iS b) h N) fun v h' N' => v = .agg ⟨[iS a, iS b]⟩ ∧ Gw h N h' N' := by
  unfold s63
  simp only [bld_Span]
  try refine gs_Sa ?_
  exact Rn.ret ⟨rfl, (Gw.of fr_Sa (by omega))⟩
theorem c_within (call : CallF) {a b : Int} {v : Value} {L : List Int} {h N} (hl : L.length < 1000) (hs : Sl h N v L) : Rn (s115 call (.agg ⟨[iS a, iS b]⟩) v h N) fun v h' N' => v = .bool (inL a b L) ∧ Gw h N h' N' := by
  unfold s115
  try refine gs_Sa ?_
  refine Rn.loop4 (fun n p u l k g M => ∃ i : Nat, p = .pointer (some ⟨N, 0, none⟩) ∧ u = v ∧ l = nS L.length ∧ k = nS i ∧ i + n = L.length ∧ Fr h N g ∧ N + 1 ≤ M ∧ g.get N = some (.c [iS a, iS b] 23) ∧ inL a b (L.drop i) = inL a b L) L.length (by omega) ⟨0, rfl, rfl, rfl, rfl, by omega, fr_Sa, by omega, sS_Sa, rfl⟩ ?_
  rintro n g ih _ _ _ _ h1 N1 ⟨i, rfl, rfl, rfl, rfl, e1, f1, l1, g1, q1⟩
  try refine gs_Sa ?_
  (first | with_reducible refine Rn.cnd (fun _ => ?_) (fun _ => ?_) | with_reducible refine Rn.cndN (fun _ => ?_) (fun _ => ?_) | with_reducible refine Rn.cndB (fun _ => ?_) (fun _ => ?_))
  · obtain ⟨x, hx⟩ := at_of (L := L) (k := i) (by omega)
    rw [drop_at hx] at q1
    try refine gs_Sa ?_
    repeat' (first | (refine gs_Sa ?_) | (first | with_reducible refine Rn.part (fun _ => ?_) (fun _ => ?_) | with_reducible refine Rn.partN (fun _ => ?_) (fun _ => ?_) | with_reducible refine Rn.partB (fun _ => ?_) (fun _ => ?_)) | (first | with_reducible refine Rn.cnd (fun _ => ?_) (fun _ => ?_) | with_reducible refine Rn.cndN (fun _ => ?_) (fun _ => ?_) | with_reducible refine Rn.cndB (fun _ => ?_) (fun _ => ?_)))
    · exact Rn.ret ⟨by rw [← q1]; simp only [inL, List.all_cons]; rw [decide_eq_false (by omega)]; rfl, (Gw.of fr_Sa (by omega))⟩
    · exact Rn.ret ⟨by rw [← q1]; simp only [inL, List.all_cons]; rw [decide_eq_false (by omega)]; rfl, (Gw.of fr_Sa (by omega))⟩
    · refine ih (n - 1) (by omega) _ _ _ _ _ _ ⟨i + 1, rfl, rfl, rfl, rfl, by omega, fr_Sa, by omega, sS_Sa, ?_⟩
      rw [← q1]; simp only [inL, List.all_cons]; rw [decide_eq_true (by omega)]; rfl
  · try refine gs_Sa ?_
    exact Rn.ret ⟨by rw [← q1, List.drop_eq_nil_of_le (by omega)]; rfl, (Gw.of fr_Sa (by omega))⟩
theorem c_within1 (call : CallF) {a b x : Int} {v : Value} {h N} (hs : Sl h N v [x]) : Rn (s115 call (.agg ⟨[iS a, iS b]⟩) v h N) fun v h' N' => v = .bool (inS a b x) ∧ Gw h N h' N' := by
  rw [← inL1]; exact c_within call (by simp) hs
theorem c_within2 (call : CallF) {a b x y : Int} {v : Value} {h N} (hs : Sl h N v [x, y]) : Rn (s115 call (.agg ⟨[iS a, iS b]⟩) v h N) fun v h' N' => v = .bool (inS a b x && inS a b y) ∧ Gw h N h' N' := by
  rw [← inL2]; exact c_within call (by simp) hs
theorem c_isSpan (call : CallF) {a b c d : Int} {h N} : Rn (s127 call (.agg ⟨[iS a, iS b]⟩) (.agg ⟨[iS c, iS d]⟩) h N) fun v h' N' => v = .bool (isSpanB a b c d) ∧ Gw h N h' N' := by
  unfold s127
  repeat' (first | refine gs_Sa ?_ | (first | with_reducible refine Rn.part (fun _ => ?_) (fun _ => ?_) | with_reducible refine Rn.partN (fun _ => ?_) (fun _ => ?_) | with_reducible refine Rn.partB (fun _ => ?_) (fun _ => ?_)) | (first | with_reducible refine Rn.cnd (fun _ => ?_) (fun _ => ?_) | with_reducible refine Rn.cndN (fun _ => ?_) (fun _ => ?_) | with_reducible refine Rn.cndB (fun _ => ?_) (fun _ => ?_)))
  · refine Rn.call (c_within2 call (x := a) (y := b) (Sl.lit _ sM_Sa (by omega) rfl rfl)) ?_
    rintro _ h2 N2 ⟨rfl, f2, o2, l2⟩
    try refine gs_Sa ?_
    exact Rn.ret ⟨congrArg Value.bool (by unfold isSpanB; rw [decide_eq_true (by omega)]; rfl), (Gw.of fr_Sa (by omega))⟩
  · exact Rn.ret ⟨congrArg Value.bool (by unfold isSpanB; rw [decide_eq_false (by omega)]; rfl), (Gw.of fr_Sa (by omega))⟩
section
variable {s : Sp} {b r : Value}
theorem c_isWeek (call : CallF) {k : Int} {h N} (hw : -1000000000 ≤ s.weeks ∧ s.weeks ≤ 1000000000) (cb : flatV b = true) (cr : flatV r = true) : Rn (s113 call (.agg ⟨[iS s.weeks, iS s.most, iS s.fall, iS s.slo, iS s.shi, iS s.wlo, iS s.whi, b, r]⟩) (iS k) h N) fun v h' N' => v = .bool (isWeekB s.weeks k) ∧ Gw h N h' N' := by
  unfold s113
  try refine gs_Sa ?_
  refine Rn.call (c_span call) ?_
  rintro _ h1 N1 ⟨rfl, f1, o1, l1⟩
  try refine gs_Sa ?_
  refine Rn.call (c_within1 call (x := k) (Sl.lit _ sM_Sa (by omega) rfl rfl)) ?_
  rintro _ h2 N2 ⟨rfl, f2, o2, l2⟩
  try refine gs_Sa ?_
  exact Rn.ret ⟨rfl, (Gw.of fr_Sa (by omega))⟩
theorem c_validFrame (call : CallF) {h N} (cb : flatV b = true) (cr : flatV r = true) : Rn (s124 call (.agg ⟨[iS s.weeks, iS s.most, iS s.fall, iS s.slo, iS s.shi, iS s.wlo, iS s.whi, b, r]⟩) h N) fun v h' N' => v = .bool (frameB s) ∧ Gw h N h' N' := by
  unfold s124
  have x1 := flatV_one cb; have y1 := cel_flat cb; have x2 := flatV_one cr; have y2 := cel_flat cr
  try refine gs_Sa ?_
  refine Rn.call (c_span call) ?_
  rintro _ h1 N1 ⟨rfl, f1, o1, l1⟩
  try refine gs_Sa ?_
  refine Rn.call (c_within1 call (x := s.weeks) (Sl.lit _ sM_Sa (by omega) rfl rfl)) ?_
  rintro _ h2 N2 ⟨rfl, f2, o2, l2⟩
  repeat' (first | refine gs_Sa ?_ | (first | with_reducible refine Rn.part (fun _ => ?_) (fun _ => ?_) | with_reducible refine Rn.partN (fun _ => ?_) (fun _ => ?_) | with_reducible refine Rn.partB (fun _ => ?_) (fun _ => ?_)) | (first | with_reducible refine Rn.cnd (fun _ => ?_) (fun _ => ?_) | with_reducible refine Rn.cndN (fun _ => ?_) (fun _ => ?_) | with_reducible refine Rn.cndB (fun _ => ?_) (fun _ => ?_)))
  rotate_left
  · exact Rn.ret ⟨congrArg Value.bool (by simp only [frameB, lineB, readB, *, Bool.and_true, Bool.true_and, Bool.false_and, Bool.and_false]), (Gw.of fr_Sa (by omega))⟩
  refine Rn.call (c_span call) ?_
  rintro _ h3 N3 ⟨rfl, f3, o3, l3⟩
  try refine gs_Sa ?_
  refine Rn.call (c_within2 call (x := s.most) (y := s.fall) (Sl.lit _ sM_Sa (by omega) rfl rfl)) ?_
  rintro _ h4 N4 ⟨rfl, f4, o4, l4⟩
  repeat' (first | refine gs_Sa ?_ | (first | with_reducible refine Rn.part (fun _ => ?_) (fun _ => ?_) | with_reducible refine Rn.partN (fun _ => ?_) (fun _ => ?_) | with_reducible refine Rn.partB (fun _ => ?_) (fun _ => ?_)) | (first | with_reducible refine Rn.cnd (fun _ => ?_) (fun _ => ?_) | with_reducible refine Rn.cndN (fun _ => ?_) (fun _ => ?_) | with_reducible refine Rn.cndB (fun _ => ?_) (fun _ => ?_)))
  rotate_left
  · exact Rn.ret ⟨congrArg Value.bool (by simp only [frameB, lineB, readB, *, Bool.and_true, Bool.true_and, Bool.false_and, Bool.and_false]), (Gw.of fr_Sa (by omega))⟩
  refine Rn.call (c_span call) ?_
  rintro _ h5 N5 ⟨rfl, f5, o5, l5⟩
  try refine gs_Sa ?_
  refine Rn.call (c_isSpan call) ?_
  rintro _ h6 N6 ⟨rfl, f6, o6, l6⟩
  repeat' (first | refine gs_Sa ?_ | (first | with_reducible refine Rn.part (fun _ => ?_) (fun _ => ?_) | with_reducible refine Rn.partN (fun _ => ?_) (fun _ => ?_) | with_reducible refine Rn.partB (fun _ => ?_) (fun _ => ?_)) | (first | with_reducible refine Rn.cnd (fun _ => ?_) (fun _ => ?_) | with_reducible refine Rn.cndN (fun _ => ?_) (fun _ => ?_) | with_reducible refine Rn.cndB (fun _ => ?_) (fun _ => ?_)))
  rotate_left
  · exact Rn.ret ⟨congrArg Value.bool (by simp only [frameB, lineB, readB, *, Bool.and_true, Bool.true_and, Bool.false_and, Bool.and_false]), (Gw.of fr_Sa (by omega))⟩
  refine Rn.call (c_span call) ?_
  rintro _ h7 N7 ⟨rfl, f7, o7, l7⟩
  try refine gs_Sa ?_
  refine Rn.call (c_isSpan call) ?_
  rintro _ h8 N8 ⟨rfl, f8, o8, l8⟩
  repeat' (first | refine gs_Sa ?_ | (first | with_reducible refine Rn.part (fun _ => ?_) (fun _ => ?_) | with_reducible refine Rn.partN (fun _ => ?_) (fun _ => ?_) | with_reducible refine Rn.partB (fun _ => ?_) (fun _ => ?_)) | (first | with_reducible refine Rn.cnd (fun _ => ?_) (fun _ => ?_) | with_reducible refine Rn.cndN (fun _ => ?_) (fun _ => ?_) | with_reducible refine Rn.cndB (fun _ => ?_) (fun _ => ?_)))
  exact Rn.ret ⟨congrArg Value.bool (by simp only [frameB, lineB, readB, *, Bool.and_true, Bool.true_and, Bool.false_and, Bool.and_false]), (Gw.of fr_Sa (by omega))⟩
theorem c_validLine (call : CallF) {x : Ln} {h N} (hw : -1000000000 ≤ s.weeks ∧ s.weeks ≤ 1000000000) (cb : flatV b = true) (cr : flatV r = true) : Rn (s130 call (.agg ⟨[iS s.weeks, iS s.most, iS s.fall, iS s.slo, iS s.shi, iS s.wlo, iS s.whi, b, r]⟩) (.agg ⟨Rwc.enc x⟩) h N) fun v h' N' => v = .bool (lineB s.weeks x) ∧ Gw h N h' N' := by
  unfold s130
  simp only [enc_Line]
  have x1 := flatV_one cb; have y1 := cel_flat cb; have x2 := flatV_one cr; have y2 := cel_flat cr
  try refine gs_Sa ?_
  refine Rn.call (c_span call) ?_
  rintro _ h1 N1 ⟨rfl, f1, o1, l1⟩
  try refine gs_Sa ?_
  refine Rn.call (c_isSpan call) ?_
  rintro _ h2 N2 ⟨rfl, f2, o2, l2⟩
  repeat' (first | refine gs_Sa ?_ | (first | with_reducible refine Rn.part (fun _ => ?_) (fun _ => ?_) | with_reducible refine Rn.partN (fun _ => ?_) (fun _ => ?_) | with_reducible refine Rn.partB (fun _ => ?_) (fun _ => ?_)) | (first | with_reducible refine Rn.cnd (fun _ => ?_) (fun _ => ?_) | with_reducible refine Rn.cndN (fun _ => ?_) (fun _ => ?_) | with_reducible refine Rn.cndB (fun _ => ?_) (fun _ => ?_)))
  rotate_left
  · exact Rn.ret ⟨congrArg Value.bool (by simp only [frameB, lineB, readB, *, Bool.and_true, Bool.true_and, Bool.false_and, Bool.and_false]), (Gw.of fr_Sa (by omega))⟩
  refine Rn.call (c_isWeek call hw cb cr) ?_
  rintro _ h3 N3 ⟨rfl, f3, o3, l3⟩
  repeat' (first | refine gs_Sa ?_ | (first | with_reducible refine Rn.part (fun _ => ?_) (fun _ => ?_) | with_reducible refine Rn.partN (fun _ => ?_) (fun _ => ?_) | with_reducible refine Rn.partB (fun _ => ?_) (fun _ => ?_)) | (first | with_reducible refine Rn.cnd (fun _ => ?_) (fun _ => ?_) | with_reducible refine Rn.cndN (fun _ => ?_) (fun _ => ?_) | with_reducible refine Rn.cndB (fun _ => ?_) (fun _ => ?_)))
  rotate_left
  · exact Rn.ret ⟨congrArg Value.bool (by simp only [frameB, lineB, readB, *, Bool.and_true, Bool.true_and, Bool.false_and, Bool.and_false]), (Gw.of fr_Sa (by omega))⟩
  refine Rn.call (c_span call) ?_
  rintro _ h5 N5 ⟨rfl, f5, o5, l5⟩
  try refine gs_Sa ?_
  refine Rn.call (c_isSpan call) ?_
  rintro _ h6 N6 ⟨rfl, f6, o6, l6⟩
  repeat' (first | refine gs_Sa ?_ | (first | with_reducible refine Rn.part (fun _ => ?_) (fun _ => ?_) | with_reducible refine Rn.partN (fun _ => ?_) (fun _ => ?_) | with_reducible refine Rn.partB (fun _ => ?_) (fun _ => ?_)) | (first | with_reducible refine Rn.cnd (fun _ => ?_) (fun _ => ?_) | with_reducible refine Rn.cndN (fun _ => ?_) (fun _ => ?_) | with_reducible refine Rn.cndB (fun _ => ?_) (fun _ => ?_)))
  exact Rn.ret ⟨congrArg Value.bool (by simp only [frameB, lineB, readB, *, Bool.and_true, Bool.true_and, Bool.false_and, Bool.and_false]), (Gw.of fr_Sa (by omega))⟩
theorem c_validReading (call : CallF) {x : Rd} {h N} (hw : -1000000000 ≤ s.weeks ∧ s.weeks ≤ 1000000000) (cb : flatV b = true) (cr : flatV r = true) : Rn (s117 call (.agg ⟨[iS s.weeks, iS s.most, iS s.fall, iS s.slo, iS s.shi, iS s.wlo, iS s.whi, b, r]⟩) (.agg ⟨Rwc.enc x⟩) h N) fun v h' N' => v = .bool (readB s.weeks x) ∧ Gw h N h' N' := by
  unfold s117
  simp only [enc_Reading]
  have x1 := flatV_one cb; have y1 := cel_flat cb; have x2 := flatV_one cr; have y2 := cel_flat cr
  try refine gs_Sa ?_
  refine Rn.call (c_span call) ?_
  rintro _ h1 N1 ⟨rfl, f1, o1, l1⟩
  try refine gs_Sa ?_
  refine Rn.call (c_within1 call (x := x.Number) (Sl.lit _ sM_Sa (by omega) rfl rfl)) ?_
  rintro _ h2 N2 ⟨rfl, f2, o2, l2⟩
  repeat' (first | refine gs_Sa ?_ | (first | with_reducible refine Rn.part (fun _ => ?_) (fun _ => ?_) | with_reducible refine Rn.partN (fun _ => ?_) (fun _ => ?_) | with_reducible refine Rn.partB (fun _ => ?_) (fun _ => ?_)) | (first | with_reducible refine Rn.cnd (fun _ => ?_) (fun _ => ?_) | with_reducible refine Rn.cndN (fun _ => ?_) (fun _ => ?_) | with_reducible refine Rn.cndB (fun _ => ?_) (fun _ => ?_)))
  rotate_left
  · exact Rn.ret ⟨congrArg Value.bool (by simp only [frameB, lineB, readB, *, Bool.and_true, Bool.true_and, Bool.false_and, Bool.and_false]), (Gw.of fr_Sa (by omega))⟩
  refine Rn.call (c_isWeek call hw cb cr) ?_
  rintro _ h3 N3 ⟨rfl, f3, o3, l3⟩
  repeat' (first | refine gs_Sa ?_ | (first | with_reducible refine Rn.part (fun _ => ?_) (fun _ => ?_) | with_reducible refine Rn.partN (fun _ => ?_) (fun _ => ?_) | with_reducible refine Rn.partB (fun _ => ?_) (fun _ => ?_)) | (first | with_reducible refine Rn.cnd (fun _ => ?_) (fun _ => ?_) | with_reducible refine Rn.cndN (fun _ => ?_) (fun _ => ?_) | with_reducible refine Rn.cndB (fun _ => ?_) (fun _ => ?_)))
  rotate_left
  · exact Rn.ret ⟨congrArg Value.bool (by simp only [frameB, lineB, readB, *, Bool.and_true, Bool.true_and, Bool.false_and, Bool.and_false]), (Gw.of fr_Sa (by omega))⟩
  refine Rn.call (c_span call) ?_
  rintro _ h5 N5 ⟨rfl, f5, o5, l5⟩
  try refine gs_Sa ?_
  refine Rn.call (c_within1 call (x := x.Bucket) (Sl.lit _ sM_Sa (by omega) rfl rfl)) ?_
  rintro _ h6 N6 ⟨rfl, f6, o6, l6⟩
  repeat' (first | refine gs_Sa ?_ | (first | with_reducible refine Rn.part (fun _ => ?_) (fun _ => ?_) | with_reducible refine Rn.partN (fun _ => ?_) (fun _ => ?_) | with_reducible refine Rn.partB (fun _ => ?_) (fun _ => ?_)) | (first | with_reducible refine Rn.cnd (fun _ => ?_) (fun _ => ?_) | with_reducible refine Rn.cndN (fun _ => ?_) (fun _ => ?_) | with_reducible refine Rn.cndB (fun _ => ?_) (fun _ => ?_)))
  rotate_left
  · exact Rn.ret ⟨congrArg Value.bool (by simp only [frameB, lineB, readB, *, Bool.and_true, Bool.true_and, Bool.false_and, Bool.and_false]), (Gw.of fr_Sa (by omega))⟩
  refine Rn.call (c_span call) ?_
  rintro _ h7 N7 ⟨rfl, f7, o7, l7⟩
  try refine gs_Sa ?_
  refine Rn.call (c_isSpan call) ?_
  rintro _ h8 N8 ⟨rfl, f8, o8, l8⟩
  repeat' (first | refine gs_Sa ?_ | (first | with_reducible refine Rn.part (fun _ => ?_) (fun _ => ?_) | with_reducible refine Rn.partN (fun _ => ?_) (fun _ => ?_) | with_reducible refine Rn.partB (fun _ => ?_) (fun _ => ?_)) | (first | with_reducible refine Rn.cnd (fun _ => ?_) (fun _ => ?_) | with_reducible refine Rn.cndN (fun _ => ?_) (fun _ => ?_) | with_reducible refine Rn.cndB (fun _ => ?_) (fun _ => ?_)))
  · exact Rn.ret ⟨congrArg Value.bool (by simp only [frameB, lineB, readB, *, Bool.and_true, Bool.true_and, Bool.false_and, Bool.and_false]), (Gw.of fr_Sa (by omega))⟩
  · exact Rn.ret ⟨congrArg Value.bool (by simp only [frameB, lineB, readB, *, Bool.and_true, Bool.true_and, Bool.false_and, Bool.and_false]), (Gw.of fr_Sa (by omega))⟩
theorem c_validBook (call : CallF) {h N} (hw : -1000000000 ≤ s.weeks ∧ s.weeks ≤ 1000000000) (nb : s.book.length < 1000) (hb : Sl h N b s.book) (cr : flatV r = true) : Rn (s125 call (.agg ⟨[iS s.weeks, iS s.most, iS s.fall, iS s.slo, iS s.shi, iS s.wlo, iS s.whi, b, r]⟩) h N) fun v h' N' => v = .bool (bookB s.weeks s.book) ∧ Gw h N h' N' := by
  unfold s125
  have cb := hb.flat
  have x1 := flatV_one cb; have y1 := cel_flat cb; have x2 := flatV_one cr; have y2 := cel_flat cr
  try refine gs_Sa ?_
  (first | with_reducible refine Rn.cnd (fun _ => ?_) (fun _ => ?_) | with_reducible refine Rn.cndN (fun _ => ?_) (fun _ => ?_) | with_reducible refine Rn.cndB (fun _ => ?_) (fun _ => ?_))
  · try refine gs_Sa ?_
    exact Rn.ret ⟨congrArg Value.bool (by unfold bookB; rw [decide_eq_false (by omega)]; rfl), (Gw.of fr_Sa (by omega))⟩
  have e2 : bookB s.weeks s.book = s.book.all (lineB s.weeks) := by unfold bookB; rw [decide_eq_true (by omega)]; rfl
  rw [e2]
  try refine gs_Sa ?_
  refine Rn.loop4 (fun n p u l k g M => ∃ i : Nat, p = .pointer (some ⟨N, 0, none⟩) ∧ u = b ∧ l = nS s.book.length ∧ k = nS i ∧ i + n = s.book.length ∧ Fr h N g ∧ N + 1 ≤ M ∧ g.get N = some (.c [iS s.weeks, iS s.most, iS s.fall, iS s.slo, iS s.shi, iS s.wlo, iS s.whi, b, r] 27) ∧ (s.book.drop i).all (lineB s.weeks) = s.book.all (lineB s.weeks)) s.book.length (by omega) ⟨0, rfl, rfl, rfl, rfl, by omega, fr_Sa, by omega, sS_Sa, rfl⟩ ?_
  rintro n g ih _ _ _ _ h1 N1 ⟨i, rfl, rfl, rfl, rfl, e1, f1, l1, g1, q1⟩
  try refine gs_Sa ?_
  (first | with_reducible refine Rn.cnd (fun _ => ?_) (fun _ => ?_) | with_reducible refine Rn.cndN (fun _ => ?_) (fun _ => ?_) | with_reducible refine Rn.cndB (fun _ => ?_) (fun _ => ?_))
  · obtain ⟨x, hx⟩ := at_of (L := s.book) (k := i) (by omega)
    rw [drop_at hx] at q1
    simp only [List.all_cons] at q1
    try refine gs_Sa ?_
    refine Rn.call (c_validLine call (x := x) hw cb cr) ?_
    rintro _ h2 N2 ⟨rfl, f2, o2, l2⟩
    repeat' (first | refine gs_Sa ?_ | (first | with_reducible refine Rn.part (fun _ => ?_) (fun _ => ?_) | with_reducible refine Rn.partN (fun _ => ?_) (fun _ => ?_) | with_reducible refine Rn.partB (fun _ => ?_) (fun _ => ?_)) | (first | with_reducible refine Rn.cnd (fun _ => ?_) (fun _ => ?_) | with_reducible refine Rn.cndN (fun _ => ?_) (fun _ => ?_) | with_reducible refine Rn.cndB (fun _ => ?_) (fun _ => ?_)))
    · rw [‹lineB s.weeks x = false›] at q1
      exact Rn.ret ⟨congrArg Value.bool q1, (Gw.of fr_Sa (by omega))⟩
    · rw [‹lineB s.weeks x = true›] at q1
      exact ih (n - 1) (by omega) _ _ _ _ _ _ ⟨i + 1, rfl, rfl, rfl, rfl, by omega, fr_Sa, by omega, sS_Sa, q1⟩
  · try refine gs_Sa ?_
    rw [List.drop_eq_nil_of_le (by omega)] at q1
    exact Rn.ret ⟨congrArg Value.bool q1, (Gw.of fr_Sa (by omega))⟩
end
end Go.Proofs.Ytpilgokdbliklaa
end

section
namespace Go.Proofs.Ytpilgokdbliklaa
open Go.Ev Go.RowKit
set_option linter.unusedVariables false
set_option linter.unusedSimpArgs false
set_option linter.unusedSectionVars false
set_option maxRecDepth 100000
set_option maxHeartbeats 4000000
section
variable {s : Sp} {b r : Value}
theorem c_validReadings (call : CallF) {h N} (hw : -1000000000 ≤ s.weeks ∧ s.weeks ≤ 1000000000) (nr : s.reads.length < 1000) (cb : flatV b = true) (hr : Sl h N r s.reads) : Rn (s126 call (.agg ⟨[iS s.weeks, iS s.most, iS s.fall, iS s.slo, iS s.shi, iS s.wlo, iS s.whi, b, r]⟩) h N) fun v h' N' => v = .bool (readsB s.weeks s.reads) ∧ Gw h N h' N' := by
  unfold s126
  have cr := hr.flat
  have x1 := flatV_one cb; have y1 := cel_flat cb; have x2 := flatV_one cr; have y2 := cel_flat cr
  try refine gs_Sa ?_
  (first | with_reducible refine Rn.cnd (fun _ => ?_) (fun _ => ?_) | with_reducible refine Rn.cndN (fun _ => ?_) (fun _ => ?_) | with_reducible refine Rn.cndB (fun _ => ?_) (fun _ => ?_))
  · try refine gs_Sa ?_
    exact Rn.ret ⟨congrArg Value.bool (by unfold readsB; rw [decide_eq_false (by omega)]; rfl), (Gw.of fr_Sa (by omega))⟩
  have e2 : readsB s.weeks s.reads = rdsB s.weeks 0 s.reads := by unfold readsB; rw [decide_eq_true (by omega)]; rfl
  rw [e2]
  try refine gs_Sa ?_
  refine Rn.loop5 (fun n p z u l k g M => ∃ (i : Nat) (y : Int), p = .pointer (some ⟨N, 0, none⟩) ∧ z = iS y ∧ u = r ∧ l = nS s.reads.length ∧ k = nS i ∧ i + n = s.reads.length ∧ Fr h N g ∧ N + 1 ≤ M ∧ g.get N = some (.c [iS s.weeks, iS s.most, iS s.fall, iS s.slo, iS s.shi, iS s.wlo, iS s.whi, b, r] 27) ∧ rdsB s.weeks y (s.reads.drop i) = rdsB s.weeks 0 s.reads) s.reads.length (by omega) ⟨0, 0, rfl, rfl, rfl, rfl, rfl, by omega, fr_Sa, by omega, sS_Sa, rfl⟩ ?_
  rintro n g ih _ _ _ _ _ h1 N1 ⟨i, y, rfl, rfl, rfl, rfl, rfl, e1, f1, l1, g1, q1⟩
  try refine gs_Sa ?_
  (first | with_reducible refine Rn.cnd (fun _ => ?_) (fun _ => ?_) | with_reducible refine Rn.cndN (fun _ => ?_) (fun _ => ?_) | with_reducible refine Rn.cndB (fun _ => ?_) (fun _ => ?_))
  · obtain ⟨x, hx⟩ := at_of (L := s.reads) (k := i) (by omega)
    rw [drop_at hx] at q1
    simp only [rdsB] at q1
    repeat' (first | refine gs_Sa ?_ | (first | with_reducible refine Rn.part (fun _ => ?_) (fun _ => ?_) | with_reducible refine Rn.partN (fun _ => ?_) (fun _ => ?_) | with_reducible refine Rn.partB (fun _ => ?_) (fun _ => ?_)) | (first | with_reducible refine Rn.cnd (fun _ => ?_) (fun _ => ?_) | with_reducible refine Rn.cndN (fun _ => ?_) (fun _ => ?_) | with_reducible refine Rn.cndB (fun _ => ?_) (fun _ => ?_)))
    · rw [show decide (y < x.Number) = false from decide_eq_false (by omega)] at q1
      exact Rn.ret ⟨congrArg Value.bool q1, (Gw.of fr_Sa (by omega))⟩
    rw [show decide (y < x.Number) = true from decide_eq_true (by omega)] at q1
    simp only [Bool.true_and] at q1
    refine Rn.call (c_validReading call (x := x) hw cb cr) ?_
    rintro _ h2 N2 ⟨rfl, f2, o2, l2⟩
    repeat' (first | refine gs_Sa ?_ | (first | with_reducible refine Rn.part (fun _ => ?_) (fun _ => ?_) | with_reducible refine Rn.partN (fun _ => ?_) (fun _ => ?_) | with_reducible refine Rn.partB (fun _ => ?_) (fun _ => ?_)) | (first | with_reducible refine Rn.cnd (fun _ => ?_) (fun _ => ?_) | with_reducible refine Rn.cndN (fun _ => ?_) (fun _ => ?_) | with_reducible refine Rn.cndB (fun _ => ?_) (fun _ => ?_)))
    · rw [‹readB s.weeks x = false›] at q1
      exact Rn.ret ⟨congrArg Value.bool q1, (Gw.of fr_Sa (by omega))⟩
    · rw [‹readB s.weeks x = true›] at q1
      exact ih (n - 1) (by omega) _ _ _ _ _ _ _ ⟨i + 1, x.Number, rfl, rfl, rfl, rfl, rfl, by omega, fr_Sa, by omega, sS_Sa, q1⟩
  · try refine gs_Sa ?_
    rw [List.drop_eq_nil_of_le (by omega)] at q1
    exact Rn.ret ⟨congrArg Value.bool q1, (Gw.of fr_Sa (by omega))⟩
theorem frame_weeks {s : Sp} (h : frameB s = true) : 1 ≤ s.weeks ∧ s.weeks ≤ 10 := by simp [frameB, inS] at h; omega
theorem c_valid (call : CallF) {h N} (nb : s.book.length < 1000) (nr : s.reads.length < 1000) (hb : Sl h N b s.book) (hr : Sl h N r s.reads) : Rn (s111 call (.agg ⟨[iS s.weeks, iS s.most, iS s.fall, iS s.slo, iS s.shi, iS s.wlo, iS s.whi, b, r]⟩) h N) fun v h' N' => v = .bool (validB s) ∧ Gw h N h' N' := by
  unfold s111
  have cb := hb.flat
  have cr := hr.flat
  have x1 := flatV_one cb; have y1 := cel_flat cb; have x2 := flatV_one cr; have y2 := cel_flat cr
  try refine gs_Sa ?_
  refine Rn.call (c_validFrame call cb cr) ?_
  rintro _ h1 N1 ⟨rfl, f1, o1, l1⟩
  repeat' (first | refine gs_Sa ?_ | (first | with_reducible refine Rn.part (fun _ => ?_) (fun _ => ?_) | with_reducible refine Rn.partN (fun _ => ?_) (fun _ => ?_) | with_reducible refine Rn.partB (fun _ => ?_) (fun _ => ?_)) | (first | with_reducible refine Rn.cnd (fun _ => ?_) (fun _ => ?_) | with_reducible refine Rn.cndN (fun _ => ?_) (fun _ => ?_) | with_reducible refine Rn.cndB (fun _ => ?_) (fun _ => ?_)))
  rotate_left
  · exact Rn.ret ⟨congrArg Value.bool (by simp only [validB, *, Bool.false_and]), (Gw.of fr_Sa (by omega))⟩
  have hw := frame_weeks ‹frameB s = true›
  refine Rn.call (c_validBook call (by omega) nb (Sl.up (by assumption) fr_Sa (by omega)) cr) ?_
  rintro _ h2 N2 ⟨rfl, f2, o2, l2⟩
  repeat' (first | refine gs_Sa ?_ | (first | with_reducible refine Rn.part (fun _ => ?_) (fun _ => ?_) | with_reducible refine Rn.partN (fun _ => ?_) (fun _ => ?_) | with_reducible refine Rn.partB (fun _ => ?_) (fun _ => ?_)) | (first | with_reducible refine Rn.cnd (fun _ => ?_) (fun _ => ?_) | with_reducible refine Rn.cndN (fun _ => ?_) (fun _ => ?_) | with_reducible refine Rn.cndB (fun _ => ?_) (fun _ => ?_)))
  rotate_left
  · exact Rn.ret ⟨congrArg Value.bool (by simp only [validB, *, Bool.false_and, Bool.and_false]), (Gw.of fr_Sa (by omega))⟩
  refine Rn.call (c_validReadings call (by omega) nr cb (Sl.up (by assumption) fr_Sa (by omega))) ?_
  rintro _ h3 N3 ⟨rfl, f3, o3, l3⟩
  repeat' (first | refine gs_Sa ?_ | (first | with_reducible refine Rn.part (fun _ => ?_) (fun _ => ?_) | with_reducible refine Rn.partN (fun _ => ?_) (fun _ => ?_) | with_reducible refine Rn.partB (fun _ => ?_) (fun _ => ?_)) | (first | with_reducible refine Rn.cnd (fun _ => ?_) (fun _ => ?_) | with_reducible refine Rn.cndN (fun _ => ?_) (fun _ => ?_) | with_reducible refine Rn.cndB (fun _ => ?_) (fun _ => ?_)))
  exact Rn.ret ⟨congrArg Value.bool (by simp only [validB, *, Bool.true_and]), (Gw.of fr_Sa (by omega))⟩
end
theorem c_dividedUp (call : CallF) {a c : Int} {h N} (h1 : 0 ≤ a ∧ a ≤ 1000000000) (h2 : 1 ≤ c ∧ c ≤ 1000000000) : Rn (s64 call (iS a) (iS c) h N) fun v h' N' => v = iS (upS a c) ∧ Gw h N h' N' := by
  unfold s64
  try refine gs_Sa ?_
  exact Rn.ret ⟨rfl, (Gw.of fr_Sa (by omega))⟩
theorem c_both (call : CallF) {a c d e : Int} {h N} : Rn (s121 call (.agg ⟨[iS a, iS c]⟩) (.agg ⟨[iS d, iS e]⟩) h N) fun v h' N' => v = .agg ⟨[iS (max a d), iS (min c e)]⟩ ∧ Gw h N h' N' := by
  unfold s121
  try refine gs_Sa ?_
  refine Rn.call (c_span call) ?_
  rintro _ h2 N2 ⟨rfl, f2, o2, l2⟩
  try refine gs_Sa ?_
  exact Rn.ret ⟨rfl, (Gw.of fr_Sa (by omega))⟩
section
variable {s : Sp} {b r : Value}
theorem c_told (call : CallF) {x : Rd} {h N} (ho : Ok s) (hx : OkR s x) (cb : flatV b = true) (cr : flatV r = true) : Rn (s85 call (.agg ⟨[iS s.weeks, iS s.most, iS s.fall, iS s.slo, iS s.shi, iS s.wlo, iS s.whi, b, r]⟩) (.agg ⟨Rwc.enc x⟩) h N) fun v h' N' => v = .agg ⟨[iS (toldB s x).1, iS (toldB s x).2]⟩ ∧ Gw h N h' N' := by
  have htb := told_bd ho hx
  obtain ⟨w1, w2, m1, m2, p1, p2, a1, a2, a3, v1, v2, v3⟩ := ho
  obtain ⟨n1, n2, k1, k2, b1, b2, l1, l2, l3, l4⟩ := hx
  have hp1 := mul_bd (a := x.Songs_Hi) (b := s.shi) (by omega) l3 (by omega) a3
  have hp2 := mul_pos' (a := x.Songs_Hi) (b := s.shi) (by omega) (by omega)
  have hp3 := mul_bd (a := x.Songs_Lo) (b := s.slo) (m := 99) (n := 600) l1 (by omega) (by omega) (by omega)
  unfold s85
  simp only [enc_Reading]
  have x1 := flatV_one cb; have y1 := cel_flat cb; have x2 := flatV_one cr; have y2 := cel_flat cr
  try refine gs_Sa ?_
  refine Rn.call (c_dividedUp call (by omega) (by omega)) ?_
  rintro _ h2 N2 ⟨rfl, f2, o2, l2⟩
  try refine gs_Sa ?_
  refine Rn.call (c_span call) ?_
  rintro _ h3 N3 ⟨rfl, f3, o3, l3⟩
  try refine gs_Sa ?_
  unfold jnR
  (first | with_reducible refine Rn.cnd (fun _ => ?_) (fun _ => ?_) | with_reducible refine Rn.cndN (fun _ => ?_) (fun _ => ?_) | with_reducible refine Rn.cndB (fun _ => ?_) (fun _ => ?_))
  · try refine gs_Sa ?_
    refine Rn.ret ⟨?_, (Gw.of fr_Sa (by omega))⟩
    simp only [toldB]; rw [if_pos (by assumption)]
  · try refine gs_Sa ?_
    refine Rn.ret ⟨?_, (Gw.of fr_Sa (by omega))⟩
    simp only [toldB]; rw [if_neg (by assumption)]
end
end Go.Proofs.Ytpilgokdbliklaa
end

section
namespace Go.Proofs.Ytpilgokdbliklaa
open Go.Ev Go.RowKit
set_option linter.unusedVariables false
set_option linter.unusedSimpArgs false
set_option linter.unusedSectionVars false
set_option maxRecDepth 100000
set_option maxHeartbeats 4000000
theorem s1_Sc {p : Prop} (h : p := by (simp (disch := omega) only [obind_s, orun_s, ocond_t, fad_p, ld1_e, ldN_e, sto_e, cellO_c, wrO_c, Tr.get_same, Tr.get_other, nth_0, nth_s, drp_0, drp_s, drp_n, tak_0, tak_s, tak_n, over_n, over_c, lay_0, lay_s, lay_n, len_n, len_c, app_n, app_c, reps_0, reps_s, cel_agg, cel_int, cel_bool, cel_str, cel_sl, cel_ptr, cel_map, cel_func, cel_nilf, fil_n, fil_c, beq_r, ble_d, allF_n, allF_c, one_int, one_bool, one_str, one_sl, one_ptr, one_map, one_func, one_nilf, Bool.and_true, Bool.true_and, Bool.not_true, Bool.not_false, iadA_z, Int.reduceToNat, Int.toNat_zero, fl1_a, flN_a, extr_t, unot, not_d, Nat.add_eq, Nat.mul_eq, Nat.mul_one, Nat.one_mul, Nat.zero_mul, Nat.reduceMul, Nat.zero_add, Nat.add_zero, Nat.le_refl, decide_true, Nat.reduceAdd, Nat.reduceLeDiff, bsl_Sint, bld_Span, bld_spring_work, bld_spring_asked, enc_Line, enc_Reading, ocond_d, Int.toNat_natCast, bd_drp0, bd_drp1, bd_lay, bd_len, bd_self, bd_tak, bd_over, qc_drp0, qc_drp1, setSt_e, stO_n, stO_s, isReady_r, anySt_t, unmark_e, unO_d, *]); first | done | fail) : p := h
theorem s2_Sc {p : Prop} (h : p := by (simp (disch := omega) only [obind_s, orun_s, ocond_t, fad_p, ld1_e, ldN_e, sto_e, cellO_c, wrO_c, Tr.get_same, Tr.get_other, nth_0, nth_s, drp_0, drp_s, drp_n, tak_0, tak_s, tak_n, over_n, over_c, lay_0, lay_s, lay_n, len_n, len_c, app_n, app_c, reps_0, reps_s, cel_agg, cel_int, cel_bool, cel_str, cel_sl, cel_ptr, cel_map, cel_func, cel_nilf, fil_n, fil_c, beq_r, ble_d, allF_n, allF_c, one_int, one_bool, one_str, one_sl, one_ptr, one_map, one_func, one_nilf, Bool.and_true, Bool.true_and, Bool.not_true, Bool.not_false, iadA_z, Int.reduceToNat, Int.toNat_zero, fl1_a, flN_a, extr_t, unot, not_d, Nat.add_eq, Nat.mul_eq, Nat.mul_one, Nat.one_mul, Nat.zero_mul, Nat.reduceMul, Nat.zero_add, Nat.add_zero, Nat.le_refl, decide_true, Nat.reduceAdd, Nat.reduceLeDiff, bsl_Sint, bld_Span, bld_spring_work, bld_spring_asked, enc_Line, enc_Reading, ocond_d, Int.toNat_natCast, bd_drp0, bd_drp1, bd_lay, bd_len, bd_self, bd_tak, bd_over, qc_drp0, qc_drp1, setSt_e, stO_n, stO_s, isReady_r, anySt_t, unmark_e, unO_d, *]); rfl) : p := h
theorem sb_Sc {p : Prop} (h : p := by first | ((simp (disch := omega) only [obind_s, orun_s, ocond_t, fad_p, ld1_e, ldN_e, sto_e, cellO_c, wrO_c, Tr.get_same, Tr.get_other, nth_0, nth_s, drp_0, drp_s, drp_n, tak_0, tak_s, tak_n, over_n, over_c, lay_0, lay_s, lay_n, len_n, len_c, app_n, app_c, reps_0, reps_s, cel_agg, cel_int, cel_bool, cel_str, cel_sl, cel_ptr, cel_map, cel_func, cel_nilf, fil_n, fil_c, beq_r, ble_d, allF_n, allF_c, one_int, one_bool, one_str, one_sl, one_ptr, one_map, one_func, one_nilf, Bool.and_true, Bool.true_and, Bool.not_true, Bool.not_false, iadA_z, Int.reduceToNat, Int.toNat_zero, fl1_a, flN_a, extr_t, unot, not_d, Nat.add_eq, Nat.mul_eq, Nat.mul_one, Nat.one_mul, Nat.zero_mul, Nat.reduceMul, Nat.zero_add, Nat.add_zero, Nat.le_refl, decide_true, Nat.reduceAdd, Nat.reduceLeDiff, bsl_Sint, bld_Span, bld_spring_work, bld_spring_asked, enc_Line, enc_Reading, ocond_d, Int.toNat_natCast, bd_drp0, bd_drp1, bd_lay, bd_len, bd_self, bd_tak, bd_over, qc_drp0, qc_drp1, setSt_e, stO_n, stO_s, isReady_r, anySt_t, unmark_e, unO_d, Nat.succ_eq_add_one, Nat.add_assoc, *]); rfl) | ((simp (disch := omega) only [obind_s, orun_s, ocond_t, fad_p, ld1_e, ldN_e, sto_e, cellO_c, wrO_c, Tr.get_same, Tr.get_other, nth_0, nth_s, drp_0, drp_s, drp_n, tak_0, tak_s, tak_n, over_n, over_c, lay_0, lay_s, lay_n, len_n, len_c, app_n, app_c, reps_0, reps_s, cel_agg, cel_int, cel_bool, cel_str, cel_sl, cel_ptr, cel_map, cel_func, cel_nilf, fil_n, fil_c, beq_r, ble_d, allF_n, allF_c, one_int, one_bool, one_str, one_sl, one_ptr, one_map, one_func, one_nilf, Bool.and_true, Bool.true_and, Bool.not_true, Bool.not_false, iadA_z, Int.reduceToNat, Int.toNat_zero, fl1_a, flN_a, extr_t, unot, not_d, Nat.add_eq, Nat.mul_eq, Nat.mul_one, Nat.one_mul, Nat.zero_mul, Nat.reduceMul, Nat.zero_add, Nat.add_zero, Nat.le_refl, decide_true, Nat.reduceAdd, Nat.reduceLeDiff, bsl_Sint, bld_Span, bld_spring_work, bld_spring_asked, enc_Line, enc_Reading, ocond_d, Int.toNat_natCast, bd_drp0, bd_drp1, bd_lay, bd_len, bd_self, bd_tak, bd_over, qc_drp0, qc_drp1, setSt_e, stO_n, stO_s, isReady_r, anySt_t, unmark_e, unO_d, Nat.succ_eq_add_one, Nat.add_assoc, *]); done)) : p := h
theorem fr_Sc {p : Prop} (h : p := by first | assumption | exact Fr.refl _ _ | (simp (disch := omega) only [Fr_set, Fr_refl, *])) : p := h
theorem fl_Sc {p : Prop} (h : p := by first | with_unfolding_all rfl | exact Sl.flat (by assumption) | assumption) : p := h
theorem fll_Sc {p : Prop} (h : p := by first | with_unfolding_all rfl | ((repeat (refine flatL_k fl_Sc ?_)); with_unfolding_all rfl)) : p := h
theorem en_Sc {p : Prop} (h : p := by first | ((simp only [enc_int, enc_str, enc_u8, enc_bool, tak_s, tak_0, tak_n, drp_0, drp_s, drp_n, nth_s, nth_0, bsl_Sint, bld_Span, bld_spring_work, bld_spring_asked, enc_Line, enc_Reading, ocond_d, Int.toNat_natCast, bd_drp0, bd_drp1, bd_lay, bd_len, bd_self, bd_tak, bd_over, qc_drp0, qc_drp1, setSt_e, stO_n, stO_s, isReady_r, anySt_t, unmark_e, unO_d]); rfl) | ((simp only [enc_int, enc_str, enc_u8, enc_bool, tak_s, tak_0, tak_n, drp_0, drp_s, drp_n, nth_s, nth_0, bsl_Sint, bld_Span, bld_spring_work, bld_spring_asked, enc_Line, enc_Reading, ocond_d, Int.toNat_natCast, bd_drp0, bd_drp1, bd_lay, bd_len, bd_self, bd_tak, bd_over, qc_drp0, qc_drp1, setSt_e, stO_n, stO_s, isReady_r, anySt_t, unmark_e, unO_d]); done) | with_unfolding_all rfl) : p := h
theorem sM_Sc {p : Prop} (h : p := by (first | assumption | (simp (disch := omega) only [Tr.get_same, Tr.get_other, *]; rfl) | (simp (disch := omega) only [Tr.get_same, Tr.get_other, *]; done))) : p := h
theorem sS_Sc {p : Prop} (h : p := by first | assumption | exact s1_Sc) : p := h
theorem sR_Sc {p : Prop} (h : p := by first | assumption | exact s1_Sc | exact s2_Sc | with_unfolding_all rfl) : p := h
theorem op_Sc {p : Prop} (h : p := by first | with_reducible exact fad_p _ _ _ | with_reducible exact iop_lss _ _ | with_reducible exact iop_leq _ _ | with_reducible exact iop_gtr _ _ | with_reducible exact iop_geq _ _ | with_reducible exact iop_eql _ _ | with_reducible exact iop_neq _ _ | with_reducible exact Sl.len (by assumption) | with_reducible exact lenS_s _ _ _ | with_reducible exact Sl.iad (by assumption) (by with_unfolding_all rfl) (by first | assumption | omega) | with_reducible exact Sl.fad (by assumption) (by first | assumption | omega) | with_reducible exact Sl.ld1 (by assumption) fr_Sc (by with_unfolding_all rfl) (by assumption) en_Sc | with_reducible exact Sl.ldN (by assumption) fr_Sc (by with_unfolding_all rfl) (by assumption) (by with_unfolding_all rfl) en_Sc | with_reducible exact zadd1 (by omega) | with_reducible exact zsub1 (by omega) (by omega) | with_reducible exact zaddI (by omega) (by omega) | with_reducible exact zsubI (by omega) (by omega) | with_reducible exact min_z | with_reducible exact max_z | with_reducible exact zmulI (by assumption) | with_reducible exact zmulK (by omega) (by omega) | with_reducible exact quo_z (by omega) (by omega) (by omega) | with_reducible exact cv_u8 (by omega) | with_reducible exact rem_z (by omega) (by omega) (by omega) | with_reducible exact neq_bool (by kernel_rfl) | with_reducible exact wntT_t (by assumption) | with_reducible exact wntT_f (by assumption) | with_reducible exact wntF_t (by assumption) | with_reducible exact wntF_f (by assumption) | with_reducible exact wnt_tt | with_reducible exact wnt_tf | with_reducible exact wnt_ft | with_reducible exact wnt_ff | with_reducible exact wnt_u _ _ | with_reducible exact pck_t _ _ | with_reducible exact pck_f _ _ | with_reducible exact pckT (by assumption) | with_reducible exact pckF (by assumption) | with_reducible exact wntT_t (by decide) | with_reducible exact wntT_f (by decide) | with_reducible exact wntF_t (by decide) | with_reducible exact wntF_f (by decide) | with_reducible exact pckT (by decide) | with_reducible exact pckF (by decide) | with_reducible exact wntN_tt (by assumption) | with_reducible exact wntN_tf (by assumption) | with_reducible exact wntN_ft (by assumption) | with_reducible exact wntN_ff (by assumption) | with_reducible exact pckNT (by assumption) | with_reducible exact pckNF (by assumption) | with_reducible exact wntB_tt (by assumption) | with_reducible exact wntB_tf (by assumption) | with_reducible exact wntB_ft (by assumption) | with_reducible exact wntB_ff (by assumption) | with_reducible exact pckBT (by assumption) | with_reducible exact pckBF (by assumption) | exact s2_Sc | exact s1_Sc) : p := h
theorem co_Sc {p : Prop} (h : p := by first | (simp only [impB_1, impB_0, offB_1, offB_0]; done) | ((try simp only [impB_1, impB_0, offB_1, offB_0]); first | with_reducible exact Sl.ag1 (by assumption) fr_Sc (by with_unfolding_all rfl) (by assumption) en_Sc | with_reducible exact Sl.agN (by assumption) fr_Sc (by with_unfolding_all rfl) (by assumption) (by with_unfolding_all rfl) en_Sc | ((with_reducible refine agL1_e ?_ ?_); (· exact s1_Sc); (· exact fl_Sc)) | ((with_reducible refine agLN_e ?_ ?_); (· exact s1_Sc); (· exact fll_Sc)) | ((with_reducible apply ag_bs); (· exact sM_Sc); (· rfl); (· exact sb_Sc); (· exact fll_Sc)) | ((with_reducible apply ag_al); (· exact sM_Sc); (· rfl); (· exact fll_Sc)) | ((with_reducible apply ag_bx); (· exact sM_Sc); (· rfl); (· rfl); (· exact fll_Sc)) | ((with_reducible apply ag_bd); (· rfl); (· exact s1_Sc); (· exact fll_Sc)) | exact s1_Sc)) : p := h
theorem gs_Sc {r p : Prop} (k : r) (h : Go.Ev.Im r p := by (first | with_reducible apply Im.runS | ((with_reducible apply Im.num); · (simp only [Nat.succ_eq_add_one, Nat.add_assoc, Nat.reduceAdd]; rfl)) | (with_reducible apply Im.unm) | (with_reducible apply Im.selT) | (with_reducible apply Im.selF) | ((with_reducible apply Im.cndT); · assumption) | ((with_reducible apply Im.cndF); · assumption) | ((with_reducible apply Im.cndT); · decide) | ((with_reducible apply Im.cndF); · decide) | ((with_reducible apply Im.cndBT); · exact rfl) | ((with_reducible apply Im.cndBF); · exact rfl) | ((with_reducible apply Im.cndNT); · assumption) | ((with_reducible apply Im.cndNF); · assumption) | ((with_reducible apply Im.cndBT); · assumption) | ((with_reducible apply Im.cndBF); · assumption) | ((with_reducible apply Im.bind); · exact op_Sc) | ((with_reducible apply Im.cond); · exact co_Sc) | ((with_reducible apply Im.runB); · exact op_Sc) | ((with_reducible apply Im.runC); · exact co_Sc) | ((with_reducible apply Im.runN); · (simp only [Nat.succ_eq_add_one, Nat.add_assoc, Nat.reduceAdd]; rfl)) | with_reducible apply Im.runR | ((with_reducible apply Im.runE (x := evBuildSlice _ _ _ _ _ _)); · exact sb_Sc)); (repeat (first | with_reducible apply Im.runS | ((with_reducible apply Im.num); · (simp only [Nat.succ_eq_add_one, Nat.add_assoc, Nat.reduceAdd]; rfl)) | (with_reducible apply Im.unm) | (with_reducible apply Im.selT) | (with_reducible apply Im.selF) | ((with_reducible apply Im.cndT); · assumption) | ((with_reducible apply Im.cndF); · assumption) | ((with_reducible apply Im.cndT); · decide) | ((with_reducible apply Im.cndF); · decide) | ((with_reducible apply Im.cndBT); · exact rfl) | ((with_reducible apply Im.cndBF); · exact rfl) | ((with_reducible apply Im.cndNT); · assumption) | ((with_reducible apply Im.cndNF); · assumption) | ((with_reducible apply Im.cndBT); · assumption) | ((with_reducible apply Im.cndBF); · assumption) | ((with_reducible apply Im.bind); · exact op_Sc) | ((with_reducible apply Im.cond); · exact co_Sc) | ((with_reducible apply Im.runB); · exact op_Sc) | ((with_reducible apply Im.runC); · exact co_Sc) | ((with_reducible apply Im.runN); · (simp only [Nat.succ_eq_add_one, Nat.add_assoc, Nat.reduceAdd]; rfl)) | with_reducible apply Im.runR | ((with_reducible apply Im.runE (x := evBuildSlice _ _ _ _ _ _)); · exact sb_Sc))); exact Go.Ev.Im.id) : p := h k
def bdC (f : Bd) : List Value := [iS (f 0).1, iS (f 0).2, iS (f 1).1, iS (f 1).2, iS (f 2).1, iS (f 2).2, iS (f 3).1, iS (f 3).2, iS (f 4).1, iS (f 4).2, iS (f 5).1, iS (f 5).2, iS (f 6).1, iS (f 6).2, iS (f 7).1, iS (f 7).2, iS (f 8).1, iS (f 8).2, iS (f 9).1, iS (f 9).2]
theorem ten {p : Nat → Prop} (h0 : p 0) (h1 : p 1) (h2 : p 2) (h3 : p 3) (h4 : p 4) (h5 : p 5) (h6 : p 6) (h7 : p 7) (h8 : p 8) (h9 : p 9) : ∀ k, k < 10 → p k
  | 0, _ => h0
  | 1, _ => h1
  | 2, _ => h2
  | 3, _ => h3
  | 4, _ => h4
  | 5, _ => h5
  | 6, _ => h6
  | 7, _ => h7
  | 8, _ => h8
  | 9, _ => h9
  | k + 10, h => absurd h (by omega)
theorem bd_drp0 (f : Bd) {k : Nat} (hk : k < 10) : drp (bdC f) (k * 2) = iS (f k).1 :: iS (f k).2 :: drp (bdC f) (k * 2 + 2) :=
  ten (p := fun k => drp (bdC f) (k * 2) = iS (f k).1 :: iS (f k).2 :: drp (bdC f) (k * 2 + 2)) rfl rfl rfl rfl rfl rfl rfl rfl rfl rfl k hk
theorem bd_drp1 (f : Bd) {k : Nat} (hk : k < 10) : drp (bdC f) (k * 2 + 1) = iS (f k).2 :: drp (bdC f) (k * 2 + 2) :=
  ten (p := fun k => drp (bdC f) (k * 2 + 1) = iS (f k).2 :: drp (bdC f) (k * 2 + 2)) rfl rfl rfl rfl rfl rfl rfl rfl rfl rfl k hk
theorem bd_lay (f : Bd) {k : Nat} (hk : k < 10) (a b : Int) : lay (bdC f) [iS a, iS b] (k * 2) = bdC (up f k (a, b)) :=
  ten (p := fun k => lay (bdC f) [iS a, iS b] (k * 2) = bdC (up f k (a, b))) rfl rfl rfl rfl rfl rfl rfl rfl rfl rfl k hk
theorem bd_len (f : Bd) : len (bdC f) = 20 := rfl
theorem bd_self (f g : Bd) : lay (bdC f) (bdC g) 0 = bdC g := rfl
theorem bd_tak (f : Bd) : tak (bdC f) 20 = bdC f := rfl
theorem bd_over (f : Bd) : over (bdC f) [iS 0, iS 0, iS 0, iS 0, iS 0, iS 0, iS 0, iS 0, iS 0, iS 0, iS 0, iS 0, iS 0, iS 0, iS 0, iS 0, iS 0, iS 0, iS 0, iS 0] = bdC f := rfl
def errN : Nat → Int
  | 0 => 10
  | 1 => 11
  | 2 => 14
  | 3 => 12
  | _ => 8
def fnum : Nat → Nat
  | 0 => 110
  | 1 => 112
  | 2 => 114
  | 3 => 116
  | _ => 118
def qC : List Value := [.func (.func 110) ⟨[]⟩ ⟨[]⟩, iS 10, .func (.func 112) ⟨[]⟩ ⟨[]⟩, iS 11, .func (.func 114) ⟨[]⟩ ⟨[]⟩, iS 14, .func (.func 116) ⟨[]⟩ ⟨[]⟩, iS 12, .func (.func 118) ⟨[]⟩ ⟨[]⟩, iS 8]
theorem five {p : Nat → Prop} (h0 : p 0) (h1 : p 1) (h2 : p 2) (h3 : p 3) (h4 : p 4) : ∀ k, k < 5 → p k
  | 0, _ => h0
  | 1, _ => h1
  | 2, _ => h2
  | 3, _ => h3
  | 4, _ => h4
  | k + 5, h => absurd h (by omega)
theorem qc_drp0 {k : Nat} (hk : k < 5) : drp qC (k * 2) = .func (.func (fnum k)) ⟨[]⟩ ⟨[]⟩ :: iS (errN k) :: drp qC (k * 2 + 2) :=
  five (p := fun k => drp qC (k * 2) = .func (.func (fnum k)) ⟨[]⟩ ⟨[]⟩ :: iS (errN k) :: drp qC (k * 2 + 2)) rfl rfl rfl rfl rfl k hk
theorem qc_drp1 {k : Nat} (hk : k < 5) : drp qC (k * 2 + 1) = iS (errN k) :: drp qC (k * 2 + 2) :=
  five (p := fun k => drp qC (k * 2 + 1) = iS (errN k) :: drp qC (k * 2 + 2)) rfl rfl rfl rfl rfl k hk
section
variable {s : Sp} {b r : Value}
theorem c_narrow (call : CallF) {f : Bd} {h N} (ho : Ok s) (hf : BdOk f) (cb : flatV b = true) (cr : flatV r = true) : Rn (s120 call (.agg ⟨[iS s.weeks, iS s.most, iS s.fall, iS s.slo, iS s.shi, iS s.wlo, iS s.whi, b, r]⟩) (.agg ⟨bdC f⟩) h N) fun v h' N' => v = .agg ⟨bdC (narS s f)⟩ ∧ Gw h N h' N' := by
  obtain ⟨w1, w2, m1, m2, p1, p2, a1, a2, a3, v1, v2, v3⟩ := ho
  unfold s120
  have x1 := flatV_one cb; have y1 := cel_flat cb; have x2 := flatV_one cr; have y2 := cel_flat cr
  try refine gs_Sc ?_
  refine Rn.loop5 (fun n p q u l k g M => ∃ i : Nat, p = .pointer (some ⟨N, 0, none⟩) ∧ q = .pointer (some ⟨N + 1, 0, none⟩) ∧ u = .pointer (some ⟨N + 2, 0, none⟩) ∧ l = iS (s.weeks - 1) ∧ k = nS i ∧ (i : Int) + n = s.weeks - 1 ∧ Fr h N g ∧ N + 3 ≤ M ∧ g.get N = some (.c [iS s.weeks, iS s.most, iS s.fall, iS s.slo, iS s.shi, iS s.wlo, iS s.whi, b, r] 106) ∧ g.get (N + 1) = some (.c (bdC (fwdN s.fall i f)) 152) ∧ g.get (N + 2) = some (.c (bdC bz) 152)) (s.weeks - 1).toNat (by omega) ⟨0, rfl, rfl, rfl, rfl, rfl, by omega, fr_Sc, by omega, sS_Sc, sR_Sc, sR_Sc⟩ ?_
  rintro n g ih _ _ _ _ _ h1 N1 ⟨i, rfl, rfl, rfl, rfl, rfl, e1, f1, l1, g1, g2, g3⟩
  have hb1 := fwd_ok p1 p2 hf i i
  have hb2 := fwd_ok p1 p2 hf i (i + 1)
  try refine gs_Sc ?_
  (first | with_reducible refine Rn.cnd (fun _ => ?_) (fun _ => ?_) | with_reducible refine Rn.cndN (fun _ => ?_) (fun _ => ?_) | with_reducible refine Rn.cndB (fun _ => ?_) (fun _ => ?_))
  · try refine gs_Sc ?_
    refine Rn.call (c_span call) ?_
    rintro _ h2 N2 ⟨rfl, f2, o2, l2⟩
    try refine gs_Sc ?_
    refine Rn.call (c_both call) ?_
    rintro _ h3 N3 ⟨rfl, f3, o3, l3⟩
    try refine gs_Sc ?_
    refine ih (n - 1) (by omega) _ _ _ _ _ _ _ ⟨i + 1, rfl, rfl, rfl, rfl, rfl, by omega, fr_Sc, by omega, sS_Sc, sR_Sc, sS_Sc⟩
  · have en : s.weeks.toNat - 1 = i := by omega
    try refine gs_Sc ?_
    refine Rn.loop5 (fun n p q u l k g M => ∃ j : Nat, p = .pointer (some ⟨N, 0, none⟩) ∧ q = .pointer (some ⟨N + 1, 0, none⟩) ∧ u = .pointer (some ⟨N + 2, 0, none⟩) ∧ l = iS (s.weeks - 1) ∧ k = nS j ∧ (j : Int) + n = s.weeks - 1 ∧ Fr h N g ∧ N + 3 ≤ M ∧ g.get N = some (.c [iS s.weeks, iS s.most, iS s.fall, iS s.slo, iS s.shi, iS s.wlo, iS s.whi, b, r] 106) ∧ g.get (N + 1) = some (.c (bdC (bwdN s.fall s.weeks.toNat j (fwdN s.fall i f))) 152) ∧ g.get (N + 2) = some (.c (bdC bz) 152)) (s.weeks - 1).toNat (by omega) ⟨0, rfl, rfl, rfl, rfl, rfl, by omega, fr_Sc, by omega, sS_Sc, sR_Sc, sR_Sc⟩ ?_
    rintro m g' ih' _ _ _ _ _ h2 N2 ⟨j, rfl, rfl, rfl, rfl, rfl, e2, f2, l2, k1, k2, k3⟩
    have hb := bwd_ok (n := s.weeks.toNat) p1 p2 (fwd_ok p1 p2 hf i) j
    have hb3 := hb (s.weeks.toNat - 2 - j)
    have hb4 := hb (s.weeks.toNat - 2 - j + 1)
    try refine gs_Sc ?_
    (first | with_reducible refine Rn.cnd (fun _ => ?_) (fun _ => ?_) | with_reducible refine Rn.cndN (fun _ => ?_) (fun _ => ?_) | with_reducible refine Rn.cndB (fun _ => ?_) (fun _ => ?_))
    · have t1 : (s.weeks - 1 - (j : Int) - 1).toNat = s.weeks.toNat - 2 - j := by omega
      have t2 : (s.weeks - 1 - (j : Int)).toNat = s.weeks.toNat - 2 - j + 1 := by omega
      try refine gs_Sc ?_
      refine Rn.call (c_span call) ?_
      rintro _ h5 N5 ⟨rfl, f5, o5, l5⟩
      try refine gs_Sc ?_
      refine Rn.call (c_both call) ?_
      rintro _ h3 N3 ⟨rfl, f3, o3, l3⟩
      try refine gs_Sc ?_
      refine ih' (m - 1) (by omega) _ _ _ _ _ _ _ ⟨j + 1, rfl, rfl, rfl, rfl, rfl, by omega, fr_Sc, by omega, sS_Sc, sR_Sc, sS_Sc⟩
    · obtain rfl : j = i := by omega
      try refine gs_Sc ?_
      exact Rn.ret ⟨by unfold narS; rw [en], (Gw.of fr_Sc (by omega))⟩
end
end Go.Proofs.Ytpilgokdbliklaa
end

section
namespace Go.Proofs.Ytpilgokdbliklaa
open Go.Ev Go.RowKit
set_option linter.unusedVariables false
set_option linter.unusedSimpArgs false
set_option linter.unusedSectionVars false
set_option maxRecDepth 100000
set_option maxHeartbeats 4000000
section
variable {s : Sp} {b r : Value}
theorem c_leaves (call : CallF) {rain : Int} {h N} (hs : OkS s) (hb : Sl h N b s.book) (hr : Sl h N r s.reads) : Rn (s99 call (.agg ⟨[iS s.weeks, iS s.most, iS s.fall, iS s.slo, iS s.shi, iS s.wlo, iS s.whi, b, r]⟩) (iS rain) h N) fun v h' N' => v = .agg ⟨bdC (leavesS s rain)⟩ ∧ Gw h N h' N' := by
  have ho := hs.ok
  have ho2 := ho
  have nb := hs.nb
  have nr := hs.nr
  obtain ⟨w1, w2, m1, m2, p1, p2, a1, a2, a3, v1, v2, v3⟩ := ho2
  have cb := hb.flat
  have cr := hr.flat
  unfold s99
  have x1 := flatV_one cb; have y1 := cel_flat cb; have x2 := flatV_one cr; have y2 := cel_flat cr
  try refine gs_Sc ?_
  refine Rn.loop6 (fun n a p q u l k g M => ∃ i : Nat, a = iS rain ∧ p = .pointer (some ⟨N, 0, none⟩) ∧ q = .pointer (some ⟨N + 1, 0, none⟩) ∧ u = .pointer (some ⟨N + 2, 0, none⟩) ∧ l = iS s.weeks ∧ k = nS i ∧ (i : Int) + n = s.weeks ∧ Fr h N g ∧ N + 3 ≤ M ∧ g.get N = some (.c [iS s.weeks, iS s.most, iS s.fall, iS s.slo, iS s.shi, iS s.wlo, iS s.whi, b, r] 106) ∧ g.get (N + 1) = some (.c (bdC bz) 152) ∧ g.get (N + 2) = some (.c (bdC (iniN s.most i)) 152)) s.weeks.toNat (by omega) ⟨0, rfl, rfl, rfl, rfl, rfl, rfl, by omega, fr_Sc, by omega, sS_Sc, sR_Sc, sR_Sc⟩ ?_
  rintro n g ih _ _ _ _ _ _ h1 N1 ⟨i, rfl, rfl, rfl, rfl, rfl, rfl, e1, f1, l1, g1, g2, g3⟩
  try refine gs_Sc ?_
  (first | with_reducible refine Rn.cnd (fun _ => ?_) (fun _ => ?_) | with_reducible refine Rn.cndN (fun _ => ?_) (fun _ => ?_) | with_reducible refine Rn.cndB (fun _ => ?_) (fun _ => ?_))
  · try refine gs_Sc ?_
    refine Rn.call (c_span call) ?_
    rintro _ h2 N2 ⟨rfl, f2, o2, l2⟩
    try refine gs_Sc ?_
    exact ih (n - 1) (by omega) _ _ _ _ _ _ _ _ ⟨i + 1, rfl, rfl, rfl, rfl, rfl, rfl, by omega, fr_Sc, by omega, sS_Sc, sS_Sc, sR_Sc⟩
  obtain rfl : i = s.weeks.toNat := by omega
  clear ih
  try refine gs_Sc ?_
  refine Rn.loop7 (fun n a p q u t l k g M => ∃ i : Nat, a = iS rain ∧ p = .pointer (some ⟨N, 0, none⟩) ∧ q = .pointer (some ⟨N + 1, 0, none⟩) ∧ u = .pointer (some ⟨N + 2, 0, none⟩) ∧ b = t ∧ l = nS s.book.length ∧ k = nS i ∧ i + n = s.book.length ∧ Fr h N g ∧ N + 3 ≤ M ∧ g.get N = some (.c [iS s.weeks, iS s.most, iS s.fall, iS s.slo, iS s.shi, iS s.wlo, iS s.whi, b, r] 106) ∧ g.get (N + 1) = some (.c (bdC bz) 152) ∧ g.get (N + 2) = some (.c (bdC ((s.book.take i).foldl (addL rain) (iniN s.most s.weeks.toNat))) 152)) s.book.length (by omega) ⟨0, rfl, rfl, rfl, rfl, rfl, rfl, rfl, by omega, fr_Sc, by omega, sS_Sc, sS_Sc, sR_Sc⟩ ?_
  rintro n g ih _ _ _ _ _ _ _ h1 N1 ⟨i, rfl, rfl, rfl, rfl, rfl, rfl, rfl, e1, f1, l1, g1, g2, g3⟩
  try refine gs_Sc ?_
  (first | with_reducible refine Rn.cnd (fun _ => ?_) (fun _ => ?_) | with_reducible refine Rn.cndN (fun _ => ?_) (fun _ => ?_) | with_reducible refine Rn.cndB (fun _ => ?_) (fun _ => ?_))
  · obtain ⟨x, hx⟩ := at_of (L := s.book) (k := i) (by omega)
    have ox := hs.book x (List.mem_of_getElem? hx)
    obtain ⟨r1, r2, r3, t1, t2, t3, t4, t5⟩ := ox
    have ef := fold_take (addL rain) hx (iniN s.most s.weeks.toNat)
    generalize (s.book.take i).foldl (addL rain) (iniN s.most s.weeks.toNat) = f at g3 ef
    try refine gs_Sc ?_
    refine Rn.call (c_within1 call (x := rain) (Sl.lit _ sM_Sc (by omega) rfl rfl)) ?_
    rintro _ h2 N2 ⟨rfl, f2, o2, l2⟩
    try refine gs_Sc ?_
    unfold jnR
    (first | with_reducible refine Rn.cnd (fun _ => ?_) (fun _ => ?_) | with_reducible refine Rn.cndN (fun _ => ?_) (fun _ => ?_) | with_reducible refine Rn.cndB (fun _ => ?_) (fun _ => ?_))
    · have e2 : addL rain f x = up f x.Week.toNat (max (f x.Week.toNat).1 x.Gives_Lo, min (f x.Week.toNat).2 x.Gives_Hi) := if_pos (by assumption)
      try refine gs_Sc ?_
      refine Rn.call (c_both call) ?_
      rintro _ h3 N3 ⟨rfl, f3, o3, l3⟩
      try refine gs_Sc ?_
      exact ih (n - 1) (by omega) _ _ _ _ _ _ _ _ _ ⟨i + 1, rfl, rfl, rfl, rfl, rfl, rfl, rfl, by omega, fr_Sc, by omega, sS_Sc, sS_Sc, by rw [ef, e2]; exact sR_Sc⟩
    · have e2 : addL rain f x = f := if_neg (by simp only [*]; simp)
      try refine gs_Sc ?_
      exact ih (n - 1) (by omega) _ _ _ _ _ _ _ _ _ ⟨i + 1, rfl, rfl, rfl, rfl, rfl, rfl, rfl, by omega, fr_Sc, by omega, sS_Sc, sS_Sc, by rw [ef, e2]; exact sR_Sc⟩
  obtain rfl : i = s.book.length := by omega
  rw [List.take_length] at g3
  clear ih
  generalize hf0 : s.book.foldl (addL rain) (iniN s.most s.weeks.toNat) = f0 at g3
  try refine gs_Sc ?_
  refine Rn.loop6 (fun n p q u t l k g M => ∃ i : Nat, p = .pointer (some ⟨N, 0, none⟩) ∧ q = .pointer (some ⟨N + 1, 0, none⟩) ∧ u = .pointer (some ⟨N + 2, 0, none⟩) ∧ r = t ∧ l = nS s.reads.length ∧ k = nS i ∧ i + n = s.reads.length ∧ Fr h N g ∧ N + 3 ≤ M ∧ g.get N = some (.c [iS s.weeks, iS s.most, iS s.fall, iS s.slo, iS s.shi, iS s.wlo, iS s.whi, b, r] 106) ∧ g.get (N + 1) = some (.c (bdC bz) 152) ∧ g.get (N + 2) = some (.c (bdC ((s.reads.take i).foldl (addR s) f0)) 152)) s.reads.length (by omega) ⟨0, rfl, rfl, rfl, rfl, rfl, rfl, by omega, fr_Sc, by omega, sS_Sc, sS_Sc, sR_Sc⟩ ?_
  rintro n g ih _ _ _ _ _ _ h1 N1 ⟨i, rfl, rfl, rfl, rfl, rfl, rfl, e1, f1, l1, g1, g2, g3⟩
  try refine gs_Sc ?_
  (first | with_reducible refine Rn.cnd (fun _ => ?_) (fun _ => ?_) | with_reducible refine Rn.cndN (fun _ => ?_) (fun _ => ?_) | with_reducible refine Rn.cndB (fun _ => ?_) (fun _ => ?_))
  · obtain ⟨x, hx⟩ := at_of (L := s.reads) (k := i) (by omega)
    have ox := hs.reads x (List.mem_of_getElem? hx)
    have ox2 := ox
    obtain ⟨r1, r2, t1, t2, r3, r4, r5, r6, r7, r8⟩ := ox2
    have ef := fold_take (addR s) hx f0
    generalize (s.reads.take i).foldl (addR s) f0 = f at g3 ef
    have e2 : addR s f x = up f x.Week.toNat (max (f x.Week.toNat).1 (toldB s x).1, min (f x.Week.toNat).2 (toldB s x).2) := rfl
    try refine gs_Sc ?_
    refine Rn.call (c_told call (x := x) ho ox cb cr) ?_
    rintro _ h2 N2 ⟨rfl, f2, o2, l2⟩
    try refine gs_Sc ?_
    refine Rn.call (c_both call) ?_
    rintro _ h3 N3 ⟨rfl, f3, o3, l3⟩
    try refine gs_Sc ?_
    exact ih (n - 1) (by omega) _ _ _ _ _ _ _ _ ⟨i + 1, rfl, rfl, rfl, rfl, rfl, rfl, by omega, fr_Sc, by omega, sS_Sc, sS_Sc, by rw [ef, e2]; exact sR_Sc⟩
  obtain rfl : i = s.reads.length := by omega
  rw [List.take_length] at g3
  have hp := pre_ok' hs rain s.reads.length
  rw [List.take_length, hf0] at hp
  try refine gs_Sc ?_
  refine Rn.call (c_narrow call ho hp cb cr) ?_
  rintro _ h2 N2 ⟨rfl, f2, o2, l2⟩
  try refine gs_Sc ?_
  exact Rn.ret ⟨by unfold leavesS preS; rw [hf0], (Gw.of fr_Sc (by omega))⟩
end
end Go.Proofs.Ytpilgokdbliklaa
end

section
namespace Go.Proofs.Ytpilgokdbliklaa
open Go.Ev Go.RowKit
set_option linter.unusedVariables false
set_option linter.unusedSimpArgs false
set_option linter.unusedSectionVars false
set_option maxRecDepth 100000
set_option maxHeartbeats 4000000
open Classical in
noncomputable def rdS : Nat → Code → Code → Option Ev.Rs := fun nt asg body =>
  if nt = 7 ∧ asg = rgA Pr 77 0 ∧ body = rgB Pr 77 0 then some r77_0
  else if nt = 22 ∧ asg = rgA Pr 62 0 ∧ body = rgB Pr 62 0 then some r62_0
  else if nt = 27 ∧ asg = rgA Pr 32 0 ∧ body = rgB Pr 32 0 then some r32_0
  else if nt = 45 ∧ asg = rgA Pr 93 0 ∧ body = rgB Pr 93 0 then some r93_0
  else if nt = 19 ∧ asg = rgA Pr 96 0 ∧ body = rgB Pr 96 0 then some r96_0
  else none
theorem rdS_ok : RdOk Pr rdS := by
  intro nt asg body F h
  unfold rdS at h
  split at h
  · rename_i e; obtain ⟨rfl, rfl, rfl⟩ := e; cases h; exact q77_0
  split at h
  · rename_i e; obtain ⟨rfl, rfl, rfl⟩ := e; cases h; exact q62_0
  split at h
  · rename_i e; obtain ⟨rfl, rfl, rfl⟩ := e; cases h; exact q32_0
  split at h
  · rename_i e; obtain ⟨rfl, rfl, rfl⟩ := e; cases h; exact q93_0
  split at h
  · rename_i e; obtain ⟨rfl, rfl, rfl⟩ := e; cases h; exact q96_0
  cases h
theorem rd_can : rdS 7 (rgA Pr 77 0) (rgB Pr 77 0) = some r77_0 := if_pos ⟨rfl, rfl, rfl⟩
noncomputable def dynT : Ev.St := [(54, F54), (57, F57), (59, F59), (60, F60), (62, F62), (70, F70), (87, F87), (98, F98), (106, F106), (109, F109), (110, F110), (112, F112), (114, F114), (116, F116), (118, F118)]
theorem dynT_ok : StOk Pr dynT := (StOk.cons o54 (StOk.cons o57 (StOk.cons o59 (StOk.cons o60 (StOk.cons o62 (StOk.cons o70 (StOk.cons o87 (StOk.cons o98 (StOk.cons o106 (StOk.cons o109 (StOk.cons o110 (StOk.cons o112 (StOk.cons o114 (StOk.cons o116 (StOk.cons o118 StOk.nil)))))))))))))))
noncomputable def cN (d : Nat) : CallF := cAll Pr (lookS dynT) rdS d
theorem cN_ok (d : Nat) : CallOk Pr (cN d) := cAll_ok hmix (fun f F h => dynT_ok _ (lookS_ok h)) rdS_ok d

theorem rains_at {s : Sp} {i : Nat} (hi : i < rainN s) (hok : okN s (leavesS s (s.wlo + (i : Int))) = true) : (rainsS s)[(rainsN s i).length]? = some (s.wlo + (i : Int)) ∧ (rainsN s (i + 1)).length = (rainsN s i).length + 1 := by
  have h1 := rainsN_succ s i
  rw [if_pos hok] at h1
  obtain ⟨t, ht⟩ := rainsN_pre s (k := i + 1) (n := rainN s) (by omega)
  rw [h1] at ht
  refine ⟨?_, by rw [h1]; simp⟩
  show (rainsN s (rainN s))[_]? = _
  rw [← ht, List.append_assoc, List.getElem?_append_right (by omega)]
  simp
theorem rains_not {s : Sp} {i : Nat} (hok : okN s (leavesS s (s.wlo + (i : Int))) = false) : rainsN s (i + 1) = rainsN s i := by
  rw [rainsN_succ, hok]; rfl
section
variable {s : Sp} {b r : Value}
/-- The rains, yielded one by one. -/
theorem c_rains1 (d : Nat) {y : Value} {c : Nat} {h : Tr Ob} {N : Nat} (hs : OkS s) (I : Nat → Tr Ob → Nat → Prop) (Z : Tr Ob → Nat → Prop)
    (hI : ∀ k g M, I k g M → Sl g M b s.book ∧ Sl g M r s.reads ∧ g.get c = some (.c [iS s.weeks, iS s.most, iS s.fall, iS s.slo, iS s.shi, iS s.wlo, iS s.whi, b, r] 106)) (hc : c < N)
    (keep : ∀ k g M g' M', I k g M → Fr g M g' → M ≤ M' → I k g' M')
    (round : ∀ k x, (rainsS s)[k]? = some x → ∀ g M, I k g M → N ≤ M → Rn (callW [(99, F99)] (cN d) y [iS x, .agg ⟨bdC (leavesS s x)⟩] g M) fun v g' M' => M ≤ M' ∧ ((v = .bool true ∧ I (k + 1) g' M') ∨ (v = .bool false ∧ Z g' M')))
    (h0 : I 0 h N) : Rn (s98 (cN d) y (.pointer (some ⟨c, 0, none⟩)) h N) fun _ h' N' => N ≤ N' ∧ (I (rainsS s).length h' N' ∨ Z h' N') := by
  have ho := hs.ok
  obtain ⟨w1, w2, m1, m2, p1, p2, a1, a2, a3, v1, v2, v3⟩ := ho
  unfold s98
  obtain ⟨hb, hr, hg⟩ := hI _ _ _ h0
  have cb := hb.flat
  have cr := hr.flat
  have x1 := flatV_one cb; have y1 := cel_flat cb; have x2 := flatV_one cr; have y2 := cel_flat cr
  try refine gs_Sc ?_
  refine Rn.loop3 (fun n u p x g M => ∃ i : Nat, y = u ∧ p = .pointer (some ⟨c, 0, none⟩) ∧ x = iS (s.wlo + (i : Int)) ∧ i + n = rainN s ∧ N ≤ M ∧ I (rainsN s i).length g M) (rainN s) (by unfold rainN; omega) ⟨0, rfl, rfl, by simp, by omega, by omega, h0⟩ ?_
  rintro n g ih _ _ _ h1 N1 ⟨i, rfl, rfl, rfl, e1, l1, q1⟩
  obtain ⟨hb, hr, hg⟩ := hI _ _ _ q1
  have en : rainN s = (s.whi + 1 - s.wlo).toNat := rfl
  try refine gs_Sc ?_
  (first | with_reducible refine Rn.cnd (fun _ => ?_) (fun _ => ?_) | with_reducible refine Rn.cndN (fun _ => ?_) (fun _ => ?_) | with_reducible refine Rn.cndB (fun _ => ?_) (fun _ => ?_))
  · unfold jnR
    try refine gs_Sc ?_
    refine Rn.call (c_leaves _ (rain := s.wlo + (i : Int)) hs hb hr) ?_
    rintro _ h2 N2 ⟨rfl, f2, o2, l2⟩
    have q2 := keep _ _ _ h2 N2 q1 fr_Sc l2
    obtain ⟨hb2, hr2, hg2⟩ := hI _ _ _ q2
    have hbd := leaves_ok hs (s.wlo + (i : Int))
    generalize hf : leavesS s (s.wlo + (i : Int)) = f at hbd
    try refine gs_Sc ?_
    refine Rn.loop6 (fun m u p x t l k g M => ∃ j : Nat, y = u ∧ p = .pointer (some ⟨c, 0, none⟩) ∧ x = iS (s.wlo + (i : Int)) ∧ t = .pointer (some ⟨N2, 0, none⟩) ∧ l = iS s.weeks ∧ k = nS j ∧ (j : Int) + m = s.weeks ∧ N2 + 1 ≤ M ∧ I (rainsN s i).length g M ∧ g.get N2 = some (.c (bdC f) 152) ∧ ∀ q, q < j → (f q).1 ≤ (f q).2) s.weeks.toNat (by omega) ⟨0, rfl, rfl, rfl, rfl, rfl, rfl, by omega, by omega, keep _ _ _ _ _ q2 fr_Sc (by omega), sS_Sc, fun q hq => by omega⟩ ?_
    rintro m g' ih' _ _ _ _ _ _ h3 N3 ⟨j, rfl, rfl, rfl, rfl, rfl, rfl, e3, l3, q3, g3, k3⟩
    obtain ⟨hb3, hr3, hg3⟩ := hI _ _ _ q3
    try refine gs_Sc ?_
    (first | with_reducible refine Rn.cnd (fun _ => ?_) (fun _ => ?_) | with_reducible refine Rn.cndN (fun _ => ?_) (fun _ => ?_) | with_reducible refine Rn.cndB (fun _ => ?_) (fun _ => ?_))
    · try refine gs_Sc ?_
      (first | with_reducible refine Rn.cnd (fun _ => ?_) (fun _ => ?_) | with_reducible refine Rn.cndN (fun _ => ?_) (fun _ => ?_) | with_reducible refine Rn.cndB (fun _ => ?_) (fun _ => ?_))
      · have hno : okN s f = false := okN_not (k := j) (by omega) (by omega)
        rw [← hf] at hno
        try refine gs_Sc ?_
        exact ih (n - 1) (by omega) _ _ _ _ _ ⟨i + 1, rfl, rfl, by rw [show s.wlo + ((i + 1 : Nat) : Int) = s.wlo + (i : Int) + 1 by omega], by omega, by omega, by rw [rains_not hno]; exact q3⟩
      · try refine gs_Sc ?_
        exact ih' (m - 1) (by omega) _ _ _ _ _ _ _ _ ⟨j + 1, rfl, rfl, rfl, rfl, rfl, rfl, by omega, by omega, q3, g3, fun q hq => by
          rcases Nat.lt_or_ge q j with h | h
          · exact k3 q h
          · obtain rfl : q = j := by omega
            omega⟩
    · have hok : okN s f = true := okN_of rfl (fun q hq => k3 q (by omega))
      obtain ⟨r1, r2⟩ := rains_at (s := s) (i := i) (by omega) (by rw [hf]; exact hok)
      have rr := round _ _ r1 h3 N3 q3 (by omega)
      rw [hf] at rr
      try refine gs_Sc ?_
      refine Rn.call rr ?_
      rintro v h4 N4 ⟨l4, ⟨rfl, q4⟩ | ⟨rfl, q4⟩⟩
      · try refine gs_Sc ?_
        exact ih (n - 1) (by omega) _ _ _ _ _ ⟨i + 1, rfl, rfl, by rw [show s.wlo + ((i + 1 : Nat) : Int) = s.wlo + (i : Int) + 1 by omega], by omega, by omega, by rw [r2]; exact q4⟩
      · try refine gs_Sc ?_
        exact Rn.ret ⟨by omega, .inr q4⟩
  · obtain rfl : i = rainN s := by omega
    try refine gs_Sc ?_
    exact Rn.ret ⟨by omega, .inl q1⟩
end
end Go.Proofs.Ytpilgokdbliklaa
end

section
namespace Go.Proofs.Ytpilgokdbliklaa
open Go.Ev Go.RowKit
set_option linter.unusedVariables false
set_option linter.unusedSimpArgs false
set_option linter.unusedSectionVars false
set_option maxRecDepth 100000
set_option maxHeartbeats 4000000
theorem dyn_rains (d : Nat) (st : Ev.St) (hst : lookS st 98 = none) (y p : Value) (h : Tr Ob) (N : Nat) : callW st (cN (d + 1)) (.func (.func 98) ⟨[]⟩ ⟨[p]⟩) [y] h N = s98 (cN d) y p h N := by
  show (Option.rec (motive := fun _ => OpR) (cN (d + 1) (.func (.func 98) ⟨[]⟩ ⟨[p]⟩) [y] h N) (fun F => F (cN (d + 1)) (app [] (app [y] [p])) h N) (lookS st 98)) = _
  rw [hst]; rfl
section
variable {s : Sp} {b r : Value}
theorem c_can (d : Nat) {h N} (hs : OkS s) (hb : Sl h N b s.book) (hr : Sl h N r s.reads) : Rn (s77 (cN (d + 2)) (.agg ⟨[iS s.weeks, iS s.most, iS s.fall, iS s.slo, iS s.shi, iS s.wlo, iS s.whi, b, r]⟩) h N) fun v h' N' => v = .bool (canS s) ∧ Gw h N h' N' := by
  have cb := hb.flat
  have cr := hr.flat
  unfold s77 s78
  have x1 := flatV_one cb; have y1 := cel_flat cb; have x2 := flatV_one cr; have y2 := cel_flat cr
  try refine gs_Sc ?_
  unfold jnR
  refine Rn.cond rfl ?_
  try refine gs_Sc ?_
  rw [dyn_rains _ _ rfl]
  refine Rn.call (c_rains1 (s := s) (b := b) (r := r) (d + 1) hs
    (fun k g M => k = 0 ∧ Fr h N g ∧ N + 5 ≤ M ∧ g.get (N + 1) = some (.c [.bool false] 4) ∧ g.get (N + 2) = some (.c [iS s.weeks, iS s.most, iS s.fall, iS s.slo, iS s.shi, iS s.wlo, iS s.whi, b, r] 106) ∧ g.get (N + 3) = some .d ∧ ∃ e, Tr.get e 2 = some (.pointer (some ⟨N + 1, 0, none⟩)) ∧ g.get (N + 4) = some (.l .ready .n 7 e [5, 6] (rgA Pr 77 0) (rgB Pr 77 0) (N + 3)))
    (fun g M => rainsS s ≠ [] ∧ Fr h N g ∧ N + 5 ≤ M ∧ g.get (N + 1) = some (.c [.bool true] 4) ∧ g.get (N + 3) = some .d ∧ ∃ e, g.get (N + 4) = some (.l .done .r 7 e [5, 6] (rgA Pr 77 0) (rgB Pr 77 0) (N + 3)))
    ?_ (by omega) ?_ ?_ ?_) ?_
  · rintro k g M ⟨k0, f1, l1, g1, g2, g3, e, g4, g5⟩
    exact ⟨hb.up f1 (by omega), hr.up f1 (by omega), g2⟩
  · rintro k g M g' M' ⟨k0, f1, l1, g1, g2, g3, e, g4, g5⟩ f2 l2
    exact ⟨k0, f1.trans f2 (by omega), by omega, by rw [f2 _ (by omega), g1], by rw [f2 _ (by omega), g2], by rw [f2 _ (by omega), g3], e, g4, by rw [f2 _ (by omega), g5]⟩
  · rintro k x hx g M ⟨rfl, f1, l1, g1, g2, g3, e, g4, g5⟩ l2
    rw [show cN (d + 1) = cAll Pr (lookS dynT) rdS (d + 1) from rfl, yld g5 rd_can rfl rfl]
    unfold r77_0
    simp only [putAll_c, putAll_n]
    try refine gs_Sc ?_
    refine Rn.ret ⟨by omega, .inr ⟨rfl, ?_, fr_Sc, by omega, sS_Sc, sS_Sc, e, sR_Sc⟩⟩
    intro h0; rw [h0] at hx; simp at hx
  · exact ⟨rfl, fr_Sc, by omega, sS_Sc, sS_Sc, sS_Sc, Tr.set (.e 32) (some (.pointer (some ⟨N + 1, 0, none⟩))) 2, sR_Sc, sR_Sc⟩
  · rintro v g M ⟨l1, ⟨k0, f1, l2, g1, g2, g3, e, g4, g5⟩ | ⟨k0, f1, l2, g1, g3, e, g5⟩⟩
    · refine Rn.eq (rEnd_n g5) ?_
      try refine gs_Sc ?_
      refine Rn.ret ⟨?_, (Gw.of fr_Sc (by omega))⟩
      have : rainsS s = [] := List.length_eq_zero_iff.1 k0
      unfold canS; rw [this]; rfl
    · refine Rn.eq (rEnd_r g5) ?_
      try refine gs_Sc ?_
      refine Rn.ret ⟨?_, (Gw.of fr_Sc (by omega))⟩
      unfold canS
      cases hR : rainsS s with
      | nil => exact absurd hR k0
      | cons a l => rfl
end
end Go.Proofs.Ytpilgokdbliklaa
end

section
namespace Go.Proofs.Ytpilgokdbliklaa
open Go.Ev Go.RowKit
set_option linter.unusedVariables false
set_option linter.unusedSimpArgs false
set_option linter.unusedSectionVars false
set_option maxRecDepth 100000
set_option maxHeartbeats 4000000
section
variable {s : Sp} {b r : Value}
end
end Go.Proofs.Ytpilgokdbliklaa
end

section
namespace Go.Proofs.Ytpilgokdbliklaa
open Go.Ev Go.RowKit
set_option linter.unusedVariables false
set_option linter.unusedSimpArgs false
set_option linter.unusedSectionVars false
set_option maxRecDepth 100000
set_option maxHeartbeats 4000000
structure Ask where
  week : Int
  bucket : Int
  x : Rd
def askB (s : Sp) (q : Ask) : Nat → Bool
  | 0 => validB s
  | 1 => isWeekB s.weeks q.week
  | 2 => inS 1 40 q.bucket
  | 3 => readB s.weeks q.x
  | 4 => canS s
  | _ => false
def askN (s : Sp) (q : Ask) : List Int → Int
  | [] => 0
  | m :: ms => if askB s q m.toNat then askN s q ms else errN m.toNat
def beginS (s : Sp) (q : Ask) (more : List Int) : Int := if validB s then askN s q more else 10
theorem err_pos : ∀ k, errN k ≠ 0
  | 0 => by decide
  | 1 => by decide
  | 2 => by decide
  | 3 => by decide
  | k + 4 => by show (8 : Int) ≠ 0; decide
section
variable {s : Sp} {b r : Value} {q : Ask}
theorem c_ask0 (call : CallF) {h N} (nb : s.book.length < 1000) (nr : s.reads.length < 1000) (hb : Sl h N b s.book) (hr : Sl h N r s.reads) : Rn (s110 call (.agg ⟨[iS s.weeks, iS s.most, iS s.fall, iS s.slo, iS s.shi, iS s.wlo, iS s.whi, b, r]⟩) (.agg ⟨[iS q.week, iS q.bucket, iS q.x.Number, iS q.x.Week, iS q.x.Bucket, iS q.x.Songs_Lo, iS q.x.Songs_Hi]⟩) h N) fun v h' N' => v = .bool (validB s) ∧ Gw h N h' N' := by
  unfold s110
  have cb := hb.flat
  have cr := hr.flat
  have x1 := flatV_one cb; have y1 := cel_flat cb; have x2 := flatV_one cr; have y2 := cel_flat cr
  try refine gs_Sc ?_
  refine Rn.call (c_valid _ nb nr (Sl.up (by assumption) fr_Sc (by omega)) (Sl.up (by assumption) fr_Sc (by omega))) ?_
  rintro _ h2 N2 ⟨rfl, f2, o2, l2⟩
  try refine gs_Sc ?_
  exact Rn.ret ⟨rfl, (Gw.of fr_Sc (by omega))⟩
theorem c_ask1 (call : CallF) {h N} (hs : OkS s) (cb : flatV b = true) (cr : flatV r = true) : Rn (s112 call (.agg ⟨[iS s.weeks, iS s.most, iS s.fall, iS s.slo, iS s.shi, iS s.wlo, iS s.whi, b, r]⟩) (.agg ⟨[iS q.week, iS q.bucket, iS q.x.Number, iS q.x.Week, iS q.x.Bucket, iS q.x.Songs_Lo, iS q.x.Songs_Hi]⟩) h N) fun v h' N' => v = .bool (isWeekB s.weeks q.week) ∧ Gw h N h' N' := by
  have w1 := hs.ok.w1
  have w2 := hs.ok.w2
  unfold s112
  have x1 := flatV_one cb; have y1 := cel_flat cb; have x2 := flatV_one cr; have y2 := cel_flat cr
  try refine gs_Sc ?_
  refine Rn.call (c_isWeek _ (by omega) cb cr) ?_
  rintro _ h2 N2 ⟨rfl, f2, o2, l2⟩
  try refine gs_Sc ?_
  exact Rn.ret ⟨rfl, (Gw.of fr_Sc (by omega))⟩
theorem c_ask2 (call : CallF) {h N} (cb : flatV b = true) (cr : flatV r = true) : Rn (s114 call (.agg ⟨[iS s.weeks, iS s.most, iS s.fall, iS s.slo, iS s.shi, iS s.wlo, iS s.whi, b, r]⟩) (.agg ⟨[iS q.week, iS q.bucket, iS q.x.Number, iS q.x.Week, iS q.x.Bucket, iS q.x.Songs_Lo, iS q.x.Songs_Hi]⟩) h N) fun v h' N' => v = .bool (inS 1 40 q.bucket) ∧ Gw h N h' N' := by
  unfold s114
  have x1 := flatV_one cb; have y1 := cel_flat cb; have x2 := flatV_one cr; have y2 := cel_flat cr
  try refine gs_Sc ?_
  refine Rn.call (c_span _) ?_
  rintro _ h1 N1 ⟨rfl, f1, o1, l1⟩
  try refine gs_Sc ?_
  refine Rn.call (c_within1 _ (x := q.bucket) (Sl.lit _ sM_Sc (by omega) rfl rfl)) ?_
  rintro _ h2 N2 ⟨rfl, f2, o2, l2⟩
  try refine gs_Sc ?_
  exact Rn.ret ⟨rfl, (Gw.of fr_Sc (by omega))⟩
theorem c_ask3 (call : CallF) {h N} (hs : OkS s) (cb : flatV b = true) (cr : flatV r = true) : Rn (s116 call (.agg ⟨[iS s.weeks, iS s.most, iS s.fall, iS s.slo, iS s.shi, iS s.wlo, iS s.whi, b, r]⟩) (.agg ⟨[iS q.week, iS q.bucket, iS q.x.Number, iS q.x.Week, iS q.x.Bucket, iS q.x.Songs_Lo, iS q.x.Songs_Hi]⟩) h N) fun v h' N' => v = .bool (readB s.weeks q.x) ∧ Gw h N h' N' := by
  have w1 := hs.ok.w1
  have w2 := hs.ok.w2
  unfold s116
  have x1 := flatV_one cb; have y1 := cel_flat cb; have x2 := flatV_one cr; have y2 := cel_flat cr
  try refine gs_Sc ?_
  refine Rn.call (c_validReading _ (x := q.x) (by omega) cb cr) ?_
  rintro _ h2 N2 ⟨rfl, f2, o2, l2⟩
  try refine gs_Sc ?_
  exact Rn.ret ⟨rfl, (Gw.of fr_Sc (by omega))⟩
theorem c_ask4 (d : Nat) {h N} (hs : OkS s) (hb : Sl h N b s.book) (hr : Sl h N r s.reads) : Rn (s118 (cN (d + 2)) (.agg ⟨[iS s.weeks, iS s.most, iS s.fall, iS s.slo, iS s.shi, iS s.wlo, iS s.whi, b, r]⟩) (.agg ⟨[iS q.week, iS q.bucket, iS q.x.Number, iS q.x.Week, iS q.x.Bucket, iS q.x.Songs_Lo, iS q.x.Songs_Hi]⟩) h N) fun v h' N' => v = .bool (canS s) ∧ Gw h N h' N' := by
  unfold s118
  have cb := hb.flat
  have cr := hr.flat
  have x1 := flatV_one cb; have y1 := cel_flat cb; have x2 := flatV_one cr; have y2 := cel_flat cr
  try refine gs_Sc ?_
  refine Rn.call (c_can d hs (Sl.up (by assumption) fr_Sc (by omega)) (Sl.up (by assumption) fr_Sc (by omega))) ?_
  rintro _ h2 N2 ⟨rfl, f2, o2, l2⟩
  try refine gs_Sc ?_
  exact Rn.ret ⟨rfl, (Gw.of fr_Sc (by omega))⟩
theorem c_ask (d : Nat) {h N} (hs : OkS s) (hb : Sl h N b s.book) (hr : Sl h N r s.reads) : ∀ k, k < 5 → Rn (callW [(94, F94)] (cN (d + 3)) (.func (.func (fnum k)) ⟨[]⟩ ⟨[]⟩) [.agg ⟨[iS s.weeks, iS s.most, iS s.fall, iS s.slo, iS s.shi, iS s.wlo, iS s.whi, b, r]⟩, .agg ⟨[iS q.week, iS q.bucket, iS q.x.Number, iS q.x.Week, iS q.x.Bucket, iS q.x.Songs_Lo, iS q.x.Songs_Hi]⟩] h N) fun v h' N' => v = .bool (askB s q k) ∧ Gw h N h' N' := by
  have nb := hs.nb
  have nr := hs.nr
  have cb := hb.flat
  have cr := hr.flat
  refine five ?_ ?_ ?_ ?_ ?_
  · exact c_ask0 (cN (d + 2)) (by omega) (by omega) hb hr
  · exact c_ask1 (cN (d + 2)) hs cb cr
  · exact c_ask2 (cN (d + 2)) cb cr
  · exact c_ask3 (cN (d + 2)) hs cb cr
  · exact c_ask4 d hs hb hr
theorem c_begin (d : Nat) {h N} {more : Value} {L : List Int} (nb : s.book.length < 1000) (nr : s.reads.length < 1000) (hb : Sl h N b s.book) (hr : Sl h N r s.reads) (hl : L.length < 1000) (hm : Sl h N more L) (hL : ∀ m ∈ L, 1 ≤ m ∧ m ≤ 4) :
    Rn (s61 (cN (d + 3)) (.agg ⟨[iS s.weeks, iS s.most, iS s.fall, iS s.slo, iS s.shi, iS s.wlo, iS s.whi, b, r]⟩) (.agg ⟨[iS q.week, iS q.bucket, iS q.x.Number, iS q.x.Week, iS q.x.Bucket, iS q.x.Songs_Lo, iS q.x.Songs_Hi]⟩) more h N) fun v h' N' => (beginS s q L = 0 ∧ validB s = true ∧ v = .tuple ⟨[.agg ⟨[iS s.weeks, iS s.most, iS s.fall, iS s.slo, iS s.shi, iS s.wlo, iS s.whi, b, r]⟩, iS 0]⟩ ∨ beginS s q L ≠ 0 ∧ v = .tuple ⟨[.agg ⟨[iS 0, iS 0, iS 0, iS 0, iS 0, iS 0, iS 0, .slice none 0 0, .slice none 0 0]⟩, iS (beginS s q L)]⟩) ∧ Gw h N h' N' := by
  unfold s61 s94
  have cb := hb.flat
  have cr := hr.flat
  have x1 := flatV_one cb; have y1 := cel_flat cb; have x2 := flatV_one cr; have y2 := cel_flat cr
  try refine gs_Sc ?_
  refine Rn.call (show Rn (callW [(94, F94)] (cN (d + 3)) (.func (.func 110) ⟨[]⟩ ⟨[]⟩) [.agg ⟨[iS s.weeks, iS s.most, iS s.fall, iS s.slo, iS s.shi, iS s.wlo, iS s.whi, b, r]⟩, .agg ⟨[iS q.week, iS q.bucket, iS q.x.Number, iS q.x.Week, iS q.x.Bucket, iS q.x.Songs_Lo, iS q.x.Songs_Hi]⟩] _ _) _ from c_ask0 (cN (d + 2)) nb nr (Sl.up (by assumption) fr_Sc (by omega)) (Sl.up (by assumption) fr_Sc (by omega))) ?_
  rintro _ h1 N1 ⟨rfl, f1, o1, l1⟩
  try refine gs_Sc ?_
  (first | with_reducible refine Rn.cnd (fun _ => ?_) (fun _ => ?_) | with_reducible refine Rn.cndN (fun _ => ?_) (fun _ => ?_) | with_reducible refine Rn.cndB (fun _ => ?_) (fun _ => ?_))
  · try refine gs_Sc ?_
    have e : beginS s q L = 10 := by unfold beginS; simp only [*]; rfl
    exact Rn.ret ⟨.inr ⟨by rw [e]; decide, by rw [e]⟩, (Gw.of fr_Sc (by omega))⟩
  have hv : validB s = true := by assumption
  have hs := ok_of_valid hv
  have e0 : beginS s q L = askN s q L := if_pos hv
  rw [e0]
  try refine gs_Sc ?_
  refine Rn.loop7 (fun n p1 p2 p3 p4 u l k g M => ∃ i : Nat, p1 = .pointer (some ⟨N + 1, 0, none⟩) ∧ p2 = .pointer (some ⟨N + 2, 0, none⟩) ∧ p3 = .pointer (some ⟨N + 3, 0, none⟩) ∧ p4 = .pointer (some ⟨N + 5, 0, none⟩) ∧ more = u ∧ l = nS L.length ∧ k = nS i ∧ i + n = L.length ∧ Fr h N g ∧ N + 7 ≤ M ∧ g.get (N + 1) = some (.c [iS q.week, iS q.bucket, iS q.x.Number, iS q.x.Week, iS q.x.Bucket, iS q.x.Songs_Lo, iS q.x.Songs_Hi] 110) ∧ g.get (N + 2) = some (.c [iS 0, iS 0, iS 0, iS 0, iS 0, iS 0, iS 0, .slice none 0 0, .slice none 0 0] 106) ∧ g.get (N + 3) = some (.c [iS s.weeks, iS s.most, iS s.fall, iS s.slo, iS s.shi, iS s.wlo, iS s.whi, b, r] 106) ∧ g.get (N + 5) = some (.c qC 149) ∧ askN s q (L.drop i) = askN s q L) L.length (by omega) ⟨0, rfl, rfl, rfl, rfl, rfl, rfl, rfl, by omega, fr_Sc, by omega, sS_Sc, sS_Sc, sS_Sc, sR_Sc, rfl⟩ ?_
  rintro n g ih _ _ _ _ _ _ _ h2 N2 ⟨i, rfl, rfl, rfl, rfl, rfl, rfl, rfl, e2, f2, l2, g1, g2, g3, g4, q1⟩
  try refine gs_Sc ?_
  (first | with_reducible refine Rn.cnd (fun _ => ?_) (fun _ => ?_) | with_reducible refine Rn.cndN (fun _ => ?_) (fun _ => ?_) | with_reducible refine Rn.cndB (fun _ => ?_) (fun _ => ?_))
  · obtain ⟨m, hx⟩ := at_of (L := L) (k := i) (by omega)
    obtain ⟨m1, m2⟩ := hL m (List.mem_of_getElem? hx)
    rw [drop_at hx] at q1
    simp only [askN] at q1
    try refine gs_Sc ?_
    refine Rn.call (c_ask d (q := q) hs (Sl.up (by assumption) fr_Sc (by omega)) (Sl.up (by assumption) fr_Sc (by omega)) m.toNat (by omega)) ?_
    rintro _ h3 N3 ⟨rfl, f3, o3, l3⟩
    try refine gs_Sc ?_
    (first | with_reducible refine Rn.cnd (fun _ => ?_) (fun _ => ?_) | with_reducible refine Rn.cndN (fun _ => ?_) (fun _ => ?_) | with_reducible refine Rn.cndB (fun _ => ?_) (fun _ => ?_))
    · rw [‹askB s q m.toNat = false›] at q1
      have q2 : errN m.toNat = askN s q L := q1
      have q3 := err_pos m.toNat
      rw [← q2]
      try refine gs_Sc ?_
      exact Rn.ret ⟨.inr ⟨q3, by rw [q2]⟩, (Gw.of fr_Sc (by omega))⟩
    · rw [‹askB s q m.toNat = true›] at q1
      try refine gs_Sc ?_
      exact ih (n - 1) (by omega) _ _ _ _ _ _ _ _ _ ⟨i + 1, rfl, rfl, rfl, rfl, rfl, rfl, rfl, by omega, fr_Sc, by omega, sS_Sc, sS_Sc, sS_Sc, sS_Sc, q1⟩
  · rw [List.drop_eq_nil_of_le (by omega)] at q1
    try refine gs_Sc ?_
    exact Rn.ret ⟨.inl ⟨q1.symm, hv, rfl⟩, (Gw.of fr_Sc (by omega))⟩
end
end Go.Proofs.Ytpilgokdbliklaa
end

section
namespace Go.Proofs.Ytpilgokdbliklaa
open Go.Ev Go.RowKit
set_option linter.unusedVariables false
set_option linter.unusedSimpArgs false
set_option linter.unusedSectionVars false
set_option maxRecDepth 100000
set_option maxHeartbeats 4000000
def zR : Rd := ⟨0, 0, 0, 0, 0⟩
/-- What is asked: a week, a bucket. -/
def qw (w k : Int) : Ask := ⟨w, k, zR⟩
theorem beg_n {s : Sp} {q : Ask} : beginS s q [] = if validB s then 0 else 10 := rfl
section
variable {s : Sp} {b r : Value}
theorem c_Can (d : Nat) {h N} (nb : s.book.length < 1000) (nr : s.reads.length < 1000) (hb : Sl h N b s.book) (hr : Sl h N r s.reads) : Rn (s31 (cN (d + 3)) (.agg ⟨[iS s.weeks, iS s.most, iS s.fall, iS s.slo, iS s.shi, iS s.wlo, iS s.whi, b, r]⟩) h N) fun v h' N' => v = .tuple ⟨[.bool (validB s && canS s), iS (if validB s then 0 else 10)]⟩ ∧ Gw h N h' N' := by
  unfold s31
  have cb := hb.flat; have cr := hr.flat; have x1 := flatV_one cb; have y1 := cel_flat cb; have x2 := flatV_one cr; have y2 := cel_flat cr
  try refine gs_Sc ?_
  refine Rn.call (c_begin d (q := qw 0 0) (L := []) nb nr (Sl.up (by assumption) fr_Sc (by omega)) (Sl.up (by assumption) fr_Sc (by omega)) (by simp) (Sl.nil _ _) (by simp)) ?_
  rintro _ h1 N1 ⟨⟨e0, hv, rfl⟩ | ⟨e0, rfl⟩, f1, o1, l1⟩
  · try refine gs_Sc ?_
    rw [beg_n, hv] at e0
    have hs := ok_of_valid hv
    refine Rn.call (c_can (d + 1) hs (Sl.up (by assumption) fr_Sc (by omega)) (Sl.up (by assumption) fr_Sc (by omega))) ?_
    rintro _ h2 N2 ⟨rfl, f2, o2, l2⟩
    try refine gs_Sc ?_
    exact Rn.ret ⟨by rw [hv]; rfl, (Gw.of fr_Sc (by omega))⟩
  · have hv : validB s = false := by
      cases hv : validB s with
      | false => rfl
      | true => rw [beg_n, hv] at e0; exact absurd rfl e0
    have e1 : beginS s (qw 0 0) [] = 10 := by rw [beg_n, hv]; rfl
    rw [e1]
    try refine gs_Sc ?_
    exact Rn.ret ⟨by rw [hv]; rfl, (Gw.of fr_Sc (by omega))⟩
end
end Go.Proofs.Ytpilgokdbliklaa
end

section
namespace Go.Proofs.Ytpilgokdbliklaa
open Go.Ev Go.RowKit
set_option linter.unusedVariables false
set_option linter.unusedSimpArgs false
set_option linter.unusedSectionVars false
set_option maxRecDepth 100000
set_option maxHeartbeats 4000000
theorem c_rwithin (call : CallF) {n a c : Int} {h N} : Rn (s66 call (iS n) (iS a) (iS c) h N) fun v h' N' => v = .bool (inS a c n) ∧ Gw h N h' N' := by
  unfold s66
  repeat' (first | refine gs_Sc ?_ | (first | with_reducible refine Rn.part (fun _ => ?_) (fun _ => ?_) | with_reducible refine Rn.partN (fun _ => ?_) (fun _ => ?_) | with_reducible refine Rn.partB (fun _ => ?_) (fun _ => ?_)) | (first | with_reducible refine Rn.cnd (fun _ => ?_) (fun _ => ?_) | with_reducible refine Rn.cndN (fun _ => ?_) (fun _ => ?_) | with_reducible refine Rn.cndB (fun _ => ?_) (fun _ => ?_)))
  · exact Rn.ret ⟨congrArg Value.bool (by unfold inS; rw [decide_eq_true (p := a ≤ n) (by omega), Bool.true_and]), (Gw.of fr_Sc (by omega))⟩
  · exact Rn.ret ⟨congrArg Value.bool (by unfold inS; rw [decide_eq_false (p := a ≤ n) (by omega), Bool.false_and]), (Gw.of fr_Sc (by omega))⟩
theorem spanned_eq (lo hi a b : Int) : (inS a b hi && inS a hi lo) = isSpanB lo hi a b := by
  rw [Bool.eq_iff_iff]; simp [inS, isSpanB]; omega
theorem c_rspanned (call : CallF) {lo hi a c : Int} {h N} : Rn (s84 call (.agg ⟨[iS lo, iS hi]⟩) (iS a) (iS c) h N) fun v h' N' => v = .bool (isSpanB lo hi a c) ∧ Gw h N h' N' := by
  unfold s84
  rw [← spanned_eq]
  try refine gs_Sc ?_
  refine Rn.call (c_rwithin _) ?_
  rintro _ h1 N1 ⟨rfl, f1, o1, l1⟩
  repeat' (first | refine gs_Sc ?_ | (first | with_reducible refine Rn.part (fun _ => ?_) (fun _ => ?_) | with_reducible refine Rn.partN (fun _ => ?_) (fun _ => ?_) | with_reducible refine Rn.partB (fun _ => ?_) (fun _ => ?_)) | (first | with_reducible refine Rn.cnd (fun _ => ?_) (fun _ => ?_) | with_reducible refine Rn.cndN (fun _ => ?_) (fun _ => ?_) | with_reducible refine Rn.cndB (fun _ => ?_) (fun _ => ?_)))
  rotate_left
  · exact Rn.ret ⟨congrArg Value.bool (by simp only [frameB, lineB, readB, isWeekB, *, Bool.and_true, Bool.true_and, Bool.false_and, Bool.and_false]), (Gw.of fr_Sc (by omega))⟩
  refine Rn.call (c_rwithin _) ?_
  rintro _ h2 N2 ⟨rfl, f2, o2, l2⟩
  try refine gs_Sc ?_
  exact Rn.ret ⟨congrArg Value.bool (by simp only [frameB, lineB, readB, isWeekB, *, Bool.and_true, Bool.true_and, Bool.false_and, Bool.and_false]), (Gw.of fr_Sc (by omega))⟩
theorem c_rReading (call : CallF) {x : Rd} {w : Int} {h N} (hw : -1000000000 ≤ w ∧ w ≤ 1000000000) : Rn (s44 call (.agg ⟨Rwc.enc x⟩) (iS w) h N) fun v h' N' => v = .bool (readB w x) ∧ Gw h N h' N' := by
  unfold s44
  simp only [enc_Reading]
  try refine gs_Sc ?_
  refine Rn.call (c_rwithin _) ?_
  rintro _ h1 N1 ⟨rfl, f1, o1, l1⟩
  repeat' (first | refine gs_Sc ?_ | (first | with_reducible refine Rn.part (fun _ => ?_) (fun _ => ?_) | with_reducible refine Rn.partN (fun _ => ?_) (fun _ => ?_) | with_reducible refine Rn.partB (fun _ => ?_) (fun _ => ?_)) | (first | with_reducible refine Rn.cnd (fun _ => ?_) (fun _ => ?_) | with_reducible refine Rn.cndN (fun _ => ?_) (fun _ => ?_) | with_reducible refine Rn.cndB (fun _ => ?_) (fun _ => ?_)))
  rotate_left
  · exact Rn.ret ⟨congrArg Value.bool (by simp only [frameB, lineB, readB, isWeekB, *, Bool.and_true, Bool.true_and, Bool.false_and, Bool.and_false]), (Gw.of fr_Sc (by omega))⟩
  refine Rn.call (c_rwithin _) ?_
  rintro _ h2 N2 ⟨rfl, f2, o2, l2⟩
  repeat' (first | refine gs_Sc ?_ | (first | with_reducible refine Rn.part (fun _ => ?_) (fun _ => ?_) | with_reducible refine Rn.partN (fun _ => ?_) (fun _ => ?_) | with_reducible refine Rn.partB (fun _ => ?_) (fun _ => ?_)) | (first | with_reducible refine Rn.cnd (fun _ => ?_) (fun _ => ?_) | with_reducible refine Rn.cndN (fun _ => ?_) (fun _ => ?_) | with_reducible refine Rn.cndB (fun _ => ?_) (fun _ => ?_)))
  rotate_left
  · exact Rn.ret ⟨congrArg Value.bool (by simp only [frameB, lineB, readB, isWeekB, *, Bool.and_true, Bool.true_and, Bool.false_and, Bool.and_false]), (Gw.of fr_Sc (by omega))⟩
  refine Rn.call (c_rwithin _) ?_
  rintro _ h3 N3 ⟨rfl, f3, o3, l3⟩
  repeat' (first | refine gs_Sc ?_ | (first | with_reducible refine Rn.part (fun _ => ?_) (fun _ => ?_) | with_reducible refine Rn.partN (fun _ => ?_) (fun _ => ?_) | with_reducible refine Rn.partB (fun _ => ?_) (fun _ => ?_)) | (first | with_reducible refine Rn.cnd (fun _ => ?_) (fun _ => ?_) | with_reducible refine Rn.cndN (fun _ => ?_) (fun _ => ?_) | with_reducible refine Rn.cndB (fun _ => ?_) (fun _ => ?_)))
  rotate_left
  · exact Rn.ret ⟨congrArg Value.bool (by simp only [frameB, lineB, readB, isWeekB, *, Bool.and_true, Bool.true_and, Bool.false_and, Bool.and_false]), (Gw.of fr_Sc (by omega))⟩
  refine Rn.call (c_rspanned _) ?_
  rintro _ h4 N4 ⟨rfl, f4, o4, l4⟩
  repeat' (first | refine gs_Sc ?_ | (first | with_reducible refine Rn.part (fun _ => ?_) (fun _ => ?_) | with_reducible refine Rn.partN (fun _ => ?_) (fun _ => ?_) | with_reducible refine Rn.partB (fun _ => ?_) (fun _ => ?_)) | (first | with_reducible refine Rn.cnd (fun _ => ?_) (fun _ => ?_) | with_reducible refine Rn.cndN (fun _ => ?_) (fun _ => ?_) | with_reducible refine Rn.cndB (fun _ => ?_) (fun _ => ?_)))
  · refine Rn.ret ⟨congrArg Value.bool ?_, (Gw.of fr_Sc (by omega))⟩
    simp only [readB, isWeekB, *, Bool.true_and]; rw [Bool.eq_iff_iff]; simp only [decide_eq_true_eq]; omega
  · exact Rn.ret ⟨congrArg Value.bool (by simp only [frameB, lineB, readB, isWeekB, *, Bool.and_true, Bool.true_and, Bool.false_and, Bool.and_false]), (Gw.of fr_Sc (by omega))⟩
section
variable {s : Sp} {b r : Value}
theorem c_rSpring (call : CallF) {h N} (nb : s.book.length < 1000) (nr : s.reads.length < 1000) (hb : Sl h N b s.book) (hr : Sl h N r s.reads) : Rn (s65 call (.agg ⟨[iS s.weeks, iS s.most, iS s.fall, iS s.slo, iS s.shi, iS s.wlo, iS s.whi, b, r]⟩) h N) fun v h' N' => v = .bool (validB s) ∧ Gw h N h' N' := by
  have cb := hb.flat
  have cr := hr.flat
  unfold s65
  have x1 := flatV_one cb; have y1 := cel_flat cb; have x2 := flatV_one cr; have y2 := cel_flat cr
  have no : ∀ {t : Bool}, (frameB s && bookB s.weeks s.book && readsB s.weeks s.reads) = t → validB s = t := fun h => h
  try refine gs_Sc ?_
  refine Rn.call (c_rwithin _) ?_
  rintro _ h1 N1 ⟨rfl, f1, o1, l1⟩
  repeat' (first | refine gs_Sc ?_ | (first | with_reducible refine Rn.part (fun _ => ?_) (fun _ => ?_) | with_reducible refine Rn.partN (fun _ => ?_) (fun _ => ?_) | with_reducible refine Rn.partB (fun _ => ?_) (fun _ => ?_)) | (first | with_reducible refine Rn.cnd (fun _ => ?_) (fun _ => ?_) | with_reducible refine Rn.cndN (fun _ => ?_) (fun _ => ?_) | with_reducible refine Rn.cndB (fun _ => ?_) (fun _ => ?_)))
  all_goals try ((refine Rn.ret ⟨congrArg Value.bool (no ?_).symm, (Gw.of fr_Sc (by omega))⟩); (simp only [frameB, *, Bool.false_and, Bool.and_false]; done))
  refine Rn.call (c_rwithin _) ?_
  rintro _ h2 N2 ⟨rfl, f2, o2, l2⟩
  repeat' (first | refine gs_Sc ?_ | (first | with_reducible refine Rn.part (fun _ => ?_) (fun _ => ?_) | with_reducible refine Rn.partN (fun _ => ?_) (fun _ => ?_) | with_reducible refine Rn.partB (fun _ => ?_) (fun _ => ?_)) | (first | with_reducible refine Rn.cnd (fun _ => ?_) (fun _ => ?_) | with_reducible refine Rn.cndN (fun _ => ?_) (fun _ => ?_) | with_reducible refine Rn.cndB (fun _ => ?_) (fun _ => ?_)))
  all_goals try ((refine Rn.ret ⟨congrArg Value.bool (no ?_).symm, (Gw.of fr_Sc (by omega))⟩); (simp only [frameB, *, Bool.false_and, Bool.and_false]; done))
  refine Rn.call (c_rwithin _) ?_
  rintro _ h3 N3 ⟨rfl, f3, o3, l3⟩
  repeat' (first | refine gs_Sc ?_ | (first | with_reducible refine Rn.part (fun _ => ?_) (fun _ => ?_) | with_reducible refine Rn.partN (fun _ => ?_) (fun _ => ?_) | with_reducible refine Rn.partB (fun _ => ?_) (fun _ => ?_)) | (first | with_reducible refine Rn.cnd (fun _ => ?_) (fun _ => ?_) | with_reducible refine Rn.cndN (fun _ => ?_) (fun _ => ?_) | with_reducible refine Rn.cndB (fun _ => ?_) (fun _ => ?_)))
  all_goals try ((refine Rn.ret ⟨congrArg Value.bool (no ?_).symm, (Gw.of fr_Sc (by omega))⟩); (simp only [frameB, *, Bool.false_and, Bool.and_false]; done))
  refine Rn.call (c_rspanned _) ?_
  rintro _ h4 N4 ⟨rfl, f4, o4, l4⟩
  repeat' (first | refine gs_Sc ?_ | (first | with_reducible refine Rn.part (fun _ => ?_) (fun _ => ?_) | with_reducible refine Rn.partN (fun _ => ?_) (fun _ => ?_) | with_reducible refine Rn.partB (fun _ => ?_) (fun _ => ?_)) | (first | with_reducible refine Rn.cnd (fun _ => ?_) (fun _ => ?_) | with_reducible refine Rn.cndN (fun _ => ?_) (fun _ => ?_) | with_reducible refine Rn.cndB (fun _ => ?_) (fun _ => ?_)))
  all_goals try ((refine Rn.ret ⟨congrArg Value.bool (no ?_).symm, (Gw.of fr_Sc (by omega))⟩); (simp only [frameB, *, Bool.false_and, Bool.and_false]; done))
  refine Rn.call (c_rspanned _) ?_
  rintro _ h5 N5 ⟨rfl, f5, o5, l5⟩
  repeat' (first | refine gs_Sc ?_ | (first | with_reducible refine Rn.part (fun _ => ?_) (fun _ => ?_) | with_reducible refine Rn.partN (fun _ => ?_) (fun _ => ?_) | with_reducible refine Rn.partB (fun _ => ?_) (fun _ => ?_)) | (first | with_reducible refine Rn.cnd (fun _ => ?_) (fun _ => ?_) | with_reducible refine Rn.cndN (fun _ => ?_) (fun _ => ?_) | with_reducible refine Rn.cndB (fun _ => ?_) (fun _ => ?_)))
  all_goals try ((refine Rn.ret ⟨congrArg Value.bool (no ?_).symm, (Gw.of fr_Sc (by omega))⟩); (simp only [frameB, *, Bool.false_and, Bool.and_false]; done))
  all_goals try ((refine Rn.ret ⟨congrArg Value.bool (no ?_).symm, (Gw.of fr_Sc (by omega))⟩); (unfold bookB; rw [decide_eq_false (p := s.book.length ≤ 8) (by omega)]; simp only [Bool.false_and, Bool.and_false]; done))
  all_goals try ((refine Rn.ret ⟨congrArg Value.bool (no ?_).symm, (Gw.of fr_Sc (by omega))⟩); (unfold readsB; rw [decide_eq_false (p := s.reads.length ≤ 12) (by omega)]; simp only [Bool.false_and, Bool.and_false]; done))
  have hfr : frameB s = true := by simp only [frameB, *, Bool.and_true]
  have hw := frame_weeks hfr
  have hall : validB s = (s.book.all (lineB s.weeks) && rdsB s.weeks 0 s.reads) := by
    unfold validB bookB readsB; rw [hfr, decide_eq_true (by omega), decide_eq_true (by omega)]; rfl
  clear no
  rw [hall]
  refine Rn.loop4 (fun n p u l k g M => ∃ i : Nat, p = .pointer (some ⟨N, 0, none⟩) ∧ b = u ∧ l = nS s.book.length ∧ k = nS i ∧ i + n = s.book.length ∧ Fr h N g ∧ N + 1 ≤ M ∧ g.get N = some (.c [iS s.weeks, iS s.most, iS s.fall, iS s.slo, iS s.shi, iS s.wlo, iS s.whi, b, r] 27) ∧ (s.book.drop i).all (lineB s.weeks) = s.book.all (lineB s.weeks)) s.book.length (by omega) ⟨0, rfl, rfl, rfl, rfl, by omega, fr_Sc, by omega, sS_Sc, rfl⟩ ?_
  rintro n g ih _ _ _ _ h6 N6 ⟨i, rfl, rfl, rfl, rfl, e1, f6, l6, g1, q1⟩
  try refine gs_Sc ?_
  (first | with_reducible refine Rn.cnd (fun _ => ?_) (fun _ => ?_) | with_reducible refine Rn.cndN (fun _ => ?_) (fun _ => ?_) | with_reducible refine Rn.cndB (fun _ => ?_) (fun _ => ?_))
  · obtain ⟨x, hx⟩ := at_of (L := s.book) (k := i) (by omega)
    rw [drop_at hx] at q1
    simp only [List.all_cons] at q1
    have no : lineB s.weeks x = false → false = (s.book.all (lineB s.weeks) && rdsB s.weeks 0 s.reads) := fun h => by rw [← q1, h]; rfl
    have yes : lineB s.weeks x = true → (s.book.drop (i + 1)).all (lineB s.weeks) = s.book.all (lineB s.weeks) := fun h => by rw [← q1, h]; rfl
    clear q1
    try refine gs_Sc ?_
    refine Rn.call (c_rspanned _) ?_
    rintro _ h7 N7 ⟨rfl, f7, o7, l7⟩
    repeat' (first | refine gs_Sc ?_ | (first | with_reducible refine Rn.part (fun _ => ?_) (fun _ => ?_) | with_reducible refine Rn.partN (fun _ => ?_) (fun _ => ?_) | with_reducible refine Rn.partB (fun _ => ?_) (fun _ => ?_)) | (first | with_reducible refine Rn.cnd (fun _ => ?_) (fun _ => ?_) | with_reducible refine Rn.cndN (fun _ => ?_) (fun _ => ?_) | with_reducible refine Rn.cndB (fun _ => ?_) (fun _ => ?_)))
    all_goals try ((refine Rn.ret ⟨congrArg Value.bool (no ?_), (Gw.of fr_Sc (by omega))⟩); (simp only [lineB, isWeekB, *, Bool.false_and, Bool.and_false]; done))
    refine Rn.call (c_rwithin _) ?_
    rintro _ h8 N8 ⟨rfl, f8, o8, l8⟩
    repeat' (first | refine gs_Sc ?_ | (first | with_reducible refine Rn.part (fun _ => ?_) (fun _ => ?_) | with_reducible refine Rn.partN (fun _ => ?_) (fun _ => ?_) | with_reducible refine Rn.partB (fun _ => ?_) (fun _ => ?_)) | (first | with_reducible refine Rn.cnd (fun _ => ?_) (fun _ => ?_) | with_reducible refine Rn.cndN (fun _ => ?_) (fun _ => ?_) | with_reducible refine Rn.cndB (fun _ => ?_) (fun _ => ?_)))
    all_goals try ((refine Rn.ret ⟨congrArg Value.bool (no ?_), (Gw.of fr_Sc (by omega))⟩); (simp only [lineB, isWeekB, *, Bool.false_and, Bool.and_false]; done))
    refine Rn.call (c_rspanned _) ?_
    rintro _ h9 N9 ⟨rfl, f9, o9, l9⟩
    repeat' (first | refine gs_Sc ?_ | (first | with_reducible refine Rn.part (fun _ => ?_) (fun _ => ?_) | with_reducible refine Rn.partN (fun _ => ?_) (fun _ => ?_) | with_reducible refine Rn.partB (fun _ => ?_) (fun _ => ?_)) | (first | with_reducible refine Rn.cnd (fun _ => ?_) (fun _ => ?_) | with_reducible refine Rn.cndN (fun _ => ?_) (fun _ => ?_) | with_reducible refine Rn.cndB (fun _ => ?_) (fun _ => ?_)))
    all_goals try ((refine Rn.ret ⟨congrArg Value.bool (no ?_), (Gw.of fr_Sc (by omega))⟩); (simp only [lineB, isWeekB, *, Bool.false_and, Bool.and_false]; done))
    exact ih (n - 1) (by omega) _ _ _ _ _ _ ⟨i + 1, rfl, rfl, rfl, rfl, by omega, fr_Sc, by omega, sS_Sc, yes (by simp only [lineB, isWeekB, *, Bool.and_true])⟩
  · rw [List.drop_eq_nil_of_le (by omega)] at q1
    have q2 : s.book.all (lineB s.weeks) = true := q1.symm
    rw [q2, Bool.true_and]
    clear ih q1
    try refine gs_Sc ?_
    refine Rn.loop4 (fun n p u l k g M => ∃ (i : Nat) (y : Int), p = .pointer (some ⟨N, 0, none⟩) ∧ r = u ∧ l = nS s.reads.length ∧ k = nS i ∧ i + n = s.reads.length ∧ Fr h N g ∧ N + 1 ≤ M ∧ g.get N = some (.c [iS s.weeks, iS s.most, iS s.fall, iS s.slo, iS s.shi, iS s.wlo, iS s.whi, b, r] 27) ∧ rdsB s.weeks y (s.reads.drop i) = rdsB s.weeks 0 s.reads ∧ (i = 0 ∧ y = 0 ∨ 0 < i ∧ ∃ p, s.reads[i - 1]? = some p ∧ p.Number = y)) s.reads.length (by omega) ⟨0, 0, rfl, rfl, rfl, rfl, by omega, fr_Sc, by omega, sS_Sc, rfl, .inl ⟨rfl, rfl⟩⟩ ?_
    rintro n g ih _ _ _ _ h6 N6 ⟨i, y, rfl, rfl, rfl, rfl, e1, f6, l6, g1, q1, q3⟩
    try refine gs_Sc ?_
    (first | with_reducible refine Rn.cnd (fun _ => ?_) (fun _ => ?_) | with_reducible refine Rn.cndN (fun _ => ?_) (fun _ => ?_) | with_reducible refine Rn.cndB (fun _ => ?_) (fun _ => ?_))
    · obtain ⟨x, hx⟩ := at_of (L := s.reads) (k := i) (by omega)
      rw [drop_at hx] at q1
      simp only [rdsB] at q1
      have xe : s.reads[i + 1 - 1]? = some x := hx
      try refine gs_Sc ?_
      refine Rn.call (c_rReading _ (by omega)) ?_
      rintro _ h7 N7 ⟨rfl, f7, o7, l7⟩
      cases hrd : readB s.weeks x with
      | false =>
        rw [hrd] at q1
        simp only [Bool.and_false, Bool.false_and] at q1
        clear ih q3
        generalize rdsB s.weeks 0 s.reads = z at q1 ⊢
        subst q1
        repeat' (first | refine gs_Sc ?_ | (first | with_reducible refine Rn.part (fun _ => ?_) (fun _ => ?_) | with_reducible refine Rn.partN (fun _ => ?_) (fun _ => ?_) | with_reducible refine Rn.partB (fun _ => ?_) (fun _ => ?_)) | (first | with_reducible refine Rn.cnd (fun _ => ?_) (fun _ => ?_) | with_reducible refine Rn.cndN (fun _ => ?_) (fun _ => ?_) | with_reducible refine Rn.cndB (fun _ => ?_) (fun _ => ?_)))
        exact Rn.ret ⟨rfl, (Gw.of fr_Sc (by omega))⟩
      | true =>
        have hn : 1 ≤ x.Number := by simp only [readB, inS, Bool.and_eq_true, decide_eq_true_eq] at hrd; omega
        rw [hrd] at q1
        simp only [Bool.and_true] at q1
        rcases q3 with ⟨rfl, rfl⟩ | ⟨hi, p, hp, rfl⟩
        · rw [decide_eq_true (by omega)] at q1
          repeat' (first | refine gs_Sc ?_ | (first | with_reducible refine Rn.part (fun _ => ?_) (fun _ => ?_) | with_reducible refine Rn.partN (fun _ => ?_) (fun _ => ?_) | with_reducible refine Rn.partB (fun _ => ?_) (fun _ => ?_)) | (first | with_reducible refine Rn.cnd (fun _ => ?_) (fun _ => ?_) | with_reducible refine Rn.cndN (fun _ => ?_) (fun _ => ?_) | with_reducible refine Rn.cndB (fun _ => ?_) (fun _ => ?_)))
          all_goals first | omega | exact ih (n - 1) (by omega) _ _ _ _ _ _ ⟨0 + 1, x.Number, rfl, rfl, rfl, rfl, by omega, fr_Sc, by omega, sS_Sc, q1, .inr ⟨by omega, x, xe, rfl⟩⟩
        · repeat' (first | refine gs_Sc ?_ | (first | with_reducible refine Rn.part (fun _ => ?_) (fun _ => ?_) | with_reducible refine Rn.partN (fun _ => ?_) (fun _ => ?_) | with_reducible refine Rn.partB (fun _ => ?_) (fun _ => ?_)) | (first | with_reducible refine Rn.cnd (fun _ => ?_) (fun _ => ?_) | with_reducible refine Rn.cndN (fun _ => ?_) (fun _ => ?_) | with_reducible refine Rn.cndB (fun _ => ?_) (fun _ => ?_)))
          all_goals try (exfalso; omega)
          · rw [decide_eq_false (by omega)] at q1
            exact Rn.ret ⟨congrArg Value.bool q1, (Gw.of fr_Sc (by omega))⟩
          · rw [decide_eq_true (by omega)] at q1
            exact ih (n - 1) (by omega) _ _ _ _ _ _ ⟨i + 1, x.Number, rfl, rfl, rfl, rfl, by omega, fr_Sc, by omega, sS_Sc, q1, .inr ⟨by omega, x, xe, rfl⟩⟩
    · rw [List.drop_eq_nil_of_le (by omega)] at q1
      try refine gs_Sc ?_
      exact Rn.ret ⟨congrArg Value.bool q1, (Gw.of fr_Sc (by omega))⟩
end
end Go.Proofs.Ytpilgokdbliklaa
end

section
namespace Go.Proofs.Ytpilgokdbliklaa
open Go.Ev Go.RowKit
set_option linter.unusedVariables false
set_option linter.unusedSimpArgs false
set_option linter.unusedSectionVars false
set_option maxRecDepth 100000
set_option maxHeartbeats 4000000
theorem s1_Sk {p : Prop} (h : p := by (simp (disch := omega) only [obind_s, orun_s, ocond_t, fad_p, ld1_e, ldN_e, sto_e, cellO_c, wrO_c, Tr.get_same, Tr.get_other, nth_0, nth_s, drp_0, drp_s, drp_n, tak_0, tak_s, tak_n, over_n, over_c, lay_0, lay_s, lay_n, len_n, len_c, app_n, app_c, reps_0, reps_s, cel_agg, cel_int, cel_bool, cel_str, cel_sl, cel_ptr, cel_map, cel_func, cel_nilf, fil_n, fil_c, beq_r, ble_d, allF_n, allF_c, one_int, one_bool, one_str, one_sl, one_ptr, one_map, one_func, one_nilf, Bool.and_true, Bool.true_and, Bool.not_true, Bool.not_false, iadA_z, Int.reduceToNat, Int.toNat_zero, fl1_a, flN_a, extr_t, unot, not_d, Nat.add_eq, Nat.mul_eq, Nat.mul_one, Nat.one_mul, Nat.zero_mul, Nat.reduceMul, Nat.zero_add, Nat.add_zero, Nat.le_refl, decide_true, Nat.reduceAdd, Nat.reduceLeDiff, bsl_Sint, bld_Span, bld_spring_work, bld_spring_asked, enc_Line, enc_Reading, ocond_d, Int.toNat_natCast, bd_drp0, bd_drp1, bd_lay, bd_len, bd_self, bd_tak, bd_over, qc_drp0, qc_drp1, setSt_e, stO_n, stO_s, isReady_r, anySt_t, unmark_e, unO_d, bsl_Saguadorref01_left, enc_Lf, le_lo, le_hi, le_laylo, le_layhi, le_len, le_self, le_tak, le_over, up_same, up_up, Nat.add_sub_cancel, *]); first | done | fail) : p := h
theorem s2_Sk {p : Prop} (h : p := by (simp (disch := omega) only [obind_s, orun_s, ocond_t, fad_p, ld1_e, ldN_e, sto_e, cellO_c, wrO_c, Tr.get_same, Tr.get_other, nth_0, nth_s, drp_0, drp_s, drp_n, tak_0, tak_s, tak_n, over_n, over_c, lay_0, lay_s, lay_n, len_n, len_c, app_n, app_c, reps_0, reps_s, cel_agg, cel_int, cel_bool, cel_str, cel_sl, cel_ptr, cel_map, cel_func, cel_nilf, fil_n, fil_c, beq_r, ble_d, allF_n, allF_c, one_int, one_bool, one_str, one_sl, one_ptr, one_map, one_func, one_nilf, Bool.and_true, Bool.true_and, Bool.not_true, Bool.not_false, iadA_z, Int.reduceToNat, Int.toNat_zero, fl1_a, flN_a, extr_t, unot, not_d, Nat.add_eq, Nat.mul_eq, Nat.mul_one, Nat.one_mul, Nat.zero_mul, Nat.reduceMul, Nat.zero_add, Nat.add_zero, Nat.le_refl, decide_true, Nat.reduceAdd, Nat.reduceLeDiff, bsl_Sint, bld_Span, bld_spring_work, bld_spring_asked, enc_Line, enc_Reading, ocond_d, Int.toNat_natCast, bd_drp0, bd_drp1, bd_lay, bd_len, bd_self, bd_tak, bd_over, qc_drp0, qc_drp1, setSt_e, stO_n, stO_s, isReady_r, anySt_t, unmark_e, unO_d, bsl_Saguadorref01_left, enc_Lf, le_lo, le_hi, le_laylo, le_layhi, le_len, le_self, le_tak, le_over, up_same, up_up, Nat.add_sub_cancel, *]); rfl) : p := h
theorem sb_Sk {p : Prop} (h : p := by first | ((simp (disch := omega) only [obind_s, orun_s, ocond_t, fad_p, ld1_e, ldN_e, sto_e, cellO_c, wrO_c, Tr.get_same, Tr.get_other, nth_0, nth_s, drp_0, drp_s, drp_n, tak_0, tak_s, tak_n, over_n, over_c, lay_0, lay_s, lay_n, len_n, len_c, app_n, app_c, reps_0, reps_s, cel_agg, cel_int, cel_bool, cel_str, cel_sl, cel_ptr, cel_map, cel_func, cel_nilf, fil_n, fil_c, beq_r, ble_d, allF_n, allF_c, one_int, one_bool, one_str, one_sl, one_ptr, one_map, one_func, one_nilf, Bool.and_true, Bool.true_and, Bool.not_true, Bool.not_false, iadA_z, Int.reduceToNat, Int.toNat_zero, fl1_a, flN_a, extr_t, unot, not_d, Nat.add_eq, Nat.mul_eq, Nat.mul_one, Nat.one_mul, Nat.zero_mul, Nat.reduceMul, Nat.zero_add, Nat.add_zero, Nat.le_refl, decide_true, Nat.reduceAdd, Nat.reduceLeDiff, bsl_Sint, bld_Span, bld_spring_work, bld_spring_asked, enc_Line, enc_Reading, ocond_d, Int.toNat_natCast, bd_drp0, bd_drp1, bd_lay, bd_len, bd_self, bd_tak, bd_over, qc_drp0, qc_drp1, setSt_e, stO_n, stO_s, isReady_r, anySt_t, unmark_e, unO_d, bsl_Saguadorref01_left, enc_Lf, le_lo, le_hi, le_laylo, le_layhi, le_len, le_self, le_tak, le_over, up_same, up_up, Nat.add_sub_cancel, Nat.succ_eq_add_one, Nat.add_assoc, *]); rfl) | ((simp (disch := omega) only [obind_s, orun_s, ocond_t, fad_p, ld1_e, ldN_e, sto_e, cellO_c, wrO_c, Tr.get_same, Tr.get_other, nth_0, nth_s, drp_0, drp_s, drp_n, tak_0, tak_s, tak_n, over_n, over_c, lay_0, lay_s, lay_n, len_n, len_c, app_n, app_c, reps_0, reps_s, cel_agg, cel_int, cel_bool, cel_str, cel_sl, cel_ptr, cel_map, cel_func, cel_nilf, fil_n, fil_c, beq_r, ble_d, allF_n, allF_c, one_int, one_bool, one_str, one_sl, one_ptr, one_map, one_func, one_nilf, Bool.and_true, Bool.true_and, Bool.not_true, Bool.not_false, iadA_z, Int.reduceToNat, Int.toNat_zero, fl1_a, flN_a, extr_t, unot, not_d, Nat.add_eq, Nat.mul_eq, Nat.mul_one, Nat.one_mul, Nat.zero_mul, Nat.reduceMul, Nat.zero_add, Nat.add_zero, Nat.le_refl, decide_true, Nat.reduceAdd, Nat.reduceLeDiff, bsl_Sint, bld_Span, bld_spring_work, bld_spring_asked, enc_Line, enc_Reading, ocond_d, Int.toNat_natCast, bd_drp0, bd_drp1, bd_lay, bd_len, bd_self, bd_tak, bd_over, qc_drp0, qc_drp1, setSt_e, stO_n, stO_s, isReady_r, anySt_t, unmark_e, unO_d, bsl_Saguadorref01_left, enc_Lf, le_lo, le_hi, le_laylo, le_layhi, le_len, le_self, le_tak, le_over, up_same, up_up, Nat.add_sub_cancel, Nat.succ_eq_add_one, Nat.add_assoc, *]); done)) : p := h
theorem fr_Sk {p : Prop} (h : p := by first | assumption | exact Fr.refl _ _ | (simp (disch := omega) only [Fr_set, Fr_refl, *])) : p := h
theorem fl_Sk {p : Prop} (h : p := by first | with_unfolding_all rfl | exact Sl.flat (by assumption) | assumption) : p := h
theorem fll_Sk {p : Prop} (h : p := by first | with_unfolding_all rfl | ((repeat (refine flatL_k fl_Sk ?_)); with_unfolding_all rfl)) : p := h
theorem en_Sk {p : Prop} (h : p := by first | ((simp only [enc_int, enc_str, enc_u8, enc_bool, tak_s, tak_0, tak_n, drp_0, drp_s, drp_n, nth_s, nth_0, bsl_Sint, bld_Span, bld_spring_work, bld_spring_asked, enc_Line, enc_Reading, ocond_d, Int.toNat_natCast, bd_drp0, bd_drp1, bd_lay, bd_len, bd_self, bd_tak, bd_over, qc_drp0, qc_drp1, setSt_e, stO_n, stO_s, isReady_r, anySt_t, unmark_e, unO_d, bsl_Saguadorref01_left, enc_Lf, le_lo, le_hi, le_laylo, le_layhi, le_len, le_self, le_tak, le_over, up_same, up_up, Nat.add_sub_cancel]); rfl) | ((simp only [enc_int, enc_str, enc_u8, enc_bool, tak_s, tak_0, tak_n, drp_0, drp_s, drp_n, nth_s, nth_0, bsl_Sint, bld_Span, bld_spring_work, bld_spring_asked, enc_Line, enc_Reading, ocond_d, Int.toNat_natCast, bd_drp0, bd_drp1, bd_lay, bd_len, bd_self, bd_tak, bd_over, qc_drp0, qc_drp1, setSt_e, stO_n, stO_s, isReady_r, anySt_t, unmark_e, unO_d, bsl_Saguadorref01_left, enc_Lf, le_lo, le_hi, le_laylo, le_layhi, le_len, le_self, le_tak, le_over, up_same, up_up, Nat.add_sub_cancel]); done) | with_unfolding_all rfl) : p := h
theorem sM_Sk {p : Prop} (h : p := by (first | assumption | (simp (disch := omega) only [Tr.get_same, Tr.get_other, *]; rfl) | (simp (disch := omega) only [Tr.get_same, Tr.get_other, *]; done))) : p := h
theorem op_Sk {p : Prop} (h : p := by first | with_reducible exact fad_p _ _ _ | with_reducible exact iop_lss _ _ | with_reducible exact iop_leq _ _ | with_reducible exact iop_gtr _ _ | with_reducible exact iop_geq _ _ | with_reducible exact iop_eql _ _ | with_reducible exact iop_neq _ _ | with_reducible exact Sl.len (by assumption) | with_reducible exact lenS_s _ _ _ | with_reducible exact Sl.iad (by assumption) (by with_unfolding_all rfl) (by first | assumption | omega) | with_reducible exact Sl.fad (by assumption) (by first | assumption | omega) | with_reducible exact Sl.ld1 (by assumption) fr_Sk (by with_unfolding_all rfl) (by assumption) en_Sk | with_reducible exact Sl.ldN (by assumption) fr_Sk (by with_unfolding_all rfl) (by assumption) (by with_unfolding_all rfl) en_Sk | with_reducible exact zadd1 (by omega) | with_reducible exact zsub1 (by omega) (by omega) | with_reducible exact zaddI (by omega) (by omega) | with_reducible exact zsubI (by omega) (by omega) | with_reducible exact min_z | with_reducible exact max_z | with_reducible exact zmulI (by assumption) | with_reducible exact zmulK (by omega) (by omega) | with_reducible exact quo_z (by omega) (by omega) (by omega) | with_reducible exact cv_u8 (by omega) | with_reducible exact rem_z (by omega) (by omega) (by omega) | with_reducible exact neq_bool (by kernel_rfl) | with_reducible exact eql_u8 | with_reducible exact wntT_t (by assumption) | with_reducible exact wntT_f (by assumption) | with_reducible exact wntF_t (by assumption) | with_reducible exact wntF_f (by assumption) | with_reducible exact wnt_tt | with_reducible exact wnt_tf | with_reducible exact wnt_ft | with_reducible exact wnt_ff | with_reducible exact wnt_u _ _ | with_reducible exact pck_t _ _ | with_reducible exact pck_f _ _ | with_reducible exact pckT (by assumption) | with_reducible exact pckF (by assumption) | with_reducible exact wntT_t (by decide) | with_reducible exact wntT_f (by decide) | with_reducible exact wntF_t (by decide) | with_reducible exact wntF_f (by decide) | with_reducible exact pckT (by decide) | with_reducible exact pckF (by decide) | with_reducible exact wntN_tt (by decide) | with_reducible exact wntN_tf (by decide) | with_reducible exact wntN_ft (by decide) | with_reducible exact wntN_ff (by decide) | with_reducible exact pckNT (by decide) | with_reducible exact pckNF (by decide) | with_reducible exact wntN_tt (by assumption) | with_reducible exact wntN_tf (by assumption) | with_reducible exact wntN_ft (by assumption) | with_reducible exact wntN_ff (by assumption) | with_reducible exact pckNT (by assumption) | with_reducible exact pckNF (by assumption) | with_reducible exact wntB_tt (by assumption) | with_reducible exact wntB_tf (by assumption) | with_reducible exact wntB_ft (by assumption) | with_reducible exact wntB_ff (by assumption) | with_reducible exact pckBT (by assumption) | with_reducible exact pckBF (by assumption) | exact s2_Sk | exact s1_Sk) : p := h
theorem co_Sk {p : Prop} (h : p := by first | (simp only [impB_1, impB_0, offB_1, offB_0]; done) | ((try simp only [impB_1, impB_0, offB_1, offB_0]); first | with_reducible exact Sl.ag1 (by assumption) fr_Sk (by with_unfolding_all rfl) (by assumption) en_Sk | with_reducible exact Sl.agN (by assumption) fr_Sk (by with_unfolding_all rfl) (by assumption) (by with_unfolding_all rfl) en_Sk | ((with_reducible refine agL1_e ?_ ?_); (· exact s1_Sk); (· exact fl_Sk)) | ((with_reducible refine agLN_e ?_ ?_); (· exact s1_Sk); (· exact fll_Sk)) | ((with_reducible apply ag_bs); (· exact sM_Sk); (· rfl); (· exact sb_Sk); (· exact fll_Sk)) | ((with_reducible apply ag_al); (· exact sM_Sk); (· rfl); (· exact fll_Sk)) | ((with_reducible apply ag_bx); (· exact sM_Sk); (· rfl); (· rfl); (· exact fll_Sk)) | ((with_reducible apply ag_bd); (· rfl); (· exact s1_Sk); (· exact fll_Sk)) | exact s1_Sk)) : p := h
theorem gs_Sk {r p : Prop} (k : r) (h : Go.Ev.Im r p := by (first | with_reducible apply Im.runS | ((with_reducible apply Im.num); · (simp only [Nat.succ_eq_add_one, Nat.add_assoc, Nat.reduceAdd]; rfl)) | (with_reducible apply Im.unm) | (with_reducible apply Im.selT) | (with_reducible apply Im.selF) | ((with_reducible apply Im.cndT); · assumption) | ((with_reducible apply Im.cndF); · assumption) | ((with_reducible apply Im.cndT); · decide) | ((with_reducible apply Im.cndF); · decide) | ((with_reducible apply Im.cndNT); · decide) | ((with_reducible apply Im.cndNF); · decide) | ((with_reducible apply Im.cndBT); · exact rfl) | ((with_reducible apply Im.cndBF); · exact rfl) | ((with_reducible apply Im.cndNT); · assumption) | ((with_reducible apply Im.cndNF); · assumption) | ((with_reducible apply Im.cndBT); · assumption) | ((with_reducible apply Im.cndBF); · assumption) | ((with_reducible apply Im.bind); · exact op_Sk) | ((with_reducible apply Im.cond); · exact co_Sk) | ((with_reducible apply Im.runB); · exact op_Sk) | ((with_reducible apply Im.runC); · exact co_Sk) | ((with_reducible apply Im.runN); · (simp only [Nat.succ_eq_add_one, Nat.add_assoc, Nat.reduceAdd]; rfl)) | with_reducible apply Im.runR | ((with_reducible apply Im.runE (x := evBuildSlice _ _ _ _ _ _)); · exact sb_Sk)); (repeat (first | with_reducible apply Im.runS | ((with_reducible apply Im.num); · (simp only [Nat.succ_eq_add_one, Nat.add_assoc, Nat.reduceAdd]; rfl)) | (with_reducible apply Im.unm) | (with_reducible apply Im.selT) | (with_reducible apply Im.selF) | ((with_reducible apply Im.cndT); · assumption) | ((with_reducible apply Im.cndF); · assumption) | ((with_reducible apply Im.cndT); · decide) | ((with_reducible apply Im.cndF); · decide) | ((with_reducible apply Im.cndNT); · decide) | ((with_reducible apply Im.cndNF); · decide) | ((with_reducible apply Im.cndBT); · exact rfl) | ((with_reducible apply Im.cndBF); · exact rfl) | ((with_reducible apply Im.cndNT); · assumption) | ((with_reducible apply Im.cndNF); · assumption) | ((with_reducible apply Im.cndBT); · assumption) | ((with_reducible apply Im.cndBF); · assumption) | ((with_reducible apply Im.bind); · exact op_Sk) | ((with_reducible apply Im.cond); · exact co_Sk) | ((with_reducible apply Im.runB); · exact op_Sk) | ((with_reducible apply Im.runC); · exact co_Sk) | ((with_reducible apply Im.runN); · (simp only [Nat.succ_eq_add_one, Nat.add_assoc, Nat.reduceAdd]; rfl)) | with_reducible apply Im.runR | ((with_reducible apply Im.runE (x := evBuildSlice _ _ _ _ _ _)); · exact sb_Sk))); exact Go.Ev.Im.id) : p := h k
def leC (f : Bd) : List Value := [iS (f 0).1, iS (f 1).1, iS (f 2).1, iS (f 3).1, iS (f 4).1, iS (f 5).1, iS (f 6).1, iS (f 7).1, iS (f 8).1, iS (f 9).1, iS (f 0).2, iS (f 1).2, iS (f 2).2, iS (f 3).2, iS (f 4).2, iS (f 5).2, iS (f 6).2, iS (f 7).2, iS (f 8).2, iS (f 9).2]
theorem le_lo (f : Bd) {k : Nat} (hk : k < 10) : nth (drp (leC f) k) 0 = some (iS (f k).1) :=
  ten (p := fun k => nth (drp (leC f) k) 0 = some (iS (f k).1)) rfl rfl rfl rfl rfl rfl rfl rfl rfl rfl k hk
theorem le_hi (f : Bd) {k : Nat} (hk : k < 10) : nth (drp (leC f) (10 + k)) 0 = some (iS (f k).2) :=
  ten (p := fun k => nth (drp (leC f) (10 + k)) 0 = some (iS (f k).2)) rfl rfl rfl rfl rfl rfl rfl rfl rfl rfl k hk
theorem le_laylo (f : Bd) {k : Nat} (hk : k < 10) (a : Int) : lay (leC f) [iS a] k = leC (up f k (a, (f k).2)) :=
  ten (p := fun k => lay (leC f) [iS a] k = leC (up f k (a, (f k).2))) rfl rfl rfl rfl rfl rfl rfl rfl rfl rfl k hk
theorem le_layhi (f : Bd) {k : Nat} (hk : k < 10) (a : Int) : lay (leC f) [iS a] (10 + k) = leC (up f k ((f k).1, a)) :=
  ten (p := fun k => lay (leC f) [iS a] (10 + k) = leC (up f k ((f k).1, a))) rfl rfl rfl rfl rfl rfl rfl rfl rfl rfl k hk
theorem le_len (f : Bd) : len (leC f) = 20 := rfl
theorem le_self (f g : Bd) : lay (leC f) (leC g) 0 = leC g := rfl
theorem le_tak (f : Bd) : tak (leC f) 20 = leC f := rfl
theorem le_over (f : Bd) : over (leC f) [iS 0, iS 0, iS 0, iS 0, iS 0, iS 0, iS 0, iS 0, iS 0, iS 0, iS 0, iS 0, iS 0, iS 0, iS 0, iS 0, iS 0, iS 0, iS 0, iS 0] = leC f := rfl
/-- What a rain leaves, as the reference keeps it. -/
structure Lf where
  f : Bd
instance : Rwc Lf := ⟨20, fun x => leC x.f, fun _ => rfl, fun _ => rfl, by omega⟩
theorem enc_Lf (x : Lf) : Rwc.enc x = leC x.f := rfl
section
variable {s : Sp} {b r : Value}
end
end Go.Proofs.Ytpilgokdbliklaa
end

section
namespace Go.Proofs.Ytpilgokdbliklaa
open Go.Ev Go.RowKit
set_option linter.unusedVariables false
set_option linter.unusedSimpArgs false
set_option linter.unusedSectionVars false
set_option maxRecDepth 100000
set_option maxHeartbeats 4000000
section
variable {s : Sp} {b r : Value}
end
end Go.Proofs.Ytpilgokdbliklaa
end

section
namespace Go.Proofs.Ytpilgokdbliklaa
open Go.Ev Go.RowKit
set_option linter.unusedVariables false
set_option linter.unusedSimpArgs false
set_option linter.unusedSectionVars false
set_option maxRecDepth 100000
set_option maxHeartbeats 4000000
section
variable {s : Sp} {b r : Value}
def greatB (s : Sp) : Bool := decide (30 < s.book.length) || decide (30 < s.reads.length)
theorem c_rGreat (call : CallF) {h N} (hb : Sl h N b s.book) (hr : Sl h N r s.reads) : Rn (s12 call (.agg ⟨[iS s.weeks, iS s.most, iS s.fall, iS s.slo, iS s.shi, iS s.wlo, iS s.whi, b, r]⟩) h N) fun v h' N' => v = .bool (greatB s) ∧ Gw h N h' N' := by
  have cb := hb.flat
  have cr := hr.flat
  unfold s12
  have x1 := flatV_one cb; have y1 := cel_flat cb; have x2 := flatV_one cr; have y2 := cel_flat cr
  repeat' (first | refine gs_Sk ?_ | (first | with_reducible refine Rn.part (fun _ => ?_) (fun _ => ?_) | with_reducible refine Rn.partN (fun _ => ?_) (fun _ => ?_) | with_reducible refine Rn.partB (fun _ => ?_) (fun _ => ?_)) | (first | with_reducible refine Rn.cnd (fun _ => ?_) (fun _ => ?_) | with_reducible refine Rn.cndN (fun _ => ?_) (fun _ => ?_) | with_reducible refine Rn.cndB (fun _ => ?_) (fun _ => ?_)))
  all_goals exact Rn.ret ⟨congrArg Value.bool (by simp only [greatB]; rw [Bool.eq_iff_iff]; simp; omega), (Gw.of fr_Sk (by omega))⟩
def readyB (s : Sp) : Bool := !greatB s && validB s
theorem c_ready (call : CallF) {h N} (hb : Sl h N b s.book) (hr : Sl h N r s.reads) : Rn (s29 call (.agg ⟨[iS s.weeks, iS s.most, iS s.fall, iS s.slo, iS s.shi, iS s.wlo, iS s.whi, b, r]⟩) h N) fun v h' N' => v = .bool (readyB s) ∧ Gw h N h' N' := by
  have cb := hb.flat
  have cr := hr.flat
  unfold s29
  have x1 := flatV_one cb; have y1 := cel_flat cb; have x2 := flatV_one cr; have y2 := cel_flat cr
  try refine gs_Sk ?_
  refine Rn.call (c_rGreat _ (Sl.up (by assumption) fr_Sk (by omega)) (Sl.up (by assumption) fr_Sk (by omega))) ?_
  rintro _ h1 N1 ⟨rfl, f1, o1, l1⟩
  repeat' (first | refine gs_Sk ?_ | (first | with_reducible refine Rn.part (fun _ => ?_) (fun _ => ?_) | with_reducible refine Rn.partN (fun _ => ?_) (fun _ => ?_) | with_reducible refine Rn.partB (fun _ => ?_) (fun _ => ?_)) | (first | with_reducible refine Rn.cnd (fun _ => ?_) (fun _ => ?_) | with_reducible refine Rn.cndN (fun _ => ?_) (fun _ => ?_) | with_reducible refine Rn.cndB (fun _ => ?_) (fun _ => ?_)))
  rotate_left
  · have hg : greatB s = false := by assumption
    have hg2 := hg
    simp only [greatB, Bool.or_eq_false_iff, decide_eq_false_iff_not] at hg2
    refine Rn.call (c_rSpring _ (by omega) (by omega) (Sl.up (by assumption) fr_Sk (by omega)) (Sl.up (by assumption) fr_Sk (by omega))) ?_
    rintro _ h2 N2 ⟨rfl, f2, o2, l2⟩
    try refine gs_Sk ?_
    exact Rn.ret ⟨congrArg Value.bool (by unfold readyB; rw [hg]; rfl), (Gw.of fr_Sk (by omega))⟩
  · exact Rn.ret ⟨congrArg Value.bool (by unfold readyB; simp only [*]; rfl), (Gw.of fr_Sk (by omega))⟩
end
end Go.Proofs.Ytpilgokdbliklaa
end

section
namespace Go.Proofs.Ytpilgokdbliklaa
open Go.Ev Go.RowKit
set_option linter.unusedVariables false
set_option linter.unusedSimpArgs false
set_option linter.unusedSectionVars false
set_option maxRecDepth 100000
set_option maxHeartbeats 4000000
section
variable {s : Sp} {b r : Value}
end
end Go.Proofs.Ytpilgokdbliklaa
end

section
namespace Go.Proofs.Ytpilgokdbliklaa
open Go.Ev Go.RowKit
set_option linter.unusedVariables false
set_option linter.unusedSimpArgs false
set_option linter.unusedSectionVars false
set_option maxRecDepth 100000
set_option maxHeartbeats 4000000
theorem cv_u8 {z : Int} (h : 0 ≤ z ∧ z < 256) : cvV Pr 5 3 (.int .u8 z) = some (iS z) := by
  have hw : IntKind.i64.wrap z = z := Go.Sx.wrap_in (by omega)
  have g : still Pr (convert 5 3 (.int .u8 z)) = some (iS z) := by
    have u1 : Pr.underlying 5 = some (.int .u8) := by kernel_rfl
    have u2 : Pr.underlying 3 = some (.int .i64) := by kernel_rfl
    unfold convert
    simp [still_bnd, still_undl u1, still_undl u2, obind_s, still_pure, Conv.intToInt, hw]
  show ocond true (obind (still Pr _) fun r => ocond (scal r) (some r)) = _
  rw [g]; rfl
end Go.Proofs.Ytpilgokdbliklaa
end

section
namespace Go.Proofs.Ytpilgokdbliklaa
open Go.Ev Go.RowKit
set_option linter.unusedVariables false
set_option linter.unusedSimpArgs false
set_option linter.unusedSectionVars false
set_option maxRecDepth 100000
set_option maxHeartbeats 4000000
section
variable {s : Sp} {b r : Value}
theorem ready_ok (h : readyB s = true) : validB s = true ∧ s.book.length < 1000 ∧ s.reads.length < 1000 := by
  simp only [readyB, greatB, Bool.and_eq_true, Bool.not_eq_true', Bool.or_eq_false_iff, decide_eq_false_iff_not] at h
  exact ⟨h.2, by omega, by omega⟩
end
end Go.Proofs.Ytpilgokdbliklaa
end

section
namespace Go.Proofs.Ytpilgokdbliklaa
open Go.Ev Go.RowKit
set_option linter.unusedVariables false
set_option linter.unusedSimpArgs false
set_option linter.unusedSectionVars false
set_option maxRecDepth 100000
set_option maxHeartbeats 4000000
open Go.Sx Go.ChangeShapes Go.WideShapes Go.ChangeAt
theorem Try.own : ownKnob Try.prog.godebug = none := by kernel_rfl
theorem Try.laidOut : laidOutB Try.prog = true := by kernel_rfl
theorem plains_ln (K : List Ln) : ∀ u ∈ encs K, plain u = true := by
  intro u hu
  simp only [encs, List.mem_flatMap] at hu
  obtain ⟨n, _, h⟩ := hu
  exact plain_Line n u h
theorem plains_rd (K : List Rd) : ∀ u ∈ encs K, plain u = true := by
  intro u hu
  simp only [encs, List.mem_flatMap] at hu
  obtain ⟨n, _, h⟩ := hu
  exact plain_Reading n u h
section
variable {H : Type} {enc : TypeId × Value → H} {w : World} {b0 base fuel : Nat} {spare : Nat → Bool} {held : Bool} {v : Value} {cs : List Value} {x : DataW H × List MemPlace}
theorem cells_int : Try.prog.cellsOf 3 = 1 := by kernel_rfl
theorem cells_span : Try.prog.cellsOf 23 = 2 := by kernel_rfl
theorem cells_line : Try.prog.cellsOf 73 = 5 := by kernel_rfl
theorem cells_reading : Try.prog.cellsOf 71 = 5 := by kernel_rfl
theorem cells_spring : Try.prog.cellsOf 27 = 9 := by kernel_rfl
theorem cells_lines : Try.prog.cellsOf 24 = 1 := by kernel_rfl
theorem cells_readings : Try.prog.cellsOf 25 = 1 := by kernel_rfl
theorem fld {fs : Array Field} {xs : List (DataW H × List MemPlace)} {n : Nat} {cs : List Value} (hf : ∀ (i : Nat) (f : Field), fs[i]? = some f → DataW.trod enc Try.prog w base spare held n f.type ((cs.drop f.offset).take (Try.prog.cellsOf f.type)) = xs[i]?)
    (i off T k : Nat) (hi : ∃ f, fs[i]? = some f ∧ f.type = T ∧ f.offset = off) (hc : Try.prog.cellsOf T = k) {y : DataW H × List MemPlace} (hx : xs[i]? = some y) : DataW.trod enc Try.prog w base spare held n T ((cs.drop off).take k) = some y := by
  obtain ⟨f, h1, rfl, rfl⟩ := hi
  rw [← hc, hf i f h1, hx]
theorem rd_int (h : DataW.trod enc Try.prog w base spare held fuel 3 cs = some x) : ∃ n : Int, cs = [.int .i64 n] := by
  obtain ⟨n, h1, _⟩ := DataW.trod_int Try.underlying3 h
  exact ⟨n, h1⟩
theorem rd_span (h : DataW.trod enc Try.prog w base spare held fuel 23 cs = some x) : ∃ a b : Int, cs = [.int .i64 a, .int .i64 b] := by
  obtain ⟨xs, n, _, _, hl, hxl, hf⟩ := DataW.trod_struct Try.underlying23 h
  rw [cells_span] at hl
  match cs, hl with
  | [c0, c1], _ =>
    match xs, hxl with
    | [x0, x1], _ =>
      have f0 := fld hf 0 0 3 1 ⟨_, rfl, rfl, rfl⟩ cells_int (y := x0) rfl
      have f1 := fld hf 1 1 3 1 ⟨_, rfl, rfl, rfl⟩ cells_int (y := x1) rfl
      obtain ⟨a, ha⟩ := rd_int f0
      obtain ⟨b, hb⟩ := rd_int f1
      simp at ha hb
      exact ⟨a, b, by rw [ha, hb]⟩
theorem rd_line (h : DataW.trod enc Try.prog w base spare held fuel 73 cs = some x) : ∃ r : Ln, cs = Rwc.enc r := by
  obtain ⟨xs, n, _, _, hl, hxl, hf⟩ := DataW.trod_struct Try.underlying73 h
  rw [cells_line] at hl
  match cs, hl with
  | [c0, c1, c2, c3, c4], _ =>
    match xs, hxl with
    | [x0, x1, x2], _ =>
      have f0 := fld hf 0 0 23 2 ⟨_, rfl, rfl, rfl⟩ cells_span (y := x0) rfl
      have f1 := fld hf 1 2 3 1 ⟨_, rfl, rfl, rfl⟩ cells_int (y := x1) rfl
      have f2 := fld hf 2 3 23 2 ⟨_, rfl, rfl, rfl⟩ cells_span (y := x2) rfl
      obtain ⟨a, b, ha⟩ := rd_span f0
      obtain ⟨c, hc⟩ := rd_int f1
      obtain ⟨d, e, hd⟩ := rd_span f2
      simp at ha hc hd
      exact ⟨⟨a, b, c, d, e⟩, by rw [enc_Line, ha.1, ha.2, hc, hd.1, hd.2]⟩
theorem rd_reading (h : DataW.trod enc Try.prog w base spare held fuel 71 cs = some x) : ∃ r : Rd, cs = Rwc.enc r := by
  obtain ⟨xs, n, _, _, hl, hxl, hf⟩ := DataW.trod_struct Try.underlying71 h
  rw [cells_reading] at hl
  match cs, hl with
  | [c0, c1, c2, c3, c4], _ =>
    match xs, hxl with
    | [x0, x1, x2, x3], _ =>
      have f0 := fld hf 0 0 3 1 ⟨_, rfl, rfl, rfl⟩ cells_int (y := x0) rfl
      have f1 := fld hf 1 1 3 1 ⟨_, rfl, rfl, rfl⟩ cells_int (y := x1) rfl
      have f2 := fld hf 2 2 3 1 ⟨_, rfl, rfl, rfl⟩ cells_int (y := x2) rfl
      have f3 := fld hf 3 3 23 2 ⟨_, rfl, rfl, rfl⟩ cells_span (y := x3) rfl
      obtain ⟨a, ha⟩ := rd_int f0
      obtain ⟨b, hb⟩ := rd_int f1
      obtain ⟨c, hc⟩ := rd_int f2
      obtain ⟨d, e, hd⟩ := rd_span f3
      simp at ha hb hc hd
      exact ⟨⟨a, b, c, d, e⟩, by rw [enc_Reading, ha, hb, hc, hd.1, hd.2]⟩
theorem open_spring {d : DataW H} {ps : List MemPlace} (hv : Value.okWide Try.prog w .any b0 27 v) (h : DataW.Trod enc Try.prog w 0 spare held 27 v d ps) :
    ∃ (s : Sp) (b r : Value), v = .agg ⟨[iS s.weeks, iS s.most, iS s.fall, iS s.slo, iS s.shi, iS s.wlo, iS s.whi, b, r]⟩ ∧ In w b s.book ∧ In w r s.reads ∧ Pl b s.book.length ∧ Pl r s.reads.length := by
  have hv0 := hv
  obtain ⟨cs, rfl, hcs⟩ := okWide_struct Try.underlying27 hv
  obtain ⟨fuel, h⟩ := h
  obtain ⟨xs, n, _, _, hl, hxl, hf⟩ := DataW.trod_struct Try.underlying27 h
  have hl' : cs.toList.length = 9 := by rw [cells_spring] at hl; exact hl
  obtain ⟨c0, c1, c2, c3, c4, c5, c6, c7, c8, hc⟩ : ∃ c0 c1 c2 c3 c4 c5 c6 c7 c8, cs.toList = [c0, c1, c2, c3, c4, c5, c6, c7, c8] := by
    match hz : cs.toList, hl' with
    | [c0, c1, c2, c3, c4, c5, c6, c7, c8], _ => exact ⟨c0, c1, c2, c3, c4, c5, c6, c7, c8, rfl⟩
  have hce : (Value.agg cs).cells.toList = [c0, c1, c2, c3, c4, c5, c6, c7, c8] := hc
  rw [hce] at hf
  have hca : cs = ⟨[c0, c1, c2, c3, c4, c5, c6, c7, c8]⟩ := Array.ext' hc
  subst hca
  simp only [Value.okWide, Try.underlying27] at hv0
  obtain ⟨_, he, _, ts, hts, _, hk⟩ := hv0
  cases he
  have e : Try.prog.cellTypes Try.prog.depth 27 = some [3, 3, 3, 3, 3, 3, 3, 24, 25] := by kernel_rfl
  rw [e] at hts
  cases hts
  obtain ⟨u7, g7, k7⟩ := hk 7 c7 rfl
  obtain ⟨u8, g8, k8⟩ := hk 8 c8 rfl
  cases g7; cases g8
  match xs, hxl with
  | [x0, x1, x2, x3, x4, x5, x6], _ =>
    have f0 := fld hf 0 0 3 1 ⟨_, rfl, rfl, rfl⟩ cells_int (y := x0) rfl
    have f1 := fld hf 1 1 3 1 ⟨_, rfl, rfl, rfl⟩ cells_int (y := x1) rfl
    have f2 := fld hf 2 2 3 1 ⟨_, rfl, rfl, rfl⟩ cells_int (y := x2) rfl
    have f3 := fld hf 3 3 23 2 ⟨_, rfl, rfl, rfl⟩ cells_span (y := x3) rfl
    have f4 := fld hf 4 5 23 2 ⟨_, rfl, rfl, rfl⟩ cells_span (y := x4) rfl
    have f5 := fld hf 5 7 24 1 ⟨_, rfl, rfl, rfl⟩ cells_lines (y := x5) rfl
    have f6 := fld hf 6 8 25 1 ⟨_, rfl, rfl, rfl⟩ cells_readings (y := x6) rfl
    obtain ⟨i0, e0⟩ := rd_int f0
    obtain ⟨i1, e1⟩ := rd_int f1
    obtain ⟨i2, e2⟩ := rd_int f2
    obtain ⟨i3, i4, e3⟩ := rd_span f3
    obtain ⟨i5, i6, e4⟩ := rd_span f4
    simp at e0 e1 e2 e3 e4
    obtain ⟨e3, e3'⟩ := e3
    obtain ⟨e4, e4'⟩ := e4
    subst e0 e1 e2 e3 e3' e4 e4'
    obtain ⟨L1, i1'⟩ := open_in (α := Ln) cells_line Try.underlying24 (fun _ _ _ h => rd_line h) k7 f5
    obtain ⟨L2, i2'⟩ := open_in (α := Rd) cells_reading Try.underlying25 (fun _ _ _ h => rd_reading h) k8 f6
    exact ⟨⟨i0, i1, i2, i3, i4, i5, i6, L1, L2⟩, c7, c8, rfl, i1', i2', in_pl Try.underlying24 k7 i1', in_pl Try.underlying25 k8 i2'⟩
end
/-- A spring that came in is told. -/
theorem tell_spring {W : World} {s : Sp} {b r : Value} (h1 : In W b s.book) (h2 : In W r s.reads) :
    ∃ σ h u1 u2, Go.Ev.Told W σ h 2 ∧ Rl σ u1 b ∧ Rl σ u2 r ∧ Sl h 2 u1 s.book ∧ Sl h 2 u2 s.reads ∧ (Pl b s.book.length → Pl u1 s.book.length) ∧ (Pl r s.reads.length → Pl u2 s.reads.length) := by
  obtain ⟨σ1, m1, u1, T1, le1, g1, r1, t1, c1⟩ := tell2 h1 (plains_ln _) (Go.Ev.Told.start W)
  obtain ⟨σ2, m2, u2, T2, le2, g2, r2, t2, c2⟩ := tell2 h2 (plains_rd _) T1
  exact ⟨σ2, m2, u1, u2, T2, r1.mono le2, r2, t1.up g2 (by omega), t2, c1, c2⟩
theorem rl_spring {σ : Sg} {s : Sp} {b r u1 u2 : Value} (r1 : Rl σ u1 b) (r2 : Rl σ u2 r) : Rl σ (.agg ⟨[iS s.weeks, iS s.most, iS s.fall, iS s.slo, iS s.shi, iS s.wlo, iS s.whi, u1, u2]⟩) (.agg ⟨[iS s.weeks, iS s.most, iS s.fall, iS s.slo, iS s.shi, iS s.wlo, iS s.whi, b, r]⟩) :=
  RlL.agg (RlL.cons (.sc rfl) (RlL.cons (.sc rfl) (RlL.cons (.sc rfl) (RlL.cons (.sc rfl) (RlL.cons (.sc rfl) (RlL.cons (.sc rfl) (RlL.cons (.sc rfl) (RlL.cons r1 (RlL.cons r2 (RlL.nil _))))))))))
end Go.Proofs.Ytpilgokdbliklaa
end

section
namespace Go.Proofs.Ytpilgokdbliklaa
open Go.Ev Go.RowKit
set_option linter.unusedVariables false
set_option linter.unusedSimpArgs false
set_option linter.unusedSectionVars false
set_option maxRecDepth 100000
set_option maxHeartbeats 4000000
/-- A list of one's own, nil at first. -/
def OwZ {α : Type} [Rwc α] (h : Tr Ob) (M el : Nat) (v : Value) (L : List α) (P : Nat → Prop) : Prop := (v = .slice none 0 0 ∧ L = []) ∨ ∃ i, P i ∧ i < M ∧ Ow h el v L i
theorem OwZ.sl {α : Type} [Rwc α] {h : Tr Ob} {M el : Nat} {v : Value} {L : List α} {P : Nat → Prop} (o : OwZ h M el v L P) : Sl h M v L := by
  rcases o with ⟨rfl, rfl⟩ | ⟨i, _, hi, o⟩
  · exact Sl.nil _ _
  · exact o.sl hi
theorem OwZ.keep {α : Type} [Rwc α] {h h' : Tr Ob} {M M' el : Nat} {v : Value} {L : List α} {P : Nat → Prop} (o : OwZ h M el v L P) (hm : M ≤ M') (hk : ∀ i, P i → i < M → h'.get i = h.get i) : OwZ h' M' el v L P := by
  rcases o with e | ⟨i, p, hi, o⟩
  · exact .inl e
  · exact .inr ⟨i, p, by omega, o.keep (hk i p hi)⟩
section
variable {s : Sp} {b r : Value}
end
end Go.Proofs.Ytpilgokdbliklaa
end

