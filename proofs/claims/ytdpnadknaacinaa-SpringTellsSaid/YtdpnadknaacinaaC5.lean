/-
  Bounds, week by week: narrowed.
  Conditions: none.
-/
import Derived.Test.YtdpnadknaacinaaC4
namespace Go.Proofs.Ytdpnadknaacinaa
open Go.Sx Go.Proofs.Ytdpnadknaacinaa.Ty
set_option linter.unusedVariables false
set_option maxHeartbeats 2000000


abbrev Bd := Nat → Int × Int
def bdC (f : Bd) : List Value := [.int .i64 (f 0).1, .int .i64 (f 0).2, .int .i64 (f 1).1, .int .i64 (f 1).2, .int .i64 (f 2).1, .int .i64 (f 2).2, .int .i64 (f 3).1, .int .i64 (f 3).2, .int .i64 (f 4).1, .int .i64 (f 4).2, .int .i64 (f 5).1, .int .i64 (f 5).2, .int .i64 (f 6).1, .int .i64 (f 6).2, .int .i64 (f 7).1, .int .i64 (f 7).2, .int .i64 (f 8).1, .int .i64 (f 8).2, .int .i64 (f 9).1, .int .i64 (f 9).2]
def leC (f : Bd) : List Value := [.int .i64 (f 0).1, .int .i64 (f 1).1, .int .i64 (f 2).1, .int .i64 (f 3).1, .int .i64 (f 4).1, .int .i64 (f 5).1, .int .i64 (f 6).1, .int .i64 (f 7).1, .int .i64 (f 8).1, .int .i64 (f 9).1, .int .i64 (f 0).2, .int .i64 (f 1).2, .int .i64 (f 2).2, .int .i64 (f 3).2, .int .i64 (f 4).2, .int .i64 (f 5).2, .int .i64 (f 6).2, .int .i64 (f 7).2, .int .i64 (f 8).2, .int .i64 (f 9).2]
abbrev bdV (f : Bd) : Value := .agg (bdC f).toArray
abbrev leV (f : Bd) : Value := .agg (leC f).toArray
def up (f : Bd) (k : Nat) (v : Int × Int) : Bd := fun j => if j = k then v else f j
def bz : Bd := fun _ => (0, 0)

theorem bd_lo (f : Bd) {k n : Nat} (hk : k < 10) (hn : n = k * 2) : (bdC f)[n]? = some (.int .i64 (f k).1) := by
  subst hn
  exact match k, hk with
  | 0, _ => rfl
  | 1, _ => rfl
  | 2, _ => rfl
  | 3, _ => rfl
  | 4, _ => rfl
  | 5, _ => rfl
  | 6, _ => rfl
  | 7, _ => rfl
  | 8, _ => rfl
  | 9, _ => rfl
  | k + 10, h => absurd h (by omega)
theorem bd_hi (f : Bd) {k n : Nat} (hk : k < 10) (hn : n = k * 2 + 1) : (bdC f)[n]? = some (.int .i64 (f k).2) := by
  subst hn
  exact match k, hk with
  | 0, _ => rfl
  | 1, _ => rfl
  | 2, _ => rfl
  | 3, _ => rfl
  | 4, _ => rfl
  | 5, _ => rfl
  | 6, _ => rfl
  | 7, _ => rfl
  | 8, _ => rfl
  | 9, _ => rfl
  | k + 10, h => absurd h (by omega)
theorem le_lo (f : Bd) {k n : Nat} (hk : k < 10) (hn : n = k) : (leC f)[n]? = some (.int .i64 (f k).1) := by
  subst hn
  exact match n, hk with
  | 0, _ => rfl
  | 1, _ => rfl
  | 2, _ => rfl
  | 3, _ => rfl
  | 4, _ => rfl
  | 5, _ => rfl
  | 6, _ => rfl
  | 7, _ => rfl
  | 8, _ => rfl
  | 9, _ => rfl
  | k + 10, h => absurd h (by omega)
theorem le_hi (f : Bd) {k n : Nat} (hk : k < 10) (hn : n = 10 + k) : (leC f)[n]? = some (.int .i64 (f k).2) := by
  subst hn
  exact match k, hk with
  | 0, _ => rfl
  | 1, _ => rfl
  | 2, _ => rfl
  | 3, _ => rfl
  | 4, _ => rfl
  | 5, _ => rfl
  | 6, _ => rfl
  | 7, _ => rfl
  | 8, _ => rfl
  | 9, _ => rfl
  | k + 10, h => absurd h (by omega)
theorem bd_set (f : Bd) {k n : Nat} (hk : k < 10) (hn : n = k * 2) (a b : Int) : setL (bdC f) n [.int .i64 a, .int .i64 b] = bdC (up f k (a, b)) := by
  subst hn
  exact match k, hk with
  | 0, _ => rfl
  | 1, _ => rfl
  | 2, _ => rfl
  | 3, _ => rfl
  | 4, _ => rfl
  | 5, _ => rfl
  | 6, _ => rfl
  | 7, _ => rfl
  | 8, _ => rfl
  | 9, _ => rfl
  | k + 10, h => absurd h (by omega)
theorem le_setlo (f : Bd) {k n : Nat} (hk : k < 10) (hn : n = k) (a : Int) : setL (leC f) n [.int .i64 a] = leC (up f k (a, (f k).2)) := by
  subst hn
  exact match n, hk with
  | 0, _ => rfl
  | 1, _ => rfl
  | 2, _ => rfl
  | 3, _ => rfl
  | 4, _ => rfl
  | 5, _ => rfl
  | 6, _ => rfl
  | 7, _ => rfl
  | 8, _ => rfl
  | 9, _ => rfl
  | k + 10, h => absurd h (by omega)
theorem le_sethi (f : Bd) {k n : Nat} (hk : k < 10) (hn : n = 10 + k) (b : Int) : setL (leC f) n [.int .i64 b] = leC (up f k ((f k).1, b)) := by
  subst hn
  exact match k, hk with
  | 0, _ => rfl
  | 1, _ => rfl
  | 2, _ => rfl
  | 3, _ => rfl
  | 4, _ => rfl
  | 5, _ => rfl
  | 6, _ => rfl
  | 7, _ => rfl
  | 8, _ => rfl
  | 9, _ => rfl
  | k + 10, h => absurd h (by omega)

def BdOk (f : Bd) : Prop := ∀ j, -1000000 ≤ (f j).1 ∧ (f j).1 ≤ 1000000 ∧ -1000000 ≤ (f j).2 ∧ (f j).2 ≤ 1000000
theorem BdOk.up {f : Bd} (h : BdOk f) (k : Nat) {a b : Int} (ha : -1000000 ≤ a ∧ a ≤ 1000000) (hb : -1000000 ≤ b ∧ b ≤ 1000000) : BdOk (up f k (a, b)) := by
  intro j
  unfold Ytdpnadknaacinaa.up
  split
  · exact ⟨ha.1, ha.2, hb.1, hb.2⟩
  · exact h j

def fwdN (fall : Int) : Nat → Bd → Bd
  | 0, f => f
  | k + 1, f => up (fwdN fall k f) (k + 1) (max (fwdN fall k f (k + 1)).1 ((fwdN fall k f k).1 - fall), min (fwdN fall k f (k + 1)).2 (fwdN fall k f k).2)
def bwdN (fall : Int) (n : Nat) : Nat → Bd → Bd
  | 0, f => f
  | j + 1, f => up (bwdN fall n j f) (n - 2 - j) (max (bwdN fall n j f (n - 2 - j)).1 (bwdN fall n j f (n - 2 - j + 1)).1, min (bwdN fall n j f (n - 2 - j)).2 ((bwdN fall n j f (n - 2 - j + 1)).2 + fall))
theorem fwd_ok {fall : Int} (h0 : 0 ≤ fall) (h1 : fall ≤ 100) {f : Bd} (h : BdOk f) : ∀ k, BdOk (fwdN fall k f)
  | 0 => h
  | k + 1 => by
    have ih := fwd_ok h0 h1 h k
    have a1 := ih k
    have a2 := ih (k + 1)
    exact ih.up _ (by omega) (by omega)
theorem bwd_ok {fall : Int} {n : Nat} (h0 : 0 ≤ fall) (h1 : fall ≤ 100) {f : Bd} (h : BdOk f) : ∀ k, BdOk (bwdN fall n k f)
  | 0 => h
  | k + 1 => by
    have ih := bwd_ok (n := n) h0 h1 h k
    have a1 := ih (n - 2 - k)
    have a2 := ih (n - 2 - k + 1)
    exact ih.up _ (by omega) (by omega)
def narS (s : Sp) (f : Bd) : Bd := bwdN s.fall s.weeks.toNat (s.weeks.toNat - 1) (fwdN s.fall (s.weeks.toNat - 1) f)
theorem nar_ok {s : Sp} (ho : Ok s) {f : Bd} (h : BdOk f) : BdOk (narS s f) := bwd_ok ho.f1 ho.f2 (fwd_ok ho.f1 ho.f2 h _) _

theorem narrow_fn (s : Sp) (f : Bd) (ho : Ok s) (hf : BdOk f) : Cn Try.prog 136 [spV s, bdV f] [] (fun _ : Unit => bdV (narS s f)) (fun _ => []) (fun _ => True) := by
  obtain ⟨w1, w2, m1, m2, f1, f2, a1, a2, a3, v1, v2, v3⟩ := ho
  refine fn_intro (N := 73) Try.func136 rfl rfl rfl fun w0 => ?_
  refine okc_seq ?_
  refine okc_region ?_
  refine s_boxA rfl rfl rfl rfl rfl rfl (fun b1 => ?_)
  refine s_boxA rfl rfl rfl rfl rfl rfl (fun b2 => ?_)
  refine s_alloc rfl rfl rfl rfl rfl rfl (fun b3 => ?_)
  refine okl_nil ?_
  change OkC Try.prog _ _ _ _ _ _ _
  refine okc_weak (l' := [(0, _), (1, _), (2, _), (3, _), (4, _)]) ⟨rfl, rfl, rfl, rfl, rfl, trivial⟩ ?_
  refine okc_seq ?_
  refine okc_seq ?_
  refine okc_region ?_
  refine s_field rfl rfl rfl rfl rfl rfl rfl rfl ?_
  refine s_field rfl rfl rfl rfl rfl rfl rfl rfl ?_
  refine s_load1 2 rfl rfl rfl rfl rfl rfl rfl rfl rfl ?_
  refine s_sub rfl rfl rfl rfl rfl rfl rfl (by omega) ?_
  refine s_move rfl rfl rfl rfl rfl rfl ?_
  refine okl_nil ?_
  change OkC Try.prog _ _ _ _ _ _ _
  refine okc_weak (l' := [(0, _), (1, _), (2, _), (3, _), (4, _), (11, _), (12, _)]) ⟨rfl, rfl, rfl, rfl, rfl, rfl, rfl, trivial⟩ ?_
  refine okc_block ?_
  refine okc_loop (γ := Nat) (fun k => [(2, .pointer (some ⟨b1, 0, none⟩)), (3, .pointer (some ⟨b2, 0, none⟩)), (4, .pointer (some ⟨b3, 0, none⟩)), (11, .int .i64 (s.weeks - 1)), (12, .int .i64 k)]) (fun k => [(b3, bdC bz, 167), (b2, bdC (fwdN s.fall k f), 167), (b1, [.int .i64 s.weeks, .int .i64 s.most, .int .i64 s.fall, .int .i64 s.slo, .int .i64 s.shi, .int .i64 s.wlo, .int .i64 s.whi, .slice s.bp s.book.length s.bc, .slice s.rp s.reads.length s.rc], 114)]) (fun k => (k : Int) ≤ s.weeks - 1) (fun k => (s.weeks - 1).toNat - k) 0 (by omega) (fun a w hs => hs.weak ⟨rfl, rfl, rfl, rfl, rfl, trivial⟩ [0, 1, 2] (by simp) rfl) ?_
  rintro k hk
  refine okc_seq ?_
  refine okc_region ?_
  refine s_cmpS rfl rfl rfl rfl rfl rfl rfl rfl (fun h4 => ?_) (fun h4 => ?_)
  · have hlt : (k : Int) < s.weeks - 1 := by simpa using h4
    have hF := fwd_ok f1 f2 hf k
    have q1 := hF k
    have q2 := hF (k + 1)
    have g1 := bd_lo (fwdN s.fall k f) (k := k + 1) (n := 0 + (k + 1) * 2) (by omega) (by omega)
    have g2 := bd_hi (fwdN s.fall k f) (k := k + 1) (n := 0 + (k + 1) * 2 + 1) (by omega) (by omega)
    have g3 := bd_lo (fwdN s.fall k f) (k := k) (n := 0 + k * 2 + 0) (by omega) (by omega)
    have g4 := bd_hi (fwdN s.fall k f) (k := k) (n := 0 + k * 2 + 1) (by omega) (by omega)
    refine okl_nil ?_
    change OkC Try.prog _ _ _ _ _ _ _
    refine okc_weak (l' := [(2, _), (3, _), (4, _), (11, _), (12, _), (13, _)]) ⟨rfl, rfl, rfl, rfl, rfl, rfl, trivial⟩ ?_
    refine okc_seq ?_
    refine okc_cond_t rfl ?_
    refine okc_skip ?_
    change OkC Try.prog _ _ _ _ _ _ _
    refine okc_weak (l' := [(2, _), (3, _), (4, _), (11, _), (12, _), (13, _)]) ⟨rfl, rfl, rfl, rfl, rfl, rfl, trivial⟩ ?_
    refine okc_seq ?_
    refine okc_block ?_
    refine okc_seq ?_
    refine okc_region ?_
    refine s_move rfl rfl rfl rfl rfl rfl ?_
    refine s_assign rfl rfl rfl rfl rfl rfl ?_
    refine okl_nil ?_
    change OkC Try.prog _ _ _ _ _ _ _
    refine okc_weak (l' := [(2, _), (3, _), (4, _), (5, _), (11, _), (12, _), (13, _)]) ⟨rfl, rfl, rfl, rfl, rfl, rfl, rfl, trivial⟩ ?_
    refine dr_start [15, 16, 17, 18, 19, 20, 21, 22, 23, 24, 25, 26, 27, 28, 29, 30, 31, 32, 33, 34, 35] ?_
    refine d_move [] rfl rfl rfl rfl rfl (fun ν => rfl) rfl (fun ν => rfl) ?_
    refine d_add [0] rfl rfl rfl rfl rfl (fun ν => rfl) rfl (fun ν => rfl) (fun ν => rfl) (by omega) ?_
    refine d_move [] rfl rfl rfl rfl rfl (fun ν => rfl) rfl (fun ν => rfl) ?_
    refine d_add [2] rfl rfl rfl rfl rfl (fun ν => rfl) rfl (fun ν => rfl) (fun ν => rfl) (by omega) ?_
    refine d_indexA (k + 1) [3] rfl rfl rfl rfl rfl (fun ν => rfl) rfl (fun ν => rfl) (fun ν => rfl) rfl rfl (by first | rfl | omega) (by omega) rfl ?_
    refine d_loadP2 1 [4] rfl rfl rfl rfl rfl (fun ν => rfl) rfl rfl (fun ν => rfl) (fun ν => rfl) rfl (by assumption) (by assumption) ?_
    refine d_move [] rfl rfl rfl rfl rfl (fun ν => rfl) rfl (fun ν => rfl) ?_
    refine d_indexA k [6] rfl rfl rfl rfl rfl (fun ν => rfl) rfl (fun ν => rfl) (fun ν => rfl) rfl rfl (by first | rfl | omega) (by omega) rfl ?_
    refine d_field [7] rfl rfl rfl rfl rfl (fun ν => rfl) rfl (fun ν => rfl) rfl rfl ?_
    refine d_load1 1 [8] rfl rfl rfl rfl rfl (fun ν => rfl) rfl rfl (fun ν => rfl) (fun ν => rfl) (by assumption) ?_
    refine d_field [] rfl rfl rfl rfl rfl (fun ν => rfl) rfl (fun ν => rfl) rfl rfl ?_
    refine d_field [10] rfl rfl rfl rfl rfl (fun ν => rfl) rfl (fun ν => rfl) rfl rfl ?_
    refine d_load1 2 [11] rfl rfl rfl rfl rfl (fun ν => rfl) rfl rfl (fun ν => rfl) (fun ν => rfl) rfl ?_
    refine d_sub [9, 12] rfl rfl rfl rfl rfl (fun ν => rfl) rfl (fun ν => rfl) (fun ν => rfl) (by omega) ?_
    refine d_move [] rfl rfl rfl rfl rfl (fun ν => rfl) rfl (fun ν => rfl) ?_
    refine d_indexA k [14] rfl rfl rfl rfl rfl (fun ν => rfl) rfl (fun ν => rfl) (fun ν => rfl) rfl rfl (by first | rfl | omega) (by omega) rfl ?_
    refine d_field [15] rfl rfl rfl rfl rfl (fun ν => rfl) rfl (fun ν => rfl) rfl rfl ?_
    refine d_load1 1 [16] rfl rfl rfl rfl rfl (fun ν => rfl) rfl rfl (fun ν => rfl) (fun ν => rfl) (by assumption) ?_
    refine d_callv [13, 17] rfl rfl rfl rfl rfl (fun ν => rfl) rfl (fun ν => rfl) (fun ν => rfl) c85 (fun ν => span_fn _ _) (fun ν => covers_nil) ?_
    refine d_callv [5, 18] rfl rfl rfl rfl rfl (fun ν => rfl) rfl (fun ν => rfl) (fun ν => rfl) c135 (fun ν => both_fn _ _ _ _) (fun ν => covers_nil) ?_
    refine d_indexA (k + 1) [1] rfl rfl rfl rfl rfl (fun ν => rfl) rfl (fun ν => rfl) (fun ν => rfl) rfl rfl (by first | rfl | omega) (by omega) rfl ?_
    refine dr_end [15, 16, 17, 18, 19, 20, 21, 22, 23, 24, 25, 26, 27, 28, 29, 30, 31, 32, 33, 34, 35] [19, 20] 21 rfl rfl rfl rfl rfl rfl rfl rfl rfl (fun nu5 => ?_)
    refine k_store 1 rfl rfl rfl rfl rfl rfl rfl rfl rfl rfl (Nat.ble_eq_true_of_le (by first | (show _ ≤ 20; omega) | (rw [length_setL]; show _ ≤ 20; omega))) rfl ?_
    refine okl_nil ?_
    change OkC Try.prog _ _ _ _ _ _ _
    refine okc_weak (l' := [(2, _), (3, _), (4, _), (5, _), (11, _), (12, _), (13, _)]) ⟨rfl, rfl, rfl, rfl, rfl, rfl, rfl, trivial⟩ ?_
    refine okc_region ?_
    refine s_add rfl rfl rfl rfl rfl rfl rfl (by omega) ?_
    refine s_move rfl rfl rfl rfl rfl rfl ?_
    refine okl_nil ?_
    refine fun a w hs => ⟨k + 1, by omega, by omega, ?_⟩
    rw [bd_set _ (k := k + 1) (by omega) (by omega)] at hs
    exact hs.weak ⟨rfl, rfl, rfl, rfl, rfl, trivial⟩ [0, 1, 2] (by simp) rfl
  · have hge : ¬ (k : Int) < s.weeks - 1 := by simpa using h4
    have hkw : k = s.weeks.toNat - 1 := by omega
    subst hkw
    refine okl_nil ?_
    change OkC Try.prog _ _ _ _ _ _ _
    refine okc_weak (l' := [(2, _), (3, _), (4, _), (11, _), (12, _), (13, _)]) ⟨rfl, rfl, rfl, rfl, rfl, rfl, trivial⟩ ?_
    refine okc_seq ?_
    refine okc_cond_f rfl ?_
    refine okc_exit ?_
    change OkC Try.prog _ _ _ _ _ _ _
    refine okc_weak (l' := [(2, _), (3, _), (4, _), (11, _), (12, _), (13, _)]) ⟨rfl, rfl, rfl, rfl, rfl, rfl, trivial⟩ ?_
    refine okc_seq ?_
    refine okc_seq ?_
    refine okc_region ?_
    refine s_field rfl rfl rfl rfl rfl rfl rfl rfl ?_
    refine s_field rfl rfl rfl rfl rfl rfl rfl rfl ?_
    refine s_load1 2 rfl rfl rfl rfl rfl rfl rfl rfl rfl ?_
    refine s_sub rfl rfl rfl rfl rfl rfl rfl (by omega) ?_
    refine s_move rfl rfl rfl rfl rfl rfl ?_
    refine okl_nil ?_
    change OkC Try.prog _ _ _ _ _ _ _
    refine okc_weak (l' := [(2, _), (3, _), (4, _), (11, _), (12, _), (13, _), (40, _), (41, _)]) ⟨rfl, rfl, rfl, rfl, rfl, rfl, rfl, rfl, trivial⟩ ?_
    refine okc_block ?_
    have hF2 := fwd_ok f1 f2 hf (s.weeks.toNat - 1)
    generalize hFe : fwdN s.fall (s.weeks.toNat - 1) f = F at hF2 ⊢
    refine okc_loop (γ := Nat) (fun k => [(2, .pointer (some ⟨b1, 0, none⟩)), (3, .pointer (some ⟨b2, 0, none⟩)), (4, .pointer (some ⟨b3, 0, none⟩)), (40, .int .i64 (s.weeks - 1)), (41, .int .i64 k)]) (fun k => [(b3, bdC bz, 167), (b2, bdC (bwdN s.fall s.weeks.toNat k F), 167), (b1, [.int .i64 s.weeks, .int .i64 s.most, .int .i64 s.fall, .int .i64 s.slo, .int .i64 s.shi, .int .i64 s.wlo, .int .i64 s.whi, .slice s.bp s.book.length s.bc, .slice s.rp s.reads.length s.rc], 114)]) (fun k => (k : Int) ≤ s.weeks - 1) (fun k => (s.weeks - 1).toNat - k) 0 (by omega) (fun a w hs => hs.weak ⟨rfl, rfl, rfl, rfl, rfl, trivial⟩ [0, 1, 2] (by simp) rfl) ?_
    rintro k hk
    refine okc_seq ?_
    refine okc_region ?_
    refine s_cmpS rfl rfl rfl rfl rfl rfl rfl rfl (fun h6 => ?_) (fun h6 => ?_)
    · have hlt : (k : Int) < s.weeks - 1 := by simpa using h6
      have hG := bwd_ok (n := s.weeks.toNat) f1 f2 hF2 k
      obtain ⟨m, hm⟩ : ∃ m, m = s.weeks.toNat - 2 - k := ⟨_, rfl⟩
      have q1 := hG m
      have q2 := hG (m + 1)
      have g1 := bd_lo (bwdN s.fall s.weeks.toNat k F) (k := m + 1) (n := 0 + (m + 1) * 2 + 0) (by omega) (by omega)
      have g2 := bd_hi (bwdN s.fall s.weeks.toNat k F) (k := m + 1) (n := 0 + (m + 1) * 2 + 1) (by omega) (by omega)
      have g3 := bd_lo (bwdN s.fall s.weeks.toNat k F) (k := m) (n := 0 + m * 2) (by omega) (by omega)
      have g4 := bd_hi (bwdN s.fall s.weeks.toNat k F) (k := m) (n := 0 + m * 2 + 1) (by omega) (by omega)
      refine okl_nil ?_
      change OkC Try.prog _ _ _ _ _ _ _
      refine okc_weak (l' := [(2, _), (3, _), (4, _), (40, _), (41, _), (42, _)]) ⟨rfl, rfl, rfl, rfl, rfl, rfl, trivial⟩ ?_
      refine okc_seq ?_
      refine okc_cond_t rfl ?_
      refine okc_skip ?_
      change OkC Try.prog _ _ _ _ _ _ _
      refine okc_weak (l' := [(2, _), (3, _), (4, _), (40, _), (41, _), (42, _)]) ⟨rfl, rfl, rfl, rfl, rfl, rfl, trivial⟩ ?_
      refine okc_seq ?_
      refine okc_block ?_
      refine okc_seq ?_
      refine okc_region ?_
      refine s_move rfl rfl rfl rfl rfl rfl ?_
      refine s_assign rfl rfl rfl rfl rfl rfl ?_
      refine okl_nil ?_
      change OkC Try.prog _ _ _ _ _ _ _
      refine okc_weak (l' := [(2, _), (3, _), (4, _), (6, _), (40, _), (41, _), (42, _)]) ⟨rfl, rfl, rfl, rfl, rfl, rfl, rfl, trivial⟩ ?_
      refine okc_seq ?_
      refine okc_region ?_
      refine s_field rfl rfl rfl rfl rfl rfl rfl rfl ?_
      refine s_field rfl rfl rfl rfl rfl rfl rfl rfl ?_
      refine s_load1 2 rfl rfl rfl rfl rfl rfl rfl rfl rfl ?_
      refine s_sub rfl rfl rfl rfl rfl rfl rfl (by omega) ?_
      refine s_move rfl rfl rfl rfl rfl rfl ?_
      refine s_sub rfl rfl rfl rfl rfl rfl rfl (by omega) ?_
      refine s_assign rfl rfl rfl rfl rfl rfl ?_
      refine okl_nil ?_
      change OkC Try.prog _ _ _ _ _ _ _
      refine okc_weak (l' := [(2, _), (3, _), (4, _), (6, _), (7, _), (40, _), (41, _), (42, _)]) ⟨rfl, rfl, rfl, rfl, rfl, rfl, rfl, rfl, trivial⟩ ?_
      refine dr_start [50, 51, 52, 53, 54, 55, 56, 57, 58, 59, 60, 61, 62, 63, 64, 65, 66, 67, 68, 69, 70] ?_
      refine d_move [] rfl rfl rfl rfl rfl (fun ν => rfl) rfl (fun ν => rfl) ?_
      refine d_sub [0] rfl rfl rfl rfl rfl (fun ν => rfl) rfl (fun ν => rfl) (fun ν => rfl) (by omega) ?_
      refine d_move [] rfl rfl rfl rfl rfl (fun ν => rfl) rfl (fun ν => rfl) ?_
      refine d_sub [2] rfl rfl rfl rfl rfl (fun ν => rfl) rfl (fun ν => rfl) (fun ν => rfl) (by omega) ?_
      refine d_indexA m [3] rfl rfl rfl rfl rfl (fun ν => rfl) rfl (fun ν => rfl) (fun ν => rfl) rfl rfl (by first | rfl | omega) (by omega) rfl ?_
      refine d_loadP2 1 [4] rfl rfl rfl rfl rfl (fun ν => rfl) rfl rfl (fun ν => rfl) (fun ν => rfl) rfl (by assumption) (by assumption) ?_
      refine d_move [] rfl rfl rfl rfl rfl (fun ν => rfl) rfl (fun ν => rfl) ?_
      refine d_indexA (m + 1) [6] rfl rfl rfl rfl rfl (fun ν => rfl) rfl (fun ν => rfl) (fun ν => rfl) rfl rfl (by first | rfl | omega) (by omega) rfl ?_
      refine d_field [7] rfl rfl rfl rfl rfl (fun ν => rfl) rfl (fun ν => rfl) rfl rfl ?_
      refine d_load1 1 [8] rfl rfl rfl rfl rfl (fun ν => rfl) rfl rfl (fun ν => rfl) (fun ν => rfl) (by assumption) ?_
      refine d_move [] rfl rfl rfl rfl rfl (fun ν => rfl) rfl (fun ν => rfl) ?_
      refine d_indexA (m + 1) [10] rfl rfl rfl rfl rfl (fun ν => rfl) rfl (fun ν => rfl) (fun ν => rfl) rfl rfl (by first | rfl | omega) (by omega) rfl ?_
      refine d_field [11] rfl rfl rfl rfl rfl (fun ν => rfl) rfl (fun ν => rfl) rfl rfl ?_
      refine d_load1 1 [12] rfl rfl rfl rfl rfl (fun ν => rfl) rfl rfl (fun ν => rfl) (fun ν => rfl) (by assumption) ?_
      refine d_field [] rfl rfl rfl rfl rfl (fun ν => rfl) rfl (fun ν => rfl) rfl rfl ?_
      refine d_field [14] rfl rfl rfl rfl rfl (fun ν => rfl) rfl (fun ν => rfl) rfl rfl ?_
      refine d_load1 2 [15] rfl rfl rfl rfl rfl (fun ν => rfl) rfl rfl (fun ν => rfl) (fun ν => rfl) rfl ?_
      refine d_add [13, 16] rfl rfl rfl rfl rfl (fun ν => rfl) rfl (fun ν => rfl) (fun ν => rfl) (by omega) ?_
      refine d_callv [9, 17] rfl rfl rfl rfl rfl (fun ν => rfl) rfl (fun ν => rfl) (fun ν => rfl) c85 (fun ν => span_fn _ _) (fun ν => covers_nil) ?_
      refine d_callv [5, 18] rfl rfl rfl rfl rfl (fun ν => rfl) rfl (fun ν => rfl) (fun ν => rfl) c135 (fun ν => both_fn _ _ _ _) (fun ν => covers_nil) ?_
      refine d_indexA m [1] rfl rfl rfl rfl rfl (fun ν => rfl) rfl (fun ν => rfl) (fun ν => rfl) rfl rfl (by first | rfl | omega) (by omega) rfl ?_
      refine dr_end [50, 51, 52, 53, 54, 55, 56, 57, 58, 59, 60, 61, 62, 63, 64, 65, 66, 67, 68, 69, 70] [19, 20] 21 rfl rfl rfl rfl rfl rfl rfl rfl rfl (fun nu7 => ?_)
      refine k_store 1 rfl rfl rfl rfl rfl rfl rfl rfl rfl rfl (Nat.ble_eq_true_of_le (by first | (show _ ≤ 20; omega) | (rw [length_setL]; show _ ≤ 20; omega))) rfl ?_
      refine okl_nil ?_
      change OkC Try.prog _ _ _ _ _ _ _
      refine okc_weak (l' := [(2, _), (3, _), (4, _), (6, _), (7, _), (40, _), (41, _), (42, _)]) ⟨rfl, rfl, rfl, rfl, rfl, rfl, rfl, rfl, trivial⟩ ?_
      refine okc_region ?_
      refine s_add rfl rfl rfl rfl rfl rfl rfl (by omega) ?_
      refine s_move rfl rfl rfl rfl rfl rfl ?_
      refine okl_nil ?_
      refine fun a w hs => ⟨k + 1, by omega, by omega, ?_⟩
      rw [bd_set _ (k := m) (by omega) (by omega)] at hs
      refine hs.weak ⟨rfl, rfl, rfl, rfl, rfl, trivial⟩ [0, 1, 2] (by simp) ?_
      subst hm; rfl
    · have hge : ¬ (k : Int) < s.weeks - 1 := by simpa using h6
      have hkw : k = s.weeks.toNat - 1 := by omega
      refine okl_nil ?_
      change OkC Try.prog _ _ _ _ _ _ _
      refine okc_weak (l' := [(2, _), (3, _), (4, _), (40, _), (41, _), (42, _)]) ⟨rfl, rfl, rfl, rfl, rfl, rfl, trivial⟩ ?_
      refine okc_seq ?_
      refine okc_cond_f rfl ?_
      refine okc_exit ?_
      change OkC Try.prog _ _ _ _ _ _ _
      refine okc_weak (l' := [(2, _), (3, _), (4, _), (40, _), (41, _), (42, _)]) ⟨rfl, rfl, rfl, rfl, rfl, rfl, trivial⟩ ?_
      refine okc_seq ?_
      refine okc_region ?_
      refine s_loadW 1 rfl rfl rfl rfl rfl rfl rfl rfl rfl (by first | rfl | assumption) ?_
      refine k_storeW 0 rfl rfl rfl rfl rfl rfl rfl rfl rfl rfl rfl rfl ?_
      refine okl_nil ?_
      change OkC Try.prog _ _ _ _ _ _ _
      refine okc_weak (l' := [(2, _), (3, _), (4, _), (40, _), (41, _), (42, _)]) ⟨rfl, rfl, rfl, rfl, rfl, rfl, trivial⟩ ?_
      refine okc_ret fun a w hs => ?_
      exact ret_v hs (run_results1 hs rfl (k_ragg 0 rfl rfl rfl rfl rfl)) (by clear hs; subst hkw; subst hFe; rfl)

end Go.Proofs.Ytdpnadknaacinaa
