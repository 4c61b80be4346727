/-
  The rains that there can have been: the iterator.
  Conditions: none.
-/
import Derived.Test.YtdpnadknaacinaaC6
namespace Go.Proofs.Ytdpnadknaacinaa
open Go.Sx Go.Proofs.Ytdpnadknaacinaa.Ty
set_option linter.unusedVariables false
set_option maxHeartbeats 2000000


abbrev spC (s : Sp) : List Value := [.int .i64 s.weeks, .int .i64 s.most, .int .i64 s.fall, .int .i64 s.slo, .int .i64 s.shi, .int .i64 s.wlo, .int .i64 s.whi, .slice s.bp s.book.length s.bc, .slice s.rp s.reads.length s.rc]
def okN (s : Sp) (f : Bd) : Bool := (List.range s.weeks.toNat).all fun k => decide ((f k).1 ≤ (f k).2)
def rainN (s : Sp) : Nat := (s.whi + 1 - s.wlo).toNat
def rainsN (s : Sp) (k : Nat) : List Int := ((List.range k).map fun (i : Nat) => s.wlo + (i : Int)).filter fun r => okN s (leavesS s r)
/-- The rains that there can have been. -/
def rainsS (s : Sp) : List Int := rainsN s (rainN s)
theorem rainsN_succ (s : Sp) (k : Nat) : rainsN s (k + 1) = if okN s (leavesS s (s.wlo + (k : Int))) then rainsN s k ++ [s.wlo + (k : Int)] else rainsN s k := by
  simp only [rainsN, List.range_succ, List.map_append, List.filter_append, List.map_cons, List.map_nil, List.filter_cons, List.filter_nil]
  split <;> simp
theorem rainsN_pre (s : Sp) {k n : Nat} (h : k ≤ n) : rainsN s k <+: rainsN s n := by
  refine List.IsPrefix.filter _ (List.IsPrefix.map _ ?_)
  obtain ⟨m, rfl⟩ := Nat.exists_eq_add_of_le h
  rw [List.range_add]
  exact List.prefix_append _ _
theorem okN_of {s : Sp} {f : Bd} {n : Nat} (hn : n = s.weeks.toNat) (h : ∀ j, j < n → (f j).1 ≤ (f j).2) : okN s f = true := by
  subst hn; simp only [okN, List.all_eq_true, List.mem_range, decide_eq_true_eq]; exact h
theorem okN_not {s : Sp} {f : Bd} {k : Nat} (hk : k < s.weeks.toNat) (h : ¬ (f k).1 ≤ (f k).2) : okN s f = false := by
  rw [okN, List.all_eq_false]; exact ⟨k, by simpa using hk, by simpa using h⟩
theorem leaves_ok {s : Sp} (hs : OkS s) (rain : Int) : BdOk (leavesS s rain) := by
  refine nar_ok hs.ok ?_
  have := pre_ok' hs rain s.reads.length
  rwa [List.take_length] at this
theorem covers_cons {O : Blks} {A : Args} (x : Nat × List Value) : covers O (x :: A) A := fun _ _ h => .inr (List.mem_cons_of_mem _ h)
abbrev rainE (s : Sp) (r : Int) : List Value := [.int .i64 r, bdV (leavesS s r)]

theorem rains_fn (s : Sp) : Cn Try.prog 75 [spV s] [] (fun b : Nat => .func (.func 110) #[] #[.pointer (some ⟨b, 0, none⟩)]) (fun b => [(b, spC s, 114)]) (fun _ => True) := by
  refine fn_intro (N := 4) Try.func75 rfl rfl rfl fun w0 => ?_
  refine okc_seq ?_
  refine okc_region ?_
  refine s_boxA rfl rfl rfl rfl rfl rfl (fun b1 => ?_)
  refine s_assign rfl rfl rfl rfl rfl rfl ?_
  refine okl_nil ?_
  change OkC Try.prog _ _ _ _ _ _ _
  refine okc_seq ?_
  refine okc_region ?_
  refine okl_v rfl rfl rfl rfl (op_makeFunc rfl rfl) ?_
  refine s_assign rfl rfl rfl rfl rfl rfl ?_
  refine okl_nil ?_
  change OkC Try.prog _ _ _ _ _ _ _
  refine okc_ret fun a w hs => ?_
  exact ret_post hs (run_results1 hs rfl (rv_tmp rfl)) b1 rfl trivial [0] (by simp) rfl

theorem rains_it (s : Sp) (M : Args) (hin : s.In M) (hs0 : OkS s) (b : Nat) : It Try.prog 110 [.pointer (some ⟨b, 0, none⟩)] ((b, spC s) :: M) (rainE s) (rainsS s) := by
  have ho := hs0.ok
  obtain ⟨w1, w2, m1, m2, f1, f2, a1, a2, a3, v1, v2, v3⟩ := ho
  intro y J Jx WW hJ hJx hJM hY h0
  refine callsIn_of_wp (F := Fr none) (n := 0) Try.func110 rfl trivial ?_
  refine (?_ : OkC Try.prog (C0 42) WW _ _ (envOf [.func (.yield y) #[] #[], .pointer (some ⟨b, 0, none⟩)] 0) [] ((b, spC s) :: M)) _ WW (st_start (n := 42) (args := [.func (.yield y) #[] #[], .pointer (some ⟨b, 0, none⟩)]) (by simp) (hJM _ _ h0))
  refine okc_scope rfl ?_
  refine okc_seq ?_
  refine okc_label ?_
  change OkC Try.prog _ _ _ _ _ _ _
  refine okc_weak (l' := [(0, _), (1, _)]) ⟨rfl, rfl, trivial⟩ ?_
  refine okc_seq ?_
  refine okc_region ?_
  refine s_field rfl rfl rfl rfl rfl rfl rfl rfl ?_
  refine s_field rfl rfl rfl rfl rfl rfl rfl rfl ?_
  refine s_field rfl rfl rfl rfl rfl rfl rfl rfl ?_
  refine s_loadA1 0 rfl rfl rfl rfl rfl rfl rfl rfl rfl ?_
  refine s_assign rfl rfl rfl rfl rfl rfl ?_
  refine okl_nil ?_
  change OkC Try.prog _ _ _ _ _ _ _
  refine okc_weak (l' := [(0, _), (1, _), (3, _)]) ⟨rfl, rfl, rfl, trivial⟩ ?_
  refine okc_block ?_
  intro a0 ws hst0
  refine wp_loopG (fun (k : Nat) a w => k ≤ rainN s ∧ St (C0 42) w [(0, .func (.yield y) #[] #[]), (1, .pointer (some ⟨b, 0, none⟩)), (3, .int .i64 (s.wlo + (k : Int)))] [] ((b, spC s) :: M) a w ∧ J (rainsN s k) w) (fun k => rainN s - k) 0 ⟨Nat.zero_le _, ?_, hJ _ _ _ h0 (hst0.bel.below rfl)⟩ ?_
  · exact hst0.rebase.weak ⟨rfl, rfl, congrArg (fun z => some (Value.int .i64 z)) (by omega), trivial⟩ [] (by simp) rfl
  rintro k a1 w1 ⟨hk, hst1, hJ1⟩
  refine (?_ : OkC Try.prog (C0 42) w1 _ _ _ _ _) a1 w1 hst1
  refine okc_seq ?_
  refine okc_seq ?_
  refine okc_region ?_
  refine s_move rfl rfl rfl rfl rfl rfl ?_
  refine s_field rfl rfl rfl rfl rfl rfl rfl rfl ?_
  refine s_field rfl rfl rfl rfl rfl rfl rfl rfl ?_
  refine s_field rfl rfl rfl rfl rfl rfl rfl rfl ?_
  refine s_loadA1 0 rfl rfl rfl rfl rfl rfl rfl rfl rfl ?_
  refine s_cmpS rfl rfl rfl rfl rfl rfl rfl rfl (fun h1 => ?_) (fun h1 => ?_)
  · have hle : s.wlo + (k : Int) ≤ s.whi := by simpa using h1
    have hlt : k < rainN s := by unfold rainN; omega
    have hL := leaves_ok hs0 (s.wlo + (k : Int))
    refine okl_nil ?_
    change OkC Try.prog _ _ _ _ _ _ _
    refine okc_weak (l' := [(0, _), (1, _), (3, _), (15, _)]) ⟨rfl, rfl, rfl, rfl, trivial⟩ ?_
    refine okc_cond_t rfl ?_
    refine okc_skip ?_
    change OkC Try.prog _ _ _ _ _ _ _
    refine okc_weak (l' := [(0, _), (1, _), (3, _), (15, _)]) ⟨rfl, rfl, rfl, rfl, trivial⟩ ?_
    refine okc_seq ?_
    refine okc_block ?_
    refine okc_seq ?_
    refine okc_region ?_
    refine s_loadAP 0 rfl rfl rfl rfl rfl rfl rfl rfl rfl rfl rfl ?_
    refine s_move rfl rfl rfl rfl rfl rfl ?_
    refine s_callv rfl rfl rfl rfl rfl rfl rfl c111 (leaves_fn s (s.wlo + (k : Int)) M hin hs0) (covers_cons _) ?_
    refine s_alloc rfl rfl rfl rfl rfl rfl (fun b2 => ?_)
    refine k_storeW 0 rfl rfl rfl rfl rfl rfl rfl rfl rfl rfl rfl rfl ?_
    refine okl_nil ?_
    change OkC Try.prog _ _ _ _ _ _ _
    refine okc_weak (l' := [(0, _), (1, _), (3, _), (4, _), (15, _)]) ⟨rfl, rfl, rfl, rfl, rfl, trivial⟩ ?_
    refine okc_seq ?_
    refine okc_seq ?_
    refine okc_region ?_
    refine s_field rfl rfl rfl rfl rfl rfl rfl rfl ?_
    refine s_field rfl rfl rfl rfl rfl rfl rfl rfl ?_
    refine s_loadA1 0 rfl rfl rfl rfl rfl rfl rfl rfl rfl ?_
    refine s_move rfl rfl rfl rfl rfl rfl ?_
    refine okl_nil ?_
    change OkC Try.prog _ _ _ _ _ _ _
    refine okc_weak (l' := [(0, _), (1, _), (3, _), (4, _), (15, _), (23, _), (24, _)]) ⟨rfl, rfl, rfl, rfl, rfl, rfl, rfl, trivial⟩ ?_
    refine okc_block ?_
    have hadd : s.wlo + (k : Int) ≤ 20 ∧ 0 ≤ s.wlo + (k : Int) := by omega
    refine okc_loop (γ := Nat) (fun j => [(0, .func (.yield y) #[] #[]), (1, .pointer (some ⟨b, 0, none⟩)), (3, .int .i64 (s.wlo + (k : Int))), (4, .pointer (some ⟨b2, 0, none⟩)), (23, .int .i64 s.weeks), (24, .int .i64 j)]) (fun _ => [(b2, bdC (leavesS s (s.wlo + (k : Int))), 167)]) (fun j => (j : Int) ≤ s.weeks ∧ ∀ i, i < j → ((leavesS s (s.wlo + (k : Int))) i).1 ≤ ((leavesS s (s.wlo + (k : Int))) i).2) (fun j => s.weeks.toNat - j) 0 ⟨by omega, fun i hi => absurd hi (Nat.not_lt_zero _)⟩ (fun a w hs => hs.weak ⟨rfl, rfl, rfl, rfl, rfl, rfl, trivial⟩ [0] (by simp) (by rfl)) ?_
    rintro j ⟨hj, hall⟩
    refine okc_seq ?_
    refine okc_region ?_
    refine s_cmpS rfl rfl rfl rfl rfl rfl rfl rfl (fun h3 => ?_) (fun h3 => ?_)
    · have hltj : (j : Int) < s.weeks := by simpa using h3
      have hLj := hL j
      have g1 := bd_lo (leavesS s (s.wlo + (k : Int))) (k := j) (n := 0 + j * 2 + 0) (by omega) (by omega)
      have g2 := bd_hi (leavesS s (s.wlo + (k : Int))) (k := j) (n := 0 + j * 2 + 1) (by omega) (by omega)
      refine okl_nil ?_
      change OkC Try.prog _ _ _ _ _ _ _
      refine okc_weak (l' := [(0, _), (1, _), (3, _), (4, _), (23, _), (24, _), (25, _)]) ⟨rfl, rfl, rfl, rfl, rfl, rfl, rfl, trivial⟩ ?_
      refine okc_seq ?_
      refine okc_cond_t rfl ?_
      refine okc_skip ?_
      change OkC Try.prog _ _ _ _ _ _ _
      refine okc_weak (l' := [(0, _), (1, _), (3, _), (4, _), (23, _), (24, _), (25, _)]) ⟨rfl, rfl, rfl, rfl, rfl, rfl, rfl, trivial⟩ ?_
      refine okc_seq ?_
      refine okc_block ?_
      refine okc_seq ?_
      refine okc_region ?_
      refine s_move rfl rfl rfl rfl rfl rfl ?_
      refine s_assign rfl rfl rfl rfl rfl rfl ?_
      refine okl_nil ?_
      change OkC Try.prog _ _ _ _ _ _ _
      refine okc_weak (l' := [(0, _), (1, _), (3, _), (4, _), (5, _), (23, _), (24, _), (25, _)]) ⟨rfl, rfl, rfl, rfl, rfl, rfl, rfl, rfl, trivial⟩ ?_
      refine okc_seq ?_
      refine dr_start [27, 28, 29, 30, 31, 32, 33, 34, 35] ?_
      refine d_move [] rfl rfl rfl rfl rfl (fun ν => rfl) rfl (fun ν => rfl) ?_
      refine d_indexA j [0] rfl rfl rfl rfl rfl (fun ν => rfl) rfl (fun ν => rfl) (fun ν => rfl) rfl rfl (by first | rfl | omega) (by omega) rfl ?_
      refine d_field [1] rfl rfl rfl rfl rfl (fun ν => rfl) rfl (fun ν => rfl) rfl rfl ?_
      refine d_load1 0 [2] rfl rfl rfl rfl rfl (fun ν => rfl) rfl rfl (fun ν => rfl) (fun ν => rfl) (by assumption) ?_
      refine d_move [] rfl rfl rfl rfl rfl (fun ν => rfl) rfl (fun ν => rfl) ?_
      refine d_indexA j [4] rfl rfl rfl rfl rfl (fun ν => rfl) rfl (fun ν => rfl) (fun ν => rfl) rfl rfl (by first | rfl | omega) (by omega) rfl ?_
      refine d_field [5] rfl rfl rfl rfl rfl (fun ν => rfl) rfl (fun ν => rfl) rfl rfl ?_
      refine d_load1 0 [6] rfl rfl rfl rfl rfl (fun ν => rfl) rfl rfl (fun ν => rfl) (fun ν => rfl) (by assumption) ?_
      refine d_cmpS [3, 7] rfl rfl rfl rfl rfl (fun ν => rfl) rfl (fun ν => rfl) (fun ν => rfl) rfl (fun h4 => ?_) (fun h4 => ?_)
      · have hbad := okN_not (s := s) (f := (leavesS s (s.wlo + (k : Int)))) (k := j) (by omega) (by have hq := h4; simp at hq; omega)
        refine dr_end [27, 28, 29, 30, 31, 32, 33, 34, 35] [8] 9 rfl rfl rfl rfl rfl rfl rfl rfl rfl (fun ν => ?_)
        refine okl_nil ?_
        change OkC Try.prog _ _ _ _ _ _ _
        refine okc_weak (l' := [(0, _), (1, _), (3, _), (4, _), (5, _), (23, _), (24, _), (25, _), (35, _)]) ⟨rfl, rfl, rfl, rfl, rfl, rfl, rfl, rfl, rfl, trivial⟩ ?_
        refine okc_cond_t rfl ?_
        refine okc_exit ?_
        change OkC Try.prog _ _ _ _ _ _ _
        refine okc_weak (l' := [(0, _), (1, _), (3, _), (4, _), (5, _), (23, _), (24, _), (25, _), (35, _)]) ⟨rfl, rfl, rfl, rfl, rfl, rfl, rfl, rfl, rfl, trivial⟩ ?_
        refine okc_region ?_
        refine s_move rfl rfl rfl rfl rfl rfl ?_
        refine s_add rfl rfl rfl rfl rfl rfl rfl (by omega) ?_
        refine s_assign rfl rfl rfl rfl rfl rfl ?_
        refine okl_nil ?_
        refine fun a w hs => ⟨k + 1, by omega, by omega, hs.rebase.weak ⟨rfl, rfl, congrArg (fun z => some (Value.int .i64 z)) (by omega), trivial⟩ [] (by simp) rfl, ?_⟩
        first | exact (rainsN_succ s k ▸ (if_neg (by simp [hbad]) : (if okN s (leavesS s (s.wlo + (k : Int))) = true then rainsN s k ++ [s.wlo + (k : Int)] else rainsN s k) = rainsN s k) ▸ hJ _ _ _ hJ1 (hs.bel.below rfl)) | (rw [rainsN_succ, if_neg (by simp [hbad])]; exact hJ _ _ _ hJ1 (hs.bel.below rfl)) | (rw [rainsN_succ, if_pos hgood]; exact hJ _ _ _ hJ2 (hs.bel.below rfl))
      · have hfine : ((leavesS s (s.wlo + (k : Int))) j).1 ≤ ((leavesS s (s.wlo + (k : Int))) j).2 := by have hq := h4; simp at hq; omega
        refine dr_end [27, 28, 29, 30, 31, 32, 33, 34, 35] [8] 9 rfl rfl rfl rfl rfl rfl rfl rfl rfl (fun ν => ?_)
        refine okl_nil ?_
        change OkC Try.prog _ _ _ _ _ _ _
        refine okc_weak (l' := [(0, _), (1, _), (3, _), (4, _), (5, _), (23, _), (24, _), (25, _), (35, _)]) ⟨rfl, rfl, rfl, rfl, rfl, rfl, rfl, rfl, rfl, trivial⟩ ?_
        refine okc_cond_f rfl ?_
        refine okc_skip ?_
        change OkC Try.prog _ _ _ _ _ _ _
        refine okc_weak (l' := [(0, _), (1, _), (3, _), (4, _), (5, _), (23, _), (24, _), (25, _), (35, _)]) ⟨rfl, rfl, rfl, rfl, rfl, rfl, rfl, rfl, rfl, trivial⟩ ?_
        refine okc_region ?_
        refine s_add rfl rfl rfl rfl rfl rfl rfl (by omega) ?_
        refine s_move rfl rfl rfl rfl rfl rfl ?_
        refine okl_nil ?_
        refine fun a w hs => ⟨j + 1, ⟨by omega, fun i hi => ?_⟩, by omega, hs.weak ⟨rfl, rfl, rfl, rfl, rfl, rfl, trivial⟩ [0] (by simp) rfl⟩
        rcases Nat.lt_or_ge i j with h | h
        · exact hall i h
        · have : i = j := by omega
          subst this; exact hfine
    · have hgej : ¬ (j : Int) < s.weeks := by simpa using h3
      have hgood := okN_of (s := s) (f := (leavesS s (s.wlo + (k : Int)))) (n := j) (by omega) hall
      have hpfx : rainsN s k ++ [s.wlo + (k : Int)] <+: rainsS s := by have := rainsN_pre s (k := k + 1) (n := rainN s) (by omega); rwa [rainsN_succ, if_pos hgood] at this
      refine okl_nil ?_
      change OkC Try.prog _ _ _ _ _ _ _
      refine okc_weak (l' := [(0, _), (1, _), (3, _), (4, _), (23, _), (24, _), (25, _)]) ⟨rfl, rfl, rfl, rfl, rfl, rfl, rfl, trivial⟩ ?_
      refine okc_seq ?_
      refine okc_cond_f rfl ?_
      refine okc_exit ?_
      change OkC Try.prog _ _ _ _ _ _ _
      refine okc_weak (l' := [(0, _), (1, _), (3, _), (4, _), (23, _), (24, _), (25, _)]) ⟨rfl, rfl, rfl, rfl, rfl, rfl, rfl, trivial⟩ ?_
      refine okc_seq ?_
      refine okc_region ?_
      refine s_move rfl rfl rfl rfl rfl rfl ?_
      refine s_move rfl rfl rfl rfl rfl rfl ?_
      refine s_loadW 0 rfl rfl rfl rfl rfl rfl rfl rfl rfl (by first | rfl | assumption) ?_
      refine okl_yield rfl rfl rfl rfl rfl rfl rfl ⟨rfl, rfl, rfl⟩ (fun w2 hb2 => hY _ (s.wlo + (k : Int)) w2 hpfx (hJ _ _ _ hJ1 hb2)) (fun w2 h => hJM _ _ h) (fun w2 hJ2 => ?_) (fun w2 hJx2 => ?_)
      · refine s_not rfl rfl rfl rfl rfl rfl ?_
        refine okl_nil ?_
        change OkC Try.prog _ _ _ _ _ _ _
        refine okc_weak (l' := [(0, _), (1, _), (3, _), (4, _), (23, _), (24, _), (25, _), (41, _)]) ⟨rfl, rfl, rfl, rfl, rfl, rfl, rfl, rfl, trivial⟩ ?_
        refine okc_cond_f rfl ?_
        refine okc_skip ?_
        change OkC Try.prog _ _ _ _ _ _ _
        refine okc_weak (l' := [(0, _), (1, _), (3, _), (4, _), (23, _), (24, _), (25, _), (41, _)]) ⟨rfl, rfl, rfl, rfl, rfl, rfl, rfl, rfl, trivial⟩ ?_
        refine okc_region ?_
        refine s_move rfl rfl rfl rfl rfl rfl ?_
        refine s_add rfl rfl rfl rfl rfl rfl rfl (by omega) ?_
        refine s_assign rfl rfl rfl rfl rfl rfl ?_
        refine okl_nil ?_
        refine fun a w hs => ⟨k + 1, by omega, by omega, hs.rebase.weak ⟨rfl, rfl, congrArg (fun z => some (Value.int .i64 z)) (by omega), trivial⟩ [] (by simp) rfl, ?_⟩
        first | exact (rainsN_succ s k ▸ (if_neg (by simp [hbad]) : (if okN s (leavesS s (s.wlo + (k : Int))) = true then rainsN s k ++ [s.wlo + (k : Int)] else rainsN s k) = rainsN s k) ▸ hJ _ _ _ hJ1 (hs.bel.below rfl)) | (rw [rainsN_succ, if_neg (by simp [hbad])]; exact hJ _ _ _ hJ1 (hs.bel.below rfl)) | (rw [rainsN_succ, if_pos hgood]; exact hJ _ _ _ hJ2 (hs.bel.below rfl))
      · refine s_not rfl rfl rfl rfl rfl rfl ?_
        refine okl_nil ?_
        change OkC Try.prog _ _ _ _ _ _ _
        refine okc_weak (l' := [(0, _), (1, _), (3, _), (4, _), (23, _), (24, _), (25, _), (41, _)]) ⟨rfl, rfl, rfl, rfl, rfl, rfl, rfl, rfl, trivial⟩ ?_
        refine okc_cond_t rfl ?_
        refine okc_ret fun a w hs => ?_
        exact ⟨hs.noDef, _, results_none rfl _ _ _, ⟨_, rfl⟩, .inr (hJx _ _ hJx2 (hs.bel.below rfl))⟩
  · have hge : ¬ s.wlo + (k : Int) ≤ s.whi := by simpa using h1
    have hkn : k = rainN s := by unfold rainN at hk ⊢; omega
    refine okl_nil ?_
    change OkC Try.prog _ _ _ _ _ _ _
    refine okc_weak (l' := [(0, _), (1, _), (3, _), (15, _)]) ⟨rfl, rfl, rfl, rfl, trivial⟩ ?_
    refine okc_cond_f rfl ?_
    refine okc_exit ?_
    exact fun a w hs => ⟨hs.noDef, _, results_none rfl _ _ _, ⟨_, rfl⟩, .inl (by have hx := hJ _ _ _ hJ1 (hs.bel.below rfl); rw [hkn] at hx; exact hx)⟩
end Go.Proofs.Ytdpnadknaacinaa
