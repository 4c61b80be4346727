/-
  The reference: what is given in a week; lists compared.
  Conditions: none.
-/
import Derived.Test.YtdpnadknaacinaaC21
import Derived.Test.YtdpnadknaacinaaEq
namespace Go.Proofs.Ytdpnadknaacinaa
open Go.Sx Go.Proofs.Ytdpnadknaacinaa.Ty
set_option linter.unusedVariables false
set_option maxHeartbeats 2000000


theorem gvL_take {s : Sp} {k i : Nat} {L : List Int} {r : Int} (h : L[i]? = some r) (v : Int × Int) : gvL s k (L.take (i + 1)) v = arS (gvL s k (L.take i) v) (leavesS s r k) := by
  unfold gvL; rw [List.take_add_one, h]; simp
theorem rows_at {α : Type} {f : α → List Value} {m : Nat} (hf : ∀ x, (f x).length = m) : ∀ {L : List α} {i : Nat} {x : α}, L[i]? = some x → sub (L.flatMap f) (i * m) m = f x
  | [], i, x, h => by simp at h
  | y :: L, 0, x, h => by
    simp at h; subst h
    simp [sub, List.flatMap_cons, ← hf y]
  | y :: L, i + 1, x, h => by
    have ih := rows_at hf (L := L) (i := i) (x := x) (by simpa using h)
    rw [← ih]
    unfold sub
    rw [List.flatMap_cons, List.drop_append, hf y, List.drop_eq_nil_of_le (by rw [hf y, Nat.succ_mul]; omega)]
    simp [Nat.succ_mul]
theorem sub_take {cs : List Value} {i m n : Nat} (h : i < n) : sub cs (i * m) m = sub (cs.take (n * m)) (i * m) m := by
  unfold sub
  rw [List.drop_take, List.take_take]
  have h2 : (i + 1) * m ≤ n * m := Nat.mul_le_mul_right m h
  rw [Nat.succ_mul] at h2
  rw [Nat.min_eq_left (by omega)]
theorem leC_len (f : Bd) : (leC f).length = 20 := rfl

theorem hull_fn (s : Sp) (M : Args) (L : List Int) (r0 : Int) (h0 : L[0]? = some r0) (hl : L.length ≤ 1000) (k : Nat) (hk : k < 10) (p : Option Addr) (bL oL cc jL : Nat) (cL : List Value) (hpL : p = some ⟨bL, oL, none⟩) (hjL : M[jL]? = some (bL, cL)) (hatL : ∀ i r, L[i]? = some r → sub cL (oL + i * 20) 20 = leC (leavesS s r)) : Cn Try.prog 78 [.slice p L.length cc, .int .i64 (k : Int)] M (fun _ : Unit => .agg #[.int .i64 (gvL s k L (leavesS s r0 k)).1, .int .i64 (gvL s k L (leavesS s r0 k)).2]) (fun _ => []) (fun _ => True) := by
  have hpos : 0 < L.length := by rcases Nat.lt_or_ge 0 L.length with h | h; exact h; rw [List.getElem?_eq_none (by omega)] at h0; cases h0
  have hc0 := hatL 0 r0 h0
  have hA1 : cL[oL + 0 * 20 + 0 + k * 1]? = some (.int .i64 (leavesS s r0 k).1) := by have h := sub_at hc0 k (by omega); rw [le_lo _ (k := k) (by omega) rfl] at h; rw [← h]; congr 1; omega
  have hA2 : cL[oL + 0 * 20 + 10 + k * 1]? = some (.int .i64 (leavesS s r0 k).2) := by have h := sub_at hc0 (10 + k) (by omega); rw [le_hi _ (k := k) (by omega) rfl] at h; rw [← h]; congr 1; omega
  refine fn_intro (N := 44) Try.func78 rfl rfl rfl fun w0 => ?_
  refine okc_seq ?_
  refine okc_region ?_
  refine s_alloc rfl rfl rfl rfl rfl rfl (fun b1 => ?_)
  refine okl_nil ?_
  change OkC Try.prog _ _ _ _ _ _ _
  refine okc_weak (l' := [(0, _), (1, _), (4, _)]) ⟨rfl, rfl, rfl, trivial⟩ ?_
  refine okc_seq ?_
  refine dr_start [8, 9, 10, 11, 12, 13, 14, 15, 16, 17, 18, 19, 20, 5] ?_
  refine d_move [] rfl rfl rfl rfl rfl (fun ν => rfl) rfl (fun ν => rfl) ?_
  refine d_move [] rfl rfl rfl rfl rfl (fun ν => rfl) rfl (fun ν => rfl) ?_
  refine d_indexP 0 hpL [0] rfl rfl rfl rfl rfl (fun ν => rfl) rfl (fun ν => rfl) (fun ν => rfl) rfl rfl rfl (by omega) rfl ?_
  refine d_field [2] rfl rfl rfl rfl rfl (fun ν => rfl) rfl (fun ν => rfl) rfl rfl ?_
  refine d_indexA k [3, 1] rfl rfl rfl rfl rfl (fun ν => rfl) rfl (fun ν => rfl) (fun ν => rfl) rfl rfl (by first | rfl | omega) (by omega) rfl ?_
  refine d_loadA1 jL [4] rfl rfl rfl rfl rfl (fun ν => rfl) rfl rfl (fun ν => rfl) hjL (by assumption) ?_
  refine d_move [] rfl rfl rfl rfl rfl (fun ν => rfl) rfl (fun ν => rfl) ?_
  refine d_move [] rfl rfl rfl rfl rfl (fun ν => rfl) rfl (fun ν => rfl) ?_
  refine d_indexP 0 hpL [6] rfl rfl rfl rfl rfl (fun ν => rfl) rfl (fun ν => rfl) (fun ν => rfl) rfl rfl rfl (by omega) rfl ?_
  refine d_field [8] rfl rfl rfl rfl rfl (fun ν => rfl) rfl (fun ν => rfl) rfl rfl ?_
  refine d_indexA k [9, 7] rfl rfl rfl rfl rfl (fun ν => rfl) rfl (fun ν => rfl) (fun ν => rfl) rfl rfl (by first | rfl | omega) (by omega) rfl ?_
  refine d_loadA1 jL [10] rfl rfl rfl rfl rfl (fun ν => rfl) rfl rfl (fun ν => rfl) hjL (by assumption) ?_
  refine d_build [5, 11] rfl rfl rfl rfl rfl (fun ν => rfl) rfl (fun ν => rfl) rfl rfl rfl ?_
  refine d_alloc [] rfl rfl rfl rfl rfl (fun ν => rfl) rfl rfl ?_
  refine dr_end [8, 9, 10, 11, 12, 13, 14, 15, 16, 17, 18, 19, 20, 5] [12, 13] 14 rfl rfl rfl rfl rfl rfl rfl rfl rfl (fun nu2 => ?_)
  refine k_storeW 0 rfl rfl rfl rfl rfl rfl rfl rfl rfl rfl rfl rfl ?_
  refine okl_nil ?_
  change OkC Try.prog _ _ _ _ _ _ _
  refine okc_weak (l' := [(0, _), (1, _), (4, _), (5, _)]) ⟨rfl, rfl, rfl, rfl, trivial⟩ ?_
  refine okc_seq ?_
  refine okc_seq ?_
  refine okc_region ?_
  refine s_move rfl rfl rfl rfl rfl rfl ?_
  refine s_len rfl rfl rfl rfl rfl rfl rfl ?_
  refine s_move rfl rfl rfl rfl rfl rfl ?_
  refine okl_nil ?_
  change OkC Try.prog _ _ _ _ _ _ _
  refine okc_weak (l' := [(0, _), (1, _), (4, _), (5, _), (21, _), (22, _), (23, _)]) ⟨rfl, rfl, rfl, rfl, rfl, rfl, rfl, trivial⟩ ?_
  refine okc_block ?_
  refine okc_loop (γ := Nat) (fun i => [(0, .slice p L.length cc), (1, .int .i64 (k : Int)), (4, .pointer (some ⟨b1, 0, none⟩)), (5, .pointer (some ⟨(nu2 13), 0, none⟩)), (21, .slice p L.length cc), (22, .int .i64 L.length), (23, .int .i64 i)]) (fun i => [((nu2 13), [.int .i64 (gvL s k (L.take i) (leavesS s r0 k)).1, .int .i64 (gvL s k (L.take i) (leavesS s r0 k)).2], 23), (b1, [.int .i64 0, .int .i64 0], 23)]) (fun i => i ≤ L.length) (fun i => L.length - i) 0 (Nat.zero_le _) (fun a w hs => by exact hs.weak ⟨rfl, rfl, rfl, rfl, rfl, rfl, rfl, trivial⟩ [0, 1] (by simp) (by rfl)) ?_
  rintro i hi
  refine okc_seq ?_
  refine okc_region ?_
  refine s_cmpS rfl rfl rfl rfl rfl rfl rfl rfl (fun h3 => ?_) (fun h3 => ?_)
  · have hlt : i < L.length := by simpa using h3
    obtain ⟨r, hr⟩ : ∃ r, L[i]? = some r := ⟨L[i], by simp [hlt]⟩
    have hcell := hatL i r hr
    have g1 := le_lo (leavesS s r) (k := k) (n := 0 + 0 + k * 1) (by omega) (by omega)
    have g2 := le_hi (leavesS s r) (k := k) (n := 0 + 10 + k * 1) (by omega) (by omega)
    refine okl_nil ?_
    change OkC Try.prog _ _ _ _ _ _ _
    refine okc_weak (l' := [(0, _), (1, _), (4, _), (5, _), (21, _), (22, _), (23, _), (24, _)]) ⟨rfl, rfl, rfl, rfl, rfl, rfl, rfl, rfl, trivial⟩ ?_
    refine okc_seq ?_
    refine okc_cond_t rfl ?_
    refine okc_skip ?_
    change OkC Try.prog _ _ _ _ _ _ _
    refine okc_weak (l' := [(0, _), (1, _), (4, _), (5, _), (21, _), (22, _), (23, _), (24, _)]) ⟨rfl, rfl, rfl, rfl, rfl, rfl, rfl, rfl, trivial⟩ ?_
    refine okc_seq ?_
    refine okc_block ?_
    refine okc_seq ?_
    refine okc_region ?_
    refine s_indexP i hpL rfl rfl rfl rfl rfl rfl rfl rfl rfl rfl (by omega) rfl ?_
    refine s_loadAP jL rfl rfl rfl rfl rfl rfl rfl hjL rfl (by assumption) rfl ?_
    refine s_alloc rfl rfl rfl rfl rfl rfl (fun b4 => ?_)
    refine k_storeW 0 rfl rfl rfl rfl rfl rfl rfl rfl rfl rfl rfl rfl ?_
    refine okl_nil ?_
    change OkC Try.prog _ _ _ _ _ _ _
    refine okc_weak (l' := [(0, _), (1, _), (4, _), (5, _), (7, _), (21, _), (22, _), (23, _), (24, _)]) ⟨rfl, rfl, rfl, rfl, rfl, rfl, rfl, rfl, rfl, trivial⟩ ?_
    refine dr_start [27, 28, 29, 30, 31, 32, 33, 34, 35, 36, 37, 38, 39, 40, 41] ?_
    refine d_field [] rfl rfl rfl rfl rfl (fun ν => rfl) rfl (fun ν => rfl) rfl rfl ?_
    refine d_load1 1 [0] rfl rfl rfl rfl rfl (fun ν => rfl) rfl rfl (fun ν => rfl) (fun ν => rfl) rfl ?_
    refine d_move [] rfl rfl rfl rfl rfl (fun ν => rfl) rfl (fun ν => rfl) ?_
    refine d_field [] rfl rfl rfl rfl rfl (fun ν => rfl) rfl (fun ν => rfl) rfl rfl ?_
    refine d_indexA k [3, 2] rfl rfl rfl rfl rfl (fun ν => rfl) rfl (fun ν => rfl) (fun ν => rfl) rfl rfl (by first | rfl | omega) (by omega) rfl ?_
    refine d_load1 0 [4] rfl rfl rfl rfl rfl (fun ν => rfl) rfl rfl (fun ν => rfl) (fun ν => rfl) (by assumption) ?_
    refine d_min [1, 5] rfl rfl rfl rfl rfl (fun ν => rfl) rfl (fun ν => rfl) (fun ν => rfl) ?_
    refine d_field [] rfl rfl rfl rfl rfl (fun ν => rfl) rfl (fun ν => rfl) rfl rfl ?_
    refine d_load1 1 [7] rfl rfl rfl rfl rfl (fun ν => rfl) rfl rfl (fun ν => rfl) (fun ν => rfl) rfl ?_
    refine d_move [] rfl rfl rfl rfl rfl (fun ν => rfl) rfl (fun ν => rfl) ?_
    refine d_field [] rfl rfl rfl rfl rfl (fun ν => rfl) rfl (fun ν => rfl) rfl rfl ?_
    refine d_indexA k [10, 9] rfl rfl rfl rfl rfl (fun ν => rfl) rfl (fun ν => rfl) (fun ν => rfl) rfl rfl (by first | rfl | omega) (by omega) rfl ?_
    refine d_load1 0 [11] rfl rfl rfl rfl rfl (fun ν => rfl) rfl rfl (fun ν => rfl) (fun ν => rfl) (by assumption) ?_
    refine d_max [8, 12] rfl rfl rfl rfl rfl (fun ν => rfl) rfl (fun ν => rfl) (fun ν => rfl) ?_
    refine d_build [6, 13] rfl rfl rfl rfl rfl (fun ν => rfl) rfl (fun ν => rfl) rfl rfl rfl ?_
    refine dr_end [27, 28, 29, 30, 31, 32, 33, 34, 35, 36, 37, 38, 39, 40, 41] [14] 15 rfl rfl rfl rfl rfl rfl rfl rfl rfl (fun nu5 => ?_)
    refine k_storeW 1 rfl rfl rfl rfl rfl rfl rfl rfl rfl rfl rfl rfl ?_
    refine okl_nil ?_
    change OkC Try.prog _ _ _ _ _ _ _
    refine okc_weak (l' := [(0, _), (1, _), (4, _), (5, _), (7, _), (21, _), (22, _), (23, _), (24, _)]) ⟨rfl, rfl, rfl, rfl, rfl, rfl, rfl, rfl, rfl, trivial⟩ ?_
    refine okc_region ?_
    refine s_add rfl rfl rfl rfl rfl rfl rfl (by omega) ?_
    refine s_move rfl rfl rfl rfl rfl rfl ?_
    refine okl_nil ?_
    exact fun a w hs => ⟨i + 1, by omega, by omega, hs.weak ⟨rfl, rfl, rfl, rfl, rfl, rfl, rfl, trivial⟩ [1, 2] (by simp) (by rw [gvL_take hr]; rfl)⟩
  · have hge : ¬ i < L.length := by simpa using h3
    have hfin : L.take i = L := List.take_of_length_le (by omega)
    refine okl_nil ?_
    change OkC Try.prog _ _ _ _ _ _ _
    refine okc_weak (l' := [(0, _), (1, _), (4, _), (5, _), (21, _), (22, _), (23, _), (24, _)]) ⟨rfl, rfl, rfl, rfl, rfl, rfl, rfl, rfl, trivial⟩ ?_
    refine okc_seq ?_
    refine okc_cond_f rfl ?_
    refine okc_exit ?_
    change OkC Try.prog _ _ _ _ _ _ _
    refine okc_weak (l' := [(0, _), (1, _), (4, _), (5, _), (21, _), (22, _), (23, _), (24, _)]) ⟨rfl, rfl, rfl, rfl, rfl, rfl, rfl, rfl, trivial⟩ ?_
    refine okc_seq ?_
    refine okc_region ?_
    refine s_loadW 0 rfl rfl rfl rfl rfl rfl rfl rfl rfl rfl ?_
    refine k_storeW 1 rfl rfl rfl rfl rfl rfl rfl rfl rfl rfl rfl rfl ?_
    refine okl_nil ?_
    change OkC Try.prog _ _ _ _ _ _ _
    refine okc_weak (l' := [(0, _), (1, _), (4, _), (5, _), (21, _), (22, _), (23, _), (24, _)]) ⟨rfl, rfl, rfl, rfl, rfl, rfl, rfl, rfl, trivial⟩ ?_
    refine okc_ret fun a w hs => ?_
    exact ret_v hs (run_results1 hs rfl (k_ragg 1 rfl rfl rfl rfl rfl)) (by clear hs; rw [hfin])

end Go.Proofs.Ytdpnadknaacinaa
