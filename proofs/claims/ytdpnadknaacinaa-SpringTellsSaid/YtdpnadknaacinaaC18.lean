/-
  The reference: what a rain leaves.
  Conditions: none.
-/
import Derived.Test.YtdpnadknaacinaaC17
namespace Go.Proofs.Ytdpnadknaacinaa
open Go.Sx Go.Proofs.Ytdpnadknaacinaa.Ty
set_option linter.unusedVariables false
set_option maxHeartbeats 2000000


def addsL (s : Sp) (rain : Int) (f : Bd) (k : Nat) : Bd := (s.book.take k).foldl (addL rain) f
theorem adds_ok {s : Sp} (hs : OkS s) {f : Bd} (hf : BdOk f) (rain : Int) (k : Nat) : BdOk (addsL s rain f k) := fold_ok (fun f x hx h => addL_ok h (hs.book x (List.mem_of_mem_take hx))) hf
theorem setlo_hi (f : Bd) {k n m : Nat} (hk : k < 10) (hn : n = k) (hm : m = 10 + k) (a b : Int) : setL (setL (leC f) n [.int .i64 a]) m [.int .i64 b] = leC (up f k (a, b)) := by
  rw [le_setlo f hk hn, le_sethi _ hk hm]
  congr 1
  funext j
  simp only [up]
  split <;> simp_all
theorem adds_step {s : Sp} {rain : Int} {f : Bd} {k m : Nat} {x : Ln} (hx : s.book[k]? = some x) (hin : inS x.rlo x.rhi rain = true) (hm : x.week = (m : Int)) :
    addsL s rain f (k + 1) = up (addsL s rain f k) m (max (addsL s rain f k m).1 x.glo, min (addsL s rain f k m).2 x.ghi) := by
  have e : x.week.toNat = m := by omega
  unfold addsL
  rw [fold_take _ hx, addL, if_pos hin, e]
theorem adds_skip {s : Sp} {rain : Int} {f : Bd} {k : Nat} {x : Ln} (hx : s.book[k]? = some x) (hin : inS x.rlo x.rhi rain = false) : addsL s rain f (k + 1) = addsL s rain f k := by
  unfold addsL
  rw [fold_take _ hx, addL, if_neg (by simp [hin])]
theorem pick3 {O : Blks} {b b' b2 T T' T2 : Nat} {c c' d c2 : List Value} (e : c = d) (h : O = [(b, c2, T), (b', d, T'), (b2, c', T2)]) : O = [(b, c2, T), (b', c, T'), (b2, c', T2)] := by rw [e]; exact h
theorem okN_all {s : Sp} {f : Bd} : okN s f = true ↔ ∀ j, j < s.weeks.toNat → (f j).1 ≤ (f j).2 := by simp [okN]

theorem rleaves_fn (s : Sp) (M : Args) (hin : s.In M) (hs0 : OkS s) (f : Bd) (hf : BdOk f) (rain : Int) : Cn Try.prog 139 [spV s, leV f, .int .i64 rain] M (fun _ : Unit => .tuple #[leV (narS s (s.book.foldl (addL rain) f)), .bool (okN s (narS s (s.book.foldl (addL rain) f)))]) (fun _ => []) (fun _ => True) := by
  have ho := hs0.ok
  have ho2 := ho
  obtain ⟨w1, w2, m1, m2, f1, f2, a1, a2, a3, v1, v2, v3⟩ := ho2
  obtain ⟨bB, oB, cB, jB, hB⟩ := hin.book
  have hbn := hin.bn
  refine fn_intro (N := 143) Try.func139 rfl rfl rfl fun w0 => ?_
  refine okc_seq ?_
  refine okc_region ?_
  refine s_boxA rfl rfl rfl rfl rfl rfl (fun b1 => ?_)
  refine s_boxA rfl rfl rfl rfl rfl rfl (fun b2 => ?_)
  refine s_alloc rfl rfl rfl rfl rfl rfl (fun b3 => ?_)
  refine s_assign rfl rfl rfl rfl rfl rfl ?_
  refine okl_nil ?_
  change OkC Try.prog _ _ _ _ _ _ _
  refine okc_weak (l' := [(0, _), (1, _), (2, _), (3, _), (4, _), (6, _), (7, _)]) ⟨rfl, rfl, rfl, rfl, rfl, rfl, rfl, trivial⟩ ?_
  refine okc_seq ?_
  refine okc_seq ?_
  refine okc_region ?_
  refine s_field rfl rfl rfl rfl rfl rfl rfl rfl ?_
  refine s_load1 2 rfl rfl rfl rfl rfl rfl rfl rfl rfl ?_
  refine s_len rfl rfl rfl rfl rfl rfl rfl ?_
  refine s_move rfl rfl rfl rfl rfl rfl ?_
  refine okl_nil ?_
  change OkC Try.prog _ _ _ _ _ _ _
  refine okc_weak (l' := [(0, _), (1, _), (2, _), (3, _), (4, _), (6, _), (7, _), (14, _), (15, _), (16, _)]) ⟨rfl, rfl, rfl, rfl, rfl, rfl, rfl, rfl, rfl, rfl, trivial⟩ ?_
  refine okc_block ?_
  refine okc_loop (γ := Nat) (fun k => [(2, .int .i64 rain), (3, .pointer (some ⟨b1, 0, none⟩)), (4, .pointer (some ⟨b2, 0, none⟩)), (6, .pointer (some ⟨b3, 0, none⟩)), (14, .slice s.bp s.book.length s.bc), (15, .int .i64 s.book.length), (16, .int .i64 k)]) (fun k => [(b3, leC bz, 135), (b2, leC (addsL s rain f k), 135), (b1, [.int .i64 s.weeks, .int .i64 s.most, .int .i64 s.fall, .int .i64 s.slo, .int .i64 s.shi, .int .i64 s.wlo, .int .i64 s.whi, .slice s.bp s.book.length s.bc, .slice s.rp s.reads.length s.rc], 27)]) (fun k => k ≤ s.book.length) (fun k => s.book.length - k) 0 (Nat.zero_le _) (fun a w hs => by exact hs.weak ⟨rfl, rfl, rfl, rfl, rfl, rfl, rfl, trivial⟩ [0, 1, 2] (by simp) (by rfl)) ?_
  rintro k hk
  refine okc_seq ?_
  refine okc_region ?_
  refine s_cmpS rfl rfl rfl rfl rfl rfl rfl rfl (fun h4 => ?_) (fun h4 => ?_)
  · have hlt : k < s.book.length := by simpa using h4
    obtain ⟨x, hx⟩ : ∃ x, s.book[k]? = some x := ⟨s.book[k], by simp [hlt]⟩
    obtain ⟨hpB, hjB, hatB⟩ := hB (by intro e; simp [e] at hlt)
    have hcell := hatB k x hx
    have hxo := hs0.book x (List.mem_of_getElem? hx)
    obtain ⟨r1, r2, r3, k1, k2, y1, y2, y3⟩ := hxo
    obtain ⟨m, hm⟩ : ∃ m : Nat, x.week = m := ⟨x.week.toNat, by omega⟩
    have hF := adds_ok hs0 hf rain k
    have g1 := le_lo (addsL s rain f k) (k := m) (n := 0 + 0 + m * 1) (by omega) (by omega)
    have g2 := le_hi (addsL s rain f k) (k := m) (n := 0 + 10 + m * 1) (by omega) (by omega)
    refine okl_nil ?_
    change OkC Try.prog _ _ _ _ _ _ _
    refine okc_weak (l' := [(2, _), (3, _), (4, _), (6, _), (14, _), (15, _), (16, _), (17, _)]) ⟨rfl, rfl, rfl, rfl, rfl, rfl, rfl, rfl, trivial⟩ ?_
    refine okc_seq ?_
    refine okc_cond_t rfl ?_
    refine okc_skip ?_
    change OkC Try.prog _ _ _ _ _ _ _
    refine okc_weak (l' := [(2, _), (3, _), (4, _), (6, _), (14, _), (15, _), (16, _), (17, _)]) ⟨rfl, rfl, rfl, rfl, rfl, rfl, rfl, rfl, trivial⟩ ?_
    refine okc_seq ?_
    refine okc_block ?_
    refine okc_seq ?_
    refine okc_region ?_
    refine s_indexP k hpB rfl rfl rfl rfl rfl rfl rfl rfl rfl rfl (by omega) rfl ?_
    refine s_loadAP jB rfl rfl rfl rfl rfl rfl rfl hjB rfl (by assumption) rfl ?_
    refine s_alloc rfl rfl rfl rfl rfl rfl (fun b5 => ?_)
    refine k_storeW 0 rfl rfl rfl rfl rfl rfl rfl rfl rfl rfl rfl rfl ?_
    refine okl_nil ?_
    change OkC Try.prog _ _ _ _ _ _ _
    refine okc_weak (l' := [(2, _), (3, _), (4, _), (6, _), (9, _), (14, _), (15, _), (16, _), (17, _)]) ⟨rfl, rfl, rfl, rfl, rfl, rfl, rfl, rfl, rfl, trivial⟩ ?_
    refine okc_seq ?_
    refine okc_region ?_
    refine s_move rfl rfl rfl rfl rfl rfl ?_
    refine s_field rfl rfl rfl rfl rfl rfl rfl rfl ?_
    refine s_field rfl rfl rfl rfl rfl rfl rfl rfl ?_
    refine s_load1 0 rfl rfl rfl rfl rfl rfl rfl rfl rfl ?_
    refine s_field rfl rfl rfl rfl rfl rfl rfl rfl ?_
    refine s_field rfl rfl rfl rfl rfl rfl rfl rfl ?_
    refine s_load1 0 rfl rfl rfl rfl rfl rfl rfl rfl rfl ?_
    refine s_callb rfl rfl rfl rfl rfl rfl rfl c87 (rwithin_fn _ _ _) covers_nil (fun h6 => ?_) (fun h6 => ?_)
    · have hin2 : inS x.rlo x.rhi rain = true := h6
      refine okl_nil ?_
      change OkC Try.prog _ _ _ _ _ _ _
      refine okc_weak (l' := [(2, _), (3, _), (4, _), (6, _), (9, _), (14, _), (15, _), (16, _), (17, _), (27, _)]) ⟨rfl, rfl, rfl, rfl, rfl, rfl, rfl, rfl, rfl, rfl, trivial⟩ ?_
      refine okc_cond_t rfl ?_
      refine dd_start [28, 29, 30, 31, 32, 33, 34, 35, 36, 37, 38, 39, 40, 41, 42, 43, 44, 45, 46, 47, 48, 49, 50, 51, 52, 53, 9999] ⟨24, 2, b2, (leC (addsL s rain f k)), (setL (leC (addsL s rain f k)) (0 + 0 + m * 1) [.int .i64 (max ((addsL s rain f k) m).1 x.glo)]), 135⟩ ?_
      refine x_field [] rfl rfl rfl rfl rfl rfl (fun ν => rfl) rfl (fun ν => rfl) rfl rfl ?_
      refine x_loadF 0 [0] rfl rfl rfl rfl rfl rfl rfl (fun ν => rfl) rfl rfl (fun ν => rfl) (fun ν => rfl) rfl ?_
      refine x_field [] rfl rfl rfl rfl rfl rfl (fun ν => rfl) rfl (fun ν => rfl) rfl rfl ?_
      refine x_load1 0 [2] rfl rfl rfl rfl rfl rfl (fun ν => rfl) rfl rfl (fun ν => rfl) (fun ν => rfl) rfl (fun ν => rfl) rfl ?_
      refine x_field [] rfl rfl rfl rfl rfl rfl (fun ν => rfl) rfl (fun ν => rfl) rfl rfl ?_
      refine x_loadF 0 [4] rfl rfl rfl rfl rfl rfl rfl (fun ν => rfl) rfl rfl (fun ν => rfl) (fun ν => rfl) rfl ?_
      refine x_field [] rfl rfl rfl rfl rfl rfl (fun ν => rfl) rfl (fun ν => rfl) rfl rfl ?_
      refine x_indexA m [6, 5] rfl rfl rfl rfl rfl rfl (fun ν => rfl) rfl (fun ν => rfl) (fun ν => rfl) rfl rfl (by first | rfl | omega) (by omega) rfl ?_
      refine x_loadF 2 [7] rfl rfl rfl rfl rfl rfl rfl (fun ν => rfl) rfl rfl (fun ν => rfl) (fun ν => rfl) (by assumption) ?_
      refine x_field [] rfl rfl rfl rfl rfl rfl (fun ν => rfl) rfl (fun ν => rfl) rfl rfl ?_
      refine x_field [9] rfl rfl rfl rfl rfl rfl (fun ν => rfl) rfl (fun ν => rfl) rfl rfl ?_
      refine x_loadF 0 [10] rfl rfl rfl rfl rfl rfl rfl (fun ν => rfl) rfl rfl (fun ν => rfl) (fun ν => rfl) rfl ?_
      refine x_max [8, 11] rfl rfl rfl rfl rfl rfl (fun ν => rfl) rfl (fun ν => rfl) (fun ν => rfl) ?_
      refine x_field [] rfl rfl rfl rfl rfl rfl (fun ν => rfl) rfl (fun ν => rfl) rfl rfl ?_
      refine x_load1 0 [13] rfl rfl rfl rfl rfl rfl (fun ν => rfl) rfl rfl (fun ν => rfl) (fun ν => rfl) rfl (fun ν => rfl) rfl ?_
      refine x_field [] rfl rfl rfl rfl rfl rfl (fun ν => rfl) rfl (fun ν => rfl) rfl rfl ?_
      refine x_indexA m [15, 14] rfl rfl rfl rfl rfl rfl (fun ν => rfl) rfl (fun ν => rfl) (fun ν => rfl) rfl rfl (by first | rfl | omega) (by omega) rfl ?_
      refine x_loadF 2 [16] rfl rfl rfl rfl rfl rfl rfl (fun ν => rfl) rfl rfl (fun ν => rfl) (fun ν => rfl) (by assumption) ?_
      refine x_field [] rfl rfl rfl rfl rfl rfl (fun ν => rfl) rfl (fun ν => rfl) rfl rfl ?_
      refine x_field [18] rfl rfl rfl rfl rfl rfl (fun ν => rfl) rfl (fun ν => rfl) rfl rfl ?_
      refine x_load1 0 [19] rfl rfl rfl rfl rfl rfl (fun ν => rfl) rfl rfl (fun ν => rfl) (fun ν => rfl) rfl (fun ν => rfl) rfl ?_
      refine x_min [17, 20] rfl rfl rfl rfl rfl rfl (fun ν => rfl) rfl (fun ν => rfl) (fun ν => rfl) ?_
      refine x_field [] rfl rfl rfl rfl rfl rfl (fun ν => rfl) rfl (fun ν => rfl) rfl rfl ?_
      refine x_indexA m [22, 1] rfl rfl rfl rfl rfl rfl (fun ν => rfl) rfl (fun ν => rfl) (fun ν => rfl) rfl rfl (by first | rfl | omega) (by omega) rfl ?_
      refine x_store [23, 12] 9999 rfl rfl rfl rfl rfl (fun ν => rfl) rfl (fun ν => rfl) (fun ν => rfl) rfl rfl rfl (by show _ ≤ 20; omega) rfl rfl rfl ?_
      refine x_field [] rfl rfl rfl rfl rfl rfl (fun ν => rfl) rfl (fun ν => rfl) rfl rfl ?_
      refine x_end [28, 29, 30, 31, 32, 33, 34, 35, 36, 37, 38, 39, 40, 41, 42, 43, 44, 45, 46, 47, 48, 49, 50, 51, 52, 53, 9999] [3, 21, 25] 26 rfl rfl rfl rfl rfl rfl rfl rfl rfl rfl rfl (fun ν => ?_)
      refine s_indexA m rfl rfl rfl rfl rfl rfl rfl rfl rfl (by first | rfl | omega) (by omega) rfl ?_
      refine k_store 2 rfl rfl rfl rfl rfl rfl rfl rfl rfl rfl (Nat.ble_eq_true_of_le (by first | (show _ ≤ 20; omega) | (rw [length_setL]; show _ ≤ 20; omega))) rfl ?_
      refine okl_nil ?_
      change OkC Try.prog _ _ _ _ _ _ _
      refine okc_weak (l' := [(2, _), (3, _), (4, _), (6, _), (9, _), (14, _), (15, _), (16, _), (17, _), (27, _)]) ⟨rfl, rfl, rfl, rfl, rfl, rfl, rfl, rfl, rfl, rfl, trivial⟩ ?_
      refine okc_region ?_
      refine s_add rfl rfl rfl rfl rfl rfl rfl (by omega) ?_
      refine s_move rfl rfl rfl rfl rfl rfl ?_
      refine okl_nil ?_
      refine fun a w hs => ⟨k + 1, by omega, by omega, hs.weak ⟨rfl, rfl, rfl, rfl, rfl, rfl, rfl, trivial⟩ [1, 2, 3] (by simp) ?_⟩
      have e : leC (addsL s rain f (k + 1)) = setL (setL (leC (addsL s rain f k)) (0 + 0 + m * 1) [.int .i64 (max ((addsL s rain f k) m).1 x.glo)]) (0 + 10 + m * 1) [.int .i64 (min ((addsL s rain f k) m).2 x.ghi)] := by rw [setlo_hi _ (k := m) (by omega) (by omega) (by omega), adds_step hx hin2 hm]
      exact pick3 e rfl
    · have hin2 : inS x.rlo x.rhi rain = false := h6
      refine okl_nil ?_
      change OkC Try.prog _ _ _ _ _ _ _
      refine okc_weak (l' := [(2, _), (3, _), (4, _), (6, _), (9, _), (14, _), (15, _), (16, _), (17, _), (27, _)]) ⟨rfl, rfl, rfl, rfl, rfl, rfl, rfl, rfl, rfl, rfl, trivial⟩ ?_
      refine okc_cond_f rfl ?_
      refine okc_skip ?_
      change OkC Try.prog _ _ _ _ _ _ _
      refine okc_weak (l' := [(2, _), (3, _), (4, _), (6, _), (9, _), (14, _), (15, _), (16, _), (17, _), (27, _)]) ⟨rfl, rfl, rfl, rfl, rfl, rfl, rfl, rfl, rfl, rfl, trivial⟩ ?_
      refine okc_region ?_
      refine s_add rfl rfl rfl rfl rfl rfl rfl (by omega) ?_
      refine s_move rfl rfl rfl rfl rfl rfl ?_
      refine okl_nil ?_
      refine fun a w hs => ⟨k + 1, by omega, by omega, hs.weak ⟨rfl, rfl, rfl, rfl, rfl, rfl, rfl, trivial⟩ [1, 2, 3] (by simp) ?_⟩
      exact pick3 (congrArg leC (adds_skip hx hin2)) rfl
  · have hge : ¬ k < s.book.length := by simpa using h4
    have hkw : k = s.book.length := by omega
    have hF := adds_ok hs0 hf rain k
    obtain ⟨G, hG⟩ : ∃ G, G = addsL s rain f k := ⟨_, rfl⟩
    rw [← hG] at hF
    rw [← hG]
    refine okl_nil ?_
    change OkC Try.prog _ _ _ _ _ _ _
    refine okc_weak (l' := [(2, _), (3, _), (4, _), (6, _), (14, _), (15, _), (16, _), (17, _)]) ⟨rfl, rfl, rfl, rfl, rfl, rfl, rfl, rfl, trivial⟩ ?_
    refine okc_seq ?_
    refine okc_cond_f rfl ?_
    refine okc_exit ?_
    change OkC Try.prog _ _ _ _ _ _ _
    refine okc_weak (l' := [(2, _), (3, _), (4, _), (6, _), (14, _), (15, _), (16, _), (17, _)]) ⟨rfl, rfl, rfl, rfl, rfl, rfl, rfl, rfl, trivial⟩ ?_
    refine okc_seq ?_
    refine okc_seq ?_
    refine okc_region ?_
    refine s_assign rfl rfl rfl rfl rfl rfl ?_
    refine okl_nil ?_
    change OkC Try.prog _ _ _ _ _ _ _
    refine okc_weak (l' := [(2, _), (3, _), (4, _), (6, _), (10, _), (14, _), (15, _), (16, _), (17, _)]) ⟨rfl, rfl, rfl, rfl, rfl, rfl, rfl, rfl, rfl, trivial⟩ ?_
    refine okc_block ?_
    refine okc_loop (γ := Nat) (fun k => [(2, .int .i64 rain), (3, .pointer (some ⟨b1, 0, none⟩)), (4, .pointer (some ⟨b2, 0, none⟩)), (6, .pointer (some ⟨b3, 0, none⟩)), (10, .int .i64 ((k : Int) + 1))]) (fun k => [(b3, leC bz, 135), (b2, leC (fwdN s.fall k G), 135), (b1, [.int .i64 s.weeks, .int .i64 s.most, .int .i64 s.fall, .int .i64 s.slo, .int .i64 s.shi, .int .i64 s.wlo, .int .i64 s.whi, .slice s.bp s.book.length s.bc, .slice s.rp s.reads.length s.rc], 27)]) (fun k => (k : Int) + 1 ≤ s.weeks) (fun k => s.weeks.toNat - k) 0 (by omega) (fun a w hs => by exact hs.weak ⟨rfl, rfl, rfl, rfl, rfl, trivial⟩ [0, 1, 2] (by simp) (by rfl)) ?_
    rintro k hk2
    refine okc_seq ?_
    refine okc_seq ?_
    refine okc_region ?_
    refine s_move rfl rfl rfl rfl rfl rfl ?_
    refine s_field rfl rfl rfl rfl rfl rfl rfl rfl ?_
    refine s_load1 2 rfl rfl rfl rfl rfl rfl rfl rfl rfl ?_
    refine s_cmpS rfl rfl rfl rfl rfl rfl rfl rfl (fun h7 => ?_) (fun h7 => ?_)
    · have hlt : (k : Int) + 1 < s.weeks := by simpa using h7
      have hF2 := fwd_ok f1 f2 hF k
      have q1 := hF2 k
      have q2 := hF2 (k + 1)
      have g1 := le_lo (fwdN s.fall k G) (k := k + 1) (n := 0 + 0 + (k + 1) * 1) (by omega) (by omega)
      have g2 := le_hi (fwdN s.fall k G) (k := k + 1) (n := 0 + 10 + (k + 1) * 1) (by omega) (by omega)
      have g3 := le_lo (fwdN s.fall k G) (k := k) (n := 0 + 0 + k * 1) (by omega) (by omega)
      have g4 := le_hi (fwdN s.fall k G) (k := k) (n := 0 + 10 + k * 1) (by omega) (by omega)
      refine okl_nil ?_
      change OkC Try.prog _ _ _ _ _ _ _
      refine okc_weak (l' := [(2, _), (3, _), (4, _), (6, _), (10, _), (58, _)]) ⟨rfl, rfl, rfl, rfl, rfl, rfl, trivial⟩ ?_
      refine okc_cond_t rfl ?_
      refine okc_skip ?_
      change OkC Try.prog _ _ _ _ _ _ _
      refine okc_weak (l' := [(2, _), (3, _), (4, _), (6, _), (10, _), (58, _)]) ⟨rfl, rfl, rfl, rfl, rfl, rfl, trivial⟩ ?_
      refine okc_seq ?_
      refine okc_block ?_
      refine dd_start [61, 62, 63, 64, 65, 66, 67, 68, 69, 70, 71, 72, 73, 74, 75, 76, 77, 78, 79, 80, 81, 82, 83, 84, 85, 86, 87, 88, 89, 9999] ⟨27, 1, b2, (leC (fwdN s.fall k G)), (setL (leC (fwdN s.fall k G)) (0 + 0 + (k + 1) * 1) [.int .i64 (max ((fwdN s.fall k G) (k + 1)).1 (((fwdN s.fall k G) k).1 - s.fall))]), 135⟩ ?_
      refine x_move [] rfl rfl rfl rfl rfl rfl (fun ν => rfl) rfl (fun ν => rfl) ?_
      refine x_move [] rfl rfl rfl rfl rfl rfl (fun ν => rfl) rfl (fun ν => rfl) ?_
      refine x_move [] rfl rfl rfl rfl rfl rfl (fun ν => rfl) rfl (fun ν => rfl) ?_
      refine x_field [] rfl rfl rfl rfl rfl rfl (fun ν => rfl) rfl (fun ν => rfl) rfl rfl ?_
      refine x_indexA (k + 1) [3, 2] rfl rfl rfl rfl rfl rfl (fun ν => rfl) rfl (fun ν => rfl) (fun ν => rfl) rfl rfl (by first | rfl | omega) (by omega) rfl ?_
      refine x_loadF 1 [4] rfl rfl rfl rfl rfl rfl rfl (fun ν => rfl) rfl rfl (fun ν => rfl) (fun ν => rfl) (by assumption) ?_
      refine x_move [] rfl rfl rfl rfl rfl rfl (fun ν => rfl) rfl (fun ν => rfl) ?_
      refine x_sub [6] rfl rfl rfl rfl rfl rfl (fun ν => rfl) rfl (fun ν => rfl) (fun ν => rfl) (by omega) ?_
      refine x_field [] rfl rfl rfl rfl rfl rfl (fun ν => rfl) rfl (fun ν => rfl) rfl rfl ?_
      refine x_indexA k [8, 7] rfl rfl rfl rfl rfl rfl (fun ν => rfl) rfl (fun ν => rfl) (fun ν => rfl) rfl rfl (by first | rfl | omega) (by omega) rfl ?_
      refine x_loadF 1 [9] rfl rfl rfl rfl rfl rfl rfl (fun ν => rfl) rfl rfl (fun ν => rfl) (fun ν => rfl) (by assumption) ?_
      refine x_field [] rfl rfl rfl rfl rfl rfl (fun ν => rfl) rfl (fun ν => rfl) rfl rfl ?_
      refine x_loadF 2 [11] rfl rfl rfl rfl rfl rfl rfl (fun ν => rfl) rfl rfl (fun ν => rfl) (fun ν => rfl) rfl ?_
      refine x_sub [10, 12] rfl rfl rfl rfl rfl rfl (fun ν => rfl) rfl (fun ν => rfl) (fun ν => rfl) (by omega) ?_
      refine x_max [5, 13] rfl rfl rfl rfl rfl rfl (fun ν => rfl) rfl (fun ν => rfl) (fun ν => rfl) ?_
      refine x_move [] rfl rfl rfl rfl rfl rfl (fun ν => rfl) rfl (fun ν => rfl) ?_
      refine x_field [] rfl rfl rfl rfl rfl rfl (fun ν => rfl) rfl (fun ν => rfl) rfl rfl ?_
      refine x_indexA (k + 1) [16, 15] rfl rfl rfl rfl rfl rfl (fun ν => rfl) rfl (fun ν => rfl) (fun ν => rfl) rfl rfl (by first | rfl | omega) (by omega) rfl ?_
      refine x_loadF 1 [17] rfl rfl rfl rfl rfl rfl rfl (fun ν => rfl) rfl rfl (fun ν => rfl) (fun ν => rfl) (by assumption) ?_
      refine x_move [] rfl rfl rfl rfl rfl rfl (fun ν => rfl) rfl (fun ν => rfl) ?_
      refine x_sub [19] rfl rfl rfl rfl rfl rfl (fun ν => rfl) rfl (fun ν => rfl) (fun ν => rfl) (by omega) ?_
      refine x_field [] rfl rfl rfl rfl rfl rfl (fun ν => rfl) rfl (fun ν => rfl) rfl rfl ?_
      refine x_indexA k [21, 20] rfl rfl rfl rfl rfl rfl (fun ν => rfl) rfl (fun ν => rfl) (fun ν => rfl) rfl rfl (by first | rfl | omega) (by omega) rfl ?_
      refine x_loadF 1 [22] rfl rfl rfl rfl rfl rfl rfl (fun ν => rfl) rfl rfl (fun ν => rfl) (fun ν => rfl) (by assumption) ?_
      refine x_min [18, 23] rfl rfl rfl rfl rfl rfl (fun ν => rfl) rfl (fun ν => rfl) (fun ν => rfl) ?_
      refine x_field [] rfl rfl rfl rfl rfl rfl (fun ν => rfl) rfl (fun ν => rfl) rfl rfl ?_
      refine x_indexA (k + 1) [25, 0] rfl rfl rfl rfl rfl rfl (fun ν => rfl) rfl (fun ν => rfl) (fun ν => rfl) rfl rfl (by first | rfl | omega) (by omega) rfl ?_
      refine x_store [26, 14] 9999 rfl rfl rfl rfl rfl (fun ν => rfl) rfl (fun ν => rfl) (fun ν => rfl) rfl rfl rfl (by show _ ≤ 20; omega) rfl rfl rfl ?_
      refine x_field [] rfl rfl rfl rfl rfl rfl (fun ν => rfl) rfl (fun ν => rfl) rfl rfl ?_
      refine x_end [61, 62, 63, 64, 65, 66, 67, 68, 69, 70, 71, 72, 73, 74, 75, 76, 77, 78, 79, 80, 81, 82, 83, 84, 85, 86, 87, 88, 89, 9999] [1, 24, 28] 29 rfl rfl rfl rfl rfl rfl rfl rfl rfl rfl rfl (fun ν => ?_)
      refine s_indexA (k + 1) rfl rfl rfl rfl rfl rfl rfl rfl rfl (by first | rfl | omega) (by omega) rfl ?_
      refine k_store 1 rfl rfl rfl rfl rfl rfl rfl rfl rfl rfl (Nat.ble_eq_true_of_le (by first | (show _ ≤ 20; omega) | (rw [length_setL]; show _ ≤ 20; omega))) rfl ?_
      refine okl_nil ?_
      change OkC Try.prog _ _ _ _ _ _ _
      refine okc_weak (l' := [(2, _), (3, _), (4, _), (6, _), (10, _), (58, _)]) ⟨rfl, rfl, rfl, rfl, rfl, rfl, trivial⟩ ?_
      refine okc_region ?_
      refine s_move rfl rfl rfl rfl rfl rfl ?_
      refine s_add rfl rfl rfl rfl rfl rfl rfl (by omega) ?_
      refine s_assign rfl rfl rfl rfl rfl rfl ?_
      refine okl_nil ?_
      refine fun a w hs => ⟨k + 1, by omega, by omega, hs.weak ⟨rfl, rfl, rfl, rfl, rfl, trivial⟩ [0, 1, 2] (by simp) ?_⟩
      have e : leC (fwdN s.fall (k + 1) G) = setL (setL (leC (fwdN s.fall k G)) (0 + 0 + (k + 1) * 1) [.int .i64 (max ((fwdN s.fall k G) (k + 1)).1 (((fwdN s.fall k G) k).1 - s.fall))]) (0 + 10 + (k + 1) * 1) [.int .i64 (min ((fwdN s.fall k G) (k + 1)).2 ((fwdN s.fall k G) k).2)] := by rw [setlo_hi _ (k := k + 1) (by omega) (by omega) (by omega), fwdN]
      exact pick3 e rfl
    · have hge : ¬ (k : Int) + 1 < s.weeks := by simpa using h7
      have hkw2 : k = s.weeks.toNat - 1 := by omega
      have hF2 := fwd_ok f1 f2 hF k
      obtain ⟨J, hJ⟩ : ∃ J, J = fwdN s.fall k G := ⟨_, rfl⟩
      rw [← hJ] at hF2
      rw [← hJ]
      refine okl_nil ?_
      change OkC Try.prog _ _ _ _ _ _ _
      refine okc_weak (l' := [(2, _), (3, _), (4, _), (6, _), (10, _), (58, _)]) ⟨rfl, rfl, rfl, rfl, rfl, rfl, trivial⟩ ?_
      refine okc_cond_f rfl ?_
      refine okc_exit ?_
      change OkC Try.prog _ _ _ _ _ _ _
      refine okc_weak (l' := [(2, _), (3, _), (4, _), (6, _), (10, _), (58, _)]) ⟨rfl, rfl, rfl, rfl, rfl, rfl, trivial⟩ ?_
      refine okc_seq ?_
      refine okc_seq ?_
      refine okc_region ?_
      refine s_field rfl rfl rfl rfl rfl rfl rfl rfl ?_
      refine s_load1 2 rfl rfl rfl rfl rfl rfl rfl rfl rfl ?_
      refine s_sub rfl rfl rfl rfl rfl rfl rfl (by omega) ?_
      refine s_assign rfl rfl rfl rfl rfl rfl ?_
      refine okl_nil ?_
      change OkC Try.prog _ _ _ _ _ _ _
      refine okc_weak (l' := [(2, _), (3, _), (4, _), (6, _), (10, _), (11, _), (58, _)]) ⟨rfl, rfl, rfl, rfl, rfl, rfl, rfl, trivial⟩ ?_
      refine okc_block ?_
      refine okc_loop (γ := Nat) (fun j => [(2, .int .i64 rain), (3, .pointer (some ⟨b1, 0, none⟩)), (4, .pointer (some ⟨b2, 0, none⟩)), (6, .pointer (some ⟨b3, 0, none⟩)), (11, .int .i64 (s.weeks - 2 - (j : Int)))]) (fun j => [(b3, leC bz, 135), (b2, leC (bwdN s.fall s.weeks.toNat j J), 135), (b1, [.int .i64 s.weeks, .int .i64 s.most, .int .i64 s.fall, .int .i64 s.slo, .int .i64 s.shi, .int .i64 s.wlo, .int .i64 s.whi, .slice s.bp s.book.length s.bc, .slice s.rp s.reads.length s.rc], 27)]) (fun j => (j : Int) ≤ s.weeks - 1) (fun j => s.weeks.toNat - j) 0 (by omega) (fun a w hs => by exact hs.weak ⟨rfl, rfl, rfl, rfl, congrArg (fun z => some (Value.int .i64 z)) (by omega), trivial⟩ [0, 1, 2] (by simp) (by rfl)) ?_
      rintro j hj
      refine okc_seq ?_
      refine okc_seq ?_
      refine okc_region ?_
      refine s_move rfl rfl rfl rfl rfl rfl ?_
      refine s_cmpS rfl rfl rfl rfl rfl rfl rfl rfl (fun h8 => ?_) (fun h8 => ?_)
      · have hge0 : 0 ≤ s.weeks - 2 - (j : Int) := by simpa using h8
        obtain ⟨m, hm⟩ : ∃ m, m = s.weeks.toNat - 2 - j := ⟨_, rfl⟩
        have hF3 := bwd_ok (n := s.weeks.toNat) f1 f2 hF2 j
        have q1 := hF3 m
        have q2 := hF3 (m + 1)
        have g1 := le_lo (bwdN s.fall s.weeks.toNat j J) (k := m) (n := 0 + 0 + m * 1) (by omega) (by omega)
        have g2 := le_hi (bwdN s.fall s.weeks.toNat j J) (k := m) (n := 0 + 10 + m * 1) (by omega) (by omega)
        have g3 := le_lo (bwdN s.fall s.weeks.toNat j J) (k := m + 1) (n := 0 + 0 + (m + 1) * 1) (by omega) (by omega)
        have g4 := le_hi (bwdN s.fall s.weeks.toNat j J) (k := m + 1) (n := 0 + 10 + (m + 1) * 1) (by omega) (by omega)
        refine okl_nil ?_
        change OkC Try.prog _ _ _ _ _ _ _
        refine okc_weak (l' := [(2, _), (3, _), (4, _), (6, _), (11, _), (94, _)]) ⟨rfl, rfl, rfl, rfl, rfl, rfl, trivial⟩ ?_
        refine okc_cond_t rfl ?_
        refine okc_skip ?_
        change OkC Try.prog _ _ _ _ _ _ _
        refine okc_weak (l' := [(2, _), (3, _), (4, _), (6, _), (11, _), (94, _)]) ⟨rfl, rfl, rfl, rfl, rfl, rfl, trivial⟩ ?_
        refine okc_seq ?_
        refine okc_block ?_
        refine dd_start [97, 98, 99, 100, 101, 102, 103, 104, 105, 106, 107, 108, 109, 110, 111, 112, 113, 114, 115, 116, 117, 118, 119, 120, 121, 122, 123, 124, 125, 9999] ⟨27, 1, b2, (leC (bwdN s.fall s.weeks.toNat j J)), (setL (leC (bwdN s.fall s.weeks.toNat j J)) (0 + 0 + m * 1) [.int .i64 (max ((bwdN s.fall s.weeks.toNat j J) m).1 ((bwdN s.fall s.weeks.toNat j J) (m + 1)).1)]), 135⟩ ?_
        refine x_move [] rfl rfl rfl rfl rfl rfl (fun ν => rfl) rfl (fun ν => rfl) ?_
        refine x_move [] rfl rfl rfl rfl rfl rfl (fun ν => rfl) rfl (fun ν => rfl) ?_
        refine x_move [] rfl rfl rfl rfl rfl rfl (fun ν => rfl) rfl (fun ν => rfl) ?_
        refine x_field [] rfl rfl rfl rfl rfl rfl (fun ν => rfl) rfl (fun ν => rfl) rfl rfl ?_
        refine x_indexA m [3, 2] rfl rfl rfl rfl rfl rfl (fun ν => rfl) rfl (fun ν => rfl) (fun ν => rfl) rfl rfl (by first | rfl | omega) (by omega) rfl ?_
        refine x_loadF 1 [4] rfl rfl rfl rfl rfl rfl rfl (fun ν => rfl) rfl rfl (fun ν => rfl) (fun ν => rfl) (by assumption) ?_
        refine x_move [] rfl rfl rfl rfl rfl rfl (fun ν => rfl) rfl (fun ν => rfl) ?_
        refine x_add [6] rfl rfl rfl rfl rfl rfl (fun ν => rfl) rfl (fun ν => rfl) (fun ν => rfl) (by omega) ?_
        refine x_field [] rfl rfl rfl rfl rfl rfl (fun ν => rfl) rfl (fun ν => rfl) rfl rfl ?_
        refine x_indexA (m + 1) [8, 7] rfl rfl rfl rfl rfl rfl (fun ν => rfl) rfl (fun ν => rfl) (fun ν => rfl) rfl rfl (by first | rfl | omega) (by omega) rfl ?_
        refine x_loadF 1 [9] rfl rfl rfl rfl rfl rfl rfl (fun ν => rfl) rfl rfl (fun ν => rfl) (fun ν => rfl) (by assumption) ?_
        refine x_max [5, 10] rfl rfl rfl rfl rfl rfl (fun ν => rfl) rfl (fun ν => rfl) (fun ν => rfl) ?_
        refine x_move [] rfl rfl rfl rfl rfl rfl (fun ν => rfl) rfl (fun ν => rfl) ?_
        refine x_field [] rfl rfl rfl rfl rfl rfl (fun ν => rfl) rfl (fun ν => rfl) rfl rfl ?_
        refine x_indexA m [13, 12] rfl rfl rfl rfl rfl rfl (fun ν => rfl) rfl (fun ν => rfl) (fun ν => rfl) rfl rfl (by first | rfl | omega) (by omega) rfl ?_
        refine x_loadF 1 [14] rfl rfl rfl rfl rfl rfl rfl (fun ν => rfl) rfl rfl (fun ν => rfl) (fun ν => rfl) (by assumption) ?_
        refine x_move [] rfl rfl rfl rfl rfl rfl (fun ν => rfl) rfl (fun ν => rfl) ?_
        refine x_add [16] rfl rfl rfl rfl rfl rfl (fun ν => rfl) rfl (fun ν => rfl) (fun ν => rfl) (by omega) ?_
        refine x_field [] rfl rfl rfl rfl rfl rfl (fun ν => rfl) rfl (fun ν => rfl) rfl rfl ?_
        refine x_indexA (m + 1) [18, 17] rfl rfl rfl rfl rfl rfl (fun ν => rfl) rfl (fun ν => rfl) (fun ν => rfl) rfl rfl (by first | rfl | omega) (by omega) rfl ?_
        refine x_loadF 1 [19] rfl rfl rfl rfl rfl rfl rfl (fun ν => rfl) rfl rfl (fun ν => rfl) (fun ν => rfl) (by assumption) ?_
        refine x_field [] rfl rfl rfl rfl rfl rfl (fun ν => rfl) rfl (fun ν => rfl) rfl rfl ?_
        refine x_load1 2 [21] rfl rfl rfl rfl rfl rfl (fun ν => rfl) rfl rfl (fun ν => rfl) (fun ν => rfl) rfl (fun ν => rfl) rfl ?_
        refine x_add [20, 22] rfl rfl rfl rfl rfl rfl (fun ν => rfl) rfl (fun ν => rfl) (fun ν => rfl) (by omega) ?_
        refine x_min [15, 23] rfl rfl rfl rfl rfl rfl (fun ν => rfl) rfl (fun ν => rfl) (fun ν => rfl) ?_
        refine x_field [] rfl rfl rfl rfl rfl rfl (fun ν => rfl) rfl (fun ν => rfl) rfl rfl ?_
        refine x_indexA m [25, 0] rfl rfl rfl rfl rfl rfl (fun ν => rfl) rfl (fun ν => rfl) (fun ν => rfl) rfl rfl (by first | rfl | omega) (by omega) rfl ?_
        refine x_store [26, 11] 9999 rfl rfl rfl rfl rfl (fun ν => rfl) rfl (fun ν => rfl) (fun ν => rfl) rfl rfl rfl (by show _ ≤ 20; omega) rfl rfl rfl ?_
        refine x_field [] rfl rfl rfl rfl rfl rfl (fun ν => rfl) rfl (fun ν => rfl) rfl rfl ?_
        refine x_end [97, 98, 99, 100, 101, 102, 103, 104, 105, 106, 107, 108, 109, 110, 111, 112, 113, 114, 115, 116, 117, 118, 119, 120, 121, 122, 123, 124, 125, 9999] [1, 24, 28] 29 rfl rfl rfl rfl rfl rfl rfl rfl rfl rfl rfl (fun ν => ?_)
        refine s_indexA m rfl rfl rfl rfl rfl rfl rfl rfl rfl (by first | rfl | omega) (by omega) rfl ?_
        refine k_store 1 rfl rfl rfl rfl rfl rfl rfl rfl rfl rfl (Nat.ble_eq_true_of_le (by first | (show _ ≤ 20; omega) | (rw [length_setL]; show _ ≤ 20; omega))) rfl ?_
        refine okl_nil ?_
        change OkC Try.prog _ _ _ _ _ _ _
        refine okc_weak (l' := [(2, _), (3, _), (4, _), (6, _), (11, _), (94, _)]) ⟨rfl, rfl, rfl, rfl, rfl, rfl, trivial⟩ ?_
        refine okc_region ?_
        refine s_move rfl rfl rfl rfl rfl rfl ?_
        refine s_sub rfl rfl rfl rfl rfl rfl rfl (by omega) ?_
        refine s_assign rfl rfl rfl rfl rfl rfl ?_
        refine okl_nil ?_
        refine fun a w hs => ⟨j + 1, by omega, by omega, hs.weak ⟨rfl, rfl, rfl, rfl, congrArg (fun z => some (Value.int .i64 z)) (by omega), trivial⟩ [0, 1, 2] (by simp) ?_⟩
        have e : leC (bwdN s.fall s.weeks.toNat (j + 1) J) = setL (setL (leC (bwdN s.fall s.weeks.toNat j J)) (0 + 0 + m * 1) [.int .i64 (max ((bwdN s.fall s.weeks.toNat j J) m).1 ((bwdN s.fall s.weeks.toNat j J) (m + 1)).1)]) (0 + 10 + m * 1) [.int .i64 (min ((bwdN s.fall s.weeks.toNat j J) m).2 (((bwdN s.fall s.weeks.toNat j J) (m + 1)).2 + s.fall))] := by rw [setlo_hi _ (k := m) (by omega) (by omega) (by omega), bwdN, ← hm]
        exact pick3 e rfl
      · have hlt0 : ¬ 0 ≤ s.weeks - 2 - (j : Int) := by simpa using h8
        have hjw : j = s.weeks.toNat - 1 := by omega
        obtain ⟨L, hL⟩ : ∃ L, L = bwdN s.fall s.weeks.toNat j J := ⟨_, rfl⟩
        rw [← hL]
        have hLN : L = narS s (s.book.foldl (addL rain) f) := by rw [hL, hJ, hG, hjw, hkw2, hkw, addsL, List.take_length, narS]
        refine okl_nil ?_
        change OkC Try.prog _ _ _ _ _ _ _
        refine okc_weak (l' := [(2, _), (3, _), (4, _), (6, _), (11, _), (94, _)]) ⟨rfl, rfl, rfl, rfl, rfl, rfl, trivial⟩ ?_
        refine okc_cond_f rfl ?_
        refine okc_exit ?_
        change OkC Try.prog _ _ _ _ _ _ _
        refine okc_weak (l' := [(2, _), (3, _), (4, _), (6, _), (11, _), (94, _)]) ⟨rfl, rfl, rfl, rfl, rfl, rfl, trivial⟩ ?_
        refine okc_seq ?_
        refine okc_seq ?_
        refine okc_region ?_
        refine s_assign rfl rfl rfl rfl rfl rfl ?_
        refine okl_nil ?_
        change OkC Try.prog _ _ _ _ _ _ _
        refine okc_weak (l' := [(2, _), (3, _), (4, _), (6, _), (11, _), (12, _), (94, _)]) ⟨rfl, rfl, rfl, rfl, rfl, rfl, rfl, trivial⟩ ?_
        refine okc_block ?_
        refine okc_loop (γ := Nat) (fun i => [(2, .int .i64 rain), (3, .pointer (some ⟨b1, 0, none⟩)), (4, .pointer (some ⟨b2, 0, none⟩)), (6, .pointer (some ⟨b3, 0, none⟩)), (12, .int .i64 i)]) (fun i => [(b3, leC bz, 135), (b2, leC L, 135), (b1, [.int .i64 s.weeks, .int .i64 s.most, .int .i64 s.fall, .int .i64 s.slo, .int .i64 s.shi, .int .i64 s.wlo, .int .i64 s.whi, .slice s.bp s.book.length s.bc, .slice s.rp s.reads.length s.rc], 27)]) (fun i => (i : Int) ≤ s.weeks ∧ ∀ j, j < i → (L j).1 ≤ (L j).2) (fun i => s.weeks.toNat - i) 0 ⟨by omega, fun j h => absurd h (Nat.not_lt_zero _)⟩ (fun a w hs => by exact hs.weak ⟨rfl, rfl, rfl, rfl, rfl, trivial⟩ [0, 1, 2] (by simp) (by rfl)) ?_
        rintro i ⟨hi, hall⟩
        refine okc_seq ?_
        refine okc_seq ?_
        refine okc_region ?_
        refine s_move rfl rfl rfl rfl rfl rfl ?_
        refine s_field rfl rfl rfl rfl rfl rfl rfl rfl ?_
        refine s_load1 2 rfl rfl rfl rfl rfl rfl rfl rfl rfl ?_
        refine s_cmpS rfl rfl rfl rfl rfl rfl rfl rfl (fun h9 => ?_) (fun h9 => ?_)
        · have hlt : (i : Int) < s.weeks := by simpa using h9
          have g1 := le_lo L (k := i) (n := 0 + 0 + i * 1) (by omega) (by omega)
          have g2 := le_hi L (k := i) (n := 0 + 10 + i * 1) (by omega) (by omega)
          refine okl_nil ?_
          change OkC Try.prog _ _ _ _ _ _ _
          refine okc_weak (l' := [(2, _), (3, _), (4, _), (6, _), (12, _), (129, _)]) ⟨rfl, rfl, rfl, rfl, rfl, rfl, trivial⟩ ?_
          refine okc_cond_t rfl ?_
          refine okc_skip ?_
          change OkC Try.prog _ _ _ _ _ _ _
          refine okc_weak (l' := [(2, _), (3, _), (4, _), (6, _), (12, _), (129, _)]) ⟨rfl, rfl, rfl, rfl, rfl, rfl, trivial⟩ ?_
          refine okc_seq ?_
          refine okc_block ?_
          refine okc_seq ?_
          refine dr_start [132, 133, 134, 135, 136, 137, 138, 139, 140] ?_
          refine d_move [] rfl rfl rfl rfl rfl (fun ν => rfl) rfl (fun ν => rfl) ?_
          refine d_field [] rfl rfl rfl rfl rfl (fun ν => rfl) rfl (fun ν => rfl) rfl rfl ?_
          refine d_indexA i [1, 0] rfl rfl rfl rfl rfl (fun ν => rfl) rfl (fun ν => rfl) (fun ν => rfl) rfl rfl (by first | rfl | omega) (by omega) rfl ?_
          refine d_load1 1 [2] rfl rfl rfl rfl rfl (fun ν => rfl) rfl rfl (fun ν => rfl) (fun ν => rfl) (by assumption) ?_
          refine d_move [] rfl rfl rfl rfl rfl (fun ν => rfl) rfl (fun ν => rfl) ?_
          refine d_field [] rfl rfl rfl rfl rfl (fun ν => rfl) rfl (fun ν => rfl) rfl rfl ?_
          refine d_indexA i [5, 4] rfl rfl rfl rfl rfl (fun ν => rfl) rfl (fun ν => rfl) (fun ν => rfl) rfl rfl (by first | rfl | omega) (by omega) rfl ?_
          refine d_load1 1 [6] rfl rfl rfl rfl rfl (fun ν => rfl) rfl rfl (fun ν => rfl) (fun ν => rfl) (by assumption) ?_
          refine d_cmpS [3, 7] rfl rfl rfl rfl rfl (fun ν => rfl) rfl (fun ν => rfl) (fun ν => rfl) rfl (fun h10 => ?_) (fun h10 => ?_)
          · have hok : okN s L = false := okN_not (k := i) (by omega) (by have hq := h10; simp at hq; try omega)
            refine dr_end [132, 133, 134, 135, 136, 137, 138, 139, 140] [8] 9 rfl rfl rfl rfl rfl rfl rfl rfl rfl (fun ν => ?_)
            refine okl_nil ?_
            change OkC Try.prog _ _ _ _ _ _ _
            refine okc_weak (l' := [(2, _), (3, _), (4, _), (6, _), (12, _), (129, _), (140, _)]) ⟨rfl, rfl, rfl, rfl, rfl, rfl, rfl, trivial⟩ ?_
            refine okc_cond_t rfl ?_
            refine okc_seq ?_
            refine okc_region ?_
            refine s_loadW 1 rfl rfl rfl rfl rfl rfl rfl rfl rfl (by first | rfl | assumption) ?_
            refine k_storeW 0 rfl rfl rfl rfl rfl rfl rfl rfl rfl rfl rfl rfl ?_
            refine s_assign rfl rfl rfl rfl rfl rfl ?_
            refine okl_nil ?_
            change OkC Try.prog _ _ _ _ _ _ _
            refine okc_weak (l' := [(2, _), (3, _), (4, _), (6, _), (7, _), (12, _), (129, _), (140, _)]) ⟨rfl, rfl, rfl, rfl, rfl, rfl, rfl, rfl, trivial⟩ ?_
            refine okc_ret fun a w hs => ?_
            exact ret_v hs (run_results2 hs rfl (k_ragg 0 rfl rfl rfl rfl rfl) (rv_tmp rfl)) (by clear hs; rw [← hLN, hok])
          · have hle : (L i).1 ≤ (L i).2 := by have hq := h10; simp at hq; try omega
            refine dr_end [132, 133, 134, 135, 136, 137, 138, 139, 140] [8] 9 rfl rfl rfl rfl rfl rfl rfl rfl rfl (fun ν => ?_)
            refine okl_nil ?_
            change OkC Try.prog _ _ _ _ _ _ _
            refine okc_weak (l' := [(2, _), (3, _), (4, _), (6, _), (12, _), (129, _), (140, _)]) ⟨rfl, rfl, rfl, rfl, rfl, rfl, rfl, trivial⟩ ?_
            refine okc_cond_f rfl ?_
            refine okc_skip ?_
            change OkC Try.prog _ _ _ _ _ _ _
            refine okc_weak (l' := [(2, _), (3, _), (4, _), (6, _), (12, _), (129, _), (140, _)]) ⟨rfl, rfl, rfl, rfl, rfl, rfl, rfl, trivial⟩ ?_
            refine okc_region ?_
            refine s_move rfl rfl rfl rfl rfl rfl ?_
            refine s_add rfl rfl rfl rfl rfl rfl rfl (by omega) ?_
            refine s_assign rfl rfl rfl rfl rfl rfl ?_
            refine okl_nil ?_
            refine fun a w hs => ⟨i + 1, ⟨by omega, fun j h => ?_⟩, by omega, hs.weak ⟨rfl, rfl, rfl, rfl, rfl, trivial⟩ [0, 1, 2] (by simp) rfl⟩
            rcases Nat.lt_or_ge j i with h2 | h2
            · exact hall j h2
            · have : j = i := by omega
              subst this; exact hle
        · have hge : ¬ (i : Int) < s.weeks := by simpa using h9
          have hok : okN s L = true := okN_of (n := i) (by omega) hall
          refine okl_nil ?_
          change OkC Try.prog _ _ _ _ _ _ _
          refine okc_weak (l' := [(2, _), (3, _), (4, _), (6, _), (12, _), (129, _)]) ⟨rfl, rfl, rfl, rfl, rfl, rfl, trivial⟩ ?_
          refine okc_cond_f rfl ?_
          refine okc_exit ?_
          change OkC Try.prog _ _ _ _ _ _ _
          refine okc_weak (l' := [(2, _), (3, _), (4, _), (6, _), (12, _), (129, _)]) ⟨rfl, rfl, rfl, rfl, rfl, rfl, trivial⟩ ?_
          refine okc_seq ?_
          refine okc_region ?_
          refine s_loadW 1 rfl rfl rfl rfl rfl rfl rfl rfl rfl (by first | rfl | assumption) ?_
          refine k_storeW 0 rfl rfl rfl rfl rfl rfl rfl rfl rfl rfl rfl rfl ?_
          refine s_assign rfl rfl rfl rfl rfl rfl ?_
          refine okl_nil ?_
          change OkC Try.prog _ _ _ _ _ _ _
          refine okc_weak (l' := [(2, _), (3, _), (4, _), (6, _), (7, _), (12, _), (129, _)]) ⟨rfl, rfl, rfl, rfl, rfl, rfl, rfl, trivial⟩ ?_
          refine okc_ret fun a w hs => ?_
          exact ret_v hs (run_results2 hs rfl (k_ragg 0 rfl rfl rfl rfl rfl) (rv_tmp rfl)) (by clear hs; rw [← hLN, hok])

end Go.Proofs.Ytdpnadknaacinaa
