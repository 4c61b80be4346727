/-
  The reference: what all readings of a week allow.
  Conditions: none.
-/
import Derived.Test.YtdpnadknaacinaaC12
namespace Go.Proofs.Ytdpnadknaacinaa
open Go.Sx Go.Proofs.Ytdpnadknaacinaa.Ty
set_option linter.unusedVariables false
set_option maxHeartbeats 2000000


theorem up_same (f : Bd) (k : Nat) (v : Int × Int) : up f k v k = v := by simp [up]
theorem up_up (f : Bd) (k : Nat) (v u : Int × Int) : up (up f k v) k u = up f k u := by
  funext j; unfold up; split <;> rfl
def allR (s : Sp) (w n : Int) (L : List Rd) : Bool := L.all fun x => !(decide (x.week = w)) || rightB s x n
def stepW (s : Sp) (w : Int) : Nat → Int × Int
  | 0 => (s.most + 1, -1)
  | n + 1 => if allR s w n s.reads then (min (stepW s w n).1 n, (n : Int)) else stepW s w n
def baseN (s : Sp) : Nat → Bd
  | 0 => bz
  | k + 1 => up (baseN s k) k (stepW s k (s.most + 1).toNat)
def baseS (s : Sp) : Bd := baseN s s.weeks.toNat

theorem base_fn (s : Sp) (M : Args) (hin : s.In M) (hs0 : OkS s) : Cn Try.prog 107 [spV s] M (fun _ : Unit => leV (baseS s)) (fun _ => []) (fun _ => True) := by
  have ho := hs0.ok
  have ho2 := ho
  obtain ⟨w1, w2, m1, m2, f1, f2, a1, a2, a3, v1, v2, v3⟩ := ho2
  obtain ⟨bR, oR, cR, jR, hR⟩ := hin.reads
  have hrn := hin.rn
  refine fn_intro (N := 66) Try.func107 rfl rfl rfl fun w0 => ?_
  refine okc_seq ?_
  refine okc_region ?_
  refine s_boxA rfl rfl rfl rfl rfl rfl (fun b1 => ?_)
  refine s_alloc rfl rfl rfl rfl rfl rfl (fun b2 => ?_)
  refine okl_nil ?_
  change OkC Try.prog _ _ _ _ _ _ _
  refine okc_weak (l' := [(0, _), (1, _), (2, _)]) ⟨rfl, rfl, rfl, trivial⟩ ?_
  refine okc_seq ?_
  refine okc_region ?_
  refine s_alloc rfl rfl rfl rfl rfl rfl (fun b3 => ?_)
  refine okl_nil ?_
  change OkC Try.prog _ _ _ _ _ _ _
  refine okc_weak (l' := [(0, _), (1, _), (2, _), (3, _)]) ⟨rfl, rfl, rfl, rfl, trivial⟩ ?_
  refine okc_seq ?_
  refine okc_seq ?_
  refine okc_region ?_
  refine s_assign rfl rfl rfl rfl rfl rfl ?_
  refine okl_nil ?_
  change OkC Try.prog _ _ _ _ _ _ _
  refine okc_weak (l' := [(0, _), (1, _), (2, _), (3, _), (4, _)]) ⟨rfl, rfl, rfl, rfl, rfl, trivial⟩ ?_
  refine okc_block ?_
  refine okc_loop (γ := Nat) (fun k => [(1, .pointer (some ⟨b1, 0, none⟩)), (2, .pointer (some ⟨b2, 0, none⟩)), (3, .pointer (some ⟨b3, 0, none⟩)), (4, .int .i64 k)]) (fun k => [(b3, leC (baseN s k), 135), (b2, leC bz, 135), (b1, [.int .i64 s.weeks, .int .i64 s.most, .int .i64 s.fall, .int .i64 s.slo, .int .i64 s.shi, .int .i64 s.wlo, .int .i64 s.whi, .slice s.bp s.book.length s.bc, .slice s.rp s.reads.length s.rc], 27)]) (fun k => (k : Int) ≤ s.weeks) (fun k => s.weeks.toNat - k) 0 (by omega) (fun a w hs => by exact hs.weak ⟨rfl, rfl, rfl, rfl, trivial⟩ [0, 1, 2] (by simp) (by rfl)) ?_
  rintro k hk
  refine okc_seq ?_
  refine okc_seq ?_
  refine okc_region ?_
  refine s_move rfl rfl rfl rfl rfl rfl ?_
  refine s_field rfl rfl rfl rfl rfl rfl rfl rfl ?_
  refine s_load1 2 rfl rfl rfl rfl rfl rfl rfl rfl rfl ?_
  refine s_cmpS rfl rfl rfl rfl rfl rfl rfl rfl (fun h4 => ?_) (fun h4 => ?_)
  · have hlt : (k : Int) < s.weeks := by simpa using h4
    refine okl_nil ?_
    change OkC Try.prog _ _ _ _ _ _ _
    refine okc_weak (l' := [(1, _), (2, _), (3, _), (4, _), (12, _)]) ⟨rfl, rfl, rfl, rfl, rfl, trivial⟩ ?_
    refine okc_cond_t rfl ?_
    refine okc_skip ?_
    change OkC Try.prog _ _ _ _ _ _ _
    refine okc_weak (l' := [(1, _), (2, _), (3, _), (4, _), (12, _)]) ⟨rfl, rfl, rfl, rfl, rfl, trivial⟩ ?_
    refine okc_seq ?_
    refine okc_block ?_
    refine okc_seq ?_
    refine okc_region ?_
    refine s_move rfl rfl rfl rfl rfl rfl ?_
    refine s_move rfl rfl rfl rfl rfl rfl ?_
    refine s_field rfl rfl rfl rfl rfl rfl rfl rfl ?_
    refine s_load1 2 rfl rfl rfl rfl rfl rfl rfl rfl rfl ?_
    refine s_add rfl rfl rfl rfl rfl rfl rfl (by omega) ?_
    refine s_field rfl rfl rfl rfl rfl rfl rfl rfl ?_
    refine s_indexA k rfl rfl rfl rfl rfl rfl rfl rfl rfl (by first | rfl | omega) (by omega) rfl ?_
    refine k_store 0 rfl rfl rfl rfl rfl rfl rfl rfl rfl rfl (Nat.ble_eq_true_of_le (by first | (show _ ≤ 20; omega) | (rw [length_setL]; show _ ≤ 20; omega))) rfl ?_
    refine s_field rfl rfl rfl rfl rfl rfl rfl rfl ?_
    refine s_indexA k rfl rfl rfl rfl rfl rfl rfl rfl rfl (by first | rfl | omega) (by omega) rfl ?_
    refine k_store 0 rfl rfl rfl rfl rfl rfl rfl rfl rfl rfl (Nat.ble_eq_true_of_le (by first | (show _ ≤ 20; omega) | (rw [length_setL]; show _ ≤ 20; omega))) rfl ?_
    refine okl_nil ?_
    change OkC Try.prog _ _ _ _ _ _ _
    refine okc_weak (l' := [(1, _), (2, _), (3, _), (4, _), (12, _)]) ⟨rfl, rfl, rfl, rfl, rfl, trivial⟩ ?_
    refine okc_seq ?_
    refine okc_region ?_
    refine s_assign rfl rfl rfl rfl rfl rfl ?_
    refine okl_nil ?_
    change OkC Try.prog _ _ _ _ _ _ _
    refine okc_weak (l' := [(1, _), (2, _), (3, _), (4, _), (5, _), (12, _)]) ⟨rfl, rfl, rfl, rfl, rfl, rfl, trivial⟩ ?_
    refine okc_block ?_
    refine okc_loop (γ := Nat) (fun n => [(1, .pointer (some ⟨b1, 0, none⟩)), (2, .pointer (some ⟨b2, 0, none⟩)), (3, .pointer (some ⟨b3, 0, none⟩)), (4, .int .i64 k), (5, .int .i64 n)]) (fun n => [(b3, leC (up (baseN s k) k (stepW s k n)), 135), (b2, leC bz, 135), (b1, [.int .i64 s.weeks, .int .i64 s.most, .int .i64 s.fall, .int .i64 s.slo, .int .i64 s.shi, .int .i64 s.wlo, .int .i64 s.whi, .slice s.bp s.book.length s.bc, .slice s.rp s.reads.length s.rc], 27)]) (fun n => (n : Int) ≤ s.most + 1) (fun n => (s.most + 1).toNat - n) 0 (by omega) (fun a w hs => by rw [le_setlo _ (k := k) (by omega) (by omega), le_sethi _ (k := k) (by omega) (by omega)] at hs; simp only [up_same, up_up] at hs; exact hs.weak ⟨rfl, rfl, rfl, rfl, rfl, trivial⟩ [0, 1, 2] (by simp) (by rfl)) ?_
    rintro n hn
    refine okc_seq ?_
    refine okc_seq ?_
    refine okc_region ?_
    refine s_move rfl rfl rfl rfl rfl rfl ?_
    refine s_field rfl rfl rfl rfl rfl rfl rfl rfl ?_
    refine s_load1 2 rfl rfl rfl rfl rfl rfl rfl rfl rfl ?_
    refine s_cmpS rfl rfl rfl rfl rfl rfl rfl rfl (fun h5 => ?_) (fun h5 => ?_)
    · have hle : (n : Int) ≤ s.most := by simpa using h5
      have g1 := le_lo (up (baseN s k) k (stepW s k n)) (k := k) (n := 0 + 0 + k * 1) (by omega) (by omega)
      have g1 := le_lo (up (baseN s k) k (stepW s k n)) (k := k) (n := 0 + k * 1) (by omega) (by omega)
      refine okl_nil ?_
      change OkC Try.prog _ _ _ _ _ _ _
      refine okc_weak (l' := [(1, _), (2, _), (3, _), (4, _), (5, _), (27, _)]) ⟨rfl, rfl, rfl, rfl, rfl, rfl, trivial⟩ ?_
      refine okc_cond_t rfl ?_
      refine okc_skip ?_
      change OkC Try.prog _ _ _ _ _ _ _
      refine okc_weak (l' := [(1, _), (2, _), (3, _), (4, _), (5, _), (27, _)]) ⟨rfl, rfl, rfl, rfl, rfl, rfl, trivial⟩ ?_
      refine okc_seq ?_
      refine okc_block ?_
      refine okc_seq ?_
      refine okc_region ?_
      refine s_assign rfl rfl rfl rfl rfl rfl ?_
      refine okl_nil ?_
      change OkC Try.prog _ _ _ _ _ _ _
      refine okc_weak (l' := [(1, _), (2, _), (3, _), (4, _), (5, _), (6, _), (27, _)]) ⟨rfl, rfl, rfl, rfl, rfl, rfl, rfl, trivial⟩ ?_
      refine okc_seq ?_
      refine okc_seq ?_
      refine okc_region ?_
      refine s_field rfl rfl rfl rfl rfl rfl rfl rfl ?_
      refine s_load1 2 rfl rfl rfl rfl rfl rfl rfl rfl rfl ?_
      refine s_len rfl rfl rfl rfl rfl rfl rfl ?_
      refine s_move rfl rfl rfl rfl rfl rfl ?_
      refine okl_nil ?_
      change OkC Try.prog _ _ _ _ _ _ _
      refine okc_weak (l' := [(1, _), (2, _), (3, _), (4, _), (5, _), (6, _), (27, _), (31, _), (32, _), (33, _)]) ⟨rfl, rfl, rfl, rfl, rfl, rfl, rfl, rfl, rfl, rfl, trivial⟩ ?_
      refine okc_block ?_
      refine okc_loop (γ := Nat × Bool) (fun g => [(1, .pointer (some ⟨b1, 0, none⟩)), (2, .pointer (some ⟨b2, 0, none⟩)), (3, .pointer (some ⟨b3, 0, none⟩)), (4, .int .i64 k), (5, .int .i64 n), (6, .bool g.2), (31, .slice s.rp s.reads.length s.rc), (32, .int .i64 s.reads.length), (33, .int .i64 g.1)]) (fun g => [(b3, leC (up (baseN s k) k (stepW s k n)), 135), (b2, leC bz, 135), (b1, [.int .i64 s.weeks, .int .i64 s.most, .int .i64 s.fall, .int .i64 s.slo, .int .i64 s.shi, .int .i64 s.wlo, .int .i64 s.whi, .slice s.bp s.book.length s.bc, .slice s.rp s.reads.length s.rc], 27)]) (fun g => g.1 ≤ s.reads.length ∧ g.2 = allR s k n (s.reads.take g.1)) (fun g => s.reads.length - g.1) (0, true) ⟨Nat.zero_le _, rfl⟩ (fun a w hs => by exact hs.weak ⟨rfl, rfl, rfl, rfl, rfl, rfl, rfl, rfl, rfl, trivial⟩ [0, 1, 2] (by simp) (by rfl)) ?_
      rintro ⟨j, b⟩ ⟨hj, hb⟩
      dsimp only at hj hb
      cases b
      · refine okc_seq ?_
        refine okc_region ?_
        refine s_cmpS rfl rfl rfl rfl rfl rfl rfl rfl (fun h6 => ?_) (fun h6 => ?_)
        · have hlt : j < s.reads.length := by simpa using h6
          obtain ⟨x, hx⟩ : ∃ x, s.reads[j]? = some x := ⟨s.reads[j], by simp [hlt]⟩
          obtain ⟨hpR, hjR, hatR⟩ := hR (by intro e; simp [e] at hlt)
          have hcell := hatR j x hx
          have hxo := hs0.reads x (List.mem_of_getElem? hx)
          refine okl_nil ?_
          change OkC Try.prog _ _ _ _ _ _ _
          refine okc_weak (l' := [(1, _), (2, _), (3, _), (4, _), (5, _), (6, _), (31, _), (32, _), (33, _), (34, _)]) ⟨rfl, rfl, rfl, rfl, rfl, rfl, rfl, rfl, rfl, rfl, trivial⟩ ?_
          refine okc_seq ?_
          refine okc_cond_t rfl ?_
          refine okc_skip ?_
          change OkC Try.prog _ _ _ _ _ _ _
          refine okc_weak (l' := [(1, _), (2, _), (3, _), (4, _), (5, _), (6, _), (31, _), (32, _), (33, _), (34, _)]) ⟨rfl, rfl, rfl, rfl, rfl, rfl, rfl, rfl, rfl, rfl, trivial⟩ ?_
          refine okc_seq ?_
          refine okc_block ?_
          refine okc_seq ?_
          refine okc_region ?_
          refine s_indexP j hpR rfl rfl rfl rfl rfl rfl rfl rfl rfl rfl (by omega) rfl ?_
          refine s_loadAP jR rfl rfl rfl rfl rfl rfl rfl hjR rfl (by assumption) rfl ?_
          refine s_alloc rfl rfl rfl rfl rfl rfl (fun b7 => ?_)
          refine k_storeW 0 rfl rfl rfl rfl rfl rfl rfl rfl rfl rfl rfl rfl ?_
          refine okl_nil ?_
          change OkC Try.prog _ _ _ _ _ _ _
          refine okc_weak (l' := [(1, _), (2, _), (3, _), (4, _), (5, _), (6, _), (8, _), (31, _), (32, _), (33, _), (34, _)]) ⟨rfl, rfl, rfl, rfl, rfl, rfl, rfl, rfl, rfl, rfl, rfl, trivial⟩ ?_
          refine okc_region ?_
          refine s_move rfl rfl rfl rfl rfl rfl ?_
          refine s_move rfl rfl rfl rfl rfl rfl ?_
          refine okl_skip rfl rfl rfl rfl ?_
          refine okl_skip rfl rfl rfl rfl ?_
          refine okl_skip rfl rfl rfl rfl ?_
          refine okl_skip rfl rfl rfl rfl ?_
          refine okl_skip rfl rfl rfl rfl ?_
          refine okl_skip rfl rfl rfl rfl ?_
          refine okl_skip rfl rfl rfl rfl ?_
          refine okl_skip rfl rfl rfl rfl ?_
          refine okl_skip rfl rfl rfl rfl ?_
          refine okl_skip rfl rfl rfl rfl ?_
          refine s_pick_f rfl rfl rfl rfl rfl rfl rfl ?_
          refine s_assign rfl rfl rfl rfl rfl rfl ?_
          refine okl_nil ?_
          change OkC Try.prog _ _ _ _ _ _ _
          refine okc_weak (l' := [(1, _), (2, _), (3, _), (4, _), (5, _), (6, _), (8, _), (31, _), (32, _), (33, _), (34, _)]) ⟨rfl, rfl, rfl, rfl, rfl, rfl, rfl, rfl, rfl, rfl, rfl, trivial⟩ ?_
          refine okc_region ?_
          refine s_add rfl rfl rfl rfl rfl rfl rfl (by omega) ?_
          refine s_move rfl rfl rfl rfl rfl rfl ?_
          refine okl_nil ?_
          exact fun a w hs => ⟨(j + 1, false), ⟨by show j + 1 ≤ _; omega, by show _ = allR _ _ _ _; rw [allR, all_snoc _ hx]; unfold allR at hb; rw [← hb]; clear hs hR; simp_all⟩, by simp; omega, hs.weak ⟨rfl, rfl, rfl, rfl, rfl, rfl, rfl, rfl, rfl, trivial⟩ [1, 2, 3] (by simp) (by rfl)⟩
        · have hge : ¬ j < s.reads.length := by simpa using h6
          have hfin : allR s k n s.reads = false := by rw [hb, List.take_of_length_le (by omega)]
          refine okl_nil ?_
          change OkC Try.prog _ _ _ _ _ _ _
          refine okc_weak (l' := [(1, _), (2, _), (3, _), (4, _), (5, _), (6, _), (31, _), (32, _), (33, _), (34, _)]) ⟨rfl, rfl, rfl, rfl, rfl, rfl, rfl, rfl, rfl, rfl, trivial⟩ ?_
          refine okc_seq ?_
          refine okc_cond_f rfl ?_
          refine okc_exit ?_
          change OkC Try.prog _ _ _ _ _ _ _
          refine okc_weak (l' := [(1, _), (2, _), (3, _), (4, _), (5, _), (6, _), (31, _), (32, _), (33, _), (34, _)]) ⟨rfl, rfl, rfl, rfl, rfl, rfl, rfl, rfl, rfl, rfl, trivial⟩ ?_
          refine okc_seq ?_
          refine okc_region ?_
          refine s_move rfl rfl rfl rfl rfl rfl ?_
          refine okl_nil ?_
          change OkC Try.prog _ _ _ _ _ _ _
          refine okc_weak (l' := [(1, _), (2, _), (3, _), (4, _), (5, _), (6, _), (31, _), (32, _), (33, _), (34, _), (51, _)]) ⟨rfl, rfl, rfl, rfl, rfl, rfl, rfl, rfl, rfl, rfl, rfl, trivial⟩ ?_
          refine okc_cond_f rfl ?_
          refine okc_skip ?_
          change OkC Try.prog _ _ _ _ _ _ _
          refine okc_weak (l' := [(1, _), (2, _), (3, _), (4, _), (5, _), (6, _), (31, _), (32, _), (33, _), (34, _), (51, _)]) ⟨rfl, rfl, rfl, rfl, rfl, rfl, rfl, rfl, rfl, rfl, rfl, trivial⟩ ?_
          refine okc_region ?_
          refine s_move rfl rfl rfl rfl rfl rfl ?_
          refine s_add rfl rfl rfl rfl rfl rfl rfl (by omega) ?_
          refine s_assign rfl rfl rfl rfl rfl rfl ?_
          refine okl_nil ?_
          refine fun a w hs => ⟨n + 1, by omega, by omega, ?_⟩
          try (rw [le_setlo _ (k := k) (by omega) (by omega), le_sethi _ (k := k) (by omega) (by omega)] at hs; simp only [up_same, up_up] at hs)
          exact hs.weak ⟨rfl, rfl, rfl, rfl, rfl, trivial⟩ [0, 1, 2] (by simp) (by first | (rw [stepW, if_pos hfin]; rfl) | (rw [stepW, if_neg (by simp [hfin])]; rfl))
      · refine okc_seq ?_
        refine okc_region ?_
        refine s_cmpS rfl rfl rfl rfl rfl rfl rfl rfl (fun h8 => ?_) (fun h8 => ?_)
        · have hlt : j < s.reads.length := by simpa using h8
          obtain ⟨x, hx⟩ : ∃ x, s.reads[j]? = some x := ⟨s.reads[j], by simp [hlt]⟩
          obtain ⟨hpR, hjR, hatR⟩ := hR (by intro e; simp [e] at hlt)
          have hcell := hatR j x hx
          have hxo := hs0.reads x (List.mem_of_getElem? hx)
          refine okl_nil ?_
          change OkC Try.prog _ _ _ _ _ _ _
          refine okc_weak (l' := [(1, _), (2, _), (3, _), (4, _), (5, _), (6, _), (31, _), (32, _), (33, _), (34, _)]) ⟨rfl, rfl, rfl, rfl, rfl, rfl, rfl, rfl, rfl, rfl, trivial⟩ ?_
          refine okc_seq ?_
          refine okc_cond_t rfl ?_
          refine okc_skip ?_
          change OkC Try.prog _ _ _ _ _ _ _
          refine okc_weak (l' := [(1, _), (2, _), (3, _), (4, _), (5, _), (6, _), (31, _), (32, _), (33, _), (34, _)]) ⟨rfl, rfl, rfl, rfl, rfl, rfl, rfl, rfl, rfl, rfl, trivial⟩ ?_
          refine okc_seq ?_
          refine okc_block ?_
          refine okc_seq ?_
          refine okc_region ?_
          refine s_indexP j hpR rfl rfl rfl rfl rfl rfl rfl rfl rfl rfl (by omega) rfl ?_
          refine s_loadAP jR rfl rfl rfl rfl rfl rfl rfl hjR rfl (by assumption) rfl ?_
          refine s_alloc rfl rfl rfl rfl rfl rfl (fun b9 => ?_)
          refine k_storeW 0 rfl rfl rfl rfl rfl rfl rfl rfl rfl rfl rfl rfl ?_
          refine okl_nil ?_
          change OkC Try.prog _ _ _ _ _ _ _
          refine okc_weak (l' := [(1, _), (2, _), (3, _), (4, _), (5, _), (6, _), (8, _), (31, _), (32, _), (33, _), (34, _)]) ⟨rfl, rfl, rfl, rfl, rfl, rfl, rfl, rfl, rfl, rfl, rfl, trivial⟩ ?_
          refine okc_region ?_
          refine s_move rfl rfl rfl rfl rfl rfl ?_
          refine s_move rfl rfl rfl rfl rfl rfl ?_
          refine s_field rfl rfl rfl rfl rfl rfl rfl rfl ?_
          refine s_load1 0 rfl rfl rfl rfl rfl rfl rfl rfl rfl ?_
          refine s_move rfl rfl rfl rfl rfl rfl ?_
          refine s_cmpS rfl rfl rfl rfl rfl rfl rfl rfl (fun h10 => ?_) (fun h10 => ?_)
          · have hwk : ¬ x.week = (k : Int) := by simpa using h10
            refine s_move rfl rfl rfl rfl rfl rfl ?_
            refine okl_skip rfl rfl rfl rfl ?_
            refine okl_skip rfl rfl rfl rfl ?_
            refine okl_skip rfl rfl rfl rfl ?_
            refine okl_skip rfl rfl rfl rfl ?_
            refine s_pick_t rfl rfl rfl rfl rfl rfl rfl ?_
            refine s_pick_t rfl rfl rfl rfl rfl rfl rfl ?_
            refine s_assign rfl rfl rfl rfl rfl rfl ?_
            refine okl_nil ?_
            change OkC Try.prog _ _ _ _ _ _ _
            refine okc_weak (l' := [(1, _), (2, _), (3, _), (4, _), (5, _), (6, _), (8, _), (31, _), (32, _), (33, _), (34, _)]) ⟨rfl, rfl, rfl, rfl, rfl, rfl, rfl, rfl, rfl, rfl, rfl, trivial⟩ ?_
            refine okc_region ?_
            refine s_add rfl rfl rfl rfl rfl rfl rfl (by omega) ?_
            refine s_move rfl rfl rfl rfl rfl rfl ?_
            refine okl_nil ?_
            exact fun a w hs => ⟨(j + 1, true), ⟨by show j + 1 ≤ _; omega, by show _ = allR _ _ _ _; rw [allR, all_snoc _ hx]; unfold allR at hb; rw [← hb]; clear hs hR; simp_all⟩, by simp; omega, hs.weak ⟨rfl, rfl, rfl, rfl, rfl, rfl, rfl, rfl, rfl, trivial⟩ [1, 2, 3] (by simp) (by rfl)⟩
          · have hwk : x.week = (k : Int) := by simpa using h10
            refine s_move rfl rfl rfl rfl rfl rfl ?_
            refine s_loadW 3 rfl rfl rfl rfl rfl rfl rfl rfl rfl rfl ?_
            refine s_loadW 0 rfl rfl rfl rfl rfl rfl rfl rfl rfl rfl ?_
            refine s_move rfl rfl rfl rfl rfl rfl ?_
            refine s_callb rfl rfl rfl rfl rfl rfl rfl c92 (right_fn _ _ _ ho hxo (by omega)) covers_nil (fun h11 => ?_) (fun h11 => ?_)
            · refine s_pick_f rfl rfl rfl rfl rfl rfl rfl ?_
              refine s_pick_t rfl rfl rfl rfl rfl rfl rfl ?_
              refine s_assign rfl rfl rfl rfl rfl rfl ?_
              refine okl_nil ?_
              change OkC Try.prog _ _ _ _ _ _ _
              refine okc_weak (l' := [(1, _), (2, _), (3, _), (4, _), (5, _), (6, _), (8, _), (31, _), (32, _), (33, _), (34, _)]) ⟨rfl, rfl, rfl, rfl, rfl, rfl, rfl, rfl, rfl, rfl, rfl, trivial⟩ ?_
              refine okc_region ?_
              refine s_add rfl rfl rfl rfl rfl rfl rfl (by omega) ?_
              refine s_move rfl rfl rfl rfl rfl rfl ?_
              refine okl_nil ?_
              exact fun a w hs => ⟨(j + 1, true), ⟨by show j + 1 ≤ _; omega, by show _ = allR _ _ _ _; rw [allR, all_snoc _ hx]; unfold allR at hb; rw [← hb]; clear hs hR; simp_all⟩, by simp; omega, hs.weak ⟨rfl, rfl, rfl, rfl, rfl, rfl, rfl, rfl, rfl, trivial⟩ [1, 2, 3] (by simp) (by rfl)⟩
            · refine s_pick_f rfl rfl rfl rfl rfl rfl rfl ?_
              refine s_pick_t rfl rfl rfl rfl rfl rfl rfl ?_
              refine s_assign rfl rfl rfl rfl rfl rfl ?_
              refine okl_nil ?_
              change OkC Try.prog _ _ _ _ _ _ _
              refine okc_weak (l' := [(1, _), (2, _), (3, _), (4, _), (5, _), (6, _), (8, _), (31, _), (32, _), (33, _), (34, _)]) ⟨rfl, rfl, rfl, rfl, rfl, rfl, rfl, rfl, rfl, rfl, rfl, trivial⟩ ?_
              refine okc_region ?_
              refine s_add rfl rfl rfl rfl rfl rfl rfl (by omega) ?_
              refine s_move rfl rfl rfl rfl rfl rfl ?_
              refine okl_nil ?_
              exact fun a w hs => ⟨(j + 1, false), ⟨by show j + 1 ≤ _; omega, by show _ = allR _ _ _ _; rw [allR, all_snoc _ hx]; unfold allR at hb; rw [← hb]; clear hs hR; simp_all⟩, by simp; omega, hs.weak ⟨rfl, rfl, rfl, rfl, rfl, rfl, rfl, rfl, rfl, trivial⟩ [1, 2, 3] (by simp) (by rfl)⟩
        · have hge : ¬ j < s.reads.length := by simpa using h8
          have hfin : allR s k n s.reads = true := by rw [hb, List.take_of_length_le (by omega)]
          refine okl_nil ?_
          change OkC Try.prog _ _ _ _ _ _ _
          refine okc_weak (l' := [(1, _), (2, _), (3, _), (4, _), (5, _), (6, _), (31, _), (32, _), (33, _), (34, _)]) ⟨rfl, rfl, rfl, rfl, rfl, rfl, rfl, rfl, rfl, rfl, trivial⟩ ?_
          refine okc_seq ?_
          refine okc_cond_f rfl ?_
          refine okc_exit ?_
          change OkC Try.prog _ _ _ _ _ _ _
          refine okc_weak (l' := [(1, _), (2, _), (3, _), (4, _), (5, _), (6, _), (31, _), (32, _), (33, _), (34, _)]) ⟨rfl, rfl, rfl, rfl, rfl, rfl, rfl, rfl, rfl, rfl, trivial⟩ ?_
          refine okc_seq ?_
          refine okc_region ?_
          refine s_move rfl rfl rfl rfl rfl rfl ?_
          refine okl_nil ?_
          change OkC Try.prog _ _ _ _ _ _ _
          refine okc_weak (l' := [(1, _), (2, _), (3, _), (4, _), (5, _), (6, _), (31, _), (32, _), (33, _), (34, _), (51, _)]) ⟨rfl, rfl, rfl, rfl, rfl, rfl, rfl, rfl, rfl, rfl, rfl, trivial⟩ ?_
          refine okc_cond_t rfl ?_
          refine okc_region ?_
          refine s_move rfl rfl rfl rfl rfl rfl ?_
          refine s_move rfl rfl rfl rfl rfl rfl ?_
          refine s_move rfl rfl rfl rfl rfl rfl ?_
          refine s_field rfl rfl rfl rfl rfl rfl rfl rfl ?_
          refine s_indexA k rfl rfl rfl rfl rfl rfl rfl rfl rfl (by first | rfl | omega) (by omega) rfl ?_
          refine s_load1 0 rfl rfl rfl rfl rfl rfl rfl rfl (by assumption) ?_
          refine s_move rfl rfl rfl rfl rfl rfl ?_
          refine s_min rfl rfl rfl rfl rfl rfl rfl ?_
          refine s_move rfl rfl rfl rfl rfl rfl ?_
          refine s_field rfl rfl rfl rfl rfl rfl rfl rfl ?_
          refine s_indexA k rfl rfl rfl rfl rfl rfl rfl rfl rfl (by first | rfl | omega) (by omega) rfl ?_
          refine k_store 0 rfl rfl rfl rfl rfl rfl rfl rfl rfl rfl (Nat.ble_eq_true_of_le (by first | (show _ ≤ 20; omega) | (rw [length_setL]; show _ ≤ 20; omega))) rfl ?_
          refine s_field rfl rfl rfl rfl rfl rfl rfl rfl ?_
          refine s_indexA k rfl rfl rfl rfl rfl rfl rfl rfl rfl (by first | rfl | omega) (by omega) rfl ?_
          refine k_store 0 rfl rfl rfl rfl rfl rfl rfl rfl rfl rfl (Nat.ble_eq_true_of_le (by first | (show _ ≤ 20; omega) | (rw [length_setL]; show _ ≤ 20; omega))) rfl ?_
          refine okl_nil ?_
          change OkC Try.prog _ _ _ _ _ _ _
          refine okc_weak (l' := [(1, _), (2, _), (3, _), (4, _), (5, _), (6, _), (31, _), (32, _), (33, _), (34, _), (51, _)]) ⟨rfl, rfl, rfl, rfl, rfl, rfl, rfl, rfl, rfl, rfl, rfl, trivial⟩ ?_
          refine okc_region ?_
          refine s_move rfl rfl rfl rfl rfl rfl ?_
          refine s_add rfl rfl rfl rfl rfl rfl rfl (by omega) ?_
          refine s_assign rfl rfl rfl rfl rfl rfl ?_
          refine okl_nil ?_
          refine fun a w hs => ⟨n + 1, by omega, by omega, ?_⟩
          try (rw [le_setlo _ (k := k) (by omega) (by omega), le_sethi _ (k := k) (by omega) (by omega)] at hs; simp only [up_same, up_up] at hs)
          exact hs.weak ⟨rfl, rfl, rfl, rfl, rfl, trivial⟩ [0, 1, 2] (by simp) (by first | (rw [stepW, if_pos hfin]; rfl) | (rw [stepW, if_neg (by simp [hfin])]; rfl))
    · have hgt : ¬ (n : Int) ≤ s.most := by simpa using h5
      have hnn : (s.most + 1).toNat = n := by omega
      refine okl_nil ?_
      change OkC Try.prog _ _ _ _ _ _ _
      refine okc_weak (l' := [(1, _), (2, _), (3, _), (4, _), (5, _), (27, _)]) ⟨rfl, rfl, rfl, rfl, rfl, rfl, trivial⟩ ?_
      refine okc_cond_f rfl ?_
      refine okc_exit ?_
      change OkC Try.prog _ _ _ _ _ _ _
      refine okc_weak (l' := [(1, _), (2, _), (3, _), (4, _), (5, _), (27, _)]) ⟨rfl, rfl, rfl, rfl, rfl, rfl, trivial⟩ ?_
      refine okc_region ?_
      refine s_move rfl rfl rfl rfl rfl rfl ?_
      refine s_add rfl rfl rfl rfl rfl rfl rfl (by omega) ?_
      refine s_assign rfl rfl rfl rfl rfl rfl ?_
      refine okl_nil ?_
      exact fun a w hs => ⟨k + 1, by omega, by omega, hs.weak ⟨rfl, rfl, rfl, rfl, trivial⟩ [0, 1, 2] (by simp) (by rw [baseN, hnn]; rfl)⟩
  · have hge : ¬ (k : Int) < s.weeks := by simpa using h4
    have hkw : k = s.weeks.toNat := by omega
    subst hkw
    refine okl_nil ?_
    change OkC Try.prog _ _ _ _ _ _ _
    refine okc_weak (l' := [(1, _), (2, _), (3, _), (4, _), (12, _)]) ⟨rfl, rfl, rfl, rfl, rfl, trivial⟩ ?_
    refine okc_cond_f rfl ?_
    refine okc_exit ?_
    change OkC Try.prog _ _ _ _ _ _ _
    refine okc_weak (l' := [(1, _), (2, _), (3, _), (4, _), (12, _)]) ⟨rfl, rfl, rfl, rfl, rfl, trivial⟩ ?_
    refine okc_seq ?_
    refine okc_region ?_
    refine s_loadW 0 rfl rfl rfl rfl rfl rfl rfl rfl rfl (by first | rfl | assumption) ?_
    refine k_storeW 1 rfl rfl rfl rfl rfl rfl rfl rfl rfl rfl rfl rfl ?_
    refine okl_nil ?_
    change OkC Try.prog _ _ _ _ _ _ _
    refine okc_weak (l' := [(1, _), (2, _), (3, _), (4, _), (12, _)]) ⟨rfl, rfl, rfl, rfl, rfl, trivial⟩ ?_
    refine okc_ret fun a w hs => ?_
    exact ret_v hs (run_results1 hs rfl (k_ragg 1 rfl rfl rfl rfl rfl)) (by clear hs; rfl)

end Go.Proofs.Ytdpnadknaacinaa
