/-
  Texts that the proof uses, part 9.
  Conditions: none.
-/
import Derived.Test.YtdpnadknaacinaaChanges8
import Derived.Lib.Overlaps
import Derived.Lib.AppendZerosOnto

set_option linter.unusedVariables false
set_option linter.unusedSimpArgs false

section
namespace Go.Proofs.Ytdpnadknaacinaa
open Go.Sx Go.Proofs.Ytdpnadknaacinaa.Ty
set_option linter.unusedVariables false
set_option linter.unusedSimpArgs false
set_option maxHeartbeats 2000000


/-- The number behind which the next must lie. -/
def befS (ns : List Int) : Nat → Int
  | 0 => 0
  | k + 1 => (ns[k]?).getD 0
theorem num_pos {s : Sp} (hs : OkS s) {n : Int} (h : n ∈ numsS s) : 0 < n := by
  unfold numsS at h
  obtain ⟨x, hx, rfl⟩ := List.mem_map.1 h
  have := (hs.reads x hx).n1
  omega
theorem take_num {s : Sp} {j : Nat} {x : Rd} (hx : s.reads[j]? = some x) (n : Int) : decide (n ∈ (s.reads.take (j + 1)).map (·.number)) = (decide (n ∈ (s.reads.take j).map (·.number)) || decide (x.number = n)) := by
  rw [List.take_add_one, hx]
  simp only [Option.toList_some, List.map_append, List.map_cons, List.map_nil, List.mem_append, List.mem_singleton]
  by_cases h2 : x.number = n
  · subst h2; simp
  · have h3 : ¬ n = x.number := fun e => h2 e.symm
    simp [h2, h3]

theorem rStrike_fn (s : Sp) (M : Args) (hin : s.In M) (hgr : s.book.length ≤ 30 ∧ s.reads.length ≤ 30) (ns : List Int) (pn : Option Addr) (cn : Nat) (hns : IntsIn M pn ns) : Cn Try.prog 53 [spV s, .slice pn ns.length cn] M (fun g : Rn2 => .tuple #[spV (twS (stR s ns) g), .int .i64 (stE s ns)]) (fun g => g.B1 ++ g.B2) (TwOk (stR s ns)) := by
  have hnl := hns.len
  have hns0 := hns
  obtain ⟨bN, oN, cN, jN, hN⟩ := hns0.row
  obtain ⟨bR, oR, cR, jR, hR⟩ := hin.reads
  refine fn_intro (N := 57) Try.func53 rfl rfl rfl fun w0 => ?_
  refine okc_seq ?_
  refine okc_region ?_
  refine s_boxA rfl rfl rfl rfl rfl rfl (fun b1 => ?_)
  refine s_alloc rfl rfl rfl rfl rfl rfl (fun b2 => ?_)
  refine s_assign rfl rfl rfl rfl rfl rfl ?_
  refine okl_nil ?_
  change OkC Try.prog _ _ _ _ _ _ _
  refine okc_weak (l' := [(0, _), (1, _), (2, _), (4, _), (5, _)]) ⟨rfl, rfl, rfl, rfl, rfl, trivial⟩ ?_
  refine okc_seq ?_
  refine okc_seq ?_
  refine okc_region ?_
  refine s_loadW 1 rfl rfl rfl rfl rfl rfl rfl rfl rfl rfl ?_
  refine s_callb rfl rfl rfl rfl rfl rfl rfl c74 (rSpring_fn s M hin) covers_all (fun h3 => ?_) (fun h3 => ?_)
  · have hv : validB s = true := h3
    have hs0 := ok_of_valid hv
    obtain ⟨w1, w2, m1, m2, f1, f2, a1, a2, a3, v1, v2, v3⟩ := hs0.ok
    refine s_not rfl rfl rfl rfl rfl rfl ?_
    refine okl_nil ?_
    change OkC Try.prog _ _ _ _ _ _ _
    refine okc_weak (l' := [(0, _), (1, _), (2, _), (4, _), (5, _), (13, _)]) ⟨rfl, rfl, rfl, rfl, rfl, rfl, trivial⟩ ?_
    refine okc_cond_f rfl ?_
    refine okc_skip ?_
    change OkC Try.prog _ _ _ _ _ _ _
    refine okc_weak (l' := [(0, _), (1, _), (2, _), (4, _), (5, _), (13, _)]) ⟨rfl, rfl, rfl, rfl, rfl, rfl, trivial⟩ ?_
    refine okc_seq ?_
    refine okc_seq ?_
    refine okc_region ?_
    refine s_move rfl rfl rfl rfl rfl rfl ?_
    refine s_len rfl rfl rfl rfl rfl rfl rfl ?_
    refine s_move rfl rfl rfl rfl rfl rfl ?_
    refine okl_nil ?_
    change OkC Try.prog _ _ _ _ _ _ _
    refine okc_weak (l' := [(0, _), (1, _), (2, _), (4, _), (5, _), (13, _), (15, _), (16, _), (17, _)]) ⟨rfl, rfl, rfl, rfl, rfl, rfl, rfl, rfl, rfl, trivial⟩ ?_
    refine okc_block ?_
    refine okc_loopF (γ := Nat) [(0, _), (1, _), (2, _), (4, _), (5, _), (13, _), (15, _), (16, _)] ⟨rfl, rfl, rfl, rfl, rfl, rfl, rfl, rfl, trivial⟩ [0, 1] [] (by decide) _ rfl (fun k => [(17, .int .i64 (k : Int))]) (fun k => []) (fun k => k ≤ ns.length ∧ stOk (numsS s) 0 ns = stOk (numsS s) (befS ns k) (ns.drop k)) (fun k => ns.length - k) 0 ⟨Nat.zero_le _, rfl⟩ ⟨rfl, trivial⟩ rfl ?_
    rintro k ⟨hk, hb2⟩
    change OkC Try.prog _ _ _ _ _ _ _
    refine okc_seq ?_
    refine okc_region ?_
    refine s_cmpS rfl rfl rfl rfl rfl rfl rfl rfl (fun h4 => ?_) (fun h4 => ?_)
    · have hlt : k < ns.length := by simpa using h4
      obtain ⟨n, hn⟩ : ∃ n, ns[k]? = some n := ⟨ns[k], by simp [hlt]⟩
      obtain ⟨hpN, hjN, hatN⟩ := hN (by intro e; simp [e] at hlt)
      have hcell := hatN k n hn
      have hdr : ns.drop k = n :: ns.drop (k + 1) := drop_at hn
      rw [hdr] at hb2
      simp only [stOk] at hb2
      refine okl_nil ?_
      change OkC Try.prog _ _ _ _ _ _ _
      refine okc_weak (l' := [(0, _), (1, _), (2, _), (4, _), (5, _), (13, _), (15, _), (16, _), (17, _), (18, _)]) ⟨rfl, rfl, rfl, rfl, rfl, rfl, rfl, rfl, rfl, rfl, trivial⟩ ?_
      refine okc_seq ?_
      refine okc_cond_t rfl ?_
      refine okc_skip ?_
      change OkC Try.prog _ _ _ _ _ _ _
      refine okc_weak (l' := [(0, _), (1, _), (2, _), (4, _), (5, _), (13, _), (15, _), (16, _), (17, _), (18, _)]) ⟨rfl, rfl, rfl, rfl, rfl, rfl, rfl, rfl, rfl, rfl, trivial⟩ ?_
      refine okc_seq ?_
      refine okc_block ?_
      refine okc_seq ?_
      refine okc_region ?_
      refine s_move rfl rfl rfl rfl rfl rfl ?_
      refine s_indexP k hpN rfl rfl rfl rfl rfl rfl rfl rfl rfl rfl (by omega) rfl ?_
      refine s_loadA1 jN rfl rfl rfl rfl rfl rfl rfl hjN (by assumption) ?_
      refine s_assign rfl rfl rfl rfl rfl rfl ?_
      refine s_assign rfl rfl rfl rfl rfl rfl ?_
      refine okl_nil ?_
      change OkC Try.prog _ _ _ _ _ _ _
      refine okc_weak (l' := [(0, _), (1, _), (2, _), (4, _), (5, _), (6, _), (7, _), (13, _), (15, _), (16, _), (17, _), (18, _)]) ⟨rfl, rfl, rfl, rfl, rfl, rfl, rfl, rfl, rfl, rfl, rfl, rfl, trivial⟩ ?_
      refine okc_seq ?_
      refine okc_region ?_
      refine s_assign rfl rfl rfl rfl rfl rfl ?_
      refine okl_nil ?_
      change OkC Try.prog _ _ _ _ _ _ _
      refine okc_weak (l' := [(0, _), (1, _), (2, _), (4, _), (5, _), (6, _), (7, _), (8, _), (13, _), (15, _), (16, _), (17, _), (18, _)]) ⟨rfl, rfl, rfl, rfl, rfl, rfl, rfl, rfl, rfl, rfl, rfl, rfl, rfl, trivial⟩ ?_
      refine okc_seq ?_
      refine okc_seq ?_
      refine okc_region ?_
      refine s_field rfl rfl rfl rfl rfl rfl rfl rfl ?_
      refine s_load1 1 rfl rfl rfl rfl rfl rfl rfl rfl rfl ?_
      refine s_len rfl rfl rfl rfl rfl rfl rfl ?_
      refine s_move rfl rfl rfl rfl rfl rfl ?_
      refine okl_nil ?_
      change OkC Try.prog _ _ _ _ _ _ _
      refine okc_weak (l' := [(0, _), (1, _), (2, _), (4, _), (5, _), (6, _), (7, _), (8, _), (13, _), (15, _), (16, _), (17, _), (18, _), (23, _), (24, _), (25, _)]) ⟨rfl, rfl, rfl, rfl, rfl, rfl, rfl, rfl, rfl, rfl, rfl, rfl, rfl, rfl, rfl, rfl, trivial⟩ ?_
      refine okc_block ?_
      refine okc_loopF (γ := Nat × Bool) [(0, _), (1, _), (2, _), (4, _), (5, _), (6, _), (7, _), (13, _), (15, _), (16, _), (17, _), (18, _), (23, _), (24, _)] ⟨rfl, rfl, rfl, rfl, rfl, rfl, rfl, rfl, rfl, rfl, rfl, rfl, rfl, rfl, trivial⟩ [0, 1] [] (by decide) _ rfl (fun g => [(8, .bool g.2), (25, .int .i64 (g.1 : Int))]) (fun g => []) (fun g => g.1 ≤ s.reads.length ∧ g.2 = decide (n ∈ (s.reads.take g.1).map (·.number))) (fun g => s.reads.length - g.1) (0, false) ⟨Nat.zero_le _, by simp⟩ ⟨rfl, rfl, trivial⟩ rfl ?_
      rintro ⟨j, bj⟩ ⟨hj, hbj⟩
      dsimp only at hj hbj ⊢
      change OkC Try.prog _ _ _ _ _ _ _
      cases bj
      · refine okc_seq ?_
        refine okc_region ?_
        refine s_cmpS rfl rfl rfl rfl rfl rfl rfl rfl (fun h5 => ?_) (fun h5 => ?_)
        · have hlt2 : j < s.reads.length := by simpa using h5
          obtain ⟨x, hx⟩ : ∃ x, s.reads[j]? = some x := ⟨s.reads[j], by simp [hlt2]⟩
          obtain ⟨hpR, hjR, hatR⟩ := hR (by intro e; simp [e] at hlt2)
          have hcellR := hatR j x hx
          refine okl_nil ?_
          change OkC Try.prog _ _ _ _ _ _ _
          refine okc_weak (l' := [(0, _), (1, _), (2, _), (4, _), (5, _), (6, _), (7, _), (8, _), (13, _), (15, _), (16, _), (17, _), (18, _), (23, _), (24, _), (25, _), (26, _)]) ⟨rfl, rfl, rfl, rfl, rfl, rfl, rfl, rfl, rfl, rfl, rfl, rfl, rfl, rfl, rfl, rfl, rfl, trivial⟩ ?_
          refine okc_seq ?_
          refine okc_cond_t rfl ?_
          refine okc_skip ?_
          change OkC Try.prog _ _ _ _ _ _ _
          refine okc_weak (l' := [(0, _), (1, _), (2, _), (4, _), (5, _), (6, _), (7, _), (8, _), (13, _), (15, _), (16, _), (17, _), (18, _), (23, _), (24, _), (25, _), (26, _)]) ⟨rfl, rfl, rfl, rfl, rfl, rfl, rfl, rfl, rfl, rfl, rfl, rfl, rfl, rfl, rfl, rfl, rfl, trivial⟩ ?_
          refine okc_seq ?_
          refine okc_block ?_
          refine okc_seq ?_
          refine okc_region ?_
          refine s_indexP j hpR rfl rfl rfl rfl rfl rfl rfl rfl rfl rfl (by omega) rfl ?_
          refine s_loadAP jR rfl rfl rfl rfl rfl rfl rfl hjR rfl (by assumption) rfl ?_
          refine s_alloc rfl rfl rfl rfl rfl rfl (fun b6 => ?_)
          refine k_storeW 0 rfl rfl rfl rfl rfl rfl rfl rfl rfl rfl rfl rfl ?_
          refine okl_nil ?_
          change OkC Try.prog _ _ _ _ _ _ _
          refine okc_weak (l' := [(0, _), (1, _), (2, _), (4, _), (5, _), (6, _), (7, _), (8, _), (10, _), (13, _), (15, _), (16, _), (17, _), (18, _), (23, _), (24, _), (25, _), (26, _)]) ⟨rfl, rfl, rfl, rfl, rfl, rfl, rfl, rfl, rfl, rfl, rfl, rfl, rfl, rfl, rfl, rfl, rfl, rfl, trivial⟩ ?_
          refine okc_region ?_
          refine s_move rfl rfl rfl rfl rfl rfl ?_
          refine s_move rfl rfl rfl rfl rfl rfl ?_
          refine s_field rfl rfl rfl rfl rfl rfl rfl rfl ?_
          refine s_load1 0 rfl rfl rfl rfl rfl rfl rfl rfl rfl ?_
          refine s_move rfl rfl rfl rfl rfl rfl ?_
          refine s_cmpS rfl rfl rfl rfl rfl rfl rfl rfl (fun h7 => ?_) (fun h7 => ?_)
          · have hxe : x.number = n := by simpa using h7
            refine s_pick_f rfl rfl rfl rfl rfl rfl rfl ?_
            refine s_assign rfl rfl rfl rfl rfl rfl ?_
            refine okl_nil ?_
            change OkC Try.prog _ _ _ _ _ _ _
            refine okc_weak (l' := [(0, _), (1, _), (2, _), (4, _), (5, _), (6, _), (7, _), (8, _), (10, _), (13, _), (15, _), (16, _), (17, _), (18, _), (23, _), (24, _), (25, _), (26, _)]) ⟨rfl, rfl, rfl, rfl, rfl, rfl, rfl, rfl, rfl, rfl, rfl, rfl, rfl, rfl, rfl, rfl, rfl, rfl, trivial⟩ ?_
            refine okc_region ?_
            refine s_add rfl rfl rfl rfl rfl rfl rfl (by omega) ?_
            refine s_move rfl rfl rfl rfl rfl rfl ?_
            refine okl_nil ?_
            refine fun a w hs => ⟨(j + 1, true), ⟨by show j + 1 ≤ _; omega, by show _ = decide _; rw [take_num hx]; simp_all⟩, by show _ - (j + 1) < _ - j; omega, ?_⟩
            exact hs.weak ⟨rfl, rfl, rfl, rfl, rfl, rfl, rfl, rfl, rfl, rfl, rfl, rfl, rfl, rfl, rfl, rfl, trivial⟩ [1, 2] (by decide) (rfl)
          · have hxe : ¬ x.number = n := by simpa using h7
            refine s_pick_f rfl rfl rfl rfl rfl rfl rfl ?_
            refine s_assign rfl rfl rfl rfl rfl rfl ?_
            refine okl_nil ?_
            change OkC Try.prog _ _ _ _ _ _ _
            refine okc_weak (l' := [(0, _), (1, _), (2, _), (4, _), (5, _), (6, _), (7, _), (8, _), (10, _), (13, _), (15, _), (16, _), (17, _), (18, _), (23, _), (24, _), (25, _), (26, _)]) ⟨rfl, rfl, rfl, rfl, rfl, rfl, rfl, rfl, rfl, rfl, rfl, rfl, rfl, rfl, rfl, rfl, rfl, rfl, trivial⟩ ?_
            refine okc_region ?_
            refine s_add rfl rfl rfl rfl rfl rfl rfl (by omega) ?_
            refine s_move rfl rfl rfl rfl rfl rfl ?_
            refine okl_nil ?_
            refine fun a w hs => ⟨(j + 1, false), ⟨by show j + 1 ≤ _; omega, by show _ = decide _; rw [take_num hx]; simp_all⟩, by show _ - (j + 1) < _ - j; omega, ?_⟩
            exact hs.weak ⟨rfl, rfl, rfl, rfl, rfl, rfl, rfl, rfl, rfl, rfl, rfl, rfl, rfl, rfl, rfl, rfl, trivial⟩ [1, 2] (by decide) (rfl)
        · have hge3 : ¬ j < s.reads.length := by simpa using h5
          obtain rfl : j = s.reads.length := by omega
          rw [List.take_length] at hbj
          refine okl_nil ?_
          change OkC Try.prog _ _ _ _ _ _ _
          refine okc_weak (l' := [(0, _), (1, _), (2, _), (4, _), (5, _), (6, _), (7, _), (8, _), (13, _), (15, _), (16, _), (17, _), (18, _), (23, _), (24, _), (25, _), (26, _)]) ⟨rfl, rfl, rfl, rfl, rfl, rfl, rfl, rfl, rfl, rfl, rfl, rfl, rfl, rfl, rfl, rfl, rfl, trivial⟩ ?_
          refine okc_seq ?_
          refine okc_cond_f rfl ?_
          refine okc_exit ?_
          change OkC Try.prog _ _ _ _ _ _ _
          refine okc_weak (l' := [(0, _), (1, _), (2, _), (4, _), (5, _), (6, _), (7, _), (8, _), (13, _), (15, _), (16, _), (17, _), (18, _), (23, _), (24, _), (25, _), (26, _)]) ⟨rfl, rfl, rfl, rfl, rfl, rfl, rfl, rfl, rfl, rfl, rfl, rfl, rfl, rfl, rfl, rfl, rfl, trivial⟩ ?_
          refine okc_seq ?_
          refine okc_region ?_
          refine s_move rfl rfl rfl rfl rfl rfl ?_
          refine s_not rfl rfl rfl rfl rfl rfl ?_
          refine s_move rfl rfl rfl rfl rfl rfl ?_
          refine okl_skip rfl rfl rfl rfl ?_
          refine okl_skip rfl rfl rfl rfl ?_
          refine okl_skip rfl rfl rfl rfl ?_
          refine okl_skip rfl rfl rfl rfl ?_
          refine okl_skip rfl rfl rfl rfl ?_
          refine okl_skip rfl rfl rfl rfl ?_
          refine okl_skip rfl rfl rfl rfl ?_
          refine okl_skip rfl rfl rfl rfl ?_
          refine okl_skip rfl rfl rfl rfl ?_
          refine okl_skip rfl rfl rfl rfl ?_
          refine okl_skip rfl rfl rfl rfl ?_
          refine s_pick_t rfl rfl rfl rfl rfl rfl rfl ?_
          refine okl_nil ?_
          change OkC Try.prog _ _ _ _ _ _ _
          refine okc_weak (l' := [(0, _), (1, _), (2, _), (4, _), (5, _), (6, _), (7, _), (8, _), (13, _), (15, _), (16, _), (17, _), (18, _), (23, _), (24, _), (25, _), (26, _), (51, _)]) ⟨rfl, rfl, rfl, rfl, rfl, rfl, rfl, rfl, rfl, rfl, rfl, rfl, rfl, rfl, rfl, rfl, rfl, rfl, trivial⟩ ?_
          refine okc_cond_t rfl ?_
          refine okc_seq ?_
          refine okc_region ?_
          refine s_build rfl rfl rfl rfl rfl rfl rfl rfl rfl ?_
          refine k_storeW 0 rfl rfl rfl rfl rfl rfl rfl rfl rfl rfl rfl rfl ?_
          refine s_assign rfl rfl rfl rfl rfl rfl ?_
          refine okl_nil ?_
          change OkC Try.prog _ _ _ _ _ _ _
          refine okc_weak (l' := [(0, _), (1, _), (2, _), (4, _), (5, _), (6, _), (7, _), (8, _), (13, _), (15, _), (16, _), (17, _), (18, _), (23, _), (24, _), (25, _), (26, _), (51, _)]) ⟨rfl, rfl, rfl, rfl, rfl, rfl, rfl, rfl, rfl, rfl, rfl, rfl, rfl, rfl, rfl, rfl, rfl, rfl, trivial⟩ ?_
          refine okc_ret fun a w hs => ?_
          have hno : stOk (numsS s) 0 ns = false := by first | assumption | (rw [hb2]; have hm : decide (n ∈ numsS s) = false := hbj.symm; simp [hm])
          have he : stE s ns = 12 := by simp [stE, hv, hno]
          have hr : stR s ns = zS := by simp [stR, he]
          exact ret_postS hs (run_results2 hs rfl (k_ragg 0 rfl rfl rfl rfl rfl) (rv_tmp rfl)) zG (by rw [hr, he]; rfl) (by rw [hr]; exact zOk) (List.nil_sublist _)
      · refine okc_seq ?_
        refine okc_region ?_
        refine s_cmpS rfl rfl rfl rfl rfl rfl rfl rfl (fun h8 => ?_) (fun h8 => ?_)
        · have hlt2 : j < s.reads.length := by simpa using h8
          obtain ⟨x, hx⟩ : ∃ x, s.reads[j]? = some x := ⟨s.reads[j], by simp [hlt2]⟩
          obtain ⟨hpR, hjR, hatR⟩ := hR (by intro e; simp [e] at hlt2)
          have hcellR := hatR j x hx
          refine okl_nil ?_
          change OkC Try.prog _ _ _ _ _ _ _
          refine okc_weak (l' := [(0, _), (1, _), (2, _), (4, _), (5, _), (6, _), (7, _), (8, _), (13, _), (15, _), (16, _), (17, _), (18, _), (23, _), (24, _), (25, _), (26, _)]) ⟨rfl, rfl, rfl, rfl, rfl, rfl, rfl, rfl, rfl, rfl, rfl, rfl, rfl, rfl, rfl, rfl, rfl, trivial⟩ ?_
          refine okc_seq ?_
          refine okc_cond_t rfl ?_
          refine okc_skip ?_
          change OkC Try.prog _ _ _ _ _ _ _
          refine okc_weak (l' := [(0, _), (1, _), (2, _), (4, _), (5, _), (6, _), (7, _), (8, _), (13, _), (15, _), (16, _), (17, _), (18, _), (23, _), (24, _), (25, _), (26, _)]) ⟨rfl, rfl, rfl, rfl, rfl, rfl, rfl, rfl, rfl, rfl, rfl, rfl, rfl, rfl, rfl, rfl, rfl, trivial⟩ ?_
          refine okc_seq ?_
          refine okc_block ?_
          refine okc_seq ?_
          refine okc_region ?_
          refine s_indexP j hpR rfl rfl rfl rfl rfl rfl rfl rfl rfl rfl (by omega) rfl ?_
          refine s_loadAP jR rfl rfl rfl rfl rfl rfl rfl hjR rfl (by assumption) rfl ?_
          refine s_alloc rfl rfl rfl rfl rfl rfl (fun b9 => ?_)
          refine k_storeW 0 rfl rfl rfl rfl rfl rfl rfl rfl rfl rfl rfl rfl ?_
          refine okl_nil ?_
          change OkC Try.prog _ _ _ _ _ _ _
          refine okc_weak (l' := [(0, _), (1, _), (2, _), (4, _), (5, _), (6, _), (7, _), (8, _), (10, _), (13, _), (15, _), (16, _), (17, _), (18, _), (23, _), (24, _), (25, _), (26, _)]) ⟨rfl, rfl, rfl, rfl, rfl, rfl, rfl, rfl, rfl, rfl, rfl, rfl, rfl, rfl, rfl, rfl, rfl, rfl, trivial⟩ ?_
          refine okc_region ?_
          refine s_move rfl rfl rfl rfl rfl rfl ?_
          refine s_move rfl rfl rfl rfl rfl rfl ?_
          refine okl_skip rfl rfl rfl rfl ?_
          refine okl_skip rfl rfl rfl rfl ?_
          refine okl_skip rfl rfl rfl rfl ?_
          refine okl_skip rfl rfl rfl rfl ?_
          refine s_pick_t rfl rfl rfl rfl rfl rfl rfl ?_
          refine s_assign rfl rfl rfl rfl rfl rfl ?_
          refine okl_nil ?_
          change OkC Try.prog _ _ _ _ _ _ _
          refine okc_weak (l' := [(0, _), (1, _), (2, _), (4, _), (5, _), (6, _), (7, _), (8, _), (10, _), (13, _), (15, _), (16, _), (17, _), (18, _), (23, _), (24, _), (25, _), (26, _)]) ⟨rfl, rfl, rfl, rfl, rfl, rfl, rfl, rfl, rfl, rfl, rfl, rfl, rfl, rfl, rfl, rfl, rfl, rfl, trivial⟩ ?_
          refine okc_region ?_
          refine s_add rfl rfl rfl rfl rfl rfl rfl (by omega) ?_
          refine s_move rfl rfl rfl rfl rfl rfl ?_
          refine okl_nil ?_
          refine fun a w hs => ⟨(j + 1, true), ⟨by show j + 1 ≤ _; omega, by show _ = decide _; rw [take_num hx]; simp_all⟩, by show _ - (j + 1) < _ - j; omega, ?_⟩
          exact hs.weak ⟨rfl, rfl, rfl, rfl, rfl, rfl, rfl, rfl, rfl, rfl, rfl, rfl, rfl, rfl, rfl, rfl, trivial⟩ [1, 2] (by decide) (rfl)
        · have hge3 : ¬ j < s.reads.length := by simpa using h8
          obtain rfl : j = s.reads.length := by omega
          rw [List.take_length] at hbj
          refine okl_nil ?_
          change OkC Try.prog _ _ _ _ _ _ _
          refine okc_weak (l' := [(0, _), (1, _), (2, _), (4, _), (5, _), (6, _), (7, _), (8, _), (13, _), (15, _), (16, _), (17, _), (18, _), (23, _), (24, _), (25, _), (26, _)]) ⟨rfl, rfl, rfl, rfl, rfl, rfl, rfl, rfl, rfl, rfl, rfl, rfl, rfl, rfl, rfl, rfl, rfl, trivial⟩ ?_
          refine okc_seq ?_
          refine okc_cond_f rfl ?_
          refine okc_exit ?_
          change OkC Try.prog _ _ _ _ _ _ _
          refine okc_weak (l' := [(0, _), (1, _), (2, _), (4, _), (5, _), (6, _), (7, _), (8, _), (13, _), (15, _), (16, _), (17, _), (18, _), (23, _), (24, _), (25, _), (26, _)]) ⟨rfl, rfl, rfl, rfl, rfl, rfl, rfl, rfl, rfl, rfl, rfl, rfl, rfl, rfl, rfl, rfl, rfl, trivial⟩ ?_
          refine okc_seq ?_
          refine okc_region ?_
          refine s_move rfl rfl rfl rfl rfl rfl ?_
          refine s_not rfl rfl rfl rfl rfl rfl ?_
          refine s_move rfl rfl rfl rfl rfl rfl ?_
          refine s_move rfl rfl rfl rfl rfl rfl ?_
          refine s_cmpS rfl rfl rfl rfl rfl rfl rfl rfl (fun h10 => ?_) (fun h10 => ?_)
          · have hk0 : 0 < k := by simpa using h10
            obtain ⟨k1, hk1⟩ : ∃ k1, k = k1 + 1 := ⟨k - 1, by omega⟩
            obtain ⟨m, hm⟩ : ∃ m, ns[k1]? = some m := ⟨ns[k1], by simp⟩
            have hcell2 := hatN k1 m hm
            have hbm : befS ns k = m := by rw [hk1]; simp [befS, hm]
            refine s_move rfl rfl rfl rfl rfl rfl ?_
            refine s_move rfl rfl rfl rfl rfl rfl ?_
            refine s_move rfl rfl rfl rfl rfl rfl ?_
            refine s_sub rfl rfl rfl rfl rfl rfl rfl (by omega) ?_
            refine s_indexP k1 hpN rfl rfl rfl rfl rfl rfl rfl rfl rfl (by omega) (by omega) rfl ?_
            refine s_loadA1 jN rfl rfl rfl rfl rfl rfl rfl hjN (by assumption) ?_
            refine s_move rfl rfl rfl rfl rfl rfl ?_
            refine s_cmpS rfl rfl rfl rfl rfl rfl rfl rfl (fun h11 => ?_) (fun h11 => ?_)
            · have hge2 : n ≤ m := by simpa using h11
              have hno : stOk (numsS s) 0 ns = false := by rw [hb2, hbm]; simp; omega
              refine s_pick_t rfl rfl rfl rfl rfl rfl rfl ?_
              refine s_pick_f rfl rfl rfl rfl rfl rfl rfl ?_
              refine okl_nil ?_
              change OkC Try.prog _ _ _ _ _ _ _
              refine okc_weak (l' := [(0, _), (1, _), (2, _), (4, _), (5, _), (6, _), (7, _), (8, _), (13, _), (15, _), (16, _), (17, _), (18, _), (23, _), (24, _), (25, _), (26, _), (51, _)]) ⟨rfl, rfl, rfl, rfl, rfl, rfl, rfl, rfl, rfl, rfl, rfl, rfl, rfl, rfl, rfl, rfl, rfl, rfl, trivial⟩ ?_
              refine okc_cond_t rfl ?_
              refine okc_seq ?_
              refine okc_region ?_
              refine s_build rfl rfl rfl rfl rfl rfl rfl rfl rfl ?_
              refine k_storeW 0 rfl rfl rfl rfl rfl rfl rfl rfl rfl rfl rfl rfl ?_
              refine s_assign rfl rfl rfl rfl rfl rfl ?_
              refine okl_nil ?_
              change OkC Try.prog _ _ _ _ _ _ _
              refine okc_weak (l' := [(0, _), (1, _), (2, _), (4, _), (5, _), (6, _), (7, _), (8, _), (13, _), (15, _), (16, _), (17, _), (18, _), (23, _), (24, _), (25, _), (26, _), (51, _)]) ⟨rfl, rfl, rfl, rfl, rfl, rfl, rfl, rfl, rfl, rfl, rfl, rfl, rfl, rfl, rfl, rfl, rfl, rfl, trivial⟩ ?_
              refine okc_ret fun a w hs => ?_
              have hno : stOk (numsS s) 0 ns = false := by first | assumption | (rw [hb2]; have hm : decide (n ∈ numsS s) = false := hbj.symm; simp [hm])
              have he : stE s ns = 12 := by simp [stE, hv, hno]
              have hr : stR s ns = zS := by simp [stR, he]
              exact ret_postS hs (run_results2 hs rfl (k_ragg 0 rfl rfl rfl rfl rfl) (rv_tmp rfl)) zG (by rw [hr, he]; rfl) (by rw [hr]; exact zOk) (List.nil_sublist _)
            · have hge2 : ¬ n ≤ m := by simpa using h11
              have hlow : befS ns k < n := by omega
              refine s_pick_t rfl rfl rfl rfl rfl rfl rfl ?_
              refine s_pick_f rfl rfl rfl rfl rfl rfl rfl ?_
              refine okl_nil ?_
              change OkC Try.prog _ _ _ _ _ _ _
              refine okc_weak (l' := [(0, _), (1, _), (2, _), (4, _), (5, _), (6, _), (7, _), (8, _), (13, _), (15, _), (16, _), (17, _), (18, _), (23, _), (24, _), (25, _), (26, _), (51, _)]) ⟨rfl, rfl, rfl, rfl, rfl, rfl, rfl, rfl, rfl, rfl, rfl, rfl, rfl, rfl, rfl, rfl, rfl, rfl, trivial⟩ ?_
              refine okc_cond_f rfl ?_
              refine okc_skip ?_
              change OkC Try.prog _ _ _ _ _ _ _
              refine okc_weak (l' := [(0, _), (1, _), (2, _), (4, _), (5, _), (6, _), (7, _), (8, _), (13, _), (15, _), (16, _), (17, _), (18, _), (23, _), (24, _), (25, _), (26, _), (51, _)]) ⟨rfl, rfl, rfl, rfl, rfl, rfl, rfl, rfl, rfl, rfl, rfl, rfl, rfl, rfl, rfl, rfl, rfl, rfl, trivial⟩ ?_
              refine okc_region ?_
              refine s_add rfl rfl rfl rfl rfl rfl rfl (by omega) ?_
              refine s_move rfl rfl rfl rfl rfl rfl ?_
              refine okl_nil ?_
              refine fun a w hs => ⟨k + 1, ⟨hlt, by rw [hb2, show befS ns (k + 1) = n by simp [befS, hn]]; have hmem : n ∈ numsS s := of_decide_eq_true hbj.symm; simp [hmem, hlow]⟩, by omega, ?_⟩
              exact hs.weak ⟨rfl, rfl, rfl, rfl, rfl, rfl, rfl, rfl, rfl, trivial⟩ [0, 1] (by decide) (rfl)
          · have hk0 : ¬ 0 < k := by simpa using h10
            have hlow : befS ns k < n := by rw [show k = 0 by omega]; exact num_pos hs0 (of_decide_eq_true hbj.symm)
            refine s_move rfl rfl rfl rfl rfl rfl ?_
            refine okl_skip rfl rfl rfl rfl ?_
            refine okl_skip rfl rfl rfl rfl ?_
            refine okl_skip rfl rfl rfl rfl ?_
            refine okl_skip rfl rfl rfl rfl ?_
            refine okl_skip rfl rfl rfl rfl ?_
            refine okl_skip rfl rfl rfl rfl ?_
            refine okl_skip rfl rfl rfl rfl ?_
            refine s_pick_f rfl rfl rfl rfl rfl rfl rfl ?_
            refine s_pick_f rfl rfl rfl rfl rfl rfl rfl ?_
            refine okl_nil ?_
            change OkC Try.prog _ _ _ _ _ _ _
            refine okc_weak (l' := [(0, _), (1, _), (2, _), (4, _), (5, _), (6, _), (7, _), (8, _), (13, _), (15, _), (16, _), (17, _), (18, _), (23, _), (24, _), (25, _), (26, _), (51, _)]) ⟨rfl, rfl, rfl, rfl, rfl, rfl, rfl, rfl, rfl, rfl, rfl, rfl, rfl, rfl, rfl, rfl, rfl, rfl, trivial⟩ ?_
            refine okc_cond_f rfl ?_
            refine okc_skip ?_
            change OkC Try.prog _ _ _ _ _ _ _
            refine okc_weak (l' := [(0, _), (1, _), (2, _), (4, _), (5, _), (6, _), (7, _), (8, _), (13, _), (15, _), (16, _), (17, _), (18, _), (23, _), (24, _), (25, _), (26, _), (51, _)]) ⟨rfl, rfl, rfl, rfl, rfl, rfl, rfl, rfl, rfl, rfl, rfl, rfl, rfl, rfl, rfl, rfl, rfl, rfl, trivial⟩ ?_
            refine okc_region ?_
            refine s_add rfl rfl rfl rfl rfl rfl rfl (by omega) ?_
            refine s_move rfl rfl rfl rfl rfl rfl ?_
            refine okl_nil ?_
            refine fun a w hs => ⟨k + 1, ⟨hlt, by rw [hb2, show befS ns (k + 1) = n by simp [befS, hn]]; have hmem : n ∈ numsS s := of_decide_eq_true hbj.symm; simp [hmem, hlow]⟩, by omega, ?_⟩
            exact hs.weak ⟨rfl, rfl, rfl, rfl, rfl, rfl, rfl, rfl, rfl, trivial⟩ [0, 1] (by decide) (rfl)
    · have hge : ¬ k < ns.length := by simpa using h4
      have hok : stOk (numsS s) 0 ns = true := by rw [hb2, List.drop_eq_nil_of_le (by omega)]; rfl
      refine okl_nil ?_
      change OkC Try.prog _ _ _ _ _ _ _
      refine okc_weak (l' := [(0, _), (1, _), (2, _), (4, _), (5, _), (13, _), (15, _), (16, _), (17, _), (18, _)]) ⟨rfl, rfl, rfl, rfl, rfl, rfl, rfl, rfl, rfl, rfl, trivial⟩ ?_
      refine okc_seq ?_
      refine okc_cond_f rfl ?_
      refine okc_exit ?_
      change OkC Try.prog _ _ _ _ _ _ _
      refine okc_weak (l' := [(0, _), (1, _), (2, _), (4, _), (5, _), (13, _), (15, _), (16, _), (17, _), (18, _)]) ⟨rfl, rfl, rfl, rfl, rfl, rfl, rfl, rfl, rfl, rfl, trivial⟩ ?_
      refine okc_seq ?_
      refine okc_region ?_
      refine s_loadW 1 rfl rfl rfl rfl rfl rfl rfl rfl rfl rfl ?_
      refine s_move rfl rfl rfl rfl rfl rfl ?_
      refine okl_rE rfl rfl rfl rfl (op_call rfl rfl rfl c94 (rWithout_fn s M hin hgr ns pn cn hns) covers_all) (fun g hg => ?_)
      refine k_storeW 0 rfl rfl rfl rfl rfl rfl rfl rfl rfl rfl rfl rfl ?_
      refine s_assign rfl rfl rfl rfl rfl rfl ?_
      refine okl_nil ?_
      change OkC Try.prog _ _ _ _ _ _ _
      refine okc_weak (l' := [(0, _), (1, _), (2, _), (4, _), (5, _), (13, _), (15, _), (16, _), (17, _), (18, _)]) ⟨rfl, rfl, rfl, rfl, rfl, rfl, rfl, rfl, rfl, rfl, trivial⟩ ?_
      refine okc_ret fun a w hs => ?_
      have he : stE s ns = 0 := by simp [stE, hv, hok]
      have hr : stR s ns = wtS s ns := by simp [stR, he]
      exact ret_postS hs (run_results2 hs rfl (k_ragg 0 rfl rfl rfl rfl rfl) (rv_tmp rfl)) g (by rw [hr, he]) (by rw [hr]; exact hg) (sub_drop 2 rfl)
  · have hv : validB s = false := h3
    refine s_not rfl rfl rfl rfl rfl rfl ?_
    refine okl_nil ?_
    change OkC Try.prog _ _ _ _ _ _ _
    refine okc_weak (l' := [(0, _), (1, _), (2, _), (4, _), (5, _), (13, _)]) ⟨rfl, rfl, rfl, rfl, rfl, rfl, trivial⟩ ?_
    refine okc_cond_t rfl ?_
    refine okc_seq ?_
    refine okc_region ?_
    refine s_build rfl rfl rfl rfl rfl rfl rfl rfl rfl ?_
    refine k_storeW 0 rfl rfl rfl rfl rfl rfl rfl rfl rfl rfl rfl rfl ?_
    refine s_assign rfl rfl rfl rfl rfl rfl ?_
    refine okl_nil ?_
    change OkC Try.prog _ _ _ _ _ _ _
    refine okc_weak (l' := [(0, _), (1, _), (2, _), (4, _), (5, _), (13, _)]) ⟨rfl, rfl, rfl, rfl, rfl, rfl, trivial⟩ ?_
    refine okc_ret fun a w hs => ?_
    have he : stE s ns = 10 := by simp [stE, hv]
    have hr : stR s ns = zS := by simp [stR, he]
    exact ret_postS hs (run_results2 hs rfl (k_ragg 0 rfl rfl rfl rfl rfl) (rv_tmp rfl)) zG (by rw [hr, he]; rfl) (by rw [hr]; exact zOk) (List.nil_sublist _)
end Go.Proofs.Ytdpnadknaacinaa
end

section
namespace Go.Sx
open Go.RowKit
set_option linter.unusedVariables false
section
variable {P : Program} {N : Cx} {w0 : World} {l : Env} {O : Blks} {A : Args} {o : Oper} {ops : Array Oper} {Q : Exit → Act → World → Prop} {is : List Nat} {i d : Nat}

theorem op_cap {T : Nat} {x : Operand} {p : Option Addr} {n c e : Nat} (ho : o.op = .call { callee := .builtin .cap, args := #[x], argTypes := #[T] }) (hx : ev l x = some (.slice p n c)) (hT : P.underlying T = some (.slice e)) :
    OpV P N w0 l O A o (pv (.int .i64 c)) :=
  opv_run fun a w hs => by
    simp [execOp, ho, resolve, hs.eval hx, invoke, builtin, Builtin.cap_, run_underlying hT, goInt]

/-- A copy into an own block. -/
theorem okl_copy {t t' e size dn dc sn sc b off bx ox j : Nat} {x y : Operand} {cs vs : List Value} {T : TypeId} (ho : ops[i]? = some o) (hg : wantsB ops l o = some true) (hd : o.dst = some d) (hN : Nat.blt d N.n = true)
    (hop : o.op = .call { callee := .builtin .copy, args := #[x, y], argTypes := #[t, t'] }) (hx : ev l x = some (.slice (some ⟨b, off, none⟩) dn dc)) (hy : ev l y = some (.slice (some ⟨bx, ox, none⟩) sn sc)) (hT : P.underlying t = some (.slice e)) (hsz : sizeB P e = some size)
    (hl : Lies O A bx ox vs) (hvl : vs.length = Nat.min sn dn * size) (h1 : flat vs = true) (hj : O[j]? = some (b, cs, T)) (hfit : off + vs.length ≤ cs.length)
    (rest : OkL P N w0 ops Q is ((d, .int .i64 ((Nat.min sn dn : Nat) : Int)) :: l) (O.set j (b, setL cs off vs, T)) A) : OkL P N w0 ops Q (i :: is) l O A := by
  intro a w hs
  simp only [wpOpsIn, ho, wanted_of hs hg, if_true]
  have hst := run_storeCells (P := P) (off := off) (vs := vs) (hs.own j b cs T hj).1 hfit h1
  have hld : (loadCells ⟨bx, ox, none⟩ (Nat.min sn dn * size)).run P w = .ok vs.toArray w := by
    rw [← hvl]; exact run_loadCells_list (P := P) w ⟨bx, ox, none⟩ vs (hl.cell hs)
  have hrun : (execOp a.eval o).run P w = .ok (.value (.int .i64 ((Nat.min sn dn : Nat) : Int))) (w.setRow b (setL cs off vs).toArray) := by
    simp [execOp, hop, resolve, hs.eval hx, hs.eval hy, invoke, builtin, Builtin.copy_, run_underlying hT, run_sizeOf hsz, Builtin.lenOf, Builtin.firstCells, hld, hst, goInt]
  refine opIn_of (fun c h => by rw [hop] at h; cases h) ?_
  rw [hrun, hd]
  exact rest _ _ ((hs.setRow j b cs _ T hj).put hN _)

/-- append(s, make(.., k)...) where s has no room: a new block. -/
theorem op_growZeros {s x : Operand} {t tn e size n cp k b off : Nat} {kn : IntKind} {olds zs : List Value} (hop : o.op = .call { callee := .builtin .append, args := #[s, x], argTypes := #[t, tn] })
    (hs : ev l s = some (.slice (some ⟨b, off, none⟩) n cp)) (hx : ev l x = some (.int .i64 (k : Int))) (hT : P.underlying t = some (.slice e)) (htn : P.underlying tn = some (.int kn)) (hsz : sizeB P e = some size) (hzr : zeroB P e = some zs) (hzl : zs.length = size) (hpos : 0 < size)
    (hl : Lies O A b off olds) (hol : olds.length = n * size) (h0 : 0 < k) (hgr : cp < n + k) (hlen : n + k ≤ 100000000000) (hby : ∃ i, P.info? e = some i ∧ i.bytes ≤ 1000) :
    OpV P N w0 l O A o (Res (fun g : Nat × Nat => .slice (some ⟨g.1, 0, none⟩) (n + k) g.2) (fun g => [(g.1, olds ++ (zerosL zs k ++ zerosL zs (g.2 - (n + k))), e)]) (fun g => n + k ≤ g.2 ∧ g.2 ≤ maxLen)) := by
  intro a w hst K Q hK
  obtain ⟨info, z, hi, hz, hisz, hzc⟩ := info_of_siz hsz hzr
  obtain ⟨info', hi', hb⟩ := hby
  obtain rfl : info = info' := Option.some.inj (hi.symm.trans hi')
  have hbytes : (n + k) * info.bytes ≤ 140737488355328 := by
    have h2 : (n + k) * info.bytes ≤ 100000000000 * 1000 := Nat.mul_le_mul hlen hb
    omega
  have hk48 : k * info.bytes ≤ 281474976710656 := by
    have h2 : k * info.bytes ≤ (n + k) * info.bytes := Nat.mul_le_mul_right _ (by omega)
    omega
  have hcell := hl.cell hst
  have hld : ∀ w', (∀ a, w'.cell? a = w.cell? a) → (loadCells ⟨b, off, none⟩ (n * size)).run P w' = .ok olds.toArray w' := fun w' hc => by
    rw [← hol]; exact run_loadCells_list (P := P) w' ⟨b, off, none⟩ olds (fun j u hj => by rw [hc]; exact hcell j u hj)
  have hzs : z.cells.size = size := by rw [← Array.length_toList, hzc, hzl]
  have hr := Lib.run_append_grow_zeros (P := P) w t tn o.type e info z .i64 kn hT htn hi hz (some ⟨b, off, none⟩) n cp olds
    (by rw [hisz]; exact hld w.drew (fun _ => rfl)) k h0 (by omega) hgr (by omega) hk48 (growslice_fits hgr hbytes)
  have hrun : (execOp a.eval o).run P w = .ok (.value (.slice (some ⟨w.heap.size, 0, none⟩) (n + k) (grownCap w (n + k) cp e)))
        (w.drew.alloc (.cells (olds.toArray ++ Builtin.zeroCells z.cells k ++ Builtin.zeroCells z.cells (grownCap w (n + k) cp e - (n + k))) e)) := by
    simp [execOp, hop, resolve, hst.eval hs, hst.eval hx, invoke, builtin, hr]
  refine opIn_of (fun c h => by rw [hop] at h; cases h) ?_
  rw [hrun]
  have hb1 : Below w.heap.size w (w.drew.alloc (.cells (olds.toArray ++ Builtin.zeroCells z.cells k ++ Builtin.zeroCells z.cells (grownCap w (n + k) cp e - (n + k))) e)) := (Below.refl _ _).drew.alloc (Nat.le_refl _) _
  refine hK _ _ hb1 ⟨(w.heap.size, grownCap w (n + k) cp e), rfl, ⟨grownCap_ge .., grownCap_le_maxLen _ _ _ _ (by unfold maxLen; omega)⟩, ?_, by simp⟩
  intro b' cs' T' hm
  simp only [List.mem_singleton, Prod.mk.injEq] at hm
  obtain ⟨hm1, hm2, hm3⟩ := hm
  rw [hm1, hm2, hm3]
  refine ⟨?_, Nat.le_refl _⟩
  have hnew : holds (w.drew.alloc (.cells (olds.toArray ++ Builtin.zeroCells z.cells k ++ Builtin.zeroCells z.cells (grownCap w (n + k) cp e - (n + k))) e)) w.heap.size (olds ++ (zerosL zs k ++ zerosL zs (grownCap w (n + k) cp e - (n + k)))) e := by
    have e1 : (olds ++ (zerosL zs k ++ zerosL zs (grownCap w (n + k) cp e - (n + k)))).toArray = olds.toArray ++ Builtin.zeroCells z.cells k ++ Builtin.zeroCells z.cells (grownCap w (n + k) cp e - (n + k)) := by
      apply Array.ext'
      have c1 := zeroCells_eq z.cells (by omega) k
      have c2 := zeroCells_eq z.cells (by omega) (grownCap w (n + k) cp e - (n + k))
      rw [hzc] at c1 c2
      simp [c1, c2]
    unfold holds
    rw [e1]
    exact World.alloc_heap_new w.drew _
  exact hnew

/-- A copy as an operation of a region that draws. -/
theorem opx_copy {t t' e size dn dc sn sc b off bx ox : Nat} {x y : Operand} {keep : Blks} {cs vs : List Value} {T : TypeId}
    (hop : o.op = .call { callee := .builtin .copy, args := #[x, y], argTypes := #[t, t'] }) (hx : ev l x = some (.slice (some ⟨b, off, none⟩) dn dc)) (hy : ev l y = some (.slice (some ⟨bx, ox, none⟩) sn sc)) (hT : P.underlying t = some (.slice e)) (hsz : sizeB P e = some size)
    (hl : Lies ([(b, cs, T)] ++ keep) A bx ox vs) (hvl : vs.length = Nat.min sn dn * size) (h1 : flat vs = true) (hfit : off + vs.length ≤ cs.length) :
    OpX P N w0 l [(b, cs, T)] keep A o (fun v B => v = .int .i64 ((Nat.min sn dn : Nat) : Int) ∧ B = [(b, setL cs off vs, T)]) := by
  intro F a w hs K Q hK
  have hj : (F ++ ([(b, cs, T)] ++ keep))[F.length]? = some (b, cs, T) := by simp
  have hst := run_storeCells (P := P) (off := off) (vs := vs) (hs.own F.length b cs T hj).1 hfit h1
  have hl' : Lies (F ++ ([(b, cs, T)] ++ keep)) A bx ox vs := by
    obtain ⟨cs', hc, hh⟩ := hl
    refine ⟨cs', ?_, hh⟩
    rcases hc with ⟨T', hc⟩ | hc
    · exact .inl ⟨T', List.mem_append_right _ hc⟩
    · exact .inr hc
  have hld : (loadCells ⟨bx, ox, none⟩ (Nat.min sn dn * size)).run P w = .ok vs.toArray w := by
    rw [← hvl]; exact run_loadCells_list (P := P) w ⟨bx, ox, none⟩ vs (hl'.cell hs)
  have hrun : (execOp a.eval o).run P w = .ok (.value (.int .i64 ((Nat.min sn dn : Nat) : Int))) (w.setRow b (setL cs off vs).toArray) := by
    simp [execOp, hop, resolve, hs.eval hx, hs.eval hy, invoke, builtin, Builtin.copy_, run_underlying hT, run_sizeOf hsz, Builtin.lenOf, Builtin.firstCells, hld, hst, goInt]
  refine opIn_of (fun c h => by rw [hop] at h; cases h) ?_
  rw [hrun]
  refine hK _ _ _ ⟨rfl, rfl⟩ ?_
  have h := hs.setRow F.length b cs (setL cs off vs) T hj
  have he : (F ++ ([(b, cs, T)] ++ keep)).set F.length (b, setL cs off vs, T) = F ++ ([(b, setL cs off vs, T)] ++ keep) := by simp
  rw [he] at h
  exact h

theorem op_sliceLoAt {T e n c i size b : Nat} {x lo : Operand} {q : Int} (ho : o.op = .slice T x (some lo) none none) (hx : ev l x = some (.slice (some ⟨b, 0, none⟩) n c)) (hlo : ev l lo = some (.int .i64 q)) (hT : P.underlying T = some (.slice e)) (hs : sizeB P e = some size)
    (hq : q = (i : Int)) (hi : i ≤ n) (hc : i < c) : OpV P N w0 l O A o (pv (.slice (some ⟨b, i * size, none⟩) (n - i) (c - i))) := by
  rw [← cutA_at (size := size) (b := b) hc]; exact op_sliceLo ho hx hlo hT hs hq hi
end
end Go.Sx
end

section
namespace Go.Proofs.Ytdpnadknaacinaa
open Go.Sx Go.Proofs.Ytdpnadknaacinaa.Ty
set_option linter.unusedVariables false

set_option maxRecDepth 100000 in
theorem op_overlaps {N : Cx} {w0 : World} {l : Env} {O : Blks} {A : Args} {o : Oper} {x y : Operand} {b bx off ox la ca lb cb : Nat} {cs1 cs2 : List Value} {T1 T2 : TypeId} {ts : Array TypeId}
    (ho : o.op = .call { callee := .value (.func 122), args := #[x, y], argTypes := ts }) (hx : ev l x = some (.slice (some ⟨bx, ox, none⟩) la ca)) (hy : ev l y = some (.slice (some ⟨b, off, none⟩) lb cb))
    (h1 : (bx, cs1, T1) ∈ O) (h2 : (b, cs2, T2) ∈ O) (hne : bx ≠ b) (hk : cs2.length ≠ 0) : OpV Try.prog N w0 l O A o (pv (.bool false)) :=
  opv_run fun a w hs => by
    have g1 : w.heap[bx]? = some (.cells cs1.toArray T1 (0, 0)) := (hs.ws.own bx cs1 T1 h1).1
    have g2 : w.heap[b]? = some (.cells cs2.toArray T2 (0, 0)) := (hs.ws.own b cs2 T2 h2).1
    have hov := Lib.run_overlaps_apart (P := Try.prog) w 25 4 69 Try.underlying25 5 (fun w => Go.Sx.run_sizeOf (siz_of rfl : sizeB Try.prog 69 = some 5) w) ⟨bx, ox, none⟩ ⟨b, off, none⟩ la ca lb cb hne T1 T2 cs1.length cs2.length
      (by simp [World.shape?, g1]) (by simp [World.shape?, g2]) hk (by simp [World.frozen?, g1]) (by simp [World.frozen?, g1])
    have hc : (callFunc 122 #[.slice (some ⟨bx, ox, none⟩) la ca, .slice (some ⟨b, off, none⟩) lb cb]).run Try.prog w = .ok (.value (.bool false)) w := by
      rw [run_callFunc_extern Try.func122 (by kernel_rfl) (by kernel_rfl) (by kernel_rfl) (e := Extern.SlicesOverlaps.overlaps #[25, 25] #[4]) (by kernel_rfl), hov]
      rfl
    simp [execOp, ho, resolve, hs.eval hx, hs.eval hy, hs.eval (show ev l (.func 122) = some (.func (.func 122) #[] #[]) from rfl), Deferred.ofValue, invoke, hc]
end Go.Proofs.Ytdpnadknaacinaa
end

section
namespace Go.Proofs.Ytdpnadknaacinaa
open Go.Sx Go.Proofs.Ytdpnadknaacinaa.Ty
set_option linter.unusedVariables false
set_option linter.unusedSimpArgs false
set_option maxHeartbeats 2000000


def insL (L : List Rd) (i : Nat) (x : Rd) : List Rd := L.take i ++ x :: L.drop i
theorem insL_len {L : List Rd} {i : Nat} (x : Rd) (h : i ≤ L.length) : (insL L i x).length = L.length + 1 := by simp [insL]; omega
theorem rdsC_app (L L' : List Rd) : rdsC (L ++ L') = rdsC L ++ rdsC L' := by simp [rdsC]
theorem rdsC_take (L : List Rd) (i : Nat) (h : i ≤ L.length) : rdsC (L.take i) = (rdsC L).take (i * 5) := by
  have e := rdsC_app (L.take i) (L.drop i)
  rw [List.take_append_drop] at e
  have hl : (rdsC (L.take i)).length = i * 5 := by rw [rdsC_len]; simp; omega
  rw [e, List.take_left' hl]
theorem rdsC_drop (L : List Rd) (i : Nat) (h : i ≤ L.length) : rdsC (L.drop i) = (rdsC L).drop (i * 5) := by
  have e := rdsC_app (L.take i) (L.drop i)
  rw [List.take_append_drop] at e
  have hl : (rdsC (L.take i)).length = i * 5 := by rw [rdsC_len]; simp; omega
  rw [e, List.drop_left' hl]
theorem ins_rest {cs : List Value} {L : List Rd} {i : Nat} (h : i ≤ L.length) (ht : cs.take (L.length * 5) = rdsC L) : sub cs (i * 5) ((L.length - i) * 5) = rdsC (L.drop i) := by
  rw [rdsC_drop L i h, ← ht, List.drop_take]
  unfold sub
  congr 1; omega
theorem ins_head {cs : List Value} {L : List Rd} {i : Nat} (h : i ≤ L.length) (ht : cs.take (L.length * 5) = rdsC L) : cs.take (i * 5) = rdsC (L.take i) := by
  rw [rdsC_take L i h, ← ht, List.take_take, Nat.min_eq_left (by omega)]
theorem take_setL {g vs : List Value} {a b : Nat} (h : a + vs.length ≤ g.length) (hb : b = a + vs.length) : (setL g a vs).take b = g.take a ++ vs := by
  rw [setL_eq vs a g h]
  exact List.take_left' (by simp; omega)
theorem take_set2 {g vs ws : List Value} {a b m : Nat} (h1 : a + vs.length = b) (h2 : b + ws.length ≤ g.length) (hm : m = b + ws.length) : (setL (setL g b ws) a vs).take m = g.take a ++ (vs ++ ws) := by
  rw [setL_eq vs a _ (by rw [length_setL]; omega), setL_eq ws b g h2]
  have hb : (g.take b).length = b := by simp; omega
  have hX : g.take b ++ ws ++ g.drop (b + ws.length) = g.take b ++ (ws ++ g.drop (b + ws.length)) := List.append_assoc ..
  have hA : (g.take b ++ (ws ++ g.drop (b + ws.length))).take a = g.take a := by rw [List.take_append_of_le_length (by omega), List.take_take, Nat.min_eq_left (by omega)]
  rw [h1, hX, List.drop_left' hb, hA]
  rw [← List.append_assoc (g.take a ++ vs) ws _, List.take_left' (by simp; omega), List.append_assoc]
theorem ins_sl {F : List Value} {L : List Rd} {i b c : Nat} {x : Rd} (h : i ≤ L.length) (hc : L.length + 1 ≤ c) (hm : c ≤ maxLen) (hl : F.length = c * 5) (ht : F.take ((L.length + 1) * 5) = rdsC (L.take i) ++ (rdL x ++ rdsC (L.drop i))) : Sl [(b, F, 69)] 69 5 (some ⟨b, 0, none⟩) (L.length + 1) c (rdsC (insL L i x)) := by
  have e : rdsC (insL L i x) = rdsC (L.take i) ++ (rdL x ++ rdsC (L.drop i)) := by
    unfold insL; rw [rdsC_app]; simp [rdsC]
  refine ⟨?_, .inr ⟨b, F, rfl, rfl, hc, hm, hl, by rw [e]; exact ht⟩⟩
  rw [rdsC_len, insL_len x h]

theorem insert_mid (M : Args) (L : List Rd) (hl : L.length ≤ 1000) (i : Nat) (hi : i < L.length) (x : Rd) (g bx c : Nat) (hgx : g ≠ bx) (cs : List Value) (hc : L.length ≤ c) (hcm : c ≤ maxLen) (hcs : cs.length = c * 5) (ht : cs.take (L.length * 5) = rdsC L) : CnF Try.prog 98 [.slice (some ⟨g, 0, none⟩) L.length c, .int .i64 (i : Int), .slice (some ⟨bx, 0, none⟩) 1 1] M [] [(g, cs, 69), (bx, rdL x, 69)] (fun h : SlG => .slice h.p (L.length + 1) h.c) (fun h => h.B) (fun h => Sl h.B 69 5 h.p (L.length + 1) h.c (rdsC (insL L i x))) := by
  have hflat : flat (sub cs (i * 5) ((L.length - i) * 5)) = true := by rw [ins_rest (by omega) ht]; exact rdsC_flat _
  have hrest : (sub cs (i * 5) ((L.length - i) * 5)).length = (L.length - i) * 5 := by simp [sub]; omega
  have hcm0 := hcm
  unfold maxLen at hcm
  refine fn_introF (n := 95) Try.func98 rfl rfl rfl fun w0 => ?_
  refine okc_seq ?_
  refine okc_region ?_
  refine s_assign rfl rfl rfl rfl rfl rfl ?_
  refine okl_nil ?_
  change OkC Try.prog _ _ _ _ _ _ _
  refine okc_weak (l' := [(0, _), (1, _), (2, _), (6, _)]) ⟨rfl, rfl, rfl, rfl, trivial⟩ ?_
  refine okc_seq ?_
  refine okc_region ?_
  refine s_move rfl rfl rfl rfl rfl rfl ?_
  refine s_move rfl rfl rfl rfl rfl rfl ?_
  refine okl_v rfl rfl rfl rfl (op_sliceLo (i := i) (size := 5) rfl rfl rfl (sl_un (sl_of rfl)) (siz_of rfl) (by omega) (by omega)) ?_
  refine okl_nil ?_
  change OkC Try.prog _ _ _ _ _ _ _
  refine okc_weak (l' := [(0, _), (1, _), (2, _), (6, _)]) ⟨rfl, rfl, rfl, rfl, trivial⟩ ?_
  refine okc_seq ?_
  refine okc_region ?_
  refine s_move rfl rfl rfl rfl rfl rfl ?_
  refine s_len rfl rfl rfl rfl rfl rfl rfl ?_
  refine s_assign rfl rfl rfl rfl rfl rfl ?_
  refine okl_nil ?_
  change OkC Try.prog _ _ _ _ _ _ _
  refine okc_weak (l' := [(0, _), (1, _), (2, _), (6, _), (7, _)]) ⟨rfl, rfl, rfl, rfl, rfl, trivial⟩ ?_
  refine okc_seq ?_
  refine okc_seq ?_
  refine okc_region ?_
  refine s_move rfl rfl rfl rfl rfl rfl ?_
  refine s_cmpS rfl rfl rfl rfl rfl rfl rfl rfl (fun h1 => ?_) (fun h1 => ?_)
  · exact absurd h1 (by decide) --closed
  · refine okl_nil ?_
    change OkC Try.prog _ _ _ _ _ _ _
    refine okc_weak (l' := [(0, _), (1, _), (2, _), (6, _), (7, _), (16, _)]) ⟨rfl, rfl, rfl, rfl, rfl, rfl, trivial⟩ ?_
    refine okc_cond_f rfl ?_
    refine okc_skip ?_
    change OkC Try.prog _ _ _ _ _ _ _
    refine okc_weak (l' := [(0, _), (1, _), (2, _), (6, _), (7, _), (16, _)]) ⟨rfl, rfl, rfl, rfl, rfl, rfl, trivial⟩ ?_
    refine okc_seq ?_
    refine okc_region ?_
    refine s_move rfl rfl rfl rfl rfl rfl ?_
    refine s_len rfl rfl rfl rfl rfl rfl rfl ?_
    refine s_assign rfl rfl rfl rfl rfl rfl ?_
    refine okl_nil ?_
    change OkC Try.prog _ _ _ _ _ _ _
    refine okc_weak (l' := [(0, _), (1, _), (2, _), (6, _), (7, _), (8, _), (16, _)]) ⟨rfl, rfl, rfl, rfl, rfl, rfl, rfl, trivial⟩ ?_
    refine okc_seq ?_
    refine okc_seq ?_
    refine okc_region ?_
    refine s_move rfl rfl rfl rfl rfl rfl ?_
    refine s_move rfl rfl rfl rfl rfl rfl ?_
    refine s_cmpS rfl rfl rfl rfl rfl rfl rfl rfl (fun h2 => ?_) (fun h2 => ?_)
    · exact absurd h2 (by simp; omega) --closed
    · refine okl_nil ?_
      change OkC Try.prog _ _ _ _ _ _ _
      refine okc_weak (l' := [(0, _), (1, _), (2, _), (6, _), (7, _), (8, _), (16, _), (22, _)]) ⟨rfl, rfl, rfl, rfl, rfl, rfl, rfl, rfl, trivial⟩ ?_
      refine okc_cond_f rfl ?_
      refine okc_skip ?_
      change OkC Try.prog _ _ _ _ _ _ _
      refine okc_weak (l' := [(0, _), (1, _), (2, _), (6, _), (7, _), (8, _), (16, _), (22, _)]) ⟨rfl, rfl, rfl, rfl, rfl, rfl, rfl, rfl, trivial⟩ ?_
      refine okc_seq ?_
      refine okc_seq ?_
      refine okc_region ?_
      refine s_move rfl rfl rfl rfl rfl rfl ?_
      refine s_move rfl rfl rfl rfl rfl rfl ?_
      refine s_add rfl rfl rfl rfl rfl rfl rfl (by omega) ?_
      refine s_move rfl rfl rfl rfl rfl rfl ?_
      refine okl_v rfl rfl rfl rfl (op_cap rfl rfl (sl_un (sl_of rfl))) ?_
      refine s_cmpS rfl rfl rfl rfl rfl rfl rfl rfl (fun h3 => ?_) (fun h3 => ?_)
      · have hroom : c < L.length + 1 := by have hq := h3; simp at hq; omega
        refine okl_nil ?_
        change OkC Try.prog _ _ _ _ _ _ _
        refine okc_weak (l' := [(0, _), (1, _), (2, _), (6, _), (7, _), (8, _), (16, _), (22, _), (31, _)]) ⟨rfl, rfl, rfl, rfl, rfl, rfl, rfl, rfl, rfl, trivial⟩ ?_
        refine okc_cond_t rfl ?_
        refine okc_seq ?_
        refine okc_region ?_
        refine s_move rfl rfl rfl rfl rfl rfl ?_
        refine s_move rfl rfl rfl rfl rfl rfl ?_
        refine okl_v rfl rfl rfl rfl (op_sliceHi (i := i) rfl rfl rfl (sl_un (sl_of rfl)) (siz_of rfl) (by omega) (by omega)) ?_
        refine s_move rfl rfl rfl rfl rfl rfl ?_
        refine s_move rfl rfl rfl rfl rfl rfl ?_
        refine s_add rfl rfl rfl rfl rfl rfl rfl (by omega) ?_
        refine s_move rfl rfl rfl rfl rfl rfl ?_
        refine s_sub rfl rfl rfl rfl rfl rfl rfl (by omega) ?_
        refine okl_rE rfl rfl rfl rfl (op_growZeros (k := L.length + 1 - i) (olds := cs.take (i * 5)) rfl rfl (congrArg (fun z => some (Value.int .i64 z)) (by omega)) (sl_un (sl_of rfl)) Try.underlying3 (siz_of rfl) (zer_of rfl) rfl (by decide) (Lies.own 0 rfl rfl) (by simp; omega) (by omega) (by omega) (by omega) by69) (fun gz hgz => ?_)
        obtain ⟨g1, c1⟩ := gz
        obtain ⟨hc1, hc2⟩ := hgz
        dsimp only at hc1 hc2
        have he1 : i + (L.length + 1 - i) = L.length + 1 := by omega
        rw [he1] at hc1
        dsimp only
        rw [he1]
        generalize hD0 : cs.take (i * 5) ++ (zerosL [.int .i64 0, .int .i64 0, .int .i64 0, .int .i64 0, .int .i64 0] (L.length + 1 - i) ++ zerosL [.int .i64 0, .int .i64 0, .int .i64 0, .int .i64 0, .int .i64 0] (c1 - (L.length + 1))) = D0
        have hD0l : D0.length = c1 * 5 := by rw [← hD0]; simp [zerosL_len]; omega
        refine s_assign rfl rfl rfl rfl rfl rfl ?_
        refine okl_nil ?_
        change OkC Try.prog _ _ _ _ _ _ _
        refine okc_weak (l' := [(0, _), (1, _), (2, _), (6, _), (7, _), (8, _), (9, _), (16, _), (22, _), (31, _)]) ⟨rfl, rfl, rfl, rfl, rfl, rfl, rfl, rfl, rfl, rfl, trivial⟩ ?_
        refine okc_seq ?_
        refine okc_region ?_
        refine s_move rfl rfl rfl rfl rfl rfl ?_
        refine s_move rfl rfl rfl rfl rfl rfl ?_
        have hcut43 := cutA_at (b := g1) (c := c1) (i := i) (size := 5) (by omega)
        refine okl_v rfl rfl rfl rfl (op_sliceLo (i := i) (size := 5) rfl rfl rfl (sl_un (sl_of rfl)) (siz_of rfl) (by omega) (by omega)) ?_
        rw [hcut43]
        refine s_move rfl rfl rfl rfl rfl rfl ?_
        refine okl_copy (b := g1) (off := i * 5) (vs := rdL x) (j := 2) rfl rfl rfl rfl rfl rfl rfl (sl_un (sl_of rfl)) (siz_of rfl) (Lies.whole 1 rfl) (by rw [show Nat.min 1 _ = 1 from Nat.min_eq_left (by omega)]; rfl) rfl rfl (by show i * 5 + 5 ≤ D0.length; omega) ?_
        refine okl_nil ?_
        change OkC Try.prog _ _ _ _ _ _ _
        refine okc_weak (l' := [(0, _), (1, _), (2, _), (6, _), (7, _), (8, _), (9, _), (16, _), (22, _), (31, _)]) ⟨rfl, rfl, rfl, rfl, rfl, rfl, rfl, rfl, rfl, rfl, trivial⟩ ?_
        refine okc_seq ?_
        generalize hD : setL D0 (i * 5) (rdL x) = D
        have hDl : D.length = c1 * 5 := by rw [← hD, length_setL]; exact hD0l
        refine okc_drawx [46, 47, 48, 49, 50, 51, 52, 53, 54] [8] [⟨some 46, [], [], fun _ v B => v = .slice (some ⟨g1, 0, none⟩) (L.length + 1) c1 ∧ B = []⟩, ⟨some 47, [], [], fun _ v B => v = .int .i64 (i : Int) ∧ B = []⟩, ⟨some 48, [], [], fun _ v B => v = .int .i64 ((1 : Nat) : Int) ∧ B = []⟩, ⟨some 49, [1, 2], [], fun _ v B => v = .int .i64 ((i : Int) + ((1 : Nat) : Int)) ∧ B = []⟩, ⟨some 50, [0, 3], [], fun _ v B => v = .slice (some ⟨g1, (i + 1) * 5, none⟩) (L.length + 1 - (i + 1)) (c1 - (i + 1)) ∧ B = []⟩, ⟨some 51, [], [], fun _ v B => v = .slice (some ⟨g, 0, none⟩) (L.length) c ∧ B = []⟩, ⟨some 52, [], [], fun _ v B => v = .int .i64 (i : Int) ∧ B = []⟩, ⟨some 53, [5, 6], [], fun _ v B => v = .slice (some ⟨g, i * 5, none⟩) (L.length - i) (c - i) ∧ B = []⟩, ⟨some 54, [4, 7], [(g1, D, 69)], fun _ v B => ∃ q, v = .int .i64 q ∧ B = [(g1, setL D ((i + 1) * 5) (sub cs (i * 5) ((L.length - i) * 5)), 69)]⟩] 9 4 [(g, cs, 69), (bx, rdL x, 69)] rfl rfl rfl rfl rfl rfl rfl (List.Perm.refl _) ⟨?_, ?_, ?_, ?_, ?_, ?_, ?_, ?_, ?_, trivial⟩ (fun ρ hρ => ?_) rfl
        · refine obl_x rfl rfl rfl rfl (fun ρ hρ => ?_)
          exact .inl ⟨rfl, opx_v (fun F => op_move rfl rfl)⟩
        · refine obl_x rfl rfl rfl rfl (fun ρ hρ => ?_)
          exact .inl ⟨rfl, opx_v (fun F => op_move rfl rfl)⟩
        · refine obl_x rfl rfl rfl rfl (fun ρ hρ => ?_)
          exact .inl ⟨rfl, opx_v (fun F => op_move rfl rfl)⟩
        · refine obl_x rfl rfl rfl rfl (fun ρ hρ => ?_)
          have h1 := hρ 1 (by simp) _ rfl
          have h2 := hρ 2 (by simp) _ rfl
          change GoodX Try.prog _ _ _ _ ((47, (ρ 1).1) :: (48, (ρ 2).1) :: _) _ (((ρ 1).2 ++ ((ρ 2).2 ++ [])) ++ _) _ _
          generalize ρ 1 = q1 at h1 ⊢
          obtain ⟨v1, B1⟩ := q1
          obtain ⟨rfl, rfl⟩ := h1
          generalize ρ 2 = q2 at h2 ⊢
          obtain ⟨v2, B2⟩ := q2
          obtain ⟨rfl, rfl⟩ := h2
          exact .inl ⟨rfl, opx_v (fun F => op_add rfl rfl rfl (by omega))⟩
        · refine obl_x rfl rfl rfl rfl (fun ρ hρ => ?_)
          have h0 := hρ 0 (by simp) _ rfl
          have h3 := hρ 3 (by simp) _ rfl
          change GoodX Try.prog _ _ _ _ ((46, (ρ 0).1) :: (49, (ρ 3).1) :: _) _ (((ρ 0).2 ++ ((ρ 3).2 ++ [])) ++ _) _ _
          generalize ρ 0 = q0 at h0 ⊢
          obtain ⟨v0, B0⟩ := q0
          obtain ⟨rfl, rfl⟩ := h0
          generalize ρ 3 = q3 at h3 ⊢
          obtain ⟨v3, B3⟩ := q3
          obtain ⟨rfl, rfl⟩ := h3
          exact .inl ⟨rfl, opx_v (fun F => op_sliceLoAt (i := i + 1) rfl rfl rfl (sl_un (sl_of rfl)) (siz_of rfl) (by omega) (by omega) (by omega))⟩
        · refine obl_x rfl rfl rfl rfl (fun ρ hρ => ?_)
          exact .inl ⟨rfl, opx_v (fun F => op_move rfl rfl)⟩
        · refine obl_x rfl rfl rfl rfl (fun ρ hρ => ?_)
          exact .inl ⟨rfl, opx_v (fun F => op_move rfl rfl)⟩
        · refine obl_x rfl rfl rfl rfl (fun ρ hρ => ?_)
          have h5 := hρ 5 (by simp) _ rfl
          have h6 := hρ 6 (by simp) _ rfl
          change GoodX Try.prog _ _ _ _ ((51, (ρ 5).1) :: (52, (ρ 6).1) :: _) _ (((ρ 5).2 ++ ((ρ 6).2 ++ [])) ++ _) _ _
          generalize ρ 5 = q5 at h5 ⊢
          obtain ⟨v5, B5⟩ := q5
          obtain ⟨rfl, rfl⟩ := h5
          generalize ρ 6 = q6 at h6 ⊢
          obtain ⟨v6, B6⟩ := q6
          obtain ⟨rfl, rfl⟩ := h6
          exact .inl ⟨rfl, opx_v (fun F => op_sliceLoAt (i := i) rfl rfl rfl (sl_un (sl_of rfl)) (siz_of rfl) (by omega) (by omega) (by omega))⟩
        · refine obl_x rfl rfl rfl rfl (fun ρ hρ => ?_)
          have h4 := hρ 4 (by simp) _ rfl
          have h7 := hρ 7 (by simp) _ rfl
          change GoodX Try.prog _ _ _ _ ((50, (ρ 4).1) :: (53, (ρ 7).1) :: _) _ (((ρ 4).2 ++ ((ρ 7).2 ++ [])) ++ _) _ _
          generalize ρ 4 = q4 at h4 ⊢
          obtain ⟨v4, B4⟩ := q4
          obtain ⟨rfl, rfl⟩ := h4
          generalize ρ 7 = q7 at h7 ⊢
          obtain ⟨v7, B7⟩ := q7
          obtain ⟨rfl, rfl⟩ := h7
          exact .inl ⟨rfl, (opx_copy (cs := D) (b := g1) (off := (i + 1) * 5) (dn := L.length + 1 - (i + 1)) (sn := L.length - i) (size := 5) (vs := sub cs (i * 5) ((L.length - i) * 5)) rfl rfl rfl (sl_un (sl_of rfl)) (siz_of rfl) (Lies.own 1 rfl rfl) (by rw [hrest, show Nat.min (L.length - i) (L.length + 1 - (i + 1)) = L.length - i from (by show min (L.length - i) (L.length + 1 - (i + 1)) = _; omega)]) hflat (by rw [hrest]; omega)).mono (by rintro v B ⟨rfl, rfl⟩; exact ⟨_, rfl, rfl⟩)⟩
        have h0 := hρ 0 (by decide) _ rfl
        have h1 := hρ 1 (by decide) _ rfl
        have h2 := hρ 2 (by decide) _ rfl
        have h3 := hρ 3 (by decide) _ rfl
        have h4 := hρ 4 (by decide) _ rfl
        have h5 := hρ 5 (by decide) _ rfl
        have h6 := hρ 6 (by decide) _ rfl
        have h7 := hρ 7 (by decide) _ rfl
        have h8 := hρ 8 (by decide) _ rfl
        change Go.Sx.OkL Try.prog _ _ _ _ _ ((54, (ρ 8).1) :: _) (_ ++ ((ρ 0).2 ++ ((ρ 1).2 ++ ((ρ 2).2 ++ ((ρ 3).2 ++ ((ρ 4).2 ++ ((ρ 5).2 ++ ((ρ 6).2 ++ ((ρ 7).2 ++ ((ρ 8).2 ++ [])))))))))) _
        generalize ρ 0 = q0 at *
        obtain ⟨v0, B0⟩ := q0
        obtain ⟨rfl, rfl⟩ := h0
        generalize ρ 1 = q1 at *
        obtain ⟨v1, B1⟩ := q1
        obtain ⟨rfl, rfl⟩ := h1
        generalize ρ 2 = q2 at *
        obtain ⟨v2, B2⟩ := q2
        obtain ⟨rfl, rfl⟩ := h2
        generalize ρ 3 = q3 at *
        obtain ⟨v3, B3⟩ := q3
        obtain ⟨rfl, rfl⟩ := h3
        generalize ρ 4 = q4 at *
        obtain ⟨v4, B4⟩ := q4
        obtain ⟨rfl, rfl⟩ := h4
        generalize ρ 5 = q5 at *
        obtain ⟨v5, B5⟩ := q5
        obtain ⟨rfl, rfl⟩ := h5
        generalize ρ 6 = q6 at *
        obtain ⟨v6, B6⟩ := q6
        obtain ⟨rfl, rfl⟩ := h6
        generalize ρ 7 = q7 at *
        obtain ⟨v7, B7⟩ := q7
        obtain ⟨rfl, rfl⟩ := h7
        generalize ρ 8 = q8 at *
        obtain ⟨v8, B8⟩ := q8
        obtain ⟨_, rfl, rfl⟩ := h8
        refine okl_sub (O' := [(g, cs, 69), (bx, rdL x, 69)] ++ [(g1, setL D ((i + 1) * 5) (sub cs (i * 5) ((L.length - i) * 5)), 69)]) (by simp) ?_
        refine okl_nil ?_
        change OkC Try.prog _ _ _ _ _ _ _
        refine okc_weak (l' := [(0, _), (1, _), (2, _), (6, _), (7, _), (8, _), (9, _), (16, _), (22, _), (31, _)]) ⟨rfl, rfl, rfl, rfl, rfl, rfl, rfl, rfl, rfl, rfl, trivial⟩ ?_
        refine okc_seq ?_
        refine okc_region ?_
        refine s_move rfl rfl rfl rfl rfl rfl ?_
        refine s_assign rfl rfl rfl rfl rfl rfl ?_
        refine okl_nil ?_
        change OkC Try.prog _ _ _ _ _ _ _
        refine okc_weak (l' := [(0, _), (1, _), (2, _), (6, _), (7, _), (8, _), (9, _), (16, _), (22, _), (31, _)]) ⟨rfl, rfl, rfl, rfl, rfl, rfl, rfl, rfl, rfl, rfl, trivial⟩ ?_
        refine okc_ret fun a w hs => ?_
        have hF : (setL D ((i + 1) * 5) (sub cs (i * 5) ((L.length - i) * 5))).take ((L.length + 1) * 5) = rdsC (L.take i) ++ (rdL x ++ rdsC (L.drop i)) := by
          rw [take_setL (by rw [hrest]; omega) (by rw [hrest]; omega), ← hD, take_setL (b := (i + 1) * 5) (by show i * 5 + 5 ≤ _; omega) (by show _ = i * 5 + 5; omega), ← hD0, List.take_left' (by simp; omega), ins_head (by omega) ht, ins_rest (by omega) ht, List.append_assoc]
        exact ret_postF hs (run_results1 hs rfl (rv_tmp rfl)) ⟨some ⟨g1, 0, none⟩, c1, [(g1, setL D ((i + 1) * 5) (sub cs (i * 5) ((L.length - i) * 5)), 69)]⟩ rfl (ins_sl (by omega) hc1 hc2 (by rw [length_setL]; exact hDl) hF) (.cons _ (.cons _ (List.Sublist.refl _)))
      · have hroom : L.length + 1 ≤ c := by have hq := h3; simp at hq; omega
        refine okl_nil ?_
        change OkC Try.prog _ _ _ _ _ _ _
        refine okc_weak (l' := [(0, _), (1, _), (2, _), (6, _), (7, _), (8, _), (16, _), (22, _), (31, _)]) ⟨rfl, rfl, rfl, rfl, rfl, rfl, rfl, rfl, rfl, trivial⟩ ?_
        refine okc_cond_f rfl ?_
        refine okc_skip ?_
        change OkC Try.prog _ _ _ _ _ _ _
        refine okc_weak (l' := [(0, _), (1, _), (2, _), (6, _), (7, _), (8, _), (16, _), (22, _), (31, _)]) ⟨rfl, rfl, rfl, rfl, rfl, rfl, rfl, rfl, rfl, trivial⟩ ?_
        refine okc_seq ?_
        refine okc_region ?_
        refine s_move rfl rfl rfl rfl rfl rfl ?_
        refine s_move rfl rfl rfl rfl rfl rfl ?_
        refine s_move rfl rfl rfl rfl rfl rfl ?_
        refine s_add rfl rfl rfl rfl rfl rfl rfl (by omega) ?_
        refine okl_v rfl rfl rfl rfl (op_sliceHi (i := L.length + 1) rfl rfl rfl (sl_un (sl_of rfl)) (siz_of rfl) (by omega) (by omega)) ?_
        refine s_assign rfl rfl rfl rfl rfl rfl ?_
        refine okl_nil ?_
        change OkC Try.prog _ _ _ _ _ _ _
        refine okc_weak (l' := [(0, _), (1, _), (2, _), (6, _), (7, _), (8, _), (16, _), (22, _), (31, _)]) ⟨rfl, rfl, rfl, rfl, rfl, rfl, rfl, rfl, rfl, trivial⟩ ?_
        refine okc_seq ?_
        refine okc_seq ?_
        refine okc_region ?_
        refine s_move rfl rfl rfl rfl rfl rfl ?_
        refine s_move rfl rfl rfl rfl rfl rfl ?_
        refine s_move rfl rfl rfl rfl rfl rfl ?_
        refine s_move rfl rfl rfl rfl rfl rfl ?_
        refine s_add rfl rfl rfl rfl rfl rfl rfl (by omega) ?_
        rcases Nat.lt_or_ge (i + 1) c with hic | hic
        case inr => omega
        have hcut66 := cutA_at (b := g) (c := c) (i := i + 1) (size := 5) (by omega)
        refine okl_v rfl rfl rfl rfl (op_sliceLo (i := i + 1) (size := 5) rfl rfl rfl (sl_un (sl_of rfl)) (siz_of rfl) (by omega) (by omega)) ?_
        rw [hcut66]
        refine okl_v rfl rfl rfl rfl (op_overlaps rfl rfl rfl (List.mem_of_getElem? (i := 1) rfl) (List.mem_of_getElem? (i := 0) rfl) (Ne.symm hgx) (by omega)) ?_
        refine s_not rfl rfl rfl rfl rfl rfl ?_
        refine okl_nil ?_
        change OkC Try.prog _ _ _ _ _ _ _
        refine okc_weak (l' := [(0, _), (1, _), (2, _), (6, _), (7, _), (8, _), (16, _), (22, _), (31, _), (68, _)]) ⟨rfl, rfl, rfl, rfl, rfl, rfl, rfl, rfl, rfl, rfl, trivial⟩ ?_
        refine okc_cond_t rfl ?_
        refine okc_seq ?_
        refine okc_drawx [69, 70, 71, 72, 73, 74, 75, 76, 77] [8] [⟨some 69, [], [], fun _ v B => v = .slice (some ⟨g, 0, none⟩) (L.length + 1) c ∧ B = []⟩, ⟨some 70, [], [], fun _ v B => v = .int .i64 (i : Int) ∧ B = []⟩, ⟨some 71, [], [], fun _ v B => v = .int .i64 ((1 : Nat) : Int) ∧ B = []⟩, ⟨some 72, [1, 2], [], fun _ v B => v = .int .i64 ((i : Int) + ((1 : Nat) : Int)) ∧ B = []⟩, ⟨some 73, [0, 3], [], fun _ v B => v = .slice (some ⟨g, (i + 1) * 5, none⟩) (L.length + 1 - (i + 1)) (c - (i + 1)) ∧ B = []⟩, ⟨some 74, [], [], fun _ v B => v = .slice (some ⟨g, 0, none⟩) (L.length + 1) c ∧ B = []⟩, ⟨some 75, [], [], fun _ v B => v = .int .i64 (i : Int) ∧ B = []⟩, ⟨some 76, [5, 6], [], fun _ v B => v = .slice (some ⟨g, i * 5, none⟩) (L.length + 1 - i) (c - i) ∧ B = []⟩, ⟨some 77, [4, 7], [(g, cs, 69)], fun _ v B => ∃ q, v = .int .i64 q ∧ B = [(g, setL cs ((i + 1) * 5) (sub cs (i * 5) ((L.length - i) * 5)), 69)]⟩] 9 4 [(bx, rdL x, 69)] rfl rfl rfl rfl rfl rfl rfl (List.perm_append_comm (l₁ := [(g, cs, 69)])) ⟨?_, ?_, ?_, ?_, ?_, ?_, ?_, ?_, ?_, trivial⟩ (fun ρ hρ => ?_) rfl
        · refine obl_x rfl rfl rfl rfl (fun ρ hρ => ?_)
          exact .inl ⟨rfl, opx_v (fun F => op_move rfl rfl)⟩
        · refine obl_x rfl rfl rfl rfl (fun ρ hρ => ?_)
          exact .inl ⟨rfl, opx_v (fun F => op_move rfl rfl)⟩
        · refine obl_x rfl rfl rfl rfl (fun ρ hρ => ?_)
          exact .inl ⟨rfl, opx_v (fun F => op_move rfl rfl)⟩
        · refine obl_x rfl rfl rfl rfl (fun ρ hρ => ?_)
          have h1 := hρ 1 (by simp) _ rfl
          have h2 := hρ 2 (by simp) _ rfl
          change GoodX Try.prog _ _ _ _ ((70, (ρ 1).1) :: (71, (ρ 2).1) :: _) _ (((ρ 1).2 ++ ((ρ 2).2 ++ [])) ++ _) _ _
          generalize ρ 1 = q1 at h1 ⊢
          obtain ⟨v1, B1⟩ := q1
          obtain ⟨rfl, rfl⟩ := h1
          generalize ρ 2 = q2 at h2 ⊢
          obtain ⟨v2, B2⟩ := q2
          obtain ⟨rfl, rfl⟩ := h2
          exact .inl ⟨rfl, opx_v (fun F => op_add rfl rfl rfl (by omega))⟩
        · refine obl_x rfl rfl rfl rfl (fun ρ hρ => ?_)
          have h0 := hρ 0 (by simp) _ rfl
          have h3 := hρ 3 (by simp) _ rfl
          change GoodX Try.prog _ _ _ _ ((69, (ρ 0).1) :: (72, (ρ 3).1) :: _) _ (((ρ 0).2 ++ ((ρ 3).2 ++ [])) ++ _) _ _
          generalize ρ 0 = q0 at h0 ⊢
          obtain ⟨v0, B0⟩ := q0
          obtain ⟨rfl, rfl⟩ := h0
          generalize ρ 3 = q3 at h3 ⊢
          obtain ⟨v3, B3⟩ := q3
          obtain ⟨rfl, rfl⟩ := h3
          exact .inl ⟨rfl, opx_v (fun F => op_sliceLoAt (i := i + 1) rfl rfl rfl (sl_un (sl_of rfl)) (siz_of rfl) (by omega) (by omega) (by omega))⟩
        · refine obl_x rfl rfl rfl rfl (fun ρ hρ => ?_)
          exact .inl ⟨rfl, opx_v (fun F => op_move rfl rfl)⟩
        · refine obl_x rfl rfl rfl rfl (fun ρ hρ => ?_)
          exact .inl ⟨rfl, opx_v (fun F => op_move rfl rfl)⟩
        · refine obl_x rfl rfl rfl rfl (fun ρ hρ => ?_)
          have h5 := hρ 5 (by simp) _ rfl
          have h6 := hρ 6 (by simp) _ rfl
          change GoodX Try.prog _ _ _ _ ((74, (ρ 5).1) :: (75, (ρ 6).1) :: _) _ (((ρ 5).2 ++ ((ρ 6).2 ++ [])) ++ _) _ _
          generalize ρ 5 = q5 at h5 ⊢
          obtain ⟨v5, B5⟩ := q5
          obtain ⟨rfl, rfl⟩ := h5
          generalize ρ 6 = q6 at h6 ⊢
          obtain ⟨v6, B6⟩ := q6
          obtain ⟨rfl, rfl⟩ := h6
          exact .inl ⟨rfl, opx_v (fun F => op_sliceLoAt (i := i) rfl rfl rfl (sl_un (sl_of rfl)) (siz_of rfl) (by omega) (by omega) (by omega))⟩
        · refine obl_x rfl rfl rfl rfl (fun ρ hρ => ?_)
          have h4 := hρ 4 (by simp) _ rfl
          have h7 := hρ 7 (by simp) _ rfl
          change GoodX Try.prog _ _ _ _ ((73, (ρ 4).1) :: (76, (ρ 7).1) :: _) _ (((ρ 4).2 ++ ((ρ 7).2 ++ [])) ++ _) _ _
          generalize ρ 4 = q4 at h4 ⊢
          obtain ⟨v4, B4⟩ := q4
          obtain ⟨rfl, rfl⟩ := h4
          generalize ρ 7 = q7 at h7 ⊢
          obtain ⟨v7, B7⟩ := q7
          obtain ⟨rfl, rfl⟩ := h7
          exact .inl ⟨rfl, (opx_copy (cs := cs) (b := g) (off := (i + 1) * 5) (dn := L.length + 1 - (i + 1)) (sn := L.length + 1 - i) (size := 5) (vs := sub cs (i * 5) ((L.length - i) * 5)) rfl rfl rfl (sl_un (sl_of rfl)) (siz_of rfl) (Lies.own 0 rfl rfl) (by rw [hrest, show Nat.min (L.length + 1 - i) (L.length + 1 - (i + 1)) = L.length - i from (by show min (L.length + 1 - i) (L.length + 1 - (i + 1)) = _; omega)]) hflat (by rw [hrest]; omega)).mono (by rintro v B ⟨rfl, rfl⟩; exact ⟨_, rfl, rfl⟩)⟩
        have h0 := hρ 0 (by decide) _ rfl
        have h1 := hρ 1 (by decide) _ rfl
        have h2 := hρ 2 (by decide) _ rfl
        have h3 := hρ 3 (by decide) _ rfl
        have h4 := hρ 4 (by decide) _ rfl
        have h5 := hρ 5 (by decide) _ rfl
        have h6 := hρ 6 (by decide) _ rfl
        have h7 := hρ 7 (by decide) _ rfl
        have h8 := hρ 8 (by decide) _ rfl
        change Go.Sx.OkL Try.prog _ _ _ _ _ ((77, (ρ 8).1) :: _) (_ ++ ((ρ 0).2 ++ ((ρ 1).2 ++ ((ρ 2).2 ++ ((ρ 3).2 ++ ((ρ 4).2 ++ ((ρ 5).2 ++ ((ρ 6).2 ++ ((ρ 7).2 ++ ((ρ 8).2 ++ [])))))))))) _
        generalize ρ 0 = q0 at *
        obtain ⟨v0, B0⟩ := q0
        obtain ⟨rfl, rfl⟩ := h0
        generalize ρ 1 = q1 at *
        obtain ⟨v1, B1⟩ := q1
        obtain ⟨rfl, rfl⟩ := h1
        generalize ρ 2 = q2 at *
        obtain ⟨v2, B2⟩ := q2
        obtain ⟨rfl, rfl⟩ := h2
        generalize ρ 3 = q3 at *
        obtain ⟨v3, B3⟩ := q3
        obtain ⟨rfl, rfl⟩ := h3
        generalize ρ 4 = q4 at *
        obtain ⟨v4, B4⟩ := q4
        obtain ⟨rfl, rfl⟩ := h4
        generalize ρ 5 = q5 at *
        obtain ⟨v5, B5⟩ := q5
        obtain ⟨rfl, rfl⟩ := h5
        generalize ρ 6 = q6 at *
        obtain ⟨v6, B6⟩ := q6
        obtain ⟨rfl, rfl⟩ := h6
        generalize ρ 7 = q7 at *
        obtain ⟨v7, B7⟩ := q7
        obtain ⟨rfl, rfl⟩ := h7
        generalize ρ 8 = q8 at *
        obtain ⟨v8, B8⟩ := q8
        obtain ⟨_, rfl, rfl⟩ := h8
        refine okl_sub (O' := [(bx, rdL x, 69)] ++ [(g, setL cs ((i + 1) * 5) (sub cs (i * 5) ((L.length - i) * 5)), 69)]) (by simp) ?_
        refine okl_nil ?_
        change OkC Try.prog _ _ _ _ _ _ _
        refine okc_weak (l' := [(0, _), (1, _), (2, _), (6, _), (7, _), (8, _), (16, _), (22, _), (31, _), (68, _)]) ⟨rfl, rfl, rfl, rfl, rfl, rfl, rfl, rfl, rfl, rfl, trivial⟩ ?_
        refine okc_seq ?_
        refine okc_region ?_
        refine s_move rfl rfl rfl rfl rfl rfl ?_
        refine s_move rfl rfl rfl rfl rfl rfl ?_
        have hcut80 := cutA_at (b := g) (c := c) (i := i) (size := 5) (by omega)
        refine okl_v rfl rfl rfl rfl (op_sliceLo (i := i) (size := 5) rfl rfl rfl (sl_un (sl_of rfl)) (siz_of rfl) (by omega) (by omega)) ?_
        rw [hcut80]
        refine s_move rfl rfl rfl rfl rfl rfl ?_
        refine okl_copy (b := g) (off := i * 5) (vs := rdL x) (j := 1) rfl rfl rfl rfl rfl rfl rfl (sl_un (sl_of rfl)) (siz_of rfl) (Lies.whole 0 rfl) (by rw [show Nat.min 1 _ = 1 from Nat.min_eq_left (by omega)]; rfl) rfl rfl (by show i * 5 + 5 ≤ (setL _ _ _).length; rw [length_setL]; omega) ?_
        refine okl_nil ?_
        change OkC Try.prog _ _ _ _ _ _ _
        refine okc_weak (l' := [(0, _), (1, _), (2, _), (6, _), (7, _), (8, _), (16, _), (22, _), (31, _), (68, _)]) ⟨rfl, rfl, rfl, rfl, rfl, rfl, rfl, rfl, rfl, rfl, trivial⟩ ?_
        refine okc_seq ?_
        refine okc_region ?_
        refine s_move rfl rfl rfl rfl rfl rfl ?_
        refine s_assign rfl rfl rfl rfl rfl rfl ?_
        refine okl_nil ?_
        change OkC Try.prog _ _ _ _ _ _ _
        refine okc_weak (l' := [(0, _), (1, _), (2, _), (6, _), (7, _), (8, _), (16, _), (22, _), (31, _), (68, _)]) ⟨rfl, rfl, rfl, rfl, rfl, rfl, rfl, rfl, rfl, rfl, trivial⟩ ?_
        refine okc_ret fun a w hs => ?_
        have hF : (setL (setL cs ((i + 1) * 5) (sub cs (i * 5) ((L.length - i) * 5))) (i * 5) (rdL x)).take ((L.length + 1) * 5) = rdsC (L.take i) ++ (rdL x ++ rdsC (L.drop i)) := by
          rw [take_set2 (by show i * 5 + 5 = _; omega) (by rw [hrest]; omega) (by rw [hrest]; omega), ins_head (by omega) ht, ins_rest (by omega) ht]
        exact ret_postF hs (run_results1 hs rfl (rv_tmp rfl)) ⟨some ⟨g, 0, none⟩, c, [(g, setL (setL cs ((i + 1) * 5) (sub cs (i * 5) ((L.length - i) * 5))) (i * 5) (rdL x), 69)]⟩ rfl (ins_sl (by omega) hroom hcm0 (by rw [length_setL, length_setL]; exact hcs) hF) (.cons _ (List.Sublist.refl _))
end Go.Proofs.Ytdpnadknaacinaa
end

section
namespace Go.Proofs.Ytdpnadknaacinaa
open Go.Sx Go.Proofs.Ytdpnadknaacinaa.Ty
set_option linter.unusedVariables false
set_option linter.unusedSimpArgs false
set_option maxHeartbeats 2000000

theorem insert_end (M : Args) (L : List Rd) (hl : L.length ≤ 1000)  (x : Rd) (p : Option Addr) (c : Nat) (B : Blks) (hsl : Sl B 69 5 p L.length c (rdsC L)) (bx : Nat) : CnF Try.prog 98 [.slice p L.length c, .int .i64 ((L.length : Nat) : Int), .slice (some ⟨bx, 0, none⟩) 1 1] M [] (B ++ [(bx, rdL x, 69)]) (fun h : SlG => .slice h.p (L.length + 1) h.c) (fun h => h.B) (fun h => Sl h.B 69 5 h.p (L.length + 1) h.c (rdsC (insL L L.length x))) := by
  refine fn_introF (n := 95) Try.func98 rfl rfl rfl fun w0 => ?_
  refine okc_seq ?_
  refine okc_region ?_
  refine s_assign rfl rfl rfl rfl rfl rfl ?_
  refine okl_nil ?_
  change OkC Try.prog _ _ _ _ _ _ _
  refine okc_weak (l' := [(0, _), (1, _), (2, _), (6, _)]) ⟨rfl, rfl, rfl, rfl, trivial⟩ ?_
  refine okc_seq ?_
  refine okc_region ?_
  refine s_move rfl rfl rfl rfl rfl rfl ?_
  refine s_move rfl rfl rfl rfl rfl rfl ?_
  refine okl_v rfl rfl rfl rfl (op_sliceLo (i := L.length) (size := 5) rfl rfl rfl (sl_un (sl_of rfl)) (siz_of rfl) (by omega) (by omega)) ?_
  refine okl_nil ?_
  change OkC Try.prog _ _ _ _ _ _ _
  refine okc_weak (l' := [(0, _), (1, _), (2, _), (6, _)]) ⟨rfl, rfl, rfl, rfl, trivial⟩ ?_
  refine okc_seq ?_
  refine okc_region ?_
  refine s_move rfl rfl rfl rfl rfl rfl ?_
  refine s_len rfl rfl rfl rfl rfl rfl rfl ?_
  refine s_assign rfl rfl rfl rfl rfl rfl ?_
  refine okl_nil ?_
  change OkC Try.prog _ _ _ _ _ _ _
  refine okc_weak (l' := [(0, _), (1, _), (2, _), (6, _), (7, _)]) ⟨rfl, rfl, rfl, rfl, rfl, trivial⟩ ?_
  refine okc_seq ?_
  refine okc_seq ?_
  refine okc_region ?_
  refine s_move rfl rfl rfl rfl rfl rfl ?_
  refine s_cmpS rfl rfl rfl rfl rfl rfl rfl rfl (fun h1 => ?_) (fun h1 => ?_)
  · exact absurd h1 (by decide) --closed
  · refine okl_nil ?_
    change OkC Try.prog _ _ _ _ _ _ _
    refine okc_weak (l' := [(0, _), (1, _), (2, _), (6, _), (7, _), (16, _)]) ⟨rfl, rfl, rfl, rfl, rfl, rfl, trivial⟩ ?_
    refine okc_cond_f rfl ?_
    refine okc_skip ?_
    change OkC Try.prog _ _ _ _ _ _ _
    refine okc_weak (l' := [(0, _), (1, _), (2, _), (6, _), (7, _), (16, _)]) ⟨rfl, rfl, rfl, rfl, rfl, rfl, trivial⟩ ?_
    refine okc_seq ?_
    refine okc_region ?_
    refine s_move rfl rfl rfl rfl rfl rfl ?_
    refine s_len rfl rfl rfl rfl rfl rfl rfl ?_
    refine s_assign rfl rfl rfl rfl rfl rfl ?_
    refine okl_nil ?_
    change OkC Try.prog _ _ _ _ _ _ _
    refine okc_weak (l' := [(0, _), (1, _), (2, _), (6, _), (7, _), (8, _), (16, _)]) ⟨rfl, rfl, rfl, rfl, rfl, rfl, rfl, trivial⟩ ?_
    refine okc_seq ?_
    refine okc_seq ?_
    refine okc_region ?_
    refine s_move rfl rfl rfl rfl rfl rfl ?_
    refine s_move rfl rfl rfl rfl rfl rfl ?_
    refine s_cmpS rfl rfl rfl rfl rfl rfl rfl rfl (fun h2 => ?_) (fun h2 => ?_)
    · refine okl_nil ?_
      change OkC Try.prog _ _ _ _ _ _ _
      refine okc_weak (l' := [(0, _), (1, _), (2, _), (6, _), (7, _), (8, _), (16, _), (22, _)]) ⟨rfl, rfl, rfl, rfl, rfl, rfl, rfl, rfl, trivial⟩ ?_
      refine okc_cond_t rfl ?_
      refine okc_seq ?_
      refine okc_region ?_
      refine s_move rfl rfl rfl rfl rfl rfl ?_
      refine s_move rfl rfl rfl rfl rfl rfl ?_
      refine okl_xm [] B [(bx, rdL x, 69)] rfl rfl rfl rfl (k_append1 0 hsl by69 rfl rfl rfl rfl rfl rfl rfl rfl rfl rfl rfl (by omega)) rfl (fun v B3 hv => ?_)
      obtain ⟨p3, c3, rfl, hsl3⟩ := hv
      refine s_assign rfl rfl rfl rfl rfl rfl ?_
      refine okl_nil ?_
      change OkC Try.prog _ _ _ _ _ _ _
      refine okc_weak (l' := [(0, _), (1, _), (2, _), (6, _), (7, _), (8, _), (16, _), (22, _)]) ⟨rfl, rfl, rfl, rfl, rfl, rfl, rfl, rfl, trivial⟩ ?_
      refine okc_ret fun a w hs => ?_
      have he : rdsC (insL L L.length x) = rdsC L ++ rdL x := by unfold insL; rw [rdsC_app, List.take_length, List.drop_length]; simp [rdsC]
      exact ret_postF hs (run_results1 hs rfl (rv_tmp rfl)) ⟨p3, c3, B3⟩ rfl (by rw [he]; exact hsl3) (by simp)
    · exact absurd h2 (by simp) --closed
theorem insert_fn (M : Args) (L : List Rd) (hl : L.length ≤ 1000) (i : Nat) (hi : i ≤ L.length) (x : Rd) (p : Option Addr) (c : Nat) (B : Blks) (hsl : Sl B 69 5 p L.length c (rdsC L)) (bx : Nat) (hbx : bx ∉ nums B) : CnF Try.prog 98 [.slice p L.length c, .int .i64 ((i : Nat) : Int), .slice (some ⟨bx, 0, none⟩) 1 1] M [] (B ++ [(bx, rdL x, 69)]) (fun h : SlG => .slice h.p (L.length + 1) h.c) (fun h => h.B) (fun h => Sl h.B 69 5 h.p (L.length + 1) h.c (rdsC (insL L i x))) := by
  rcases Nat.lt_or_ge i L.length with h | h
  · obtain ⟨_, h1 | ⟨g, cs, rfl, rfl, h2, h3, h4, h5⟩⟩ := hsl
    · omega
    · exact insert_mid M L hl i h x g bx c (fun e => hbx (by simp [nums, e])) cs h2 h3 h4 h5
  · obtain rfl : i = L.length := by omega
    exact insert_end M L hl x p c B hsl bx

end Go.Proofs.Ytdpnadknaacinaa
end

section
namespace Go.Proofs.Ytdpnadknaacinaa
open Go.Sx Go.Proofs.Ytdpnadknaacinaa.Ty
set_option linter.unusedVariables false
set_option linter.unusedSimpArgs false
set_option maxHeartbeats 2000000


def befB (x y : Rd) : Bool := decide (y.number < x.number)
def atS (s : Sp) (x : Rd) : Nat := (s.reads.takeWhile (befB x)).length
theorem tw_len {p : Rd → Bool} : ∀ (L : List Rd) (k : Nat), k ≤ L.length → (∀ (j : Nat) (y : Rd), j < k → L[j]? = some y → p y = true) → (∀ y, L[k]? = some y → p y = false) → (L.takeWhile p).length = k
  | [], k, hk, _, _ => by simp at hk; simp [hk]
  | a :: L, 0, _, _, h => by simp [List.takeWhile_cons, h a rfl]
  | a :: L, k + 1, hk, h1, h2 => by
    have ha := h1 0 a (by omega) rfl
    have := tw_len L k (by simpa using hk) (fun j y hj hy => h1 (j + 1) y (by omega) (by simpa using hy)) (fun y hy => h2 y (by simpa using hy))
    simp [List.takeWhile_cons, ha, this]
theorem okl_nd {N : Cx} {w0 : World} {l : Env} {O : Blks} {A : Args} {ops : Array Oper} {Q : Exit → Act → World → Prop} {is : List Nat} (h : (nums O).Nodup → Go.Sx.OkL Try.prog N w0 ops Q is l O A) : Go.Sx.OkL Try.prog N w0 ops Q is l O A :=
  fun a w hs => h hs.nodup a w hs
theorem nd_last {a : Nat × List Value × TypeId} {R B1 B2 : Blks} (h : (nums (a :: (R ++ (B1 ++ B2)))).Nodup) : a.1 ∉ nums B2 := by
  have h1 := (List.nodup_cons.1 (show (a.1 :: nums (R ++ (B1 ++ B2))).Nodup from h)).1
  intro hm
  apply h1
  simp only [nums, List.map_append, List.mem_append] at hm ⊢
  exact .inr (.inr hm)
theorem perm_in (a : Nat × List Value × TypeId) (R B1 B2 : Blks) : (a :: (R ++ (B1 ++ B2))).Perm ((R ++ B1) ++ ((B2 ++ [a]) ++ [])) := by
  rw [show (R ++ B1) ++ ((B2 ++ [a]) ++ []) = (R ++ (B1 ++ B2)) ++ [a] by simp]
  exact (List.perm_append_singleton _ _).symm
theorem ins_sub (R B1 B3 : Blks) : (R ++ (B1 ++ B3)).Sublist ((R ++ B1) ++ (B3 ++ [])) := by simp
def adS (s : Sp) (x : Rd) : Sp := { s with reads := insL s.reads (atS s x) x }
theorem adV (s : Sp) (x : Rd) (g : Rn2) (h : atS s x ≤ s.reads.length) : spV (twS (adS s x) g) = .agg #[.int .i64 s.weeks, .int .i64 s.most, .int .i64 s.fall, .int .i64 s.slo, .int .i64 s.shi, .int .i64 s.wlo, .int .i64 s.whi, .slice g.p1 s.book.length g.c1, .slice g.p2 (s.reads.length + 1) g.c2] := by simp [spV, twS, adS, insL_len x h]
def adE (s : Sp) (x : Rd) : Int := if validB s then (if s.reads.length = 12 then 9 else if validB (adS s x) then 0 else 12) else 10
def adR (s : Sp) (x : Rd) : Sp := if adE s x = 0 then adS s x else zS
theorem ad_ok {s : Sp} {x : Rd} {B1 B3 : Blks} {p1 p3 : Option Addr} {k1 c3 : Nat} (h : atS s x ≤ s.reads.length) (h1 : Sl B1 76 5 p1 s.book.length k1 (lnsC s.book)) (h2 : Sl B3 69 5 p3 (s.reads.length + 1) c3 (rdsC (insL s.reads (atS s x) x))) : TwOk (adS s x) ⟨p1, k1, B1, p3, c3, B3⟩ := by
  refine ⟨h1, ?_⟩
  show Sl B3 69 5 p3 (insL s.reads (atS s x) x).length c3 (rdsC (insL s.reads (atS s x) x))
  rw [insL_len x h]; exact h2
theorem ad_in {s : Sp} {x : Rd} {g : Rn2} (hgr : s.book.length ≤ 30 ∧ s.reads.length ≤ 30) (ha : atS s x ≤ s.reads.length) (h : TwOk (adS s x) g) : (twS (adS s x) g).In (argsOf (g.B1 ++ g.B2)) :=
  tw_in (by show s.book.length ≤ _; omega) (by show (insL s.reads (atS s x) x).length ≤ _; rw [insL_len x ha]; omega) h

theorem Add_fn (s : Sp) (M : Args) (hin : s.In M) (hgr : s.book.length ≤ 30 ∧ s.reads.length ≤ 30) (x : Rd) : Cn Try.prog 48 [spV s, rdV x] M (fun g : Rn2 => .tuple #[spV (twS (adR s x) g), .int .i64 (adE s x)]) (fun g => g.B1 ++ g.B2) (TwOk (adR s x)) := by
  obtain ⟨bR, oR, cR, jR, hR⟩ := hin.reads
  refine fn_intro (N := 51) Try.func48 rfl rfl rfl fun w0 => ?_
  refine okc_seq ?_
  refine okc_region ?_
  refine s_boxA rfl rfl rfl rfl rfl rfl (fun b1 => ?_)
  refine s_boxA rfl rfl rfl rfl rfl rfl (fun b2 => ?_)
  refine s_alloc rfl rfl rfl rfl rfl rfl (fun b3 => ?_)
  refine s_assign rfl rfl rfl rfl rfl rfl ?_
  refine okl_nil ?_
  change OkC Try.prog _ _ _ _ _ _ _
  refine okc_weak (l' := [(0, _), (1, _), (2, _), (3, _), (4, _), (5, _)]) ⟨rfl, rfl, rfl, rfl, rfl, rfl, trivial⟩ ?_
  refine okc_seq ?_
  refine okc_seq ?_
  refine okc_region ?_
  refine s_loadW 2 rfl rfl rfl rfl rfl rfl rfl rfl rfl rfl ?_
  refine s_callv rfl rfl rfl rfl rfl rfl rfl c26 (Check_fn s M hin) covers_all ?_
  refine s_assign rfl rfl rfl rfl rfl rfl ?_
  refine okl_nil ?_
  change OkC Try.prog _ _ _ _ _ _ _
  refine okc_weak (l' := [(0, _), (1, _), (2, _), (3, _), (4, _), (5, _), (6, _)]) ⟨rfl, rfl, rfl, rfl, rfl, rfl, rfl, trivial⟩ ?_
  refine okc_seq ?_
  refine okc_region ?_
  refine s_move rfl rfl rfl rfl rfl rfl ?_
  refine s_cmpS rfl rfl rfl rfl rfl rfl rfl rfl (fun h4 => ?_) (fun h4 => ?_)
  · have hv : validB s = false := by have hq := h4; unfold ckS at hq; cases hvv : validB s <;> simp_all
    refine okl_nil ?_
    change OkC Try.prog _ _ _ _ _ _ _
    refine okc_weak (l' := [(0, _), (1, _), (2, _), (3, _), (4, _), (5, _), (6, _), (11, _)]) ⟨rfl, rfl, rfl, rfl, rfl, rfl, rfl, rfl, trivial⟩ ?_
    refine okc_cond_t rfl ?_
    refine okc_seq ?_
    refine okc_region ?_
    refine s_build rfl rfl rfl rfl rfl rfl rfl rfl rfl ?_
    refine s_move rfl rfl rfl rfl rfl rfl ?_
    refine k_storeW 0 rfl rfl rfl rfl rfl rfl rfl rfl rfl rfl rfl rfl ?_
    refine s_assign rfl rfl rfl rfl rfl rfl ?_
    refine okl_nil ?_
    change OkC Try.prog _ _ _ _ _ _ _
    refine okc_weak (l' := [(0, _), (1, _), (2, _), (3, _), (4, _), (5, _), (6, _), (11, _)]) ⟨rfl, rfl, rfl, rfl, rfl, rfl, rfl, rfl, trivial⟩ ?_
    refine okc_ret fun a w hs => ?_
    have he : adE s x = 10 := by simp [adE, hv]
    have hr : adR s x = zS := by simp [adR, he]
    have hk10 : ckS s = 10 := by simp [ckS, hv]
    exact ret_postS hs (run_results2 hs rfl (k_ragg 0 rfl rfl rfl rfl rfl) (rv_tmp rfl)) zG (by rw [hr, he]; rw [hk10]; rfl) (by rw [hr]; exact zOk) (List.nil_sublist _)
  · have hv : validB s = true := by have hq := h4; unfold ckS at hq; cases hvv : validB s <;> simp_all
    refine okl_nil ?_
    change OkC Try.prog _ _ _ _ _ _ _
    refine okc_weak (l' := [(0, _), (1, _), (2, _), (3, _), (4, _), (5, _), (6, _), (11, _)]) ⟨rfl, rfl, rfl, rfl, rfl, rfl, rfl, rfl, trivial⟩ ?_
    refine okc_cond_f rfl ?_
    refine okc_skip ?_
    change OkC Try.prog _ _ _ _ _ _ _
    refine okc_weak (l' := [(0, _), (1, _), (2, _), (3, _), (4, _), (5, _), (6, _), (11, _)]) ⟨rfl, rfl, rfl, rfl, rfl, rfl, rfl, rfl, trivial⟩ ?_
    refine okc_seq ?_
    refine okc_seq ?_
    refine okc_region ?_
    refine s_field rfl rfl rfl rfl rfl rfl rfl rfl ?_
    refine s_load1 2 rfl rfl rfl rfl rfl rfl rfl rfl rfl ?_
    refine s_len rfl rfl rfl rfl rfl rfl rfl ?_
    refine s_cmpS rfl rfl rfl rfl rfl rfl rfl rfl (fun h5 => ?_) (fun h5 => ?_)
    · have hl12 : s.reads.length = 12 := by have hq := h5; simp at hq; omega
      refine okl_nil ?_
      change OkC Try.prog _ _ _ _ _ _ _
      refine okc_weak (l' := [(0, _), (1, _), (2, _), (3, _), (4, _), (5, _), (6, _), (11, _), (17, _)]) ⟨rfl, rfl, rfl, rfl, rfl, rfl, rfl, rfl, rfl, trivial⟩ ?_
      refine okc_cond_t rfl ?_
      refine okc_seq ?_
      refine okc_region ?_
      refine s_build rfl rfl rfl rfl rfl rfl rfl rfl rfl ?_
      refine k_storeW 0 rfl rfl rfl rfl rfl rfl rfl rfl rfl rfl rfl rfl ?_
      refine s_assign rfl rfl rfl rfl rfl rfl ?_
      refine okl_nil ?_
      change OkC Try.prog _ _ _ _ _ _ _
      refine okc_weak (l' := [(0, _), (1, _), (2, _), (3, _), (4, _), (5, _), (6, _), (11, _), (17, _)]) ⟨rfl, rfl, rfl, rfl, rfl, rfl, rfl, rfl, rfl, trivial⟩ ?_
      refine okc_ret fun a w hs => ?_
      have he : adE s x = 9 := by simp [adE, hv, hl12]
      have hr : adR s x = zS := by simp [adR, he]
      exact ret_postS hs (run_results2 hs rfl (k_ragg 0 rfl rfl rfl rfl rfl) (rv_tmp rfl)) zG (by rw [hr, he]; rfl) (by rw [hr]; exact zOk) (List.nil_sublist _)
    · have hl12 : ¬ s.reads.length = 12 := by have hq := h5; simp at hq; omega
      refine okl_nil ?_
      change OkC Try.prog _ _ _ _ _ _ _
      refine okc_weak (l' := [(0, _), (1, _), (2, _), (3, _), (4, _), (5, _), (6, _), (11, _), (17, _)]) ⟨rfl, rfl, rfl, rfl, rfl, rfl, rfl, rfl, rfl, trivial⟩ ?_
      refine okc_cond_f rfl ?_
      refine okc_skip ?_
      change OkC Try.prog _ _ _ _ _ _ _
      refine okc_weak (l' := [(0, _), (1, _), (2, _), (3, _), (4, _), (5, _), (6, _), (11, _), (17, _)]) ⟨rfl, rfl, rfl, rfl, rfl, rfl, rfl, rfl, rfl, trivial⟩ ?_
      refine okc_seq ?_
      refine okc_region ?_
      refine s_assign rfl rfl rfl rfl rfl rfl ?_
      refine okl_nil ?_
      change OkC Try.prog _ _ _ _ _ _ _
      refine okc_weak (l' := [(0, _), (1, _), (2, _), (3, _), (4, _), (5, _), (6, _), (7, _), (11, _), (17, _)]) ⟨rfl, rfl, rfl, rfl, rfl, rfl, rfl, rfl, rfl, rfl, trivial⟩ ?_
      refine okc_seq ?_
      refine okc_block ?_
      refine okc_loopF (γ := Nat) [(0, _), (1, _), (2, _), (3, _), (4, _), (5, _), (6, _), (11, _), (17, _)] ⟨rfl, rfl, rfl, rfl, rfl, rfl, rfl, rfl, rfl, trivial⟩ [0, 1, 2] [] (by decide) _ rfl (fun k => [(7, .int .i64 (k : Int))]) (fun k => []) (fun k => k ≤ s.reads.length ∧ ∀ (j : Nat) (y : Rd), j < k → s.reads[j]? = some y → befB x y = true) (fun k => s.reads.length - k) 0 ⟨Nat.zero_le _, fun j y h => absurd h (Nat.not_lt_zero j)⟩ ⟨rfl, trivial⟩ rfl ?_
      rintro k ⟨hk, hall⟩
      change OkC Try.prog _ _ _ _ _ _ _
      refine okc_seq ?_
      refine okc_seq ?_
      refine dr_start [19, 20, 21, 22, 23, 24, 25, 26, 27, 28, 29, 30, 31, 32, 33, 34] ?_
      refine d_move [] rfl rfl rfl rfl rfl (fun ν => rfl) rfl (fun ν => rfl) ?_
      refine d_field [] rfl rfl rfl rfl rfl (fun ν => rfl) rfl (fun ν => rfl) rfl rfl ?_
      refine d_load1 2 [1] rfl rfl rfl rfl rfl (fun ν => rfl) rfl rfl (fun ν => rfl) (fun ν => rfl) rfl ?_
      refine d_len [2] rfl rfl rfl rfl rfl (fun ν => rfl) rfl (fun ν => rfl) rfl ?_
      refine d_cmpS [0, 3] rfl rfl rfl rfl rfl (fun ν => rfl) rfl (fun ν => rfl) (fun ν => rfl) rfl (fun h7 => ?_) (fun h7 => ?_)
      · have hlt : k < s.reads.length := by simpa using h7
        obtain ⟨y, hy⟩ : ∃ y, s.reads[k]? = some y := ⟨s.reads[k], by simp [hlt]⟩
        obtain ⟨hpR, hjR, hatR⟩ := hR (by intro e; simp [e] at hlt)
        have hcy := hatR k y hy
        have hc2 : cR[oR + k * 5 + 0]? = some (.int .i64 y.number) := by have h := sub_at hcy 0 (by omega); rw [show oR + k * 5 + 0 = oR + k * 5 + 0 from rfl]; rw [h]; rfl
        refine d_move [4] rfl rfl rfl rfl rfl (fun ν => rfl) rfl (fun ν => rfl) ?_
        refine d_field [5] rfl rfl rfl rfl rfl (fun ν => rfl) rfl (fun ν => rfl) rfl rfl ?_
        refine d_load1 2 [6, 5] rfl rfl rfl rfl rfl (fun ν => rfl) rfl rfl (fun ν => rfl) (fun ν => rfl) rfl ?_
        refine d_move [5] rfl rfl rfl rfl rfl (fun ν => rfl) rfl (fun ν => rfl) ?_
        refine d_indexP k hpR [7, 8, 5] rfl rfl rfl rfl rfl (fun ν => rfl) rfl (fun ν => rfl) (fun ν => rfl) rfl rfl rfl (by omega) rfl ?_
        refine d_field [9, 5] rfl rfl rfl rfl rfl (fun ν => rfl) rfl (fun ν => rfl) rfl rfl ?_
        refine d_loadA1 jR [10, 5] rfl rfl rfl rfl rfl (fun ν => rfl) rfl rfl (fun ν => rfl) hjR (by assumption) ?_
        refine d_field [5] rfl rfl rfl rfl rfl (fun ν => rfl) rfl (fun ν => rfl) rfl rfl ?_
        refine d_load1 1 [12, 5] rfl rfl rfl rfl rfl (fun ν => rfl) rfl rfl (fun ν => rfl) (fun ν => rfl) rfl ?_
        refine d_cmpS [11, 13, 5] rfl rfl rfl rfl rfl (fun ν => rfl) rfl (fun ν => rfl) (fun ν => rfl) rfl (fun h8 => ?_) (fun h8 => ?_)
        · have hb : befB x y = true := by simpa [befB] using h8
          refine d_pick_t [5, 14] rfl rfl rfl rfl rfl (fun ν => rfl) rfl (fun ν => rfl) (fun ν => rfl) ?_
          refine dr_end [19, 20, 21, 22, 23, 24, 25, 26, 27, 28, 29, 30, 31, 32, 33, 34] [15] 16 rfl rfl rfl rfl rfl rfl rfl rfl rfl (fun nu6 => ?_)
          refine okl_nil ?_
          change OkC Try.prog _ _ _ _ _ _ _
          refine okc_weak (l' := [(0, _), (1, _), (2, _), (3, _), (4, _), (5, _), (6, _), (7, _), (11, _), (17, _), (34, _)]) ⟨rfl, rfl, rfl, rfl, rfl, rfl, rfl, rfl, rfl, rfl, rfl, trivial⟩ ?_
          refine okc_cond_t rfl ?_
          refine okc_skip ?_
          change OkC Try.prog _ _ _ _ _ _ _
          refine okc_weak (l' := [(0, _), (1, _), (2, _), (3, _), (4, _), (5, _), (6, _), (7, _), (11, _), (17, _), (34, _)]) ⟨rfl, rfl, rfl, rfl, rfl, rfl, rfl, rfl, rfl, rfl, rfl, trivial⟩ ?_
          refine okc_block ?_
          refine okc_region ?_
          refine s_move rfl rfl rfl rfl rfl rfl ?_
          refine s_add rfl rfl rfl rfl rfl rfl rfl (by omega) ?_
          refine s_assign rfl rfl rfl rfl rfl rfl ?_
          refine okl_nil ?_
          refine fun a w hs => ⟨k + 1, ⟨hlt, fun j z h hz => by rcases Nat.lt_or_ge j k with h2 | h2; exact hall j z h2 hz; (obtain rfl : j = k := by omega); rw [hy] at hz; cases hz; exact hb⟩, by omega, ?_⟩
          exact hs.weak ⟨rfl, rfl, rfl, rfl, rfl, rfl, rfl, rfl, rfl, rfl, trivial⟩ [0, 1, 2] (by decide) (rfl)
        · have hb : befB x y = false := by simpa [befB] using h8
          have hkat : atS s x = k := tw_len _ k hk hall (fun z hz => by rw [hy] at hz; cases hz; exact hb)
          refine d_pick_t [5, 14] rfl rfl rfl rfl rfl (fun ν => rfl) rfl (fun ν => rfl) (fun ν => rfl) ?_
          refine dr_end [19, 20, 21, 22, 23, 24, 25, 26, 27, 28, 29, 30, 31, 32, 33, 34] [15] 16 rfl rfl rfl rfl rfl rfl rfl rfl rfl (fun nu6 => ?_)
          refine okl_nil ?_
          change OkC Try.prog _ _ _ _ _ _ _
          refine okc_weak (l' := [(0, _), (1, _), (2, _), (3, _), (4, _), (5, _), (6, _), (7, _), (11, _), (17, _), (34, _)]) ⟨rfl, rfl, rfl, rfl, rfl, rfl, rfl, rfl, rfl, rfl, rfl, trivial⟩ ?_
          refine okc_cond_f rfl ?_
          refine okc_exit ?_
          change OkC Try.prog _ _ _ _ _ _ _
          refine okc_weak (l' := [(0, _), (1, _), (2, _), (3, _), (4, _), (5, _), (6, _), (7, _), (11, _), (17, _), (34, _)]) ⟨rfl, rfl, rfl, rfl, rfl, rfl, rfl, rfl, rfl, rfl, rfl, trivial⟩ ?_
          refine okc_seq ?_
          refine okc_region ?_
          refine s_loadW 2 rfl rfl rfl rfl rfl rfl rfl rfl rfl rfl ?_
          subst hkat
          have hat : atS s x ≤ s.reads.length := hk
          refine okl_rE rfl rfl rfl rfl (op_call rfl rfl rfl c97 (copied_fn s M hin hgr) covers_all) (fun g hg => ?_)
          obtain ⟨p1, k1, B1, p2, k2, B2⟩ := g
          obtain ⟨hg1, hg2⟩ := hg
          dsimp only at hg1 hg2
          refine k_storeW 2 rfl rfl rfl rfl rfl rfl rfl rfl rfl rfl rfl rfl ?_
          refine okl_nil ?_
          change OkC Try.prog _ _ _ _ _ _ _
          refine okc_weak (l' := [(0, _), (1, _), (2, _), (3, _), (4, _), (5, _), (6, _), (7, _), (11, _), (17, _), (34, _)]) ⟨rfl, rfl, rfl, rfl, rfl, rfl, rfl, rfl, rfl, rfl, rfl, trivial⟩ ?_
          refine okc_seq ?_
          refine okc_region ?_
          refine s_field rfl rfl rfl rfl rfl rfl rfl rfl ?_
          refine s_load1 2 rfl rfl rfl rfl rfl rfl rfl rfl rfl ?_
          refine s_move rfl rfl rfl rfl rfl rfl ?_
          refine s_loadW 1 rfl rfl rfl rfl rfl rfl rfl rfl rfl rfl ?_
          refine s_slice1N rfl rfl rfl rfl rfl rfl rfl rfl rfl rfl rfl rfl rfl (fun b9 => ?_)
          refine okl_nd (fun hnd => ?_)
          have hbx : b9 ∉ nums B2 := nd_last (a := (b9, rdL x, 69)) (R := [_, _, _]) (B1 := B1) hnd
          refine okl_x (c := B2 ++ [(b9, rdL x, 69)]) (keep := []) ([_, _, _] ++ B1) rfl rfl rfl rfl (opx_callF rfl rfl rfl c98 (insert_fn [] s.reads (by omega) (atS s x) hat x p2 k2 B2 hg2 b9 hbx) covers_nil (fun b es c h => by cases h)) (perm_in (b9, rdL x, 69) [_, _, _] B1 B2) (fun v B hv => ?_)
          obtain ⟨h3, rfl, hsl3, rfl⟩ := hv
          obtain ⟨p3, c3, B3⟩ := h3
          dsimp only at hsl3 ⊢
          refine okl_sub (O' := [_, _, _] ++ (B1 ++ B3)) (ins_sub [_, _, _] B1 B3) ?_
          have hok := ad_ok hat hg1 hsl3
          have hown := ad_in hgr hat hok
          refine s_field rfl rfl rfl rfl rfl rfl rfl rfl ?_
          refine k_store 2 rfl rfl rfl rfl rfl rfl rfl rfl rfl rfl rfl rfl ?_
          refine okl_nil ?_
          change OkC Try.prog _ _ _ _ _ _ _
          refine okc_weak (l' := [(0, _), (1, _), (2, _), (3, _), (4, _), (5, _), (6, _), (7, _), (11, _), (17, _), (34, _)]) ⟨rfl, rfl, rfl, rfl, rfl, rfl, rfl, rfl, rfl, rfl, rfl, trivial⟩ ?_
          refine okc_seq ?_
          refine okc_seq ?_
          refine okc_region ?_
          refine s_loadW 2 rfl rfl rfl rfl rfl rfl rfl rfl rfl rfl ?_
          have hck : Cn Try.prog 26 [.agg #[.int .i64 s.weeks, .int .i64 s.most, .int .i64 s.fall, .int .i64 s.slo, .int .i64 s.shi, .int .i64 s.wlo, .int .i64 s.whi, .slice p1 s.book.length k1, .slice p3 (s.reads.length + 1) c3]] (argsOf (B1 ++ B3)) (fun _ : Unit => .int .i64 (ckS (adS s x))) (fun _ => []) (fun _ => True) := by have h := Check_fn (twS (adS s x) ⟨p1, k1, B1, p3, c3, B3⟩) _ hown; rw [adV _ _ _ hat] at h; exact h
          refine s_callv rfl rfl rfl rfl rfl rfl rfl c26 hck (covers_grp fun y hy => (List.mem_append_right [_, _, _] hy : y ∈ [_, _, _] ++ (B1 ++ B3))) ?_
          refine s_cmpS rfl rfl rfl rfl rfl rfl rfl rfl (fun h10 => ?_) (fun h10 => ?_)
          · have hv2 : validB (adS s x) = false := by have hq := h10; unfold ckS at hq; cases hvv : validB (adS s x) <;> simp_all
            refine okl_nil ?_
            change OkC Try.prog _ _ _ _ _ _ _
            refine okc_weak (l' := [(0, _), (1, _), (2, _), (3, _), (4, _), (5, _), (6, _), (7, _), (11, _), (17, _), (34, _), (48, _)]) ⟨rfl, rfl, rfl, rfl, rfl, rfl, rfl, rfl, rfl, rfl, rfl, rfl, trivial⟩ ?_
            refine okc_cond_t rfl ?_
            refine okc_seq ?_
            refine okc_region ?_
            refine s_build rfl rfl rfl rfl rfl rfl rfl rfl rfl ?_
            refine k_storeW 0 rfl rfl rfl rfl rfl rfl rfl rfl rfl rfl rfl rfl ?_
            refine s_assign rfl rfl rfl rfl rfl rfl ?_
            refine okl_nil ?_
            change OkC Try.prog _ _ _ _ _ _ _
            refine okc_weak (l' := [(0, _), (1, _), (2, _), (3, _), (4, _), (5, _), (6, _), (7, _), (11, _), (17, _), (34, _), (48, _)]) ⟨rfl, rfl, rfl, rfl, rfl, rfl, rfl, rfl, rfl, rfl, rfl, rfl, trivial⟩ ?_
            refine okc_ret fun a w hs => ?_
            have he : adE s x = 12 := by simp [adE, hv, hl12, hv2]
            have hr : adR s x = zS := by simp [adR, he]
            exact ret_postS hs (run_results2 hs rfl (k_ragg 0 rfl rfl rfl rfl rfl) (rv_tmp rfl)) zG (by rw [hr, he]; rfl) (by rw [hr]; exact zOk) (List.nil_sublist _)
          · have hv2 : validB (adS s x) = true := by have hq := h10; unfold ckS at hq; cases hvv : validB (adS s x) <;> simp_all
            refine okl_nil ?_
            change OkC Try.prog _ _ _ _ _ _ _
            refine okc_weak (l' := [(0, _), (1, _), (2, _), (3, _), (4, _), (5, _), (6, _), (7, _), (11, _), (17, _), (34, _), (48, _)]) ⟨rfl, rfl, rfl, rfl, rfl, rfl, rfl, rfl, rfl, rfl, rfl, rfl, trivial⟩ ?_
            refine okc_cond_f rfl ?_
            refine okc_skip ?_
            change OkC Try.prog _ _ _ _ _ _ _
            refine okc_weak (l' := [(0, _), (1, _), (2, _), (3, _), (4, _), (5, _), (6, _), (7, _), (11, _), (17, _), (34, _), (48, _)]) ⟨rfl, rfl, rfl, rfl, rfl, rfl, rfl, rfl, rfl, rfl, rfl, rfl, trivial⟩ ?_
            refine okc_seq ?_
            refine okc_region ?_
            refine s_loadW 2 rfl rfl rfl rfl rfl rfl rfl rfl rfl rfl ?_
            refine k_storeW 0 rfl rfl rfl rfl rfl rfl rfl rfl rfl rfl rfl rfl ?_
            refine s_assign rfl rfl rfl rfl rfl rfl ?_
            refine okl_nil ?_
            change OkC Try.prog _ _ _ _ _ _ _
            refine okc_weak (l' := [(0, _), (1, _), (2, _), (3, _), (4, _), (5, _), (6, _), (7, _), (11, _), (17, _), (34, _), (48, _)]) ⟨rfl, rfl, rfl, rfl, rfl, rfl, rfl, rfl, rfl, rfl, rfl, rfl, trivial⟩ ?_
            refine okc_ret fun a w hs => ?_
            have he : adE s x = 0 := by simp [adE, hv, hl12, hv2]
            have hr : adR s x = adS s x := by simp [adR, he]
            exact ret_postS hs (run_results2 hs rfl (k_ragg 0 rfl rfl rfl rfl rfl) (rv_tmp rfl)) ⟨p1, k1, B1, p3, c3, B3⟩ (by rw [hr, he, adV _ _ _ hat]; rfl) (by rw [hr]; exact hok) (sub_drop 3 rfl)
      · have hge : ¬ k < s.reads.length := by simpa using h7
        have hke : k = s.reads.length := by omega
        have hkat : atS s x = k := tw_len _ k hk hall (fun y hy => by rw [hke] at hy; simp at hy)
        refine d_move [4] rfl rfl rfl rfl rfl (fun ν => rfl) rfl (fun ν => rfl) ?_
        refine d_skip [5] rfl rfl rfl rfl rfl (fun ν => rfl) ?_
        refine d_skip [6, 5] rfl rfl rfl rfl rfl (fun ν => rfl) ?_
        refine d_skip [5] rfl rfl rfl rfl rfl (fun ν => rfl) ?_
        refine d_skip [7, 8, 5] rfl rfl rfl rfl rfl (fun ν => rfl) ?_
        refine d_skip [9, 5] rfl rfl rfl rfl rfl (fun ν => rfl) ?_
        refine d_skip [10, 5] rfl rfl rfl rfl rfl (fun ν => rfl) ?_
        refine d_skip [5] rfl rfl rfl rfl rfl (fun ν => rfl) ?_
        refine d_skip [12, 5] rfl rfl rfl rfl rfl (fun ν => rfl) ?_
        refine d_skip [11, 13, 5] rfl rfl rfl rfl rfl (fun ν => rfl) ?_
        refine d_pick_f [5, 14] rfl rfl rfl rfl rfl (fun ν => rfl) rfl (fun ν => rfl) (fun ν => rfl) ?_
        refine dr_end [19, 20, 21, 22, 23, 24, 25, 26, 27, 28, 29, 30, 31, 32, 33, 34] [15] 16 rfl rfl rfl rfl rfl rfl rfl rfl rfl (fun nu6 => ?_)
        refine okl_nil ?_
        change OkC Try.prog _ _ _ _ _ _ _
        refine okc_weak (l' := [(0, _), (1, _), (2, _), (3, _), (4, _), (5, _), (6, _), (7, _), (11, _), (17, _), (34, _)]) ⟨rfl, rfl, rfl, rfl, rfl, rfl, rfl, rfl, rfl, rfl, rfl, trivial⟩ ?_
        refine okc_cond_f rfl ?_
        refine okc_exit ?_
        change OkC Try.prog _ _ _ _ _ _ _
        refine okc_weak (l' := [(0, _), (1, _), (2, _), (3, _), (4, _), (5, _), (6, _), (7, _), (11, _), (17, _), (34, _)]) ⟨rfl, rfl, rfl, rfl, rfl, rfl, rfl, rfl, rfl, rfl, rfl, trivial⟩ ?_
        refine okc_seq ?_
        refine okc_region ?_
        refine s_loadW 2 rfl rfl rfl rfl rfl rfl rfl rfl rfl rfl ?_
        subst hkat
        have hat : atS s x ≤ s.reads.length := hk
        refine okl_rE rfl rfl rfl rfl (op_call rfl rfl rfl c97 (copied_fn s M hin hgr) covers_all) (fun g hg => ?_)
        obtain ⟨p1, k1, B1, p2, k2, B2⟩ := g
        obtain ⟨hg1, hg2⟩ := hg
        dsimp only at hg1 hg2
        refine k_storeW 2 rfl rfl rfl rfl rfl rfl rfl rfl rfl rfl rfl rfl ?_
        refine okl_nil ?_
        change OkC Try.prog _ _ _ _ _ _ _
        refine okc_weak (l' := [(0, _), (1, _), (2, _), (3, _), (4, _), (5, _), (6, _), (7, _), (11, _), (17, _), (34, _)]) ⟨rfl, rfl, rfl, rfl, rfl, rfl, rfl, rfl, rfl, rfl, rfl, trivial⟩ ?_
        refine okc_seq ?_
        refine okc_region ?_
        refine s_field rfl rfl rfl rfl rfl rfl rfl rfl ?_
        refine s_load1 2 rfl rfl rfl rfl rfl rfl rfl rfl rfl ?_
        refine s_move rfl rfl rfl rfl rfl rfl ?_
        refine s_loadW 1 rfl rfl rfl rfl rfl rfl rfl rfl rfl rfl ?_
        refine s_slice1N rfl rfl rfl rfl rfl rfl rfl rfl rfl rfl rfl rfl rfl (fun b11 => ?_)
        refine okl_nd (fun hnd => ?_)
        have hbx : b11 ∉ nums B2 := nd_last (a := (b11, rdL x, 69)) (R := [_, _, _]) (B1 := B1) hnd
        refine okl_x (c := B2 ++ [(b11, rdL x, 69)]) (keep := []) ([_, _, _] ++ B1) rfl rfl rfl rfl (opx_callF rfl rfl rfl c98 (insert_fn [] s.reads (by omega) (atS s x) hat x p2 k2 B2 hg2 b11 hbx) covers_nil (fun b es c h => by cases h)) (perm_in (b11, rdL x, 69) [_, _, _] B1 B2) (fun v B hv => ?_)
        obtain ⟨h3, rfl, hsl3, rfl⟩ := hv
        obtain ⟨p3, c3, B3⟩ := h3
        dsimp only at hsl3 ⊢
        refine okl_sub (O' := [_, _, _] ++ (B1 ++ B3)) (ins_sub [_, _, _] B1 B3) ?_
        have hok := ad_ok hat hg1 hsl3
        have hown := ad_in hgr hat hok
        refine s_field rfl rfl rfl rfl rfl rfl rfl rfl ?_
        refine k_store 2 rfl rfl rfl rfl rfl rfl rfl rfl rfl rfl rfl rfl ?_
        refine okl_nil ?_
        change OkC Try.prog _ _ _ _ _ _ _
        refine okc_weak (l' := [(0, _), (1, _), (2, _), (3, _), (4, _), (5, _), (6, _), (7, _), (11, _), (17, _), (34, _)]) ⟨rfl, rfl, rfl, rfl, rfl, rfl, rfl, rfl, rfl, rfl, rfl, trivial⟩ ?_
        refine okc_seq ?_
        refine okc_seq ?_
        refine okc_region ?_
        refine s_loadW 2 rfl rfl rfl rfl rfl rfl rfl rfl rfl rfl ?_
        have hck : Cn Try.prog 26 [.agg #[.int .i64 s.weeks, .int .i64 s.most, .int .i64 s.fall, .int .i64 s.slo, .int .i64 s.shi, .int .i64 s.wlo, .int .i64 s.whi, .slice p1 s.book.length k1, .slice p3 (s.reads.length + 1) c3]] (argsOf (B1 ++ B3)) (fun _ : Unit => .int .i64 (ckS (adS s x))) (fun _ => []) (fun _ => True) := by have h := Check_fn (twS (adS s x) ⟨p1, k1, B1, p3, c3, B3⟩) _ hown; rw [adV _ _ _ hat] at h; exact h
        refine s_callv rfl rfl rfl rfl rfl rfl rfl c26 hck (covers_grp fun y hy => (List.mem_append_right [_, _, _] hy : y ∈ [_, _, _] ++ (B1 ++ B3))) ?_
        refine s_cmpS rfl rfl rfl rfl rfl rfl rfl rfl (fun h12 => ?_) (fun h12 => ?_)
        · have hv2 : validB (adS s x) = false := by have hq := h12; unfold ckS at hq; cases hvv : validB (adS s x) <;> simp_all
          refine okl_nil ?_
          change OkC Try.prog _ _ _ _ _ _ _
          refine okc_weak (l' := [(0, _), (1, _), (2, _), (3, _), (4, _), (5, _), (6, _), (7, _), (11, _), (17, _), (34, _), (48, _)]) ⟨rfl, rfl, rfl, rfl, rfl, rfl, rfl, rfl, rfl, rfl, rfl, rfl, trivial⟩ ?_
          refine okc_cond_t rfl ?_
          refine okc_seq ?_
          refine okc_region ?_
          refine s_build rfl rfl rfl rfl rfl rfl rfl rfl rfl ?_
          refine k_storeW 0 rfl rfl rfl rfl rfl rfl rfl rfl rfl rfl rfl rfl ?_
          refine s_assign rfl rfl rfl rfl rfl rfl ?_
          refine okl_nil ?_
          change OkC Try.prog _ _ _ _ _ _ _
          refine okc_weak (l' := [(0, _), (1, _), (2, _), (3, _), (4, _), (5, _), (6, _), (7, _), (11, _), (17, _), (34, _), (48, _)]) ⟨rfl, rfl, rfl, rfl, rfl, rfl, rfl, rfl, rfl, rfl, rfl, rfl, trivial⟩ ?_
          refine okc_ret fun a w hs => ?_
          have he : adE s x = 12 := by simp [adE, hv, hl12, hv2]
          have hr : adR s x = zS := by simp [adR, he]
          exact ret_postS hs (run_results2 hs rfl (k_ragg 0 rfl rfl rfl rfl rfl) (rv_tmp rfl)) zG (by rw [hr, he]; rfl) (by rw [hr]; exact zOk) (List.nil_sublist _)
        · have hv2 : validB (adS s x) = true := by have hq := h12; unfold ckS at hq; cases hvv : validB (adS s x) <;> simp_all
          refine okl_nil ?_
          change OkC Try.prog _ _ _ _ _ _ _
          refine okc_weak (l' := [(0, _), (1, _), (2, _), (3, _), (4, _), (5, _), (6, _), (7, _), (11, _), (17, _), (34, _), (48, _)]) ⟨rfl, rfl, rfl, rfl, rfl, rfl, rfl, rfl, rfl, rfl, rfl, rfl, trivial⟩ ?_
          refine okc_cond_f rfl ?_
          refine okc_skip ?_
          change OkC Try.prog _ _ _ _ _ _ _
          refine okc_weak (l' := [(0, _), (1, _), (2, _), (3, _), (4, _), (5, _), (6, _), (7, _), (11, _), (17, _), (34, _), (48, _)]) ⟨rfl, rfl, rfl, rfl, rfl, rfl, rfl, rfl, rfl, rfl, rfl, rfl, trivial⟩ ?_
          refine okc_seq ?_
          refine okc_region ?_
          refine s_loadW 2 rfl rfl rfl rfl rfl rfl rfl rfl rfl rfl ?_
          refine k_storeW 0 rfl rfl rfl rfl rfl rfl rfl rfl rfl rfl rfl rfl ?_
          refine s_assign rfl rfl rfl rfl rfl rfl ?_
          refine okl_nil ?_
          change OkC Try.prog _ _ _ _ _ _ _
          refine okc_weak (l' := [(0, _), (1, _), (2, _), (3, _), (4, _), (5, _), (6, _), (7, _), (11, _), (17, _), (34, _), (48, _)]) ⟨rfl, rfl, rfl, rfl, rfl, rfl, rfl, rfl, rfl, rfl, rfl, rfl, trivial⟩ ?_
          refine okc_ret fun a w hs => ?_
          have he : adE s x = 0 := by simp [adE, hv, hl12, hv2]
          have hr : adR s x = adS s x := by simp [adR, he]
          exact ret_postS hs (run_results2 hs rfl (k_ragg 0 rfl rfl rfl rfl rfl) (rv_tmp rfl)) ⟨p1, k1, B1, p3, c3, B3⟩ (by rw [hr, he, adV _ _ _ hat]; rfl) (by rw [hr]; exact hok) (sub_drop 3 rfl)
end Go.Proofs.Ytdpnadknaacinaa
end

section
namespace Go.Proofs.Ytdpnadknaacinaa
open Go.Sx Go.Proofs.Ytdpnadknaacinaa.Ty
set_option linter.unusedVariables false
set_option linter.unusedSimpArgs false
set_option maxHeartbeats 2000000


theorem rds_take {M : Args} {keep : Blks} {p : Option Addr} {L : List Rd} {i : Nat} (h : RdsIn M p L) (hi : i ≤ L.length) : (i = 0 ∧ rdsC (L.take i) = []) ∨ (0 < i ∧ ∃ bx ox, p = some ⟨bx, ox, none⟩ ∧ Lies keep M bx ox (rdsC (L.take i))) := by
  obtain ⟨b, off, cs, j, h⟩ := h
  rcases Nat.eq_zero_or_pos i with rfl | h0
  · exact .inl ⟨rfl, rfl⟩
  · obtain ⟨h1, h2, h3⟩ := h (by intro e; subst e; simp at hi; omega)
    refine .inr ⟨h0, b, off, h1, Lies.arg (List.mem_of_getElem? h2) (lies_rows (fun _ => rfl) fun k x hx => h3 k x ?_)⟩
    rw [List.getElem?_take] at hx
    split at hx
    · exact hx
    · cases hx
theorem rds_drop {M : Args} {keep : Blks} {p : Option Addr} {L : List Rd} {i c : Nat} (h : RdsIn M p L) (hi : i ≤ L.length) (hc : L.length ≤ c) : (L.length - i = 0 ∧ rdsC (L.drop i) = []) ∨ (0 < L.length - i ∧ ∃ bx ox, cutA p c i 5 = some ⟨bx, ox, none⟩ ∧ Lies keep M bx ox (rdsC (L.drop i))) := by
  obtain ⟨b, off, cs, j, h⟩ := h
  rcases Nat.lt_or_ge i L.length with h0 | h0
  · obtain ⟨h1, h2, h3⟩ := h (by intro e; subst e; simp at h0)
    refine .inr ⟨by omega, b, off + i * 5, ?_, Lies.arg (List.mem_of_getElem? h2) (lies_rows (fun _ => rfl) fun k x hx => ?_)⟩
    · unfold cutA; rw [if_neg (by omega), h1]; show some _ = some _; congr 1; unfold Addr.add; split <;> simp_all
    · rw [List.getElem?_drop] at hx
      have := h3 (i + k) x hx
      rw [← this]; congr 1; omega
  · exact .inl ⟨by omega, by rw [List.drop_eq_nil_of_le h0]; rfl⟩
theorem sub_rad (R B1 B2 X B13 : Blks) : (R ++ (B1 ++ B13)).Sublist ((R ++ (B1 ++ B2)) ++ (X ++ B13)) := by
  rw [List.append_assoc]
  refine List.Sublist.append (List.Sublist.refl _) ?_
  rw [List.append_assoc]
  refine List.Sublist.append (List.Sublist.refl _) ?_
  rw [← List.append_assoc]
  exact List.sublist_append_right _ _


theorem ins_cells (L : List Rd) (i : Nat) (x : Rd) : rdsC (insL L i x) = rdsC (L.take i) ++ rdL x ++ rdsC (L.drop i) := by
  unfold insL; rw [rdsC_app, List.append_assoc]; simp [rdsC]

theorem rAdd_fn (s : Sp) (M : Args) (hin : s.In M) (hgr : s.book.length ≤ 30 ∧ s.reads.length ≤ 30) (hrc : s.reads.length ≤ s.rc) (x : Rd) : Cn Try.prog 49 [spV s, rdV x] M (fun g : Rn2 => .tuple #[spV (twS (adR s x) g), .int .i64 (adE s x)]) (fun g => g.B1 ++ g.B2) (TwOk (adR s x)) := by
  obtain ⟨bR, oR, cR, jR, hR⟩ := hin.reads
  refine fn_intro (N := 57) Try.func49 rfl rfl rfl fun w0 => ?_
  refine okc_seq ?_
  refine okc_region ?_
  refine s_boxA rfl rfl rfl rfl rfl rfl (fun b1 => ?_)
  refine s_boxA rfl rfl rfl rfl rfl rfl (fun b2 => ?_)
  refine s_alloc rfl rfl rfl rfl rfl rfl (fun b3 => ?_)
  refine s_assign rfl rfl rfl rfl rfl rfl ?_
  refine okl_nil ?_
  change OkC Try.prog _ _ _ _ _ _ _
  refine okc_weak (l' := [(0, _), (1, _), (2, _), (3, _), (4, _), (5, _)]) ⟨rfl, rfl, rfl, rfl, rfl, rfl, trivial⟩ ?_
  refine okc_seq ?_
  refine okc_seq ?_
  refine okc_region ?_
  refine s_loadW 2 rfl rfl rfl rfl rfl rfl rfl rfl rfl rfl ?_
  refine s_callb rfl rfl rfl rfl rfl rfl rfl c74 (rSpring_fn s M hin) covers_all (fun h4 => ?_) (fun h4 => ?_)
  · have hv : validB s = true := h4
    refine s_not rfl rfl rfl rfl rfl rfl ?_
    refine okl_nil ?_
    change OkC Try.prog _ _ _ _ _ _ _
    refine okc_weak (l' := [(0, _), (1, _), (2, _), (3, _), (4, _), (5, _), (10, _)]) ⟨rfl, rfl, rfl, rfl, rfl, rfl, rfl, trivial⟩ ?_
    refine okc_cond_f rfl ?_
    refine okc_skip ?_
    change OkC Try.prog _ _ _ _ _ _ _
    refine okc_weak (l' := [(0, _), (1, _), (2, _), (3, _), (4, _), (5, _), (10, _)]) ⟨rfl, rfl, rfl, rfl, rfl, rfl, rfl, trivial⟩ ?_
    refine okc_seq ?_
    refine okc_seq ?_
    refine okc_region ?_
    refine s_field rfl rfl rfl rfl rfl rfl rfl rfl ?_
    refine s_load1 2 rfl rfl rfl rfl rfl rfl rfl rfl rfl ?_
    refine s_len rfl rfl rfl rfl rfl rfl rfl ?_
    refine s_cmpS rfl rfl rfl rfl rfl rfl rfl rfl (fun h5 => ?_) (fun h5 => ?_)
    · have hl12 : s.reads.length = 12 := by have hq := h5; simp at hq; omega
      refine okl_nil ?_
      change OkC Try.prog _ _ _ _ _ _ _
      refine okc_weak (l' := [(0, _), (1, _), (2, _), (3, _), (4, _), (5, _), (10, _), (15, _)]) ⟨rfl, rfl, rfl, rfl, rfl, rfl, rfl, rfl, trivial⟩ ?_
      refine okc_cond_t rfl ?_
      refine okc_seq ?_
      refine okc_region ?_
      refine s_build rfl rfl rfl rfl rfl rfl rfl rfl rfl ?_
      refine k_storeW 0 rfl rfl rfl rfl rfl rfl rfl rfl rfl rfl rfl rfl ?_
      refine s_assign rfl rfl rfl rfl rfl rfl ?_
      refine okl_nil ?_
      change OkC Try.prog _ _ _ _ _ _ _
      refine okc_weak (l' := [(0, _), (1, _), (2, _), (3, _), (4, _), (5, _), (10, _), (15, _)]) ⟨rfl, rfl, rfl, rfl, rfl, rfl, rfl, rfl, trivial⟩ ?_
      refine okc_ret fun a w hs => ?_
      have he : adE s x = 9 := by simp [adE, hv, hl12]
      have hr : adR s x = zS := by simp [adR, he]
      exact ret_postS hs (run_results2 hs rfl (k_ragg 0 rfl rfl rfl rfl rfl) (rv_tmp rfl)) zG (by rw [hr, he]; rfl) (by rw [hr]; exact zOk) (List.nil_sublist _)
    · have hl12 : ¬ s.reads.length = 12 := by have hq := h5; simp at hq; omega
      refine okl_nil ?_
      change OkC Try.prog _ _ _ _ _ _ _
      refine okc_weak (l' := [(0, _), (1, _), (2, _), (3, _), (4, _), (5, _), (10, _), (15, _)]) ⟨rfl, rfl, rfl, rfl, rfl, rfl, rfl, rfl, trivial⟩ ?_
      refine okc_cond_f rfl ?_
      refine okc_skip ?_
      change OkC Try.prog _ _ _ _ _ _ _
      refine okc_weak (l' := [(0, _), (1, _), (2, _), (3, _), (4, _), (5, _), (10, _), (15, _)]) ⟨rfl, rfl, rfl, rfl, rfl, rfl, rfl, rfl, trivial⟩ ?_
      refine okc_seq ?_
      refine okc_region ?_
      refine s_assign rfl rfl rfl rfl rfl rfl ?_
      refine okl_nil ?_
      change OkC Try.prog _ _ _ _ _ _ _
      refine okc_weak (l' := [(0, _), (1, _), (2, _), (3, _), (4, _), (5, _), (6, _), (10, _), (15, _)]) ⟨rfl, rfl, rfl, rfl, rfl, rfl, rfl, rfl, rfl, trivial⟩ ?_
      refine okc_seq ?_
      refine okc_block ?_
      refine okc_loopF (γ := Nat) [(0, _), (1, _), (2, _), (3, _), (4, _), (5, _), (10, _), (15, _)] ⟨rfl, rfl, rfl, rfl, rfl, rfl, rfl, rfl, trivial⟩ [0, 1, 2] [] (by decide) _ rfl (fun k => [(6, .int .i64 (k : Int))]) (fun k => []) (fun k => k ≤ s.reads.length ∧ ∀ (j : Nat) (y : Rd), j < k → s.reads[j]? = some y → befB x y = true) (fun k => s.reads.length - k) 0 ⟨Nat.zero_le _, fun j y h => absurd h (Nat.not_lt_zero j)⟩ ⟨rfl, trivial⟩ rfl ?_
      rintro k ⟨hk, hall⟩
      change OkC Try.prog _ _ _ _ _ _ _
      refine okc_seq ?_
      refine okc_seq ?_
      refine dr_start [17, 18, 19, 20, 21, 22, 23, 24, 25, 26, 27, 28, 29, 30, 31, 32] ?_
      refine d_move [] rfl rfl rfl rfl rfl (fun ν => rfl) rfl (fun ν => rfl) ?_
      refine d_field [] rfl rfl rfl rfl rfl (fun ν => rfl) rfl (fun ν => rfl) rfl rfl ?_
      refine d_load1 2 [1] rfl rfl rfl rfl rfl (fun ν => rfl) rfl rfl (fun ν => rfl) (fun ν => rfl) rfl ?_
      refine d_len [2] rfl rfl rfl rfl rfl (fun ν => rfl) rfl (fun ν => rfl) rfl ?_
      refine d_cmpS [0, 3] rfl rfl rfl rfl rfl (fun ν => rfl) rfl (fun ν => rfl) (fun ν => rfl) rfl (fun h7 => ?_) (fun h7 => ?_)
      · have hlt : k < s.reads.length := by simpa using h7
        obtain ⟨y, hy⟩ : ∃ y, s.reads[k]? = some y := ⟨s.reads[k], by simp [hlt]⟩
        obtain ⟨hpR, hjR, hatR⟩ := hR (by intro e; simp [e] at hlt)
        have hcy := hatR k y hy
        have hc2 : cR[oR + k * 5 + 0]? = some (.int .i64 y.number) := by have h := sub_at hcy 0 (by omega); rw [h]; rfl
        refine d_move [4] rfl rfl rfl rfl rfl (fun ν => rfl) rfl (fun ν => rfl) ?_
        refine d_field [5] rfl rfl rfl rfl rfl (fun ν => rfl) rfl (fun ν => rfl) rfl rfl ?_
        refine d_load1 2 [6, 5] rfl rfl rfl rfl rfl (fun ν => rfl) rfl rfl (fun ν => rfl) (fun ν => rfl) rfl ?_
        refine d_move [5] rfl rfl rfl rfl rfl (fun ν => rfl) rfl (fun ν => rfl) ?_
        refine d_indexP k hpR [7, 8, 5] rfl rfl rfl rfl rfl (fun ν => rfl) rfl (fun ν => rfl) (fun ν => rfl) rfl rfl rfl (by omega) rfl ?_
        refine d_field [9, 5] rfl rfl rfl rfl rfl (fun ν => rfl) rfl (fun ν => rfl) rfl rfl ?_
        refine d_loadA1 jR [10, 5] rfl rfl rfl rfl rfl (fun ν => rfl) rfl rfl (fun ν => rfl) hjR (by assumption) ?_
        refine d_field [5] rfl rfl rfl rfl rfl (fun ν => rfl) rfl (fun ν => rfl) rfl rfl ?_
        refine d_load1 1 [12, 5] rfl rfl rfl rfl rfl (fun ν => rfl) rfl rfl (fun ν => rfl) (fun ν => rfl) rfl ?_
        refine d_cmpS [11, 13, 5] rfl rfl rfl rfl rfl (fun ν => rfl) rfl (fun ν => rfl) (fun ν => rfl) rfl (fun h8 => ?_) (fun h8 => ?_)
        · have hb : befB x y = true := by simpa [befB] using h8
          refine d_pick_t [5, 14] rfl rfl rfl rfl rfl (fun ν => rfl) rfl (fun ν => rfl) (fun ν => rfl) ?_
          refine dr_end [17, 18, 19, 20, 21, 22, 23, 24, 25, 26, 27, 28, 29, 30, 31, 32] [15] 16 rfl rfl rfl rfl rfl rfl rfl rfl rfl (fun nu6 => ?_)
          refine okl_nil ?_
          change OkC Try.prog _ _ _ _ _ _ _
          refine okc_weak (l' := [(0, _), (1, _), (2, _), (3, _), (4, _), (5, _), (6, _), (10, _), (15, _), (32, _)]) ⟨rfl, rfl, rfl, rfl, rfl, rfl, rfl, rfl, rfl, rfl, trivial⟩ ?_
          refine okc_cond_t rfl ?_
          refine okc_skip ?_
          change OkC Try.prog _ _ _ _ _ _ _
          refine okc_weak (l' := [(0, _), (1, _), (2, _), (3, _), (4, _), (5, _), (6, _), (10, _), (15, _), (32, _)]) ⟨rfl, rfl, rfl, rfl, rfl, rfl, rfl, rfl, rfl, rfl, trivial⟩ ?_
          refine okc_block ?_
          refine okc_region ?_
          refine s_move rfl rfl rfl rfl rfl rfl ?_
          refine s_add rfl rfl rfl rfl rfl rfl rfl (by omega) ?_
          refine s_assign rfl rfl rfl rfl rfl rfl ?_
          refine okl_nil ?_
          refine fun a w hs => ⟨k + 1, ⟨hlt, fun j z h hz => by rcases Nat.lt_or_ge j k with h2 | h2; exact hall j z h2 hz; (obtain rfl : j = k := by omega); rw [hy] at hz; cases hz; exact hb⟩, by omega, ?_⟩
          exact hs.weak ⟨rfl, rfl, rfl, rfl, rfl, rfl, rfl, rfl, rfl, trivial⟩ [0, 1, 2] (by decide) (rfl)
        · have hb : befB x y = false := by simpa [befB] using h8
          have hkat : atS s x = k := tw_len _ k hk hall (fun z hz => by rw [hy] at hz; cases hz; exact hb)
          refine d_pick_t [5, 14] rfl rfl rfl rfl rfl (fun ν => rfl) rfl (fun ν => rfl) (fun ν => rfl) ?_
          refine dr_end [17, 18, 19, 20, 21, 22, 23, 24, 25, 26, 27, 28, 29, 30, 31, 32] [15] 16 rfl rfl rfl rfl rfl rfl rfl rfl rfl (fun nu6 => ?_)
          refine okl_nil ?_
          change OkC Try.prog _ _ _ _ _ _ _
          refine okc_weak (l' := [(0, _), (1, _), (2, _), (3, _), (4, _), (5, _), (6, _), (10, _), (15, _), (32, _)]) ⟨rfl, rfl, rfl, rfl, rfl, rfl, rfl, rfl, rfl, rfl, trivial⟩ ?_
          refine okc_cond_f rfl ?_
          refine okc_exit ?_
          change OkC Try.prog _ _ _ _ _ _ _
          refine okc_weak (l' := [(0, _), (1, _), (2, _), (3, _), (4, _), (5, _), (6, _), (10, _), (15, _), (32, _)]) ⟨rfl, rfl, rfl, rfl, rfl, rfl, rfl, rfl, rfl, rfl, trivial⟩ ?_
          refine okc_seq ?_
          refine okc_region ?_
          refine s_loadW 2 rfl rfl rfl rfl rfl rfl rfl rfl rfl rfl ?_
          subst hkat
          have hat : atS s x ≤ s.reads.length := hk
          refine okl_rE rfl rfl rfl rfl (op_call rfl rfl rfl c17 (twin_fn s M hin hgr) covers_all) (fun g hg => ?_)
          obtain ⟨p1, k1, B1, p2, k2, B2⟩ := g
          obtain ⟨hg1, hg2⟩ := hg
          dsimp only at hg1 hg2
          refine s_alloc rfl rfl rfl rfl rfl rfl (fun b9 => ?_)
          refine k_storeW 0 rfl rfl rfl rfl rfl rfl rfl rfl rfl rfl rfl rfl ?_
          refine okl_nil ?_
          change OkC Try.prog _ _ _ _ _ _ _
          refine okc_weak (l' := [(0, _), (1, _), (2, _), (3, _), (4, _), (5, _), (6, _), (7, _), (10, _), (15, _), (32, _)]) ⟨rfl, rfl, rfl, rfl, rfl, rfl, rfl, rfl, rfl, rfl, rfl, trivial⟩ ?_
          refine okc_seq ?_
          refine okc_drawz [37, 38, 39, 40, 41, 42, 43, 44, 45, 46, 47, 48, 49, 50, 51] [13, 14] [⟨some 37, [], [], fun _ v B => ∃ b, v = .slice (some ⟨b, 0, none⟩) 0 0 ∧ B = [(b, [], 69)] ∧ True⟩, ⟨some 38, [], [], fun _ v B => v = .pointer (some ⟨b1, 0 + 8, none⟩) ∧ B = []⟩, ⟨some 39, [1], [], fun _ v B => v = .slice s.rp s.reads.length s.rc ∧ B = []⟩, ⟨some 40, [], [], fun _ v B => v = .int .i64 (atS s x : Int) ∧ B = []⟩, ⟨some 41, [2, 3], [], fun _ v B => v = .slice s.rp (atS s x) s.rc ∧ B = []⟩, ⟨some 42, [0, 4], [], fun _ v B => ∃ p c, v = .slice p (atS s x) c ∧ Sl B 69 5 p (atS s x) c (rdsC (s.reads.take (atS s x)))⟩, ⟨some 43, [], [], fun _ v B => v = rdV x ∧ B = []⟩, ⟨some 44, [6], [], fun _ v B => ∃ b, v = .slice (some ⟨b, 0, none⟩) 1 1 ∧ B = [(b, rdL x, 69)] ∧ True⟩, ⟨some 45, [5, 7], [], fun _ v B => ∃ p c, v = .slice p (atS s x + 1) c ∧ Sl B 69 5 p (atS s x + 1) c (rdsC (s.reads.take (atS s x)) ++ rdL x)⟩, ⟨some 46, [], [], fun _ v B => v = .pointer (some ⟨b1, 0 + 8, none⟩) ∧ B = []⟩, ⟨some 47, [9], [], fun _ v B => v = .slice s.rp s.reads.length s.rc ∧ B = []⟩, ⟨some 48, [], [], fun _ v B => v = .int .i64 (atS s x : Int) ∧ B = []⟩, ⟨some 49, [10, 11], [], fun _ v B => v = .slice (cutA s.rp s.rc (atS s x) 5) (s.reads.length - atS s x) (s.rc - atS s x) ∧ B = []⟩, ⟨some 50, [8, 12], [], fun _ v B => ∃ p c, v = .slice p (s.reads.length + 1) c ∧ Sl B 69 5 p (s.reads.length + 1) c (rdsC (insL s.reads (atS s x) x))⟩, ⟨some 51, [], [], fun _ v B => v = .pointer (some ⟨b9, 0 + 8, none⟩) ∧ B = []⟩] (fun j k => (Nat.beq j 5 && Nat.beq k 0) || (Nat.beq j 8 && Nat.beq k 5) || (Nat.beq j 13 && Nat.beq k 8)) rfl 15 8 (fun _ _ => _) rfl rfl rfl rfl rfl rfl rfl (perm_nil _) ⟨?_, ?_, ?_, ?_, ?_, ?_, ?_, ?_, ?_, ?_, ?_, ?_, ?_, ?_, ?_, trivial⟩ (fun ρ hρ => ?_) rfl
          · refine obl_zs rfl rfl rfl rfl (fun ρ hρ => ?_)
            exact .inl ⟨rfl, opx_r (fun F => k_slice0 rfl rfl rfl)⟩
          · refine obl_zs rfl rfl rfl rfl (fun ρ hρ => ?_)
            exact .inl ⟨rfl, opx_v (fun F => k_field rfl rfl rfl rfl)⟩
          · refine obl_zs rfl rfl rfl rfl (fun ρ hρ => ?_)
            have h1 := hρ 1 (by simp) _ rfl
            change GoodX Try.prog _ _ _ _ ((38, (ρ 1).1) :: _) ([] ++ []) (((ρ 1).2 ++ []) ++ _) _ _
            generalize ρ 1 = q1 at h1 ⊢
            obtain ⟨v1, B1⟩ := q1
            obtain ⟨rfl, rfl⟩ := h1
            exact .inl ⟨rfl, opx_v (fun F => k_load1 3 rfl rfl rfl rfl rfl)⟩
          · refine obl_zs rfl rfl rfl rfl (fun ρ hρ => ?_)
            exact .inl ⟨rfl, opx_v (fun F => op_move rfl rfl)⟩
          · refine obl_zs rfl rfl rfl rfl (fun ρ hρ => ?_)
            have h2 := hρ 2 (by simp) _ rfl
            have h3 := hρ 3 (by simp) _ rfl
            change GoodX Try.prog _ _ _ _ ((39, (ρ 2).1) :: (40, (ρ 3).1) :: _) ([] ++ []) (((ρ 2).2 ++ ((ρ 3).2 ++ [])) ++ _) _ _
            generalize ρ 2 = q2 at h2 ⊢
            obtain ⟨v2, B2⟩ := q2
            obtain ⟨rfl, rfl⟩ := h2
            generalize ρ 3 = q3 at h3 ⊢
            obtain ⟨v3, B3⟩ := q3
            obtain ⟨rfl, rfl⟩ := h3
            exact .inl ⟨rfl, opx_v (fun F => op_sliceHi (i := atS s x) rfl rfl rfl (sl_un (sl_of rfl)) (siz_of rfl) rfl (by omega))⟩
          · refine obl_zs rfl rfl rfl rfl (fun ρ hρ => ?_)
            have h0 := hρ 0 (by simp) _ rfl
            have h4 := hρ 4 (by simp) _ rfl
            change GoodX Try.prog _ _ _ _ ((37, (ρ 0).1) :: (41, (ρ 4).1) :: _) ([] ++ ((ρ 0).2 ++ [])) (((ρ 4).2 ++ []) ++ _) _ _
            generalize ρ 0 = q0 at h0 ⊢
            obtain ⟨v0, B0⟩ := q0
            obtain ⟨b80, rfl, rfl, _⟩ := h0
            generalize ρ 4 = q4 at h4 ⊢
            obtain ⟨v4, B4⟩ := q4
            obtain ⟨rfl, rfl⟩ := h4
            exact .inl ⟨rfl, (k_append (Sl.lit (n := 0) (cs := []) rfl (by decide)) by69 rfl rfl rfl rfl rfl rfl rfl rfl (rds_take hin.reads hat) (by rw [rdsC_len, List.length_take, Nat.min_eq_left hat]) (rdsC_flat _) (by omega)).mono (by rintro v B ⟨p, c, rfl, h⟩; exact ⟨p, c, by rw [Nat.zero_add], by rw [Nat.zero_add] at h; exact h⟩)⟩
          · refine obl_zs rfl rfl rfl rfl (fun ρ hρ => ?_)
            exact .inl ⟨rfl, opx_v (fun F => k_loadW 2 rfl rfl rfl rfl rfl rfl)⟩
          · refine obl_zs rfl rfl rfl rfl (fun ρ hρ => ?_)
            have h6 := hρ 6 (by simp) _ rfl
            change GoodX Try.prog _ _ _ _ ((43, (ρ 6).1) :: _) ([] ++ []) (((ρ 6).2 ++ []) ++ _) _ _
            generalize ρ 6 = q6 at h6 ⊢
            obtain ⟨v6, B6⟩ := q6
            obtain ⟨rfl, rfl⟩ := h6
            exact .inl ⟨rfl, opx_r (fun F => k_slice1N rfl rfl rfl rfl rfl rfl rfl rfl rfl)⟩
          · refine obl_zs rfl rfl rfl rfl (fun ρ hρ => ?_)
            have h5 := hρ 5 (by simp) _ rfl
            have h7 := hρ 7 (by simp) _ rfl
            change GoodX Try.prog _ _ _ _ ((42, (ρ 5).1) :: (44, (ρ 7).1) :: _) ([] ++ ((ρ 5).2 ++ [])) (((ρ 7).2 ++ []) ++ _) _ _
            generalize ρ 5 = q5 at h5 ⊢
            obtain ⟨v5, B5⟩ := q5
            obtain ⟨p5, c5, rfl, h5⟩ := h5
            generalize ρ 7 = q7 at h7 ⊢
            obtain ⟨v7, B7⟩ := q7
            obtain ⟨b87, rfl, rfl, _⟩ := h7
            exact .inl ⟨rfl, k_append1 0 (by simpa using h5) by69 rfl rfl rfl rfl rfl rfl rfl rfl rfl rfl rfl (by omega)⟩
          · refine obl_zs rfl rfl rfl rfl (fun ρ hρ => ?_)
            exact .inl ⟨rfl, opx_v (fun F => k_field rfl rfl rfl rfl)⟩
          · refine obl_zs rfl rfl rfl rfl (fun ρ hρ => ?_)
            have h9 := hρ 9 (by simp) _ rfl
            change GoodX Try.prog _ _ _ _ ((46, (ρ 9).1) :: _) ([] ++ []) (((ρ 9).2 ++ []) ++ _) _ _
            generalize ρ 9 = q9 at h9 ⊢
            obtain ⟨v9, B9⟩ := q9
            obtain ⟨rfl, rfl⟩ := h9
            exact .inl ⟨rfl, opx_v (fun F => k_load1 3 rfl rfl rfl rfl rfl)⟩
          · refine obl_zs rfl rfl rfl rfl (fun ρ hρ => ?_)
            exact .inl ⟨rfl, opx_v (fun F => op_move rfl rfl)⟩
          · refine obl_zs rfl rfl rfl rfl (fun ρ hρ => ?_)
            have h10 := hρ 10 (by simp) _ rfl
            have h11 := hρ 11 (by simp) _ rfl
            change GoodX Try.prog _ _ _ _ ((47, (ρ 10).1) :: (48, (ρ 11).1) :: _) ([] ++ []) (((ρ 10).2 ++ ((ρ 11).2 ++ [])) ++ _) _ _
            generalize ρ 10 = q10 at h10 ⊢
            obtain ⟨v10, B10⟩ := q10
            obtain ⟨rfl, rfl⟩ := h10
            generalize ρ 11 = q11 at h11 ⊢
            obtain ⟨v11, B11⟩ := q11
            obtain ⟨rfl, rfl⟩ := h11
            exact .inl ⟨rfl, opx_v (fun F => op_sliceLo (i := atS s x) (size := 5) rfl rfl rfl (sl_un (sl_of rfl)) (siz_of rfl) rfl hat)⟩
          · refine obl_zs rfl rfl rfl rfl (fun ρ hρ => ?_)
            have h8 := hρ 8 (by simp) _ rfl
            have h12 := hρ 12 (by simp) _ rfl
            change GoodX Try.prog _ _ _ _ ((45, (ρ 8).1) :: (49, (ρ 12).1) :: _) ([] ++ ((ρ 8).2 ++ [])) (((ρ 12).2 ++ []) ++ _) _ _
            generalize ρ 8 = q8 at h8 ⊢
            obtain ⟨v8, B8⟩ := q8
            obtain ⟨p8, c8, rfl, h8⟩ := h8
            generalize ρ 12 = q12 at h12 ⊢
            obtain ⟨v12, B12⟩ := q12
            obtain ⟨rfl, rfl⟩ := h12
            exact .inl ⟨rfl, (k_append (by simpa using h8) by69 rfl rfl rfl rfl rfl rfl rfl rfl (rds_drop hin.reads hat hrc) (by rw [rdsC_len, List.length_drop]) (rdsC_flat _) (by omega)).mono (by rintro v B ⟨p, c, rfl, h⟩; exact ⟨p, c, by rw [show atS s x + 1 + (s.reads.length - atS s x) = s.reads.length + 1 by omega], by rw [show atS s x + 1 + (s.reads.length - atS s x) = s.reads.length + 1 by omega] at h; rw [ins_cells]; exact h⟩)⟩
          · refine obl_zs rfl rfl rfl rfl (fun ρ hρ => ?_)
            exact .inl ⟨rfl, opx_v (fun F => k_field rfl rfl rfl rfl)⟩
          have h0 := hρ 0 (by decide) _ rfl
          have h1 := hρ 1 (by decide) _ rfl
          have h2 := hρ 2 (by decide) _ rfl
          have h3 := hρ 3 (by decide) _ rfl
          have h4 := hρ 4 (by decide) _ rfl
          have h5 := hρ 5 (by decide) _ rfl
          have h6 := hρ 6 (by decide) _ rfl
          have h7 := hρ 7 (by decide) _ rfl
          have h8 := hρ 8 (by decide) _ rfl
          have h9 := hρ 9 (by decide) _ rfl
          have h10 := hρ 10 (by decide) _ rfl
          have h11 := hρ 11 (by decide) _ rfl
          have h12 := hρ 12 (by decide) _ rfl
          have h13 := hρ 13 (by decide) _ rfl
          have h14 := hρ 14 (by decide) _ rfl
          change Go.Sx.OkL Try.prog _ _ _ _ _ ((50, (ρ 13).1) :: (51, (ρ 14).1) :: _) (_ ++ ([] ++ ((ρ 1).2 ++ ((ρ 2).2 ++ ((ρ 3).2 ++ ((ρ 4).2 ++ ([] ++ ((ρ 6).2 ++ ((ρ 7).2 ++ ([] ++ ((ρ 9).2 ++ ((ρ 10).2 ++ ((ρ 11).2 ++ ((ρ 12).2 ++ ((ρ 13).2 ++ ((ρ 14).2 ++ [])))))))))))))))) _
          generalize ρ 0 = q0 at *
          obtain ⟨v0, B0⟩ := q0
          obtain ⟨b80, rfl, rfl, _⟩ := h0
          generalize ρ 1 = q1 at *
          obtain ⟨v1, B1⟩ := q1
          obtain ⟨rfl, rfl⟩ := h1
          generalize ρ 2 = q2 at *
          obtain ⟨v2, B2⟩ := q2
          obtain ⟨rfl, rfl⟩ := h2
          generalize ρ 3 = q3 at *
          obtain ⟨v3, B3⟩ := q3
          obtain ⟨rfl, rfl⟩ := h3
          generalize ρ 4 = q4 at *
          obtain ⟨v4, B4⟩ := q4
          obtain ⟨rfl, rfl⟩ := h4
          generalize ρ 5 = q5 at *
          obtain ⟨v5, B5⟩ := q5
          obtain ⟨p5, c5, rfl, h5⟩ := h5
          generalize ρ 6 = q6 at *
          obtain ⟨v6, B6⟩ := q6
          obtain ⟨rfl, rfl⟩ := h6
          generalize ρ 7 = q7 at *
          obtain ⟨v7, B7⟩ := q7
          obtain ⟨b87, rfl, rfl, _⟩ := h7
          generalize ρ 8 = q8 at *
          obtain ⟨v8, B8⟩ := q8
          obtain ⟨p8, c8, rfl, h8⟩ := h8
          generalize ρ 9 = q9 at *
          obtain ⟨v9, B9⟩ := q9
          obtain ⟨rfl, rfl⟩ := h9
          generalize ρ 10 = q10 at *
          obtain ⟨v10, B10⟩ := q10
          obtain ⟨rfl, rfl⟩ := h10
          generalize ρ 11 = q11 at *
          obtain ⟨v11, B11⟩ := q11
          obtain ⟨rfl, rfl⟩ := h11
          generalize ρ 12 = q12 at *
          obtain ⟨v12, B12⟩ := q12
          obtain ⟨rfl, rfl⟩ := h12
          generalize ρ 13 = q13 at *
          obtain ⟨v13, B13⟩ := q13
          obtain ⟨p13, c13, rfl, h13⟩ := h13
          generalize ρ 14 = q14 at *
          obtain ⟨v14, B14⟩ := q14
          obtain ⟨rfl, rfl⟩ := h14
          refine okl_sub (O' := [_, _, _, _] ++ (B1 ++ B13)) (by dsimp only; simp only [List.nil_append, List.append_nil]; exact sub_rad [_, _, _, _] B1 B2 [_] B13) ?_
          refine k_store 0 rfl rfl rfl rfl rfl rfl rfl rfl rfl rfl rfl rfl ?_
          refine okl_nil ?_
          change OkC Try.prog _ _ _ _ _ _ _
          refine okc_weak (l' := [(0, _), (1, _), (2, _), (3, _), (4, _), (5, _), (6, _), (7, _), (10, _), (15, _), (32, _)]) ⟨rfl, rfl, rfl, rfl, rfl, rfl, rfl, rfl, rfl, rfl, rfl, trivial⟩ ?_
          refine okc_seq ?_
          refine okc_seq ?_
          refine okc_region ?_
          refine s_loadW 0 rfl rfl rfl rfl rfl rfl rfl rfl rfl rfl ?_
          have hok := ad_ok hat hg1 h13
          have hown := ad_in hgr hat hok
          have hsp : Cn Try.prog 74 [.agg #[.int .i64 s.weeks, .int .i64 s.most, .int .i64 s.fall, .int .i64 s.slo, .int .i64 s.shi, .int .i64 s.wlo, .int .i64 s.whi, .slice p1 s.book.length k1, .slice p13 (s.reads.length + 1) c13]] (argsOf (B1 ++ B13)) (fun _ : Unit => .bool (validB (adS s x))) (fun _ => []) (fun _ => True) := by have h := rSpring_fn (twS (adS s x) ⟨p1, k1, B1, p13, c13, B13⟩) _ hown; rw [adV _ _ _ hat] at h; exact h
          refine s_callb rfl rfl rfl rfl rfl rfl rfl c74 hsp (covers_grp fun y hy => (List.mem_append_right [_, _, _, _] hy : y ∈ [_, _, _, _] ++ (B1 ++ B13))) (fun hv2 => ?_) (fun hv2 => ?_)
          · refine s_not rfl rfl rfl rfl rfl rfl ?_
            refine okl_nil ?_
            change OkC Try.prog _ _ _ _ _ _ _
            refine okc_weak (l' := [(0, _), (1, _), (2, _), (3, _), (4, _), (5, _), (6, _), (7, _), (10, _), (15, _), (32, _), (54, _)]) ⟨rfl, rfl, rfl, rfl, rfl, rfl, rfl, rfl, rfl, rfl, rfl, rfl, trivial⟩ ?_
            refine okc_cond_f rfl ?_
            refine okc_skip ?_
            change OkC Try.prog _ _ _ _ _ _ _
            refine okc_weak (l' := [(0, _), (1, _), (2, _), (3, _), (4, _), (5, _), (6, _), (7, _), (10, _), (15, _), (32, _), (54, _)]) ⟨rfl, rfl, rfl, rfl, rfl, rfl, rfl, rfl, rfl, rfl, rfl, rfl, trivial⟩ ?_
            refine okc_seq ?_
            refine okc_region ?_
            refine s_loadW 0 rfl rfl rfl rfl rfl rfl rfl rfl rfl rfl ?_
            refine k_storeW 1 rfl rfl rfl rfl rfl rfl rfl rfl rfl rfl rfl rfl ?_
            refine s_assign rfl rfl rfl rfl rfl rfl ?_
            refine okl_nil ?_
            change OkC Try.prog _ _ _ _ _ _ _
            refine okc_weak (l' := [(0, _), (1, _), (2, _), (3, _), (4, _), (5, _), (6, _), (7, _), (10, _), (15, _), (32, _), (54, _)]) ⟨rfl, rfl, rfl, rfl, rfl, rfl, rfl, rfl, rfl, rfl, rfl, rfl, trivial⟩ ?_
            refine okc_ret fun a w hs => ?_
            have he : adE s x = 0 := by simp [adE, hv, hl12, hv2]
            have hr : adR s x = adS s x := by simp [adR, he]
            exact ret_postS hs (run_results2 hs rfl (k_ragg 1 rfl rfl rfl rfl rfl) (rv_tmp rfl)) ⟨p1, k1, B1, p13, c13, B13⟩ (by rw [hr, he, adV _ _ _ hat]; rfl) (by rw [hr]; exact hok) (sub_drop 4 rfl)
          · refine s_not rfl rfl rfl rfl rfl rfl ?_
            refine okl_nil ?_
            change OkC Try.prog _ _ _ _ _ _ _
            refine okc_weak (l' := [(0, _), (1, _), (2, _), (3, _), (4, _), (5, _), (6, _), (7, _), (10, _), (15, _), (32, _), (54, _)]) ⟨rfl, rfl, rfl, rfl, rfl, rfl, rfl, rfl, rfl, rfl, rfl, rfl, trivial⟩ ?_
            refine okc_cond_t rfl ?_
            refine okc_seq ?_
            refine okc_region ?_
            refine s_build rfl rfl rfl rfl rfl rfl rfl rfl rfl ?_
            refine k_storeW 1 rfl rfl rfl rfl rfl rfl rfl rfl rfl rfl rfl rfl ?_
            refine s_assign rfl rfl rfl rfl rfl rfl ?_
            refine okl_nil ?_
            change OkC Try.prog _ _ _ _ _ _ _
            refine okc_weak (l' := [(0, _), (1, _), (2, _), (3, _), (4, _), (5, _), (6, _), (7, _), (10, _), (15, _), (32, _), (54, _)]) ⟨rfl, rfl, rfl, rfl, rfl, rfl, rfl, rfl, rfl, rfl, rfl, rfl, trivial⟩ ?_
            refine okc_ret fun a w hs => ?_
            have he : adE s x = 12 := by simp [adE, hv, hl12, hv2]
            have hr : adR s x = zS := by simp [adR, he]
            exact ret_postS hs (run_results2 hs rfl (k_ragg 1 rfl rfl rfl rfl rfl) (rv_tmp rfl)) zG (by rw [hr, he]; rfl) (by rw [hr]; exact zOk) (List.nil_sublist _)
      · have hge : ¬ k < s.reads.length := by simpa using h7
        have hke : k = s.reads.length := by omega
        have hkat : atS s x = k := tw_len _ k hk hall (fun y hy => by rw [hke] at hy; simp at hy)
        refine d_move [4] rfl rfl rfl rfl rfl (fun ν => rfl) rfl (fun ν => rfl) ?_
        refine d_skip [5] rfl rfl rfl rfl rfl (fun ν => rfl) ?_
        refine d_skip [6, 5] rfl rfl rfl rfl rfl (fun ν => rfl) ?_
        refine d_skip [5] rfl rfl rfl rfl rfl (fun ν => rfl) ?_
        refine d_skip [7, 8, 5] rfl rfl rfl rfl rfl (fun ν => rfl) ?_
        refine d_skip [9, 5] rfl rfl rfl rfl rfl (fun ν => rfl) ?_
        refine d_skip [10, 5] rfl rfl rfl rfl rfl (fun ν => rfl) ?_
        refine d_skip [5] rfl rfl rfl rfl rfl (fun ν => rfl) ?_
        refine d_skip [12, 5] rfl rfl rfl rfl rfl (fun ν => rfl) ?_
        refine d_skip [11, 13, 5] rfl rfl rfl rfl rfl (fun ν => rfl) ?_
        refine d_pick_f [5, 14] rfl rfl rfl rfl rfl (fun ν => rfl) rfl (fun ν => rfl) (fun ν => rfl) ?_
        refine dr_end [17, 18, 19, 20, 21, 22, 23, 24, 25, 26, 27, 28, 29, 30, 31, 32] [15] 16 rfl rfl rfl rfl rfl rfl rfl rfl rfl (fun nu6 => ?_)
        refine okl_nil ?_
        change OkC Try.prog _ _ _ _ _ _ _
        refine okc_weak (l' := [(0, _), (1, _), (2, _), (3, _), (4, _), (5, _), (6, _), (10, _), (15, _), (32, _)]) ⟨rfl, rfl, rfl, rfl, rfl, rfl, rfl, rfl, rfl, rfl, trivial⟩ ?_
        refine okc_cond_f rfl ?_
        refine okc_exit ?_
        change OkC Try.prog _ _ _ _ _ _ _
        refine okc_weak (l' := [(0, _), (1, _), (2, _), (3, _), (4, _), (5, _), (6, _), (10, _), (15, _), (32, _)]) ⟨rfl, rfl, rfl, rfl, rfl, rfl, rfl, rfl, rfl, rfl, trivial⟩ ?_
        refine okc_seq ?_
        refine okc_region ?_
        refine s_loadW 2 rfl rfl rfl rfl rfl rfl rfl rfl rfl rfl ?_
        subst hkat
        have hat : atS s x ≤ s.reads.length := hk
        refine okl_rE rfl rfl rfl rfl (op_call rfl rfl rfl c17 (twin_fn s M hin hgr) covers_all) (fun g hg => ?_)
        obtain ⟨p1, k1, B1, p2, k2, B2⟩ := g
        obtain ⟨hg1, hg2⟩ := hg
        dsimp only at hg1 hg2
        refine s_alloc rfl rfl rfl rfl rfl rfl (fun b10 => ?_)
        refine k_storeW 0 rfl rfl rfl rfl rfl rfl rfl rfl rfl rfl rfl rfl ?_
        refine okl_nil ?_
        change OkC Try.prog _ _ _ _ _ _ _
        refine okc_weak (l' := [(0, _), (1, _), (2, _), (3, _), (4, _), (5, _), (6, _), (7, _), (10, _), (15, _), (32, _)]) ⟨rfl, rfl, rfl, rfl, rfl, rfl, rfl, rfl, rfl, rfl, rfl, trivial⟩ ?_
        refine okc_seq ?_
        refine okc_drawz [37, 38, 39, 40, 41, 42, 43, 44, 45, 46, 47, 48, 49, 50, 51] [13, 14] [⟨some 37, [], [], fun _ v B => ∃ b, v = .slice (some ⟨b, 0, none⟩) 0 0 ∧ B = [(b, [], 69)] ∧ True⟩, ⟨some 38, [], [], fun _ v B => v = .pointer (some ⟨b1, 0 + 8, none⟩) ∧ B = []⟩, ⟨some 39, [1], [], fun _ v B => v = .slice s.rp s.reads.length s.rc ∧ B = []⟩, ⟨some 40, [], [], fun _ v B => v = .int .i64 (atS s x : Int) ∧ B = []⟩, ⟨some 41, [2, 3], [], fun _ v B => v = .slice s.rp (atS s x) s.rc ∧ B = []⟩, ⟨some 42, [0, 4], [], fun _ v B => ∃ p c, v = .slice p (atS s x) c ∧ Sl B 69 5 p (atS s x) c (rdsC (s.reads.take (atS s x)))⟩, ⟨some 43, [], [], fun _ v B => v = rdV x ∧ B = []⟩, ⟨some 44, [6], [], fun _ v B => ∃ b, v = .slice (some ⟨b, 0, none⟩) 1 1 ∧ B = [(b, rdL x, 69)] ∧ True⟩, ⟨some 45, [5, 7], [], fun _ v B => ∃ p c, v = .slice p (atS s x + 1) c ∧ Sl B 69 5 p (atS s x + 1) c (rdsC (s.reads.take (atS s x)) ++ rdL x)⟩, ⟨some 46, [], [], fun _ v B => v = .pointer (some ⟨b1, 0 + 8, none⟩) ∧ B = []⟩, ⟨some 47, [9], [], fun _ v B => v = .slice s.rp s.reads.length s.rc ∧ B = []⟩, ⟨some 48, [], [], fun _ v B => v = .int .i64 (atS s x : Int) ∧ B = []⟩, ⟨some 49, [10, 11], [], fun _ v B => v = .slice (cutA s.rp s.rc (atS s x) 5) (s.reads.length - atS s x) (s.rc - atS s x) ∧ B = []⟩, ⟨some 50, [8, 12], [], fun _ v B => ∃ p c, v = .slice p (s.reads.length + 1) c ∧ Sl B 69 5 p (s.reads.length + 1) c (rdsC (insL s.reads (atS s x) x))⟩, ⟨some 51, [], [], fun _ v B => v = .pointer (some ⟨b10, 0 + 8, none⟩) ∧ B = []⟩] (fun j k => (Nat.beq j 5 && Nat.beq k 0) || (Nat.beq j 8 && Nat.beq k 5) || (Nat.beq j 13 && Nat.beq k 8)) rfl 15 8 (fun _ _ => _) rfl rfl rfl rfl rfl rfl rfl (perm_nil _) ⟨?_, ?_, ?_, ?_, ?_, ?_, ?_, ?_, ?_, ?_, ?_, ?_, ?_, ?_, ?_, trivial⟩ (fun ρ hρ => ?_) rfl
        · refine obl_zs rfl rfl rfl rfl (fun ρ hρ => ?_)
          exact .inl ⟨rfl, opx_r (fun F => k_slice0 rfl rfl rfl)⟩
        · refine obl_zs rfl rfl rfl rfl (fun ρ hρ => ?_)
          exact .inl ⟨rfl, opx_v (fun F => k_field rfl rfl rfl rfl)⟩
        · refine obl_zs rfl rfl rfl rfl (fun ρ hρ => ?_)
          have h1 := hρ 1 (by simp) _ rfl
          change GoodX Try.prog _ _ _ _ ((38, (ρ 1).1) :: _) ([] ++ []) (((ρ 1).2 ++ []) ++ _) _ _
          generalize ρ 1 = q1 at h1 ⊢
          obtain ⟨v1, B1⟩ := q1
          obtain ⟨rfl, rfl⟩ := h1
          exact .inl ⟨rfl, opx_v (fun F => k_load1 3 rfl rfl rfl rfl rfl)⟩
        · refine obl_zs rfl rfl rfl rfl (fun ρ hρ => ?_)
          exact .inl ⟨rfl, opx_v (fun F => op_move rfl rfl)⟩
        · refine obl_zs rfl rfl rfl rfl (fun ρ hρ => ?_)
          have h2 := hρ 2 (by simp) _ rfl
          have h3 := hρ 3 (by simp) _ rfl
          change GoodX Try.prog _ _ _ _ ((39, (ρ 2).1) :: (40, (ρ 3).1) :: _) ([] ++ []) (((ρ 2).2 ++ ((ρ 3).2 ++ [])) ++ _) _ _
          generalize ρ 2 = q2 at h2 ⊢
          obtain ⟨v2, B2⟩ := q2
          obtain ⟨rfl, rfl⟩ := h2
          generalize ρ 3 = q3 at h3 ⊢
          obtain ⟨v3, B3⟩ := q3
          obtain ⟨rfl, rfl⟩ := h3
          exact .inl ⟨rfl, opx_v (fun F => op_sliceHi (i := atS s x) rfl rfl rfl (sl_un (sl_of rfl)) (siz_of rfl) rfl (by omega))⟩
        · refine obl_zs rfl rfl rfl rfl (fun ρ hρ => ?_)
          have h0 := hρ 0 (by simp) _ rfl
          have h4 := hρ 4 (by simp) _ rfl
          change GoodX Try.prog _ _ _ _ ((37, (ρ 0).1) :: (41, (ρ 4).1) :: _) ([] ++ ((ρ 0).2 ++ [])) (((ρ 4).2 ++ []) ++ _) _ _
          generalize ρ 0 = q0 at h0 ⊢
          obtain ⟨v0, B0⟩ := q0
          obtain ⟨b80, rfl, rfl, _⟩ := h0
          generalize ρ 4 = q4 at h4 ⊢
          obtain ⟨v4, B4⟩ := q4
          obtain ⟨rfl, rfl⟩ := h4
          exact .inl ⟨rfl, (k_append (Sl.lit (n := 0) (cs := []) rfl (by decide)) by69 rfl rfl rfl rfl rfl rfl rfl rfl (rds_take hin.reads hat) (by rw [rdsC_len, List.length_take, Nat.min_eq_left hat]) (rdsC_flat _) (by omega)).mono (by rintro v B ⟨p, c, rfl, h⟩; exact ⟨p, c, by rw [Nat.zero_add], by rw [Nat.zero_add] at h; exact h⟩)⟩
        · refine obl_zs rfl rfl rfl rfl (fun ρ hρ => ?_)
          exact .inl ⟨rfl, opx_v (fun F => k_loadW 2 rfl rfl rfl rfl rfl rfl)⟩
        · refine obl_zs rfl rfl rfl rfl (fun ρ hρ => ?_)
          have h6 := hρ 6 (by simp) _ rfl
          change GoodX Try.prog _ _ _ _ ((43, (ρ 6).1) :: _) ([] ++ []) (((ρ 6).2 ++ []) ++ _) _ _
          generalize ρ 6 = q6 at h6 ⊢
          obtain ⟨v6, B6⟩ := q6
          obtain ⟨rfl, rfl⟩ := h6
          exact .inl ⟨rfl, opx_r (fun F => k_slice1N rfl rfl rfl rfl rfl rfl rfl rfl rfl)⟩
        · refine obl_zs rfl rfl rfl rfl (fun ρ hρ => ?_)
          have h5 := hρ 5 (by simp) _ rfl
          have h7 := hρ 7 (by simp) _ rfl
          change GoodX Try.prog _ _ _ _ ((42, (ρ 5).1) :: (44, (ρ 7).1) :: _) ([] ++ ((ρ 5).2 ++ [])) (((ρ 7).2 ++ []) ++ _) _ _
          generalize ρ 5 = q5 at h5 ⊢
          obtain ⟨v5, B5⟩ := q5
          obtain ⟨p5, c5, rfl, h5⟩ := h5
          generalize ρ 7 = q7 at h7 ⊢
          obtain ⟨v7, B7⟩ := q7
          obtain ⟨b87, rfl, rfl, _⟩ := h7
          exact .inl ⟨rfl, k_append1 0 (by simpa using h5) by69 rfl rfl rfl rfl rfl rfl rfl rfl rfl rfl rfl (by omega)⟩
        · refine obl_zs rfl rfl rfl rfl (fun ρ hρ => ?_)
          exact .inl ⟨rfl, opx_v (fun F => k_field rfl rfl rfl rfl)⟩
        · refine obl_zs rfl rfl rfl rfl (fun ρ hρ => ?_)
          have h9 := hρ 9 (by simp) _ rfl
          change GoodX Try.prog _ _ _ _ ((46, (ρ 9).1) :: _) ([] ++ []) (((ρ 9).2 ++ []) ++ _) _ _
          generalize ρ 9 = q9 at h9 ⊢
          obtain ⟨v9, B9⟩ := q9
          obtain ⟨rfl, rfl⟩ := h9
          exact .inl ⟨rfl, opx_v (fun F => k_load1 3 rfl rfl rfl rfl rfl)⟩
        · refine obl_zs rfl rfl rfl rfl (fun ρ hρ => ?_)
          exact .inl ⟨rfl, opx_v (fun F => op_move rfl rfl)⟩
        · refine obl_zs rfl rfl rfl rfl (fun ρ hρ => ?_)
          have h10 := hρ 10 (by simp) _ rfl
          have h11 := hρ 11 (by simp) _ rfl
          change GoodX Try.prog _ _ _ _ ((47, (ρ 10).1) :: (48, (ρ 11).1) :: _) ([] ++ []) (((ρ 10).2 ++ ((ρ 11).2 ++ [])) ++ _) _ _
          generalize ρ 10 = q10 at h10 ⊢
          obtain ⟨v10, B10⟩ := q10
          obtain ⟨rfl, rfl⟩ := h10
          generalize ρ 11 = q11 at h11 ⊢
          obtain ⟨v11, B11⟩ := q11
          obtain ⟨rfl, rfl⟩ := h11
          exact .inl ⟨rfl, opx_v (fun F => op_sliceLo (i := atS s x) (size := 5) rfl rfl rfl (sl_un (sl_of rfl)) (siz_of rfl) rfl hat)⟩
        · refine obl_zs rfl rfl rfl rfl (fun ρ hρ => ?_)
          have h8 := hρ 8 (by simp) _ rfl
          have h12 := hρ 12 (by simp) _ rfl
          change GoodX Try.prog _ _ _ _ ((45, (ρ 8).1) :: (49, (ρ 12).1) :: _) ([] ++ ((ρ 8).2 ++ [])) (((ρ 12).2 ++ []) ++ _) _ _
          generalize ρ 8 = q8 at h8 ⊢
          obtain ⟨v8, B8⟩ := q8
          obtain ⟨p8, c8, rfl, h8⟩ := h8
          generalize ρ 12 = q12 at h12 ⊢
          obtain ⟨v12, B12⟩ := q12
          obtain ⟨rfl, rfl⟩ := h12
          exact .inl ⟨rfl, (k_append (by simpa using h8) by69 rfl rfl rfl rfl rfl rfl rfl rfl (rds_drop hin.reads hat hrc) (by rw [rdsC_len, List.length_drop]) (rdsC_flat _) (by omega)).mono (by rintro v B ⟨p, c, rfl, h⟩; exact ⟨p, c, by rw [show atS s x + 1 + (s.reads.length - atS s x) = s.reads.length + 1 by omega], by rw [show atS s x + 1 + (s.reads.length - atS s x) = s.reads.length + 1 by omega] at h; rw [ins_cells]; exact h⟩)⟩
        · refine obl_zs rfl rfl rfl rfl (fun ρ hρ => ?_)
          exact .inl ⟨rfl, opx_v (fun F => k_field rfl rfl rfl rfl)⟩
        have h0 := hρ 0 (by decide) _ rfl
        have h1 := hρ 1 (by decide) _ rfl
        have h2 := hρ 2 (by decide) _ rfl
        have h3 := hρ 3 (by decide) _ rfl
        have h4 := hρ 4 (by decide) _ rfl
        have h5 := hρ 5 (by decide) _ rfl
        have h6 := hρ 6 (by decide) _ rfl
        have h7 := hρ 7 (by decide) _ rfl
        have h8 := hρ 8 (by decide) _ rfl
        have h9 := hρ 9 (by decide) _ rfl
        have h10 := hρ 10 (by decide) _ rfl
        have h11 := hρ 11 (by decide) _ rfl
        have h12 := hρ 12 (by decide) _ rfl
        have h13 := hρ 13 (by decide) _ rfl
        have h14 := hρ 14 (by decide) _ rfl
        change Go.Sx.OkL Try.prog _ _ _ _ _ ((50, (ρ 13).1) :: (51, (ρ 14).1) :: _) (_ ++ ([] ++ ((ρ 1).2 ++ ((ρ 2).2 ++ ((ρ 3).2 ++ ((ρ 4).2 ++ ([] ++ ((ρ 6).2 ++ ((ρ 7).2 ++ ([] ++ ((ρ 9).2 ++ ((ρ 10).2 ++ ((ρ 11).2 ++ ((ρ 12).2 ++ ((ρ 13).2 ++ ((ρ 14).2 ++ [])))))))))))))))) _
        generalize ρ 0 = q0 at *
        obtain ⟨v0, B0⟩ := q0
        obtain ⟨b80, rfl, rfl, _⟩ := h0
        generalize ρ 1 = q1 at *
        obtain ⟨v1, B1⟩ := q1
        obtain ⟨rfl, rfl⟩ := h1
        generalize ρ 2 = q2 at *
        obtain ⟨v2, B2⟩ := q2
        obtain ⟨rfl, rfl⟩ := h2
        generalize ρ 3 = q3 at *
        obtain ⟨v3, B3⟩ := q3
        obtain ⟨rfl, rfl⟩ := h3
        generalize ρ 4 = q4 at *
        obtain ⟨v4, B4⟩ := q4
        obtain ⟨rfl, rfl⟩ := h4
        generalize ρ 5 = q5 at *
        obtain ⟨v5, B5⟩ := q5
        obtain ⟨p5, c5, rfl, h5⟩ := h5
        generalize ρ 6 = q6 at *
        obtain ⟨v6, B6⟩ := q6
        obtain ⟨rfl, rfl⟩ := h6
        generalize ρ 7 = q7 at *
        obtain ⟨v7, B7⟩ := q7
        obtain ⟨b87, rfl, rfl, _⟩ := h7
        generalize ρ 8 = q8 at *
        obtain ⟨v8, B8⟩ := q8
        obtain ⟨p8, c8, rfl, h8⟩ := h8
        generalize ρ 9 = q9 at *
        obtain ⟨v9, B9⟩ := q9
        obtain ⟨rfl, rfl⟩ := h9
        generalize ρ 10 = q10 at *
        obtain ⟨v10, B10⟩ := q10
        obtain ⟨rfl, rfl⟩ := h10
        generalize ρ 11 = q11 at *
        obtain ⟨v11, B11⟩ := q11
        obtain ⟨rfl, rfl⟩ := h11
        generalize ρ 12 = q12 at *
        obtain ⟨v12, B12⟩ := q12
        obtain ⟨rfl, rfl⟩ := h12
        generalize ρ 13 = q13 at *
        obtain ⟨v13, B13⟩ := q13
        obtain ⟨p13, c13, rfl, h13⟩ := h13
        generalize ρ 14 = q14 at *
        obtain ⟨v14, B14⟩ := q14
        obtain ⟨rfl, rfl⟩ := h14
        refine okl_sub (O' := [_, _, _, _] ++ (B1 ++ B13)) (by dsimp only; simp only [List.nil_append, List.append_nil]; exact sub_rad [_, _, _, _] B1 B2 [_] B13) ?_
        refine k_store 0 rfl rfl rfl rfl rfl rfl rfl rfl rfl rfl rfl rfl ?_
        refine okl_nil ?_
        change OkC Try.prog _ _ _ _ _ _ _
        refine okc_weak (l' := [(0, _), (1, _), (2, _), (3, _), (4, _), (5, _), (6, _), (7, _), (10, _), (15, _), (32, _)]) ⟨rfl, rfl, rfl, rfl, rfl, rfl, rfl, rfl, rfl, rfl, rfl, trivial⟩ ?_
        refine okc_seq ?_
        refine okc_seq ?_
        refine okc_region ?_
        refine s_loadW 0 rfl rfl rfl rfl rfl rfl rfl rfl rfl rfl ?_
        have hok := ad_ok hat hg1 h13
        have hown := ad_in hgr hat hok
        have hsp : Cn Try.prog 74 [.agg #[.int .i64 s.weeks, .int .i64 s.most, .int .i64 s.fall, .int .i64 s.slo, .int .i64 s.shi, .int .i64 s.wlo, .int .i64 s.whi, .slice p1 s.book.length k1, .slice p13 (s.reads.length + 1) c13]] (argsOf (B1 ++ B13)) (fun _ : Unit => .bool (validB (adS s x))) (fun _ => []) (fun _ => True) := by have h := rSpring_fn (twS (adS s x) ⟨p1, k1, B1, p13, c13, B13⟩) _ hown; rw [adV _ _ _ hat] at h; exact h
        refine s_callb rfl rfl rfl rfl rfl rfl rfl c74 hsp (covers_grp fun y hy => (List.mem_append_right [_, _, _, _] hy : y ∈ [_, _, _, _] ++ (B1 ++ B13))) (fun hv2 => ?_) (fun hv2 => ?_)
        · refine s_not rfl rfl rfl rfl rfl rfl ?_
          refine okl_nil ?_
          change OkC Try.prog _ _ _ _ _ _ _
          refine okc_weak (l' := [(0, _), (1, _), (2, _), (3, _), (4, _), (5, _), (6, _), (7, _), (10, _), (15, _), (32, _), (54, _)]) ⟨rfl, rfl, rfl, rfl, rfl, rfl, rfl, rfl, rfl, rfl, rfl, rfl, trivial⟩ ?_
          refine okc_cond_f rfl ?_
          refine okc_skip ?_
          change OkC Try.prog _ _ _ _ _ _ _
          refine okc_weak (l' := [(0, _), (1, _), (2, _), (3, _), (4, _), (5, _), (6, _), (7, _), (10, _), (15, _), (32, _), (54, _)]) ⟨rfl, rfl, rfl, rfl, rfl, rfl, rfl, rfl, rfl, rfl, rfl, rfl, trivial⟩ ?_
          refine okc_seq ?_
          refine okc_region ?_
          refine s_loadW 0 rfl rfl rfl rfl rfl rfl rfl rfl rfl rfl ?_
          refine k_storeW 1 rfl rfl rfl rfl rfl rfl rfl rfl rfl rfl rfl rfl ?_
          refine s_assign rfl rfl rfl rfl rfl rfl ?_
          refine okl_nil ?_
          change OkC Try.prog _ _ _ _ _ _ _
          refine okc_weak (l' := [(0, _), (1, _), (2, _), (3, _), (4, _), (5, _), (6, _), (7, _), (10, _), (15, _), (32, _), (54, _)]) ⟨rfl, rfl, rfl, rfl, rfl, rfl, rfl, rfl, rfl, rfl, rfl, rfl, trivial⟩ ?_
          refine okc_ret fun a w hs => ?_
          have he : adE s x = 0 := by simp [adE, hv, hl12, hv2]
          have hr : adR s x = adS s x := by simp [adR, he]
          exact ret_postS hs (run_results2 hs rfl (k_ragg 1 rfl rfl rfl rfl rfl) (rv_tmp rfl)) ⟨p1, k1, B1, p13, c13, B13⟩ (by rw [hr, he, adV _ _ _ hat]; rfl) (by rw [hr]; exact hok) (sub_drop 4 rfl)
        · refine s_not rfl rfl rfl rfl rfl rfl ?_
          refine okl_nil ?_
          change OkC Try.prog _ _ _ _ _ _ _
          refine okc_weak (l' := [(0, _), (1, _), (2, _), (3, _), (4, _), (5, _), (6, _), (7, _), (10, _), (15, _), (32, _), (54, _)]) ⟨rfl, rfl, rfl, rfl, rfl, rfl, rfl, rfl, rfl, rfl, rfl, rfl, trivial⟩ ?_
          refine okc_cond_t rfl ?_
          refine okc_seq ?_
          refine okc_region ?_
          refine s_build rfl rfl rfl rfl rfl rfl rfl rfl rfl ?_
          refine k_storeW 1 rfl rfl rfl rfl rfl rfl rfl rfl rfl rfl rfl rfl ?_
          refine s_assign rfl rfl rfl rfl rfl rfl ?_
          refine okl_nil ?_
          change OkC Try.prog _ _ _ _ _ _ _
          refine okc_weak (l' := [(0, _), (1, _), (2, _), (3, _), (4, _), (5, _), (6, _), (7, _), (10, _), (15, _), (32, _), (54, _)]) ⟨rfl, rfl, rfl, rfl, rfl, rfl, rfl, rfl, rfl, rfl, rfl, rfl, trivial⟩ ?_
          refine okc_ret fun a w hs => ?_
          have he : adE s x = 12 := by simp [adE, hv, hl12, hv2]
          have hr : adR s x = zS := by simp [adR, he]
          exact ret_postS hs (run_results2 hs rfl (k_ragg 1 rfl rfl rfl rfl rfl) (rv_tmp rfl)) zG (by rw [hr, he]; rfl) (by rw [hr]; exact zOk) (List.nil_sublist _)
  · have hv : validB s = false := h4
    refine s_not rfl rfl rfl rfl rfl rfl ?_
    refine okl_nil ?_
    change OkC Try.prog _ _ _ _ _ _ _
    refine okc_weak (l' := [(0, _), (1, _), (2, _), (3, _), (4, _), (5, _), (10, _)]) ⟨rfl, rfl, rfl, rfl, rfl, rfl, rfl, trivial⟩ ?_
    refine okc_cond_t rfl ?_
    refine okc_seq ?_
    refine okc_region ?_
    refine s_build rfl rfl rfl rfl rfl rfl rfl rfl rfl ?_
    refine k_storeW 0 rfl rfl rfl rfl rfl rfl rfl rfl rfl rfl rfl rfl ?_
    refine s_assign rfl rfl rfl rfl rfl rfl ?_
    refine okl_nil ?_
    change OkC Try.prog _ _ _ _ _ _ _
    refine okc_weak (l' := [(0, _), (1, _), (2, _), (3, _), (4, _), (5, _), (10, _)]) ⟨rfl, rfl, rfl, rfl, rfl, rfl, rfl, trivial⟩ ?_
    refine okc_ret fun a w hs => ?_
    have he : adE s x = 10 := by simp [adE, hv]
    have hr : adR s x = zS := by simp [adR, he]
    exact ret_postS hs (run_results2 hs rfl (k_ragg 0 rfl rfl rfl rfl rfl) (rv_tmp rfl)) zG (by rw [hr, he]; rfl) (by rw [hr]; exact zOk) (List.nil_sublist _)
end Go.Proofs.Ytdpnadknaacinaa
end
