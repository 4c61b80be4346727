/-
  Whether springs are valid: package spring.
  Conditions: none.
-/
import Derived.Test.YtdpnadknaacinaaD
namespace Go.Proofs.Ytdpnadknaacinaa
open Go.Sx Go.Proofs.Ytdpnadknaacinaa.Ty
set_option linter.unusedVariables false
set_option maxHeartbeats 2000000

theorem isSpan_fn (a b lo hi : Int) : Cn Try.prog 143 [.agg #[.int .i64 a, .int .i64 b], .agg #[.int .i64 lo, .int .i64 hi]] [] (fun _ : Unit => .bool (isSpanB a b lo hi)) (fun _ => []) (fun _ => True) := by
  refine fn_intro (N := 19) Try.func143 rfl rfl rfl fun w0 => ?_
  refine okc_seq ?_
  refine okc_region ?_
  refine s_boxA rfl rfl rfl rfl rfl rfl (fun b1 => ?_)
  refine s_boxA rfl rfl rfl rfl rfl rfl (fun b2 => ?_)
  refine s_assign rfl rfl rfl rfl rfl rfl ?_
  refine okl_nil ?_
  change OkC Try.prog _ _ _ _ _ _ _
  refine okc_weak (l' := [(0, _), (1, _), (2, _), (3, _), (4, _)]) ⟨rfl, rfl, rfl, rfl, rfl, trivial⟩ ?_
  refine okc_seq ?_
  refine okc_region ?_
  refine s_field rfl rfl rfl rfl rfl rfl rfl rfl ?_
  refine s_load1 1 rfl rfl rfl rfl rfl rfl rfl rfl rfl ?_
  refine s_field rfl rfl rfl rfl rfl rfl rfl rfl ?_
  refine s_load1 1 rfl rfl rfl rfl rfl rfl rfl rfl rfl ?_
  refine s_cmpS rfl rfl rfl rfl rfl rfl rfl rfl (fun h3 => ?_) (fun h3 => ?_)
  · refine s_move rfl rfl rfl rfl rfl rfl ?_
    refine s_loadW 0 rfl rfl rfl rfl rfl rfl rfl rfl rfl rfl ?_
    refine s_field rfl rfl rfl rfl rfl rfl rfl rfl ?_
    refine s_load1 1 rfl rfl rfl rfl rfl rfl rfl rfl rfl ?_
    refine s_field rfl rfl rfl rfl rfl rfl rfl rfl ?_
    refine s_load1 1 rfl rfl rfl rfl rfl rfl rfl rfl rfl ?_
    refine s_slice2 rfl rfl rfl rfl rfl rfl rfl rfl rfl rfl rfl rfl (fun b4 => ?_)
    refine s_callb rfl rfl rfl rfl rfl rfl rfl c131 (within_fn _ _ [_, _] _ 2 (by simp)) (covers_own 0 rfl covers_nil) (fun h5 => ?_) (fun h5 => ?_)
    · refine s_pick_t rfl rfl rfl rfl rfl rfl rfl ?_
      refine s_assign rfl rfl rfl rfl rfl rfl ?_
      refine okl_nil ?_
      change OkC Try.prog _ _ _ _ _ _ _
      refine okc_weak (l' := [(0, _), (1, _), (2, _), (3, _), (4, _)]) ⟨rfl, rfl, rfl, rfl, rfl, trivial⟩ ?_
      refine okc_ret fun a w hs => ?_
      exact ret_v hs (run_results1 hs rfl (rv_tmp rfl)) (by clear hs; simp_all [isSpanB] <;> omega)
    · refine s_pick_t rfl rfl rfl rfl rfl rfl rfl ?_
      refine s_assign rfl rfl rfl rfl rfl rfl ?_
      refine okl_nil ?_
      change OkC Try.prog _ _ _ _ _ _ _
      refine okc_weak (l' := [(0, _), (1, _), (2, _), (3, _), (4, _)]) ⟨rfl, rfl, rfl, rfl, rfl, trivial⟩ ?_
      refine okc_ret fun a w hs => ?_
      exact ret_v hs (run_results1 hs rfl (rv_tmp rfl)) (by clear hs; simp_all [isSpanB] <;> omega)
  · refine s_move rfl rfl rfl rfl rfl rfl ?_
    refine okl_skip rfl rfl rfl rfl ?_
    refine okl_skip rfl rfl rfl rfl ?_
    refine okl_skip rfl rfl rfl rfl ?_
    refine okl_skip rfl rfl rfl rfl ?_
    refine okl_skip rfl rfl rfl rfl ?_
    refine okl_skip rfl rfl rfl rfl ?_
    refine okl_skip rfl rfl rfl rfl ?_
    refine s_pick_f rfl rfl rfl rfl rfl rfl rfl ?_
    refine s_assign rfl rfl rfl rfl rfl rfl ?_
    refine okl_nil ?_
    change OkC Try.prog _ _ _ _ _ _ _
    refine okc_weak (l' := [(0, _), (1, _), (2, _), (3, _), (4, _)]) ⟨rfl, rfl, rfl, rfl, rfl, trivial⟩ ?_
    refine okc_ret fun a w hs => ?_
    exact ret_v hs (run_results1 hs rfl (rv_tmp rfl)) (by clear hs; simp_all [isSpanB] <;> omega)

theorem isWeek_fn (s : Sp) (M : Args) (k : Int) (h1 : 1 ≤ s.weeks) (h2 : s.weeks ≤ 10) : Cn Try.prog 129 [spV s, .int .i64 k] M (fun _ : Unit => .bool (isWeekB s.weeks k)) (fun _ => []) (fun _ => True) := by
  refine fn_intro (N := 12) Try.func129 rfl rfl rfl fun w0 => ?_
  refine okc_seq ?_
  refine okc_region ?_
  refine s_boxA rfl rfl rfl rfl rfl rfl (fun b6 => ?_)
  refine s_assign rfl rfl rfl rfl rfl rfl ?_
  refine okl_nil ?_
  change OkC Try.prog _ _ _ _ _ _ _
  refine okc_weak (l' := [(0, _), (1, _), (2, _), (4, _)]) ⟨rfl, rfl, rfl, rfl, trivial⟩ ?_
  refine okc_seq ?_
  refine okc_region ?_
  refine s_field rfl rfl rfl rfl rfl rfl rfl rfl ?_
  refine s_load1 0 rfl rfl rfl rfl rfl rfl rfl rfl rfl ?_
  refine s_sub rfl rfl rfl rfl rfl rfl rfl (by omega) ?_
  refine s_callv rfl rfl rfl rfl rfl rfl rfl c85 (span_fn _ _) covers_nil ?_
  refine s_move rfl rfl rfl rfl rfl rfl ?_
  refine s_slice1 rfl rfl rfl rfl rfl rfl rfl rfl rfl rfl (fun b7 => ?_)
  refine s_callb rfl rfl rfl rfl rfl rfl rfl c131 (within_fn _ _ [_] _ 1 (by simp)) (covers_own 0 rfl covers_nil) (fun h8 => ?_) (fun h8 => ?_)
  · refine s_assign rfl rfl rfl rfl rfl rfl ?_
    refine okl_nil ?_
    change OkC Try.prog _ _ _ _ _ _ _
    refine okc_weak (l' := [(0, _), (1, _), (2, _), (4, _)]) ⟨rfl, rfl, rfl, rfl, trivial⟩ ?_
    refine okc_ret fun a w hs => ?_
    exact ret_v hs (run_results1 hs rfl (rv_tmp rfl)) (by clear hs; simp_all [isWeekB])
  · refine s_assign rfl rfl rfl rfl rfl rfl ?_
    refine okl_nil ?_
    change OkC Try.prog _ _ _ _ _ _ _
    refine okc_weak (l' := [(0, _), (1, _), (2, _), (4, _)]) ⟨rfl, rfl, rfl, rfl, trivial⟩ ?_
    refine okc_ret fun a w hs => ?_
    exact ret_v hs (run_results1 hs rfl (rv_tmp rfl)) (by clear hs; simp_all [isWeekB])

theorem validFrame_fn (s : Sp) (M : Args) : Cn Try.prog 140 [spV s] M (fun _ : Unit => .bool (frameB s)) (fun _ => []) (fun _ => True) := by
  refine fn_intro (N := 29) Try.func140 rfl rfl rfl fun w0 => ?_
  refine okc_seq ?_
  refine okc_region ?_
  refine s_boxA rfl rfl rfl rfl rfl rfl (fun b9 => ?_)
  refine s_assign rfl rfl rfl rfl rfl rfl ?_
  refine okl_nil ?_
  change OkC Try.prog _ _ _ _ _ _ _
  refine okc_weak (l' := [(0, _), (1, _), (2, _)]) ⟨rfl, rfl, rfl, trivial⟩ ?_
  refine okc_seq ?_
  refine dr_start [3, 4, 5, 6, 7, 8, 9, 10, 11, 12, 13, 14, 15, 16, 17, 18, 19, 20, 21, 22, 23, 24, 25, 26, 27, 28, 2] ?_
  refine d_callv [] rfl rfl rfl rfl rfl (fun ν => rfl) rfl (fun ν => rfl) (fun ν => rfl) c85 (fun ν => span_fn _ _) (fun ν => covers_nil) ?_
  refine d_field [] rfl rfl rfl rfl rfl (fun ν => rfl) rfl (fun ν => rfl) rfl rfl ?_
  refine d_load1 0 [1] rfl rfl rfl rfl rfl (fun ν => rfl) rfl rfl (fun ν => rfl) (fun ν => rfl) rfl ?_
  refine d_slice1 [2] rfl rfl rfl rfl rfl (fun ν => rfl) rfl (fun ν => rfl) rfl rfl rfl rfl ?_
  refine d_callb [0, 3] rfl rfl rfl rfl rfl (fun ν => rfl) rfl (fun ν => rfl) (fun ν => rfl) c131 (fun ν => within_fn _ _ [_] _ 1 (by simp)) (fun ν => (covers_own 0 rfl covers_nil)) (fun h11 => ?_) (fun h11 => ?_)
  · refine d_move [4] rfl rfl rfl rfl rfl (fun ν => rfl) rfl (fun ν => rfl) ?_
    refine d_callv [5] rfl rfl rfl rfl rfl (fun ν => rfl) rfl (fun ν => rfl) (fun ν => rfl) c85 (fun ν => span_fn _ _) (fun ν => covers_nil) ?_
    refine d_field [5] rfl rfl rfl rfl rfl (fun ν => rfl) rfl (fun ν => rfl) rfl rfl ?_
    refine d_load1 0 [7, 5] rfl rfl rfl rfl rfl (fun ν => rfl) rfl rfl (fun ν => rfl) (fun ν => rfl) rfl ?_
    refine d_field [5] rfl rfl rfl rfl rfl (fun ν => rfl) rfl (fun ν => rfl) rfl rfl ?_
    refine d_load1 0 [9, 5] rfl rfl rfl rfl rfl (fun ν => rfl) rfl rfl (fun ν => rfl) (fun ν => rfl) rfl ?_
    refine d_slice2 [8, 10, 5] rfl rfl rfl rfl rfl (fun ν => rfl) rfl (fun ν => rfl) (fun ν => rfl) rfl rfl rfl rfl rfl ?_
    refine d_callb [6, 11, 5] rfl rfl rfl rfl rfl (fun ν => rfl) rfl (fun ν => rfl) (fun ν => rfl) c131 (fun ν => within_fn _ _ [_, _] _ 2 (by simp)) (fun ν => (covers_own 0 rfl covers_nil)) (fun h13 => ?_) (fun h13 => ?_)
    · refine d_pick_t [5, 12] rfl rfl rfl rfl rfl (fun ν => rfl) rfl (fun ν => rfl) (fun ν => rfl) ?_
      refine d_move [13] rfl rfl rfl rfl rfl (fun ν => rfl) rfl (fun ν => rfl) ?_
      refine d_field [14] rfl rfl rfl rfl rfl (fun ν => rfl) rfl (fun ν => rfl) rfl rfl ?_
      refine d_loadP2 0 [15, 14] rfl rfl rfl rfl rfl (fun ν => rfl) rfl rfl (fun ν => rfl) (fun ν => rfl) rfl rfl rfl ?_
      refine d_callv [14] rfl rfl rfl rfl rfl (fun ν => rfl) rfl (fun ν => rfl) (fun ν => rfl) c85 (fun ν => span_fn _ _) (fun ν => covers_nil) ?_
      refine d_callb [16, 17, 14] rfl rfl rfl rfl rfl (fun ν => rfl) rfl (fun ν => rfl) (fun ν => rfl) c143 (fun ν => isSpan_fn _ _ _ _) (fun ν => covers_nil) (fun h14 => ?_) (fun h14 => ?_)
      · refine d_pick_t [14, 18] rfl rfl rfl rfl rfl (fun ν => rfl) rfl (fun ν => rfl) (fun ν => rfl) ?_
        refine d_move [19] rfl rfl rfl rfl rfl (fun ν => rfl) rfl (fun ν => rfl) ?_
        refine d_field [20] rfl rfl rfl rfl rfl (fun ν => rfl) rfl (fun ν => rfl) rfl rfl ?_
        refine d_loadP2 0 [21, 20] rfl rfl rfl rfl rfl (fun ν => rfl) rfl rfl (fun ν => rfl) (fun ν => rfl) rfl rfl rfl ?_
        refine d_callv [20] rfl rfl rfl rfl rfl (fun ν => rfl) rfl (fun ν => rfl) (fun ν => rfl) c85 (fun ν => span_fn _ _) (fun ν => covers_nil) ?_
        refine d_callb [22, 23, 20] rfl rfl rfl rfl rfl (fun ν => rfl) rfl (fun ν => rfl) (fun ν => rfl) c143 (fun ν => isSpan_fn _ _ _ _) (fun ν => covers_nil) (fun h15 => ?_) (fun h15 => ?_)
        · refine d_pick_t [20, 24] rfl rfl rfl rfl rfl (fun ν => rfl) rfl (fun ν => rfl) (fun ν => rfl) ?_
          refine d_assign [25] rfl rfl rfl rfl rfl (fun ν => rfl) rfl (fun ν => rfl) ?_
          refine dr_end [3, 4, 5, 6, 7, 8, 9, 10, 11, 12, 13, 14, 15, 16, 17, 18, 19, 20, 21, 22, 23, 24, 25, 26, 27, 28, 2] [26] 27 rfl rfl rfl rfl rfl rfl rfl rfl rfl (fun ν => ?_)
          refine okl_nil ?_
          change OkC Try.prog _ _ _ _ _ _ _
          refine okc_weak (l' := [(0, _), (1, _), (2, _)]) ⟨rfl, rfl, rfl, trivial⟩ ?_
          refine okc_ret fun a w hs => ?_
          exact ret_v hs (run_results1 hs rfl (rv_tmp rfl)) (by clear hs; simp_all [frameB])
        · refine d_pick_t [20, 24] rfl rfl rfl rfl rfl (fun ν => rfl) rfl (fun ν => rfl) (fun ν => rfl) ?_
          refine d_assign [25] rfl rfl rfl rfl rfl (fun ν => rfl) rfl (fun ν => rfl) ?_
          refine dr_end [3, 4, 5, 6, 7, 8, 9, 10, 11, 12, 13, 14, 15, 16, 17, 18, 19, 20, 21, 22, 23, 24, 25, 26, 27, 28, 2] [26] 27 rfl rfl rfl rfl rfl rfl rfl rfl rfl (fun ν => ?_)
          refine okl_nil ?_
          change OkC Try.prog _ _ _ _ _ _ _
          refine okc_weak (l' := [(0, _), (1, _), (2, _)]) ⟨rfl, rfl, rfl, trivial⟩ ?_
          refine okc_ret fun a w hs => ?_
          exact ret_v hs (run_results1 hs rfl (rv_tmp rfl)) (by clear hs; simp_all [frameB])
      · refine d_pick_t [14, 18] rfl rfl rfl rfl rfl (fun ν => rfl) rfl (fun ν => rfl) (fun ν => rfl) ?_
        refine d_move [19] rfl rfl rfl rfl rfl (fun ν => rfl) rfl (fun ν => rfl) ?_
        refine d_skip [20] rfl rfl rfl rfl rfl (fun ν => rfl) ?_
        refine d_skip [21, 20] rfl rfl rfl rfl rfl (fun ν => rfl) ?_
        refine d_skip [20] rfl rfl rfl rfl rfl (fun ν => rfl) ?_
        refine d_skip [22, 23, 20] rfl rfl rfl rfl rfl (fun ν => rfl) ?_
        refine d_pick_f [20, 24] rfl rfl rfl rfl rfl (fun ν => rfl) rfl (fun ν => rfl) (fun ν => rfl) ?_
        refine d_assign [25] rfl rfl rfl rfl rfl (fun ν => rfl) rfl (fun ν => rfl) ?_
        refine dr_end [3, 4, 5, 6, 7, 8, 9, 10, 11, 12, 13, 14, 15, 16, 17, 18, 19, 20, 21, 22, 23, 24, 25, 26, 27, 28, 2] [26] 27 rfl rfl rfl rfl rfl rfl rfl rfl rfl (fun ν => ?_)
        refine okl_nil ?_
        change OkC Try.prog _ _ _ _ _ _ _
        refine okc_weak (l' := [(0, _), (1, _), (2, _)]) ⟨rfl, rfl, rfl, trivial⟩ ?_
        refine okc_ret fun a w hs => ?_
        exact ret_v hs (run_results1 hs rfl (rv_tmp rfl)) (by clear hs; simp_all [frameB])
    · refine d_pick_t [5, 12] rfl rfl rfl rfl rfl (fun ν => rfl) rfl (fun ν => rfl) (fun ν => rfl) ?_
      refine d_move [13] rfl rfl rfl rfl rfl (fun ν => rfl) rfl (fun ν => rfl) ?_
      refine d_skip [14] rfl rfl rfl rfl rfl (fun ν => rfl) ?_
      refine d_skip [15, 14] rfl rfl rfl rfl rfl (fun ν => rfl) ?_
      refine d_skip [14] rfl rfl rfl rfl rfl (fun ν => rfl) ?_
      refine d_skip [16, 17, 14] rfl rfl rfl rfl rfl (fun ν => rfl) ?_
      refine d_pick_f [14, 18] rfl rfl rfl rfl rfl (fun ν => rfl) rfl (fun ν => rfl) (fun ν => rfl) ?_
      refine d_move [19] rfl rfl rfl rfl rfl (fun ν => rfl) rfl (fun ν => rfl) ?_
      refine d_skip [20] rfl rfl rfl rfl rfl (fun ν => rfl) ?_
      refine d_skip [21, 20] rfl rfl rfl rfl rfl (fun ν => rfl) ?_
      refine d_skip [20] rfl rfl rfl rfl rfl (fun ν => rfl) ?_
      refine d_skip [22, 23, 20] rfl rfl rfl rfl rfl (fun ν => rfl) ?_
      refine d_pick_f [20, 24] rfl rfl rfl rfl rfl (fun ν => rfl) rfl (fun ν => rfl) (fun ν => rfl) ?_
      refine d_assign [25] rfl rfl rfl rfl rfl (fun ν => rfl) rfl (fun ν => rfl) ?_
      refine dr_end [3, 4, 5, 6, 7, 8, 9, 10, 11, 12, 13, 14, 15, 16, 17, 18, 19, 20, 21, 22, 23, 24, 25, 26, 27, 28, 2] [26] 27 rfl rfl rfl rfl rfl rfl rfl rfl rfl (fun ν => ?_)
      refine okl_nil ?_
      change OkC Try.prog _ _ _ _ _ _ _
      refine okc_weak (l' := [(0, _), (1, _), (2, _)]) ⟨rfl, rfl, rfl, trivial⟩ ?_
      refine okc_ret fun a w hs => ?_
      exact ret_v hs (run_results1 hs rfl (rv_tmp rfl)) (by clear hs; simp_all [frameB])
  · refine d_move [4] rfl rfl rfl rfl rfl (fun ν => rfl) rfl (fun ν => rfl) ?_
    refine d_skip [5] rfl rfl rfl rfl rfl (fun ν => rfl) ?_
    refine d_skip [5] rfl rfl rfl rfl rfl (fun ν => rfl) ?_
    refine d_skip [7, 5] rfl rfl rfl rfl rfl (fun ν => rfl) ?_
    refine d_skip [5] rfl rfl rfl rfl rfl (fun ν => rfl) ?_
    refine d_skip [9, 5] rfl rfl rfl rfl rfl (fun ν => rfl) ?_
    refine d_skip [8, 10, 5] rfl rfl rfl rfl rfl (fun ν => rfl) ?_
    refine d_skip [6, 11, 5] rfl rfl rfl rfl rfl (fun ν => rfl) ?_
    refine d_pick_f [5, 12] rfl rfl rfl rfl rfl (fun ν => rfl) rfl (fun ν => rfl) (fun ν => rfl) ?_
    refine d_move [13] rfl rfl rfl rfl rfl (fun ν => rfl) rfl (fun ν => rfl) ?_
    refine d_skip [14] rfl rfl rfl rfl rfl (fun ν => rfl) ?_
    refine d_skip [15, 14] rfl rfl rfl rfl rfl (fun ν => rfl) ?_
    refine d_skip [14] rfl rfl rfl rfl rfl (fun ν => rfl) ?_
    refine d_skip [16, 17, 14] rfl rfl rfl rfl rfl (fun ν => rfl) ?_
    refine d_pick_f [14, 18] rfl rfl rfl rfl rfl (fun ν => rfl) rfl (fun ν => rfl) (fun ν => rfl) ?_
    refine d_move [19] rfl rfl rfl rfl rfl (fun ν => rfl) rfl (fun ν => rfl) ?_
    refine d_skip [20] rfl rfl rfl rfl rfl (fun ν => rfl) ?_
    refine d_skip [21, 20] rfl rfl rfl rfl rfl (fun ν => rfl) ?_
    refine d_skip [20] rfl rfl rfl rfl rfl (fun ν => rfl) ?_
    refine d_skip [22, 23, 20] rfl rfl rfl rfl rfl (fun ν => rfl) ?_
    refine d_pick_f [20, 24] rfl rfl rfl rfl rfl (fun ν => rfl) rfl (fun ν => rfl) (fun ν => rfl) ?_
    refine d_assign [25] rfl rfl rfl rfl rfl (fun ν => rfl) rfl (fun ν => rfl) ?_
    refine dr_end [3, 4, 5, 6, 7, 8, 9, 10, 11, 12, 13, 14, 15, 16, 17, 18, 19, 20, 21, 22, 23, 24, 25, 26, 27, 28, 2] [26] 27 rfl rfl rfl rfl rfl rfl rfl rfl rfl (fun ν => ?_)
    refine okl_nil ?_
    change OkC Try.prog _ _ _ _ _ _ _
    refine okc_weak (l' := [(0, _), (1, _), (2, _)]) ⟨rfl, rfl, rfl, trivial⟩ ?_
    refine okc_ret fun a w hs => ?_
    exact ret_v hs (run_results1 hs rfl (rv_tmp rfl)) (by clear hs; simp_all [frameB])

theorem validLine_fn (s : Sp) (M : Args) (x : Ln) (h1 : 1 ≤ s.weeks) (h2 : s.weeks ≤ 10) : Cn Try.prog 146 [spV s, lnV x] M (fun _ : Unit => .bool (lineB s.weeks x)) (fun _ => []) (fun _ => True) := by
  refine fn_intro (N := 21) Try.func146 rfl rfl rfl fun w0 => ?_
  refine okc_seq ?_
  refine okc_region ?_
  refine s_boxA rfl rfl rfl rfl rfl rfl (fun b16 => ?_)
  refine s_boxA rfl rfl rfl rfl rfl rfl (fun b17 => ?_)
  refine s_assign rfl rfl rfl rfl rfl rfl ?_
  refine okl_nil ?_
  change OkC Try.prog _ _ _ _ _ _ _
  refine okc_weak (l' := [(0, _), (1, _), (2, _), (3, _), (4, _)]) ⟨rfl, rfl, rfl, rfl, rfl, trivial⟩ ?_
  refine okc_seq ?_
  refine dr_start [5, 6, 7, 8, 9, 10, 11, 12, 13, 14, 15, 16, 17, 18, 19, 20, 4] ?_
  refine d_field [] rfl rfl rfl rfl rfl (fun ν => rfl) rfl (fun ν => rfl) rfl rfl ?_
  refine d_loadP2 0 [0] rfl rfl rfl rfl rfl (fun ν => rfl) rfl rfl (fun ν => rfl) (fun ν => rfl) rfl rfl rfl ?_
  refine d_callv [] rfl rfl rfl rfl rfl (fun ν => rfl) rfl (fun ν => rfl) (fun ν => rfl) c85 (fun ν => span_fn _ _) (fun ν => covers_nil) ?_
  refine d_callb [1, 2] rfl rfl rfl rfl rfl (fun ν => rfl) rfl (fun ν => rfl) (fun ν => rfl) c143 (fun ν => isSpan_fn _ _ _ _) (fun ν => covers_nil) (fun h18 => ?_) (fun h18 => ?_)
  · refine d_move [3] rfl rfl rfl rfl rfl (fun ν => rfl) rfl (fun ν => rfl) ?_
    refine d_loadW 1 [4] rfl rfl rfl rfl rfl (fun ν => rfl) rfl rfl (fun ν => rfl) (fun ν => rfl) rfl rfl ?_
    refine d_field [4] rfl rfl rfl rfl rfl (fun ν => rfl) rfl (fun ν => rfl) rfl rfl ?_
    refine d_load1 0 [6, 4] rfl rfl rfl rfl rfl (fun ν => rfl) rfl rfl (fun ν => rfl) (fun ν => rfl) rfl ?_
    refine d_callb [5, 7, 4] rfl rfl rfl rfl rfl (fun ν => rfl) rfl (fun ν => rfl) (fun ν => rfl) c129 (fun ν => isWeek_fn _ M _ (by assumption) (by assumption)) (fun ν => covers_all) (fun h19 => ?_) (fun h19 => ?_)
    · refine d_pick_t [4, 8] rfl rfl rfl rfl rfl (fun ν => rfl) rfl (fun ν => rfl) (fun ν => rfl) ?_
      refine d_move [9] rfl rfl rfl rfl rfl (fun ν => rfl) rfl (fun ν => rfl) ?_
      refine d_field [10] rfl rfl rfl rfl rfl (fun ν => rfl) rfl (fun ν => rfl) rfl rfl ?_
      refine d_loadP2 0 [11, 10] rfl rfl rfl rfl rfl (fun ν => rfl) rfl rfl (fun ν => rfl) (fun ν => rfl) rfl rfl rfl ?_
      refine d_callv [10] rfl rfl rfl rfl rfl (fun ν => rfl) rfl (fun ν => rfl) (fun ν => rfl) c85 (fun ν => span_fn _ _) (fun ν => covers_nil) ?_
      refine d_callb [12, 13, 10] rfl rfl rfl rfl rfl (fun ν => rfl) rfl (fun ν => rfl) (fun ν => rfl) c143 (fun ν => isSpan_fn _ _ _ _) (fun ν => covers_nil) (fun h20 => ?_) (fun h20 => ?_)
      · refine d_pick_t [10, 14] rfl rfl rfl rfl rfl (fun ν => rfl) rfl (fun ν => rfl) (fun ν => rfl) ?_
        refine d_assign [15] rfl rfl rfl rfl rfl (fun ν => rfl) rfl (fun ν => rfl) ?_
        refine dr_end [5, 6, 7, 8, 9, 10, 11, 12, 13, 14, 15, 16, 17, 18, 19, 20, 4] [16] 17 rfl rfl rfl rfl rfl rfl rfl rfl rfl (fun ν => ?_)
        refine okl_nil ?_
        change OkC Try.prog _ _ _ _ _ _ _
        refine okc_weak (l' := [(0, _), (1, _), (2, _), (3, _), (4, _)]) ⟨rfl, rfl, rfl, rfl, rfl, trivial⟩ ?_
        refine okc_ret fun a w hs => ?_
        exact ret_v hs (run_results1 hs rfl (rv_tmp rfl)) (by clear hs; simp_all [lineB])
      · refine d_pick_t [10, 14] rfl rfl rfl rfl rfl (fun ν => rfl) rfl (fun ν => rfl) (fun ν => rfl) ?_
        refine d_assign [15] rfl rfl rfl rfl rfl (fun ν => rfl) rfl (fun ν => rfl) ?_
        refine dr_end [5, 6, 7, 8, 9, 10, 11, 12, 13, 14, 15, 16, 17, 18, 19, 20, 4] [16] 17 rfl rfl rfl rfl rfl rfl rfl rfl rfl (fun ν => ?_)
        refine okl_nil ?_
        change OkC Try.prog _ _ _ _ _ _ _
        refine okc_weak (l' := [(0, _), (1, _), (2, _), (3, _), (4, _)]) ⟨rfl, rfl, rfl, rfl, rfl, trivial⟩ ?_
        refine okc_ret fun a w hs => ?_
        exact ret_v hs (run_results1 hs rfl (rv_tmp rfl)) (by clear hs; simp_all [lineB])
    · refine d_pick_t [4, 8] rfl rfl rfl rfl rfl (fun ν => rfl) rfl (fun ν => rfl) (fun ν => rfl) ?_
      refine d_move [9] rfl rfl rfl rfl rfl (fun ν => rfl) rfl (fun ν => rfl) ?_
      refine d_skip [10] rfl rfl rfl rfl rfl (fun ν => rfl) ?_
      refine d_skip [11, 10] rfl rfl rfl rfl rfl (fun ν => rfl) ?_
      refine d_skip [10] rfl rfl rfl rfl rfl (fun ν => rfl) ?_
      refine d_skip [12, 13, 10] rfl rfl rfl rfl rfl (fun ν => rfl) ?_
      refine d_pick_f [10, 14] rfl rfl rfl rfl rfl (fun ν => rfl) rfl (fun ν => rfl) (fun ν => rfl) ?_
      refine d_assign [15] rfl rfl rfl rfl rfl (fun ν => rfl) rfl (fun ν => rfl) ?_
      refine dr_end [5, 6, 7, 8, 9, 10, 11, 12, 13, 14, 15, 16, 17, 18, 19, 20, 4] [16] 17 rfl rfl rfl rfl rfl rfl rfl rfl rfl (fun ν => ?_)
      refine okl_nil ?_
      change OkC Try.prog _ _ _ _ _ _ _
      refine okc_weak (l' := [(0, _), (1, _), (2, _), (3, _), (4, _)]) ⟨rfl, rfl, rfl, rfl, rfl, trivial⟩ ?_
      refine okc_ret fun a w hs => ?_
      exact ret_v hs (run_results1 hs rfl (rv_tmp rfl)) (by clear hs; simp_all [lineB])
  · refine d_move [3] rfl rfl rfl rfl rfl (fun ν => rfl) rfl (fun ν => rfl) ?_
    refine d_skip [4] rfl rfl rfl rfl rfl (fun ν => rfl) ?_
    refine d_skip [4] rfl rfl rfl rfl rfl (fun ν => rfl) ?_
    refine d_skip [6, 4] rfl rfl rfl rfl rfl (fun ν => rfl) ?_
    refine d_skip [5, 7, 4] rfl rfl rfl rfl rfl (fun ν => rfl) ?_
    refine d_pick_f [4, 8] rfl rfl rfl rfl rfl (fun ν => rfl) rfl (fun ν => rfl) (fun ν => rfl) ?_
    refine d_move [9] rfl rfl rfl rfl rfl (fun ν => rfl) rfl (fun ν => rfl) ?_
    refine d_skip [10] rfl rfl rfl rfl rfl (fun ν => rfl) ?_
    refine d_skip [11, 10] rfl rfl rfl rfl rfl (fun ν => rfl) ?_
    refine d_skip [10] rfl rfl rfl rfl rfl (fun ν => rfl) ?_
    refine d_skip [12, 13, 10] rfl rfl rfl rfl rfl (fun ν => rfl) ?_
    refine d_pick_f [10, 14] rfl rfl rfl rfl rfl (fun ν => rfl) rfl (fun ν => rfl) (fun ν => rfl) ?_
    refine d_assign [15] rfl rfl rfl rfl rfl (fun ν => rfl) rfl (fun ν => rfl) ?_
    refine dr_end [5, 6, 7, 8, 9, 10, 11, 12, 13, 14, 15, 16, 17, 18, 19, 20, 4] [16] 17 rfl rfl rfl rfl rfl rfl rfl rfl rfl (fun ν => ?_)
    refine okl_nil ?_
    change OkC Try.prog _ _ _ _ _ _ _
    refine okc_weak (l' := [(0, _), (1, _), (2, _), (3, _), (4, _)]) ⟨rfl, rfl, rfl, rfl, rfl, trivial⟩ ?_
    refine okc_ret fun a w hs => ?_
    exact ret_v hs (run_results1 hs rfl (rv_tmp rfl)) (by clear hs; simp_all [lineB])

theorem validReading_fn (s : Sp) (M : Args) (x : Rd) (h1 : 1 ≤ s.weeks) (h2 : s.weeks ≤ 10) : Cn Try.prog 133 [spV s, rdV x] M (fun _ : Unit => .bool (readB s.weeks x)) (fun _ => []) (fun _ => True) := by
  refine fn_intro (N := 35) Try.func133 rfl rfl rfl fun w0 => ?_
  refine okc_seq ?_
  refine okc_region ?_
  refine s_boxA rfl rfl rfl rfl rfl rfl (fun b21 => ?_)
  refine s_boxA rfl rfl rfl rfl rfl rfl (fun b22 => ?_)
  refine s_assign rfl rfl rfl rfl rfl rfl ?_
  refine okl_nil ?_
  change OkC Try.prog _ _ _ _ _ _ _
  refine okc_weak (l' := [(0, _), (1, _), (2, _), (3, _), (4, _)]) ⟨rfl, rfl, rfl, rfl, rfl, trivial⟩ ?_
  refine okc_seq ?_
  refine dr_start [5, 6, 7, 8, 9, 10, 11, 12, 13, 14, 15, 16, 17, 18, 19, 20, 21, 22, 23, 24, 25, 26, 27, 28, 29, 30, 31, 32, 33, 34, 4] ?_
  refine d_callv [] rfl rfl rfl rfl rfl (fun ν => rfl) rfl (fun ν => rfl) (fun ν => rfl) c85 (fun ν => span_fn _ _) (fun ν => covers_nil) ?_
  refine d_field [] rfl rfl rfl rfl rfl (fun ν => rfl) rfl (fun ν => rfl) rfl rfl ?_
  refine d_load1 0 [1] rfl rfl rfl rfl rfl (fun ν => rfl) rfl rfl (fun ν => rfl) (fun ν => rfl) rfl ?_
  refine d_slice1 [2] rfl rfl rfl rfl rfl (fun ν => rfl) rfl (fun ν => rfl) rfl rfl rfl rfl ?_
  refine d_callb [0, 3] rfl rfl rfl rfl rfl (fun ν => rfl) rfl (fun ν => rfl) (fun ν => rfl) c131 (fun ν => within_fn _ _ [_] _ 1 (by simp)) (fun ν => (covers_own 0 rfl covers_nil)) (fun h24 => ?_) (fun h24 => ?_)
  · refine d_move [4] rfl rfl rfl rfl rfl (fun ν => rfl) rfl (fun ν => rfl) ?_
    refine d_loadW 1 [5] rfl rfl rfl rfl rfl (fun ν => rfl) rfl rfl (fun ν => rfl) (fun ν => rfl) rfl rfl ?_
    refine d_field [5] rfl rfl rfl rfl rfl (fun ν => rfl) rfl (fun ν => rfl) rfl rfl ?_
    refine d_load1 0 [7, 5] rfl rfl rfl rfl rfl (fun ν => rfl) rfl rfl (fun ν => rfl) (fun ν => rfl) rfl ?_
    refine d_callb [6, 8, 5] rfl rfl rfl rfl rfl (fun ν => rfl) rfl (fun ν => rfl) (fun ν => rfl) c129 (fun ν => isWeek_fn _ M _ (by assumption) (by assumption)) (fun ν => covers_all) (fun h25 => ?_) (fun h25 => ?_)
    · refine d_pick_t [5, 9] rfl rfl rfl rfl rfl (fun ν => rfl) rfl (fun ν => rfl) (fun ν => rfl) ?_
      refine d_move [10] rfl rfl rfl rfl rfl (fun ν => rfl) rfl (fun ν => rfl) ?_
      refine d_callv [11] rfl rfl rfl rfl rfl (fun ν => rfl) rfl (fun ν => rfl) (fun ν => rfl) c85 (fun ν => span_fn _ _) (fun ν => covers_nil) ?_
      refine d_field [11] rfl rfl rfl rfl rfl (fun ν => rfl) rfl (fun ν => rfl) rfl rfl ?_
      refine d_load1 0 [13, 11] rfl rfl rfl rfl rfl (fun ν => rfl) rfl rfl (fun ν => rfl) (fun ν => rfl) rfl ?_
      refine d_slice1 [14, 11] rfl rfl rfl rfl rfl (fun ν => rfl) rfl (fun ν => rfl) rfl rfl rfl rfl ?_
      refine d_callb [12, 15, 11] rfl rfl rfl rfl rfl (fun ν => rfl) rfl (fun ν => rfl) (fun ν => rfl) c131 (fun ν => within_fn _ _ [_] _ 1 (by simp)) (fun ν => (covers_own 0 rfl covers_nil)) (fun h27 => ?_) (fun h27 => ?_)
      · refine d_pick_t [11, 16] rfl rfl rfl rfl rfl (fun ν => rfl) rfl (fun ν => rfl) (fun ν => rfl) ?_
        refine d_move [17] rfl rfl rfl rfl rfl (fun ν => rfl) rfl (fun ν => rfl) ?_
        refine d_field [18] rfl rfl rfl rfl rfl (fun ν => rfl) rfl (fun ν => rfl) rfl rfl ?_
        refine d_loadP2 0 [19, 18] rfl rfl rfl rfl rfl (fun ν => rfl) rfl rfl (fun ν => rfl) (fun ν => rfl) rfl rfl rfl ?_
        refine d_callv [18] rfl rfl rfl rfl rfl (fun ν => rfl) rfl (fun ν => rfl) (fun ν => rfl) c85 (fun ν => span_fn _ _) (fun ν => covers_nil) ?_
        refine d_callb [20, 21, 18] rfl rfl rfl rfl rfl (fun ν => rfl) rfl (fun ν => rfl) (fun ν => rfl) c143 (fun ν => isSpan_fn _ _ _ _) (fun ν => covers_nil) (fun h28 => ?_) (fun h28 => ?_)
        · refine d_pick_t [18, 22] rfl rfl rfl rfl rfl (fun ν => rfl) rfl (fun ν => rfl) (fun ν => rfl) ?_
          refine d_move [23] rfl rfl rfl rfl rfl (fun ν => rfl) rfl (fun ν => rfl) ?_
          refine d_field [24] rfl rfl rfl rfl rfl (fun ν => rfl) rfl (fun ν => rfl) rfl rfl ?_
          refine d_field [25, 24] rfl rfl rfl rfl rfl (fun ν => rfl) rfl (fun ν => rfl) rfl rfl ?_
          refine d_load1 0 [26, 24] rfl rfl rfl rfl rfl (fun ν => rfl) rfl rfl (fun ν => rfl) (fun ν => rfl) rfl ?_
          refine d_cmpS [27, 24] rfl rfl rfl rfl rfl (fun ν => rfl) rfl (fun ν => rfl) (fun ν => rfl) rfl (fun h29 => ?_) (fun h29 => ?_)
          · refine d_pick_t [24, 28] rfl rfl rfl rfl rfl (fun ν => rfl) rfl (fun ν => rfl) (fun ν => rfl) ?_
            refine d_assign [29] rfl rfl rfl rfl rfl (fun ν => rfl) rfl (fun ν => rfl) ?_
            refine dr_end [5, 6, 7, 8, 9, 10, 11, 12, 13, 14, 15, 16, 17, 18, 19, 20, 21, 22, 23, 24, 25, 26, 27, 28, 29, 30, 31, 32, 33, 34, 4] [30] 31 rfl rfl rfl rfl rfl rfl rfl rfl rfl (fun ν => ?_)
            refine okl_nil ?_
            change OkC Try.prog _ _ _ _ _ _ _
            refine okc_weak (l' := [(0, _), (1, _), (2, _), (3, _), (4, _)]) ⟨rfl, rfl, rfl, rfl, rfl, trivial⟩ ?_
            refine okc_ret fun a w hs => ?_
            exact ret_v hs (run_results1 hs rfl (rv_tmp rfl)) (by clear hs; simp_all [readB])
          · refine d_pick_t [24, 28] rfl rfl rfl rfl rfl (fun ν => rfl) rfl (fun ν => rfl) (fun ν => rfl) ?_
            refine d_assign [29] rfl rfl rfl rfl rfl (fun ν => rfl) rfl (fun ν => rfl) ?_
            refine dr_end [5, 6, 7, 8, 9, 10, 11, 12, 13, 14, 15, 16, 17, 18, 19, 20, 21, 22, 23, 24, 25, 26, 27, 28, 29, 30, 31, 32, 33, 34, 4] [30] 31 rfl rfl rfl rfl rfl rfl rfl rfl rfl (fun ν => ?_)
            refine okl_nil ?_
            change OkC Try.prog _ _ _ _ _ _ _
            refine okc_weak (l' := [(0, _), (1, _), (2, _), (3, _), (4, _)]) ⟨rfl, rfl, rfl, rfl, rfl, trivial⟩ ?_
            refine okc_ret fun a w hs => ?_
            exact ret_v hs (run_results1 hs rfl (rv_tmp rfl)) (by clear hs; simp_all [readB])
        · refine d_pick_t [18, 22] rfl rfl rfl rfl rfl (fun ν => rfl) rfl (fun ν => rfl) (fun ν => rfl) ?_
          refine d_move [23] rfl rfl rfl rfl rfl (fun ν => rfl) rfl (fun ν => rfl) ?_
          refine d_skip [24] rfl rfl rfl rfl rfl (fun ν => rfl) ?_
          refine d_skip [25, 24] rfl rfl rfl rfl rfl (fun ν => rfl) ?_
          refine d_skip [26, 24] rfl rfl rfl rfl rfl (fun ν => rfl) ?_
          refine d_skip [27, 24] rfl rfl rfl rfl rfl (fun ν => rfl) ?_
          refine d_pick_f [24, 28] rfl rfl rfl rfl rfl (fun ν => rfl) rfl (fun ν => rfl) (fun ν => rfl) ?_
          refine d_assign [29] rfl rfl rfl rfl rfl (fun ν => rfl) rfl (fun ν => rfl) ?_
          refine dr_end [5, 6, 7, 8, 9, 10, 11, 12, 13, 14, 15, 16, 17, 18, 19, 20, 21, 22, 23, 24, 25, 26, 27, 28, 29, 30, 31, 32, 33, 34, 4] [30] 31 rfl rfl rfl rfl rfl rfl rfl rfl rfl (fun ν => ?_)
          refine okl_nil ?_
          change OkC Try.prog _ _ _ _ _ _ _
          refine okc_weak (l' := [(0, _), (1, _), (2, _), (3, _), (4, _)]) ⟨rfl, rfl, rfl, rfl, rfl, trivial⟩ ?_
          refine okc_ret fun a w hs => ?_
          exact ret_v hs (run_results1 hs rfl (rv_tmp rfl)) (by clear hs; simp_all [readB])
      · refine d_pick_t [11, 16] rfl rfl rfl rfl rfl (fun ν => rfl) rfl (fun ν => rfl) (fun ν => rfl) ?_
        refine d_move [17] rfl rfl rfl rfl rfl (fun ν => rfl) rfl (fun ν => rfl) ?_
        refine d_skip [18] rfl rfl rfl rfl rfl (fun ν => rfl) ?_
        refine d_skip [19, 18] rfl rfl rfl rfl rfl (fun ν => rfl) ?_
        refine d_skip [18] rfl rfl rfl rfl rfl (fun ν => rfl) ?_
        refine d_skip [20, 21, 18] rfl rfl rfl rfl rfl (fun ν => rfl) ?_
        refine d_pick_f [18, 22] rfl rfl rfl rfl rfl (fun ν => rfl) rfl (fun ν => rfl) (fun ν => rfl) ?_
        refine d_move [23] rfl rfl rfl rfl rfl (fun ν => rfl) rfl (fun ν => rfl) ?_
        refine d_skip [24] rfl rfl rfl rfl rfl (fun ν => rfl) ?_
        refine d_skip [25, 24] rfl rfl rfl rfl rfl (fun ν => rfl) ?_
        refine d_skip [26, 24] rfl rfl rfl rfl rfl (fun ν => rfl) ?_
        refine d_skip [27, 24] rfl rfl rfl rfl rfl (fun ν => rfl) ?_
        refine d_pick_f [24, 28] rfl rfl rfl rfl rfl (fun ν => rfl) rfl (fun ν => rfl) (fun ν => rfl) ?_
        refine d_assign [29] rfl rfl rfl rfl rfl (fun ν => rfl) rfl (fun ν => rfl) ?_
        refine dr_end [5, 6, 7, 8, 9, 10, 11, 12, 13, 14, 15, 16, 17, 18, 19, 20, 21, 22, 23, 24, 25, 26, 27, 28, 29, 30, 31, 32, 33, 34, 4] [30] 31 rfl rfl rfl rfl rfl rfl rfl rfl rfl (fun ν => ?_)
        refine okl_nil ?_
        change OkC Try.prog _ _ _ _ _ _ _
        refine okc_weak (l' := [(0, _), (1, _), (2, _), (3, _), (4, _)]) ⟨rfl, rfl, rfl, rfl, rfl, trivial⟩ ?_
        refine okc_ret fun a w hs => ?_
        exact ret_v hs (run_results1 hs rfl (rv_tmp rfl)) (by clear hs; simp_all [readB])
    · refine d_pick_t [5, 9] rfl rfl rfl rfl rfl (fun ν => rfl) rfl (fun ν => rfl) (fun ν => rfl) ?_
      refine d_move [10] rfl rfl rfl rfl rfl (fun ν => rfl) rfl (fun ν => rfl) ?_
      refine d_skip [11] rfl rfl rfl rfl rfl (fun ν => rfl) ?_
      refine d_skip [11] rfl rfl rfl rfl rfl (fun ν => rfl) ?_
      refine d_skip [13, 11] rfl rfl rfl rfl rfl (fun ν => rfl) ?_
      refine d_skip [14, 11] rfl rfl rfl rfl rfl (fun ν => rfl) ?_
      refine d_skip [12, 15, 11] rfl rfl rfl rfl rfl (fun ν => rfl) ?_
      refine d_pick_f [11, 16] rfl rfl rfl rfl rfl (fun ν => rfl) rfl (fun ν => rfl) (fun ν => rfl) ?_
      refine d_move [17] rfl rfl rfl rfl rfl (fun ν => rfl) rfl (fun ν => rfl) ?_
      refine d_skip [18] rfl rfl rfl rfl rfl (fun ν => rfl) ?_
      refine d_skip [19, 18] rfl rfl rfl rfl rfl (fun ν => rfl) ?_
      refine d_skip [18] rfl rfl rfl rfl rfl (fun ν => rfl) ?_
      refine d_skip [20, 21, 18] rfl rfl rfl rfl rfl (fun ν => rfl) ?_
      refine d_pick_f [18, 22] rfl rfl rfl rfl rfl (fun ν => rfl) rfl (fun ν => rfl) (fun ν => rfl) ?_
      refine d_move [23] rfl rfl rfl rfl rfl (fun ν => rfl) rfl (fun ν => rfl) ?_
      refine d_skip [24] rfl rfl rfl rfl rfl (fun ν => rfl) ?_
      refine d_skip [25, 24] rfl rfl rfl rfl rfl (fun ν => rfl) ?_
      refine d_skip [26, 24] rfl rfl rfl rfl rfl (fun ν => rfl) ?_
      refine d_skip [27, 24] rfl rfl rfl rfl rfl (fun ν => rfl) ?_
      refine d_pick_f [24, 28] rfl rfl rfl rfl rfl (fun ν => rfl) rfl (fun ν => rfl) (fun ν => rfl) ?_
      refine d_assign [29] rfl rfl rfl rfl rfl (fun ν => rfl) rfl (fun ν => rfl) ?_
      refine dr_end [5, 6, 7, 8, 9, 10, 11, 12, 13, 14, 15, 16, 17, 18, 19, 20, 21, 22, 23, 24, 25, 26, 27, 28, 29, 30, 31, 32, 33, 34, 4] [30] 31 rfl rfl rfl rfl rfl rfl rfl rfl rfl (fun ν => ?_)
      refine okl_nil ?_
      change OkC Try.prog _ _ _ _ _ _ _
      refine okc_weak (l' := [(0, _), (1, _), (2, _), (3, _), (4, _)]) ⟨rfl, rfl, rfl, rfl, rfl, trivial⟩ ?_
      refine okc_ret fun a w hs => ?_
      exact ret_v hs (run_results1 hs rfl (rv_tmp rfl)) (by clear hs; simp_all [readB])
  · refine d_move [4] rfl rfl rfl rfl rfl (fun ν => rfl) rfl (fun ν => rfl) ?_
    refine d_skip [5] rfl rfl rfl rfl rfl (fun ν => rfl) ?_
    refine d_skip [5] rfl rfl rfl rfl rfl (fun ν => rfl) ?_
    refine d_skip [7, 5] rfl rfl rfl rfl rfl (fun ν => rfl) ?_
    refine d_skip [6, 8, 5] rfl rfl rfl rfl rfl (fun ν => rfl) ?_
    refine d_pick_f [5, 9] rfl rfl rfl rfl rfl (fun ν => rfl) rfl (fun ν => rfl) (fun ν => rfl) ?_
    refine d_move [10] rfl rfl rfl rfl rfl (fun ν => rfl) rfl (fun ν => rfl) ?_
    refine d_skip [11] rfl rfl rfl rfl rfl (fun ν => rfl) ?_
    refine d_skip [11] rfl rfl rfl rfl rfl (fun ν => rfl) ?_
    refine d_skip [13, 11] rfl rfl rfl rfl rfl (fun ν => rfl) ?_
    refine d_skip [14, 11] rfl rfl rfl rfl rfl (fun ν => rfl) ?_
    refine d_skip [12, 15, 11] rfl rfl rfl rfl rfl (fun ν => rfl) ?_
    refine d_pick_f [11, 16] rfl rfl rfl rfl rfl (fun ν => rfl) rfl (fun ν => rfl) (fun ν => rfl) ?_
    refine d_move [17] rfl rfl rfl rfl rfl (fun ν => rfl) rfl (fun ν => rfl) ?_
    refine d_skip [18] rfl rfl rfl rfl rfl (fun ν => rfl) ?_
    refine d_skip [19, 18] rfl rfl rfl rfl rfl (fun ν => rfl) ?_
    refine d_skip [18] rfl rfl rfl rfl rfl (fun ν => rfl) ?_
    refine d_skip [20, 21, 18] rfl rfl rfl rfl rfl (fun ν => rfl) ?_
    refine d_pick_f [18, 22] rfl rfl rfl rfl rfl (fun ν => rfl) rfl (fun ν => rfl) (fun ν => rfl) ?_
    refine d_move [23] rfl rfl rfl rfl rfl (fun ν => rfl) rfl (fun ν => rfl) ?_
    refine d_skip [24] rfl rfl rfl rfl rfl (fun ν => rfl) ?_
    refine d_skip [25, 24] rfl rfl rfl rfl rfl (fun ν => rfl) ?_
    refine d_skip [26, 24] rfl rfl rfl rfl rfl (fun ν => rfl) ?_
    refine d_skip [27, 24] rfl rfl rfl rfl rfl (fun ν => rfl) ?_
    refine d_pick_f [24, 28] rfl rfl rfl rfl rfl (fun ν => rfl) rfl (fun ν => rfl) (fun ν => rfl) ?_
    refine d_assign [29] rfl rfl rfl rfl rfl (fun ν => rfl) rfl (fun ν => rfl) ?_
    refine dr_end [5, 6, 7, 8, 9, 10, 11, 12, 13, 14, 15, 16, 17, 18, 19, 20, 21, 22, 23, 24, 25, 26, 27, 28, 29, 30, 31, 32, 33, 34, 4] [30] 31 rfl rfl rfl rfl rfl rfl rfl rfl rfl (fun ν => ?_)
    refine okl_nil ?_
    change OkC Try.prog _ _ _ _ _ _ _
    refine okc_weak (l' := [(0, _), (1, _), (2, _), (3, _), (4, _)]) ⟨rfl, rfl, rfl, rfl, rfl, trivial⟩ ?_
    refine okc_ret fun a w hs => ?_
    exact ret_v hs (run_results1 hs rfl (rv_tmp rfl)) (by clear hs; simp_all [readB])

end Go.Proofs.Ytdpnadknaacinaa
