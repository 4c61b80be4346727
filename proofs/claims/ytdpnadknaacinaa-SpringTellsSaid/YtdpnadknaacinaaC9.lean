/-
  The questions that each call asks; whether a reading is right, by the reference.
  Conditions: none.
-/
import Derived.Test.YtdpnadknaacinaaC8
namespace Go.Proofs.Ytdpnadknaacinaa
open Go.Sx Go.Proofs.Ytdpnadknaacinaa.Ty
set_option linter.unusedVariables false
set_option maxHeartbeats 2000000


structure Ask where
  week : Int
  bucket : Int
  x : Rd
abbrev askV (q : Ask) : Value := .agg #[.int .i64 q.week, .int .i64 q.bucket, .int .i64 q.x.number, .int .i64 q.x.week, .int .i64 q.x.bucket, .int .i64 q.x.lo, .int .i64 q.x.hi]
/-- The answer to the k-th question. -/
def askB (s : Sp) (q : Ask) : Nat → Bool
  | 0 => validB s
  | 1 => isWeekB s.weeks q.week
  | 2 => inS 1 40 q.bucket
  | 3 => readB s.weeks q.x
  | 4 => canS s
  | _ => false

theorem ask0_fn (s : Sp) (M : Args) (hin : s.In M) (q : Ask) : Cn Try.prog 126 [spV s, askV q] M (fun _ : Unit => .bool (askB s q 0)) (fun _ => []) (fun _ => True) := by
  refine fn_intro (N := 8) Try.func126 rfl rfl rfl fun w0 => ?_
  refine okc_seq ?_
  refine okc_region ?_
  refine s_boxA rfl rfl rfl rfl rfl rfl (fun b1 => ?_)
  refine s_boxA rfl rfl rfl rfl rfl rfl (fun b2 => ?_)
  refine s_assign rfl rfl rfl rfl rfl rfl ?_
  refine okl_nil ?_
  change OkC Try.prog _ _ _ _ _ _ _
  refine okc_weak (l' := [(0, _), (1, _), (2, _), (4, _)]) ⟨rfl, rfl, rfl, rfl, trivial⟩ ?_
  refine okc_seq ?_
  refine okc_region ?_
  refine s_field rfl rfl rfl rfl rfl rfl rfl rfl ?_
  refine s_loadW 1 rfl rfl rfl rfl rfl rfl rfl rfl rfl rfl ?_
  refine s_callb rfl rfl rfl rfl rfl rfl rfl c127 (valid_fn s M hin) covers_all (fun h3 => ?_) (fun h3 => ?_)
  · refine s_assign rfl rfl rfl rfl rfl rfl ?_
    refine okl_nil ?_
    change OkC Try.prog _ _ _ _ _ _ _
    refine okc_weak (l' := [(0, _), (1, _), (2, _), (4, _)]) ⟨rfl, rfl, rfl, rfl, trivial⟩ ?_
    refine okc_ret fun a w hs => ?_
    exact ret_v hs (run_results1 hs rfl (rv_tmp rfl)) (by clear hs; simp_all [askB])
  · refine s_assign rfl rfl rfl rfl rfl rfl ?_
    refine okl_nil ?_
    change OkC Try.prog _ _ _ _ _ _ _
    refine okc_weak (l' := [(0, _), (1, _), (2, _), (4, _)]) ⟨rfl, rfl, rfl, rfl, trivial⟩ ?_
    refine okc_ret fun a w hs => ?_
    exact ret_v hs (run_results1 hs rfl (rv_tmp rfl)) (by clear hs; simp_all [askB])

theorem ask1_fn (s : Sp) (M : Args) (hin : s.In M) (q : Ask) (hs0 : OkS s) : Cn Try.prog 128 [spV s, askV q] M (fun _ : Unit => .bool (askB s q 1)) (fun _ => []) (fun _ => True) := by
  have w1 := hs0.ok.w1
  have w2 := hs0.ok.w2
  refine fn_intro (N := 10) Try.func128 rfl rfl rfl fun w0 => ?_
  refine okc_seq ?_
  refine okc_region ?_
  refine s_boxA rfl rfl rfl rfl rfl rfl (fun b4 => ?_)
  refine s_boxA rfl rfl rfl rfl rfl rfl (fun b5 => ?_)
  refine s_assign rfl rfl rfl rfl rfl rfl ?_
  refine okl_nil ?_
  change OkC Try.prog _ _ _ _ _ _ _
  refine okc_weak (l' := [(0, _), (1, _), (2, _), (3, _), (4, _)]) ⟨rfl, rfl, rfl, rfl, rfl, trivial⟩ ?_
  refine okc_seq ?_
  refine okc_region ?_
  refine s_field rfl rfl rfl rfl rfl rfl rfl rfl ?_
  refine s_loadW 1 rfl rfl rfl rfl rfl rfl rfl rfl rfl rfl ?_
  refine s_field rfl rfl rfl rfl rfl rfl rfl rfl ?_
  refine s_load1 0 rfl rfl rfl rfl rfl rfl rfl rfl rfl ?_
  refine s_callb rfl rfl rfl rfl rfl rfl rfl c129 (isWeek_fn s M _ (by assumption) (by assumption)) covers_all (fun h6 => ?_) (fun h6 => ?_)
  · refine s_assign rfl rfl rfl rfl rfl rfl ?_
    refine okl_nil ?_
    change OkC Try.prog _ _ _ _ _ _ _
    refine okc_weak (l' := [(0, _), (1, _), (2, _), (3, _), (4, _)]) ⟨rfl, rfl, rfl, rfl, rfl, trivial⟩ ?_
    refine okc_ret fun a w hs => ?_
    exact ret_v hs (run_results1 hs rfl (rv_tmp rfl)) (by clear hs; simp_all [askB])
  · refine s_assign rfl rfl rfl rfl rfl rfl ?_
    refine okl_nil ?_
    change OkC Try.prog _ _ _ _ _ _ _
    refine okc_weak (l' := [(0, _), (1, _), (2, _), (3, _), (4, _)]) ⟨rfl, rfl, rfl, rfl, rfl, trivial⟩ ?_
    refine okc_ret fun a w hs => ?_
    exact ret_v hs (run_results1 hs rfl (rv_tmp rfl)) (by clear hs; simp_all [askB])

theorem ask2_fn (s : Sp) (M : Args) (hin : s.In M) (q : Ask) : Cn Try.prog 130 [spV s, askV q] M (fun _ : Unit => .bool (askB s q 2)) (fun _ => []) (fun _ => True) := by
  refine fn_intro (N := 10) Try.func130 rfl rfl rfl fun w0 => ?_
  refine okc_seq ?_
  refine okc_region ?_
  refine s_boxA rfl rfl rfl rfl rfl rfl (fun b7 => ?_)
  refine s_boxA rfl rfl rfl rfl rfl rfl (fun b8 => ?_)
  refine s_assign rfl rfl rfl rfl rfl rfl ?_
  refine okl_nil ?_
  change OkC Try.prog _ _ _ _ _ _ _
  refine okc_weak (l' := [(0, _), (1, _), (3, _), (4, _)]) ⟨rfl, rfl, rfl, rfl, trivial⟩ ?_
  refine okc_seq ?_
  refine dr_start [5, 6, 7, 8, 9, 4] ?_
  refine d_callv [] rfl rfl rfl rfl rfl (fun ν => rfl) rfl (fun ν => rfl) (fun ν => rfl) c85 (fun ν => span_fn _ _) (fun ν => covers_nil) ?_
  refine d_field [] rfl rfl rfl rfl rfl (fun ν => rfl) rfl (fun ν => rfl) rfl rfl ?_
  refine d_load1 0 [1] rfl rfl rfl rfl rfl (fun ν => rfl) rfl rfl (fun ν => rfl) (fun ν => rfl) rfl ?_
  refine d_slice1 [2] rfl rfl rfl rfl rfl (fun ν => rfl) rfl (fun ν => rfl) rfl rfl rfl rfl ?_
  refine d_callb [0, 3] rfl rfl rfl rfl rfl (fun ν => rfl) rfl (fun ν => rfl) (fun ν => rfl) c131 (fun ν => within_fn _ _ [_] _ 1 (by simp)) (fun ν => (covers_own 0 rfl covers_nil)) (fun h10 => ?_) (fun h10 => ?_)
  · refine d_assign [4] rfl rfl rfl rfl rfl (fun ν => rfl) rfl (fun ν => rfl) ?_
    refine dr_end [5, 6, 7, 8, 9, 4] [5] 6 rfl rfl rfl rfl rfl rfl rfl rfl rfl (fun ν => ?_)
    refine okl_nil ?_
    change OkC Try.prog _ _ _ _ _ _ _
    refine okc_weak (l' := [(0, _), (1, _), (3, _), (4, _)]) ⟨rfl, rfl, rfl, rfl, trivial⟩ ?_
    refine okc_ret fun a w hs => ?_
    exact ret_v hs (run_results1 hs rfl (rv_tmp rfl)) (by clear hs; simp_all [askB])
  · refine d_assign [4] rfl rfl rfl rfl rfl (fun ν => rfl) rfl (fun ν => rfl) ?_
    refine dr_end [5, 6, 7, 8, 9, 4] [5] 6 rfl rfl rfl rfl rfl rfl rfl rfl rfl (fun ν => ?_)
    refine okl_nil ?_
    change OkC Try.prog _ _ _ _ _ _ _
    refine okc_weak (l' := [(0, _), (1, _), (3, _), (4, _)]) ⟨rfl, rfl, rfl, rfl, trivial⟩ ?_
    refine okc_ret fun a w hs => ?_
    exact ret_v hs (run_results1 hs rfl (rv_tmp rfl)) (by clear hs; simp_all [askB])

theorem ask3_fn (s : Sp) (M : Args) (hin : s.In M) (q : Ask) (hs0 : OkS s) : Cn Try.prog 132 [spV s, askV q] M (fun _ : Unit => .bool (askB s q 3)) (fun _ => []) (fun _ => True) := by
  have w1 := hs0.ok.w1
  have w2 := hs0.ok.w2
  refine fn_intro (N := 10) Try.func132 rfl rfl rfl fun w0 => ?_
  refine okc_seq ?_
  refine okc_region ?_
  refine s_boxA rfl rfl rfl rfl rfl rfl (fun b11 => ?_)
  refine s_boxA rfl rfl rfl rfl rfl rfl (fun b12 => ?_)
  refine s_assign rfl rfl rfl rfl rfl rfl ?_
  refine okl_nil ?_
  change OkC Try.prog _ _ _ _ _ _ _
  refine okc_weak (l' := [(0, _), (1, _), (2, _), (3, _), (4, _)]) ⟨rfl, rfl, rfl, rfl, rfl, trivial⟩ ?_
  refine okc_seq ?_
  refine okc_region ?_
  refine s_field rfl rfl rfl rfl rfl rfl rfl rfl ?_
  refine s_loadW 1 rfl rfl rfl rfl rfl rfl rfl rfl rfl rfl ?_
  refine s_field rfl rfl rfl rfl rfl rfl rfl rfl ?_
  refine s_loadP 0 rfl rfl rfl rfl rfl rfl rfl rfl rfl rfl rfl ?_
  refine s_callb rfl rfl rfl rfl rfl rfl rfl c133 (validReading_fn s M _ (by assumption) (by assumption)) covers_all (fun h13 => ?_) (fun h13 => ?_)
  · refine s_assign rfl rfl rfl rfl rfl rfl ?_
    refine okl_nil ?_
    change OkC Try.prog _ _ _ _ _ _ _
    refine okc_weak (l' := [(0, _), (1, _), (2, _), (3, _), (4, _)]) ⟨rfl, rfl, rfl, rfl, rfl, trivial⟩ ?_
    refine okc_ret fun a w hs => ?_
    exact ret_v hs (run_results1 hs rfl (rv_tmp rfl)) (by clear hs; simp_all [askB])
  · refine s_assign rfl rfl rfl rfl rfl rfl ?_
    refine okl_nil ?_
    change OkC Try.prog _ _ _ _ _ _ _
    refine okc_weak (l' := [(0, _), (1, _), (2, _), (3, _), (4, _)]) ⟨rfl, rfl, rfl, rfl, rfl, trivial⟩ ?_
    refine okc_ret fun a w hs => ?_
    exact ret_v hs (run_results1 hs rfl (rv_tmp rfl)) (by clear hs; simp_all [askB])

theorem ask4_fn (s : Sp) (M : Args) (hin : s.In M) (q : Ask) (hs0 : OkS s) : Cn Try.prog 134 [spV s, askV q] M (fun _ : Unit => .bool (askB s q 4)) (fun _ => []) (fun _ => True) := by
  refine fn_intro (N := 7) Try.func134 rfl rfl rfl fun w0 => ?_
  refine okc_seq ?_
  refine okc_region ?_
  refine s_boxA rfl rfl rfl rfl rfl rfl (fun b14 => ?_)
  refine s_boxA rfl rfl rfl rfl rfl rfl (fun b15 => ?_)
  refine s_assign rfl rfl rfl rfl rfl rfl ?_
  refine okl_nil ?_
  change OkC Try.prog _ _ _ _ _ _ _
  refine okc_weak (l' := [(0, _), (1, _), (2, _), (4, _)]) ⟨rfl, rfl, rfl, rfl, trivial⟩ ?_
  refine okc_seq ?_
  refine okc_region ?_
  refine s_loadW 1 rfl rfl rfl rfl rfl rfl rfl rfl rfl rfl ?_
  refine s_callb rfl rfl rfl rfl rfl rfl rfl c73 (can_fn s M hin hs0) covers_all (fun h16 => ?_) (fun h16 => ?_)
  · refine s_assign rfl rfl rfl rfl rfl rfl ?_
    refine okl_nil ?_
    change OkC Try.prog _ _ _ _ _ _ _
    refine okc_weak (l' := [(0, _), (1, _), (2, _), (4, _)]) ⟨rfl, rfl, rfl, rfl, trivial⟩ ?_
    refine okc_ret fun a w hs => ?_
    exact ret_v hs (run_results1 hs rfl (rv_tmp rfl)) (by clear hs; simp_all [askB])
  · refine s_assign rfl rfl rfl rfl rfl rfl ?_
    refine okl_nil ?_
    change OkC Try.prog _ _ _ _ _ _ _
    refine okc_weak (l' := [(0, _), (1, _), (2, _), (4, _)]) ⟨rfl, rfl, rfl, rfl, trivial⟩ ?_
    refine okc_ret fun a w hs => ?_
    exact ret_v hs (run_results1 hs rfl (rv_tmp rfl)) (by clear hs; simp_all [askB])

theorem questions_fn  : Cn Try.prog 109 [] [] (fun _ : Unit => .agg #[.func (.func 126) #[] #[], .int .i64 10, .func (.func 128) #[] #[], .int .i64 11, .func (.func 130) #[] #[], .int .i64 14, .func (.func 132) #[] #[], .int .i64 12, .func (.func 134) #[] #[], .int .i64 8]) (fun _ => []) (fun _ => True) := by
  refine fn_intro (N := 7) Try.func109 rfl rfl rfl fun w0 => ?_
  refine okc_seq ?_
  refine okc_region ?_
  refine s_alloc rfl rfl rfl rfl rfl rfl (fun b17 => ?_)
  refine okl_nil ?_
  change OkC Try.prog _ _ _ _ _ _ _
  refine okc_weak (l' := [(0, _)]) ⟨rfl, trivial⟩ ?_
  refine okc_seq ?_
  refine okc_region ?_
  refine s_build rfl rfl rfl rfl rfl rfl rfl rfl rfl ?_
  refine s_build rfl rfl rfl rfl rfl rfl rfl rfl rfl ?_
  refine s_build rfl rfl rfl rfl rfl rfl rfl rfl rfl ?_
  refine s_build rfl rfl rfl rfl rfl rfl rfl rfl rfl ?_
  refine s_build rfl rfl rfl rfl rfl rfl rfl rfl rfl ?_
  refine s_buildA rfl rfl rfl rfl rfl rfl rfl rfl rfl rfl rfl ?_
  refine k_storeW 0 rfl rfl rfl rfl rfl rfl rfl rfl rfl rfl rfl rfl ?_
  try dsimp only [List.set_cons_zero, List.set_cons_succ, setL]
  refine okl_nil ?_
  change OkC Try.prog _ _ _ _ _ _ _
  refine okc_weak (l' := [(0, _)]) ⟨rfl, trivial⟩ ?_
  refine okc_ret fun a w hs => ?_
  exact ret_v hs (run_results1 hs rfl (k_ragg 0 rfl rfl rfl rfl rfl)) (rfl)

end Go.Proofs.Ytdpnadknaacinaa
