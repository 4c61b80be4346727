/-
  What readings tell, as the program reckons it.
  Conditions: none.
-/
import Derived.Test.YtdpnadknaacinaaC3
import Derived.Test.YtdpnadknaacinaaRg
namespace Go.Proofs.Ytdpnadknaacinaa
open Go.Sx Go.Proofs.Ytdpnadknaacinaa.Ty
set_option linter.unusedVariables false
set_option maxHeartbeats 2000000


def upS (n d : Int) : Int := (n + d - 1) / d

theorem dividedUp_fn (n d : Int) (h0 : 0 ≤ n) (h1 : 1 ≤ d) (h2 : n ≤ 1000000000) (h3 : d ≤ 1000000000) : Cn Try.prog 86 [.int .i64 n, .int .i64 d] [] (fun _ : Unit => .int .i64 (upS n d)) (fun _ => []) (fun _ => True) := by
  refine fn_intro (N := 11) Try.func86 rfl rfl rfl fun w0 => ?_
  refine okc_seq ?_
  refine okc_region ?_
  refine s_assign rfl rfl rfl rfl rfl rfl ?_
  refine okl_nil ?_
  change OkC Try.prog _ _ _ _ _ _ _
  refine okc_weak (l' := [(0, _), (1, _), (4, _)]) ⟨rfl, rfl, rfl, trivial⟩ ?_
  refine okc_seq ?_
  refine okc_region ?_
  refine s_move rfl rfl rfl rfl rfl rfl ?_
  refine s_move rfl rfl rfl rfl rfl rfl ?_
  refine s_add rfl rfl rfl rfl rfl rfl rfl (by omega) ?_
  refine s_sub rfl rfl rfl rfl rfl rfl rfl (by omega) ?_
  refine s_move rfl rfl rfl rfl rfl rfl ?_
  refine s_quo rfl rfl rfl rfl rfl rfl rfl (by omega) ?_
  refine s_assign rfl rfl rfl rfl rfl rfl ?_
  refine okl_nil ?_
  change OkC Try.prog _ _ _ _ _ _ _
  refine okc_weak (l' := [(0, _), (1, _), (4, _)]) ⟨rfl, rfl, rfl, trivial⟩ ?_
  refine okc_ret fun a w hs => ?_
  exact ret_v hs (run_results1 hs rfl (rv_tmp rfl)) (rfl)


def toldB (s : Sp) (x : Rd) : Int × Int := (upS (3600 * x.bucket) (x.hi * s.shi), if 0 < x.lo * s.slo then min s.most (3600 * x.bucket / (x.lo * s.slo)) else s.most)
structure Ok (s : Sp) : Prop where
  w1 : 1 ≤ s.weeks
  w2 : s.weeks ≤ 10
  m1 : 0 ≤ s.most
  m2 : s.most ≤ 100
  f1 : 0 ≤ s.fall
  f2 : s.fall ≤ 100
  a1 : 1 ≤ s.slo
  a2 : s.slo ≤ s.shi
  a3 : s.shi ≤ 600
  v1 : 0 ≤ s.wlo
  v2 : s.wlo ≤ s.whi
  v3 : s.whi ≤ 20
structure OkR (s : Sp) (x : Rd) : Prop where
  n1 : 1 ≤ x.number
  n2 : x.number ≤ 9999
  w1 : 0 ≤ x.week
  w2 : x.week ≤ s.weeks - 1
  b1 : 1 ≤ x.bucket
  b2 : x.bucket ≤ 40
  l1 : 0 ≤ x.lo
  l2 : x.lo ≤ x.hi
  l3 : x.hi ≤ 99
  l4 : 1 ≤ x.hi
theorem mul_bd {a b m n : Int} (h1 : 0 ≤ a) (h2 : a ≤ m) (h3 : 0 ≤ b) (h4 : b ≤ n) : 0 ≤ a * b ∧ a * b ≤ m * n :=
  ⟨Int.mul_nonneg h1 h3, Int.mul_le_mul h2 h4 h3 (by omega)⟩
theorem mul_pos' {a b : Int} (h1 : 1 ≤ a) (h2 : 1 ≤ b) : 1 ≤ a * b := by
  have := Int.mul_le_mul h1 h2 (by omega) (by omega : (0 : Int) ≤ a); simpa using this

theorem told_fn (s : Sp) (x : Rd) (ho : Ok s) (hx : OkR s x) : Cn Try.prog 91 [spV s, rdV x] [] (fun _ : Unit => .agg #[.int .i64 (toldB s x).1, .int .i64 (toldB s x).2]) (fun _ => []) (fun _ => True) := by
  obtain ⟨w1, w2, m1, m2, f1, f2, a1, a2, a3, v1, v2, v3⟩ := ho
  obtain ⟨n1, n2, k1, k2, b1, b2, l1, l2, l3, l4⟩ := hx
  have hp1 := mul_bd (a := x.hi) (b := s.shi) (by omega) l3 (by omega) a3
  have hp2 := mul_pos' (a := x.hi) (b := s.shi) (by omega) (by omega)
  have hp3 := mul_bd (a := x.lo) (b := s.slo) (m := 99) (n := 600) l1 (by omega) (by omega) (by omega)
  refine fn_intro (N := 43) Try.func91 rfl rfl rfl fun w0 => ?_
  refine okc_seq ?_
  refine okc_region ?_
  refine s_boxA rfl rfl rfl rfl rfl rfl (fun b1 => ?_)
  refine s_boxA rfl rfl rfl rfl rfl rfl (fun b2 => ?_)
  refine s_alloc rfl rfl rfl rfl rfl rfl (fun b3 => ?_)
  refine okl_nil ?_
  change OkC Try.prog _ _ _ _ _ _ _
  refine okc_weak (l' := [(0, _), (1, _), (2, _), (3, _), (4, _)]) ⟨rfl, rfl, rfl, rfl, rfl, trivial⟩ ?_
  refine okc_seq ?_
  refine okc_region ?_
  refine s_field rfl rfl rfl rfl rfl rfl rfl rfl ?_
  refine s_load1 1 rfl rfl rfl rfl rfl rfl rfl rfl rfl ?_
  refine s_mul rfl rfl rfl rfl rfl rfl rfl (by omega) ?_
  refine s_assign rfl rfl rfl rfl rfl rfl ?_
  refine okl_nil ?_
  change OkC Try.prog _ _ _ _ _ _ _
  refine okc_weak (l' := [(0, _), (1, _), (2, _), (3, _), (4, _), (5, _)]) ⟨rfl, rfl, rfl, rfl, rfl, rfl, trivial⟩ ?_
  refine okc_seq ?_
  refine dr_start [11, 12, 13, 14, 15, 16, 17, 18, 19, 20, 21, 22, 23, 24, 6] ?_
  refine d_move [] rfl rfl rfl rfl rfl (fun ν => rfl) rfl (fun ν => rfl) ?_
  refine d_field [] rfl rfl rfl rfl rfl (fun ν => rfl) rfl (fun ν => rfl) rfl rfl ?_
  refine d_field [1] rfl rfl rfl rfl rfl (fun ν => rfl) rfl (fun ν => rfl) rfl rfl ?_
  refine d_load1 1 [2] rfl rfl rfl rfl rfl (fun ν => rfl) rfl rfl (fun ν => rfl) (fun ν => rfl) rfl ?_
  refine d_field [] rfl rfl rfl rfl rfl (fun ν => rfl) rfl (fun ν => rfl) rfl rfl ?_
  refine d_field [4] rfl rfl rfl rfl rfl (fun ν => rfl) rfl (fun ν => rfl) rfl rfl ?_
  refine d_field [5] rfl rfl rfl rfl rfl (fun ν => rfl) rfl (fun ν => rfl) rfl rfl ?_
  refine d_load1 2 [6] rfl rfl rfl rfl rfl (fun ν => rfl) rfl rfl (fun ν => rfl) (fun ν => rfl) rfl ?_
  refine d_mul [3, 7] rfl rfl rfl rfl rfl (fun ν => rfl) rfl (fun ν => rfl) (fun ν => rfl) (by omega) ?_
  refine d_callv [0, 8] rfl rfl rfl rfl rfl (fun ν => rfl) rfl (fun ν => rfl) (fun ν => rfl) c86 (fun ν => dividedUp_fn _ _ (by omega) (by omega) (by omega) (by omega)) (fun ν => covers_nil) ?_
  refine d_field [] rfl rfl rfl rfl rfl (fun ν => rfl) rfl (fun ν => rfl) rfl rfl ?_
  refine d_field [10] rfl rfl rfl rfl rfl (fun ν => rfl) rfl (fun ν => rfl) rfl rfl ?_
  refine d_load1 2 [11] rfl rfl rfl rfl rfl (fun ν => rfl) rfl rfl (fun ν => rfl) (fun ν => rfl) rfl ?_
  refine d_callv [9, 12] rfl rfl rfl rfl rfl (fun ν => rfl) rfl (fun ν => rfl) (fun ν => rfl) c85 (fun ν => span_fn _ _) (fun ν => covers_nil) ?_
  refine d_alloc [] rfl rfl rfl rfl rfl (fun ν => rfl) rfl rfl ?_
  refine dr_end [11, 12, 13, 14, 15, 16, 17, 18, 19, 20, 21, 22, 23, 24, 6] [13, 14] 15 rfl rfl rfl rfl rfl rfl rfl rfl rfl (fun ν => ?_)
  refine k_storeW 0 rfl rfl rfl rfl rfl rfl rfl rfl rfl rfl rfl rfl ?_
  try dsimp only [List.set_cons_zero, List.set_cons_succ, setL]
  refine okl_nil ?_
  change OkC Try.prog _ _ _ _ _ _ _
  refine okc_weak (l' := [(0, _), (1, _), (2, _), (3, _), (4, _), (5, _), (6, _)]) ⟨rfl, rfl, rfl, rfl, rfl, rfl, rfl, trivial⟩ ?_
  refine okc_seq ?_
  refine okc_seq ?_
  refine okc_region ?_
  refine s_field rfl rfl rfl rfl rfl rfl rfl rfl ?_
  refine s_field rfl rfl rfl rfl rfl rfl rfl rfl ?_
  refine s_load1 2 rfl rfl rfl rfl rfl rfl rfl rfl rfl ?_
  refine s_field rfl rfl rfl rfl rfl rfl rfl rfl ?_
  refine s_field rfl rfl rfl rfl rfl rfl rfl rfl ?_
  refine s_field rfl rfl rfl rfl rfl rfl rfl rfl ?_
  refine s_load1 3 rfl rfl rfl rfl rfl rfl rfl rfl rfl ?_
  refine s_mul rfl rfl rfl rfl rfl rfl rfl (by omega) ?_
  refine s_assign rfl rfl rfl rfl rfl rfl ?_
  refine okl_nil ?_
  change OkC Try.prog _ _ _ _ _ _ _
  refine okc_weak (l' := [(0, _), (1, _), (2, _), (3, _), (4, _), (5, _), (6, _), (7, _)]) ⟨rfl, rfl, rfl, rfl, rfl, rfl, rfl, rfl, trivial⟩ ?_
  refine okc_seq ?_
  refine okc_region ?_
  refine s_move rfl rfl rfl rfl rfl rfl ?_
  refine s_cmpS rfl rfl rfl rfl rfl rfl rfl rfl (fun h5 => ?_) (fun h5 => ?_)
  · have hpos : 0 < x.lo * s.slo := by simpa using h5
    refine okl_nil ?_
    change OkC Try.prog _ _ _ _ _ _ _
    refine okc_weak (l' := [(0, _), (1, _), (2, _), (3, _), (4, _), (5, _), (6, _), (7, _), (34, _)]) ⟨rfl, rfl, rfl, rfl, rfl, rfl, rfl, rfl, rfl, trivial⟩ ?_
    refine okc_cond_t rfl ?_
    refine dr_start [35, 36, 37, 38, 39, 40, 41] ?_
    refine d_field [] rfl rfl rfl rfl rfl (fun ν => rfl) rfl (fun ν => rfl) rfl rfl ?_
    refine d_load1 0 [0] rfl rfl rfl rfl rfl (fun ν => rfl) rfl rfl (fun ν => rfl) (fun ν => rfl) rfl ?_
    refine d_move [] rfl rfl rfl rfl rfl (fun ν => rfl) rfl (fun ν => rfl) ?_
    refine d_move [] rfl rfl rfl rfl rfl (fun ν => rfl) rfl (fun ν => rfl) ?_
    refine d_quo [2, 3] rfl rfl rfl rfl rfl (fun ν => rfl) rfl (fun ν => rfl) (fun ν => rfl) (by omega) ?_
    refine d_min [1, 4] rfl rfl rfl rfl rfl (fun ν => rfl) rfl (fun ν => rfl) (fun ν => rfl) ?_
    refine d_field [] rfl rfl rfl rfl rfl (fun ν => rfl) rfl (fun ν => rfl) rfl rfl ?_
    refine dr_end [35, 36, 37, 38, 39, 40, 41] [5, 6] 7 rfl rfl rfl rfl rfl rfl rfl rfl rfl (fun ν => ?_)
    refine k_store 0 rfl rfl rfl rfl rfl rfl rfl rfl rfl rfl rfl rfl ?_
    try dsimp only [List.set_cons_zero, List.set_cons_succ, setL]
    refine okl_nil ?_
    change OkC Try.prog _ _ _ _ _ _ _
    refine okc_weak (l' := [(0, _), (1, _), (2, _), (3, _), (4, _), (5, _), (6, _), (7, _), (34, _)]) ⟨rfl, rfl, rfl, rfl, rfl, rfl, rfl, rfl, rfl, trivial⟩ ?_
    refine okc_seq ?_
    refine okc_region ?_
    refine s_loadW 0 rfl rfl rfl rfl rfl rfl rfl rfl rfl rfl ?_
    refine k_storeW 1 rfl rfl rfl rfl rfl rfl rfl rfl rfl rfl rfl rfl ?_
    try dsimp only [List.set_cons_zero, List.set_cons_succ, setL]
    refine okl_nil ?_
    change OkC Try.prog _ _ _ _ _ _ _
    refine okc_weak (l' := [(0, _), (1, _), (2, _), (3, _), (4, _), (5, _), (6, _), (7, _), (34, _)]) ⟨rfl, rfl, rfl, rfl, rfl, rfl, rfl, rfl, rfl, trivial⟩ ?_
    refine okc_ret fun a w hs => ?_
    exact ret_v hs (run_results1 hs rfl (k_ragg 1 rfl rfl rfl rfl rfl)) (by clear hs; first | (simp only [toldB, if_pos hpos, upS]; done) | (simp only [toldB, if_neg hnp, upS]; done))
  · have hnp : ¬ 0 < x.lo * s.slo := by simpa using h5
    refine okl_nil ?_
    change OkC Try.prog _ _ _ _ _ _ _
    refine okc_weak (l' := [(0, _), (1, _), (2, _), (3, _), (4, _), (5, _), (6, _), (7, _), (34, _)]) ⟨rfl, rfl, rfl, rfl, rfl, rfl, rfl, rfl, rfl, trivial⟩ ?_
    refine okc_cond_f rfl ?_
    refine okc_skip ?_
    change OkC Try.prog _ _ _ _ _ _ _
    refine okc_weak (l' := [(0, _), (1, _), (2, _), (3, _), (4, _), (5, _), (6, _), (7, _), (34, _)]) ⟨rfl, rfl, rfl, rfl, rfl, rfl, rfl, rfl, rfl, trivial⟩ ?_
    refine okc_seq ?_
    refine okc_region ?_
    refine s_loadW 0 rfl rfl rfl rfl rfl rfl rfl rfl rfl rfl ?_
    refine k_storeW 1 rfl rfl rfl rfl rfl rfl rfl rfl rfl rfl rfl rfl ?_
    try dsimp only [List.set_cons_zero, List.set_cons_succ, setL]
    refine okl_nil ?_
    change OkC Try.prog _ _ _ _ _ _ _
    refine okc_weak (l' := [(0, _), (1, _), (2, _), (3, _), (4, _), (5, _), (6, _), (7, _), (34, _)]) ⟨rfl, rfl, rfl, rfl, rfl, rfl, rfl, rfl, rfl, trivial⟩ ?_
    refine okc_ret fun a w hs => ?_
    exact ret_v hs (run_results1 hs rfl (k_ragg 1 rfl rfl rfl rfl rfl)) (by clear hs; first | (simp only [toldB, if_pos hpos, upS]; done) | (simp only [toldB, if_neg hnp, upS]; done))

end Go.Proofs.Ytdpnadknaacinaa
