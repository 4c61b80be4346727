/-
  The reference: whether a reading is right.
  Conditions: none.
-/
import Derived.Test.YtdpnadknaacinaaC11
namespace Go.Proofs.Ytdpnadknaacinaa
open Go.Sx Go.Proofs.Ytdpnadknaacinaa.Ty
set_option linter.unusedVariables false
set_option maxHeartbeats 2000000


/-- Is the reading right, if the spring gives g? -/
def rightB (s : Sp) (x : Rd) (g : Int) : Bool := decide (0 < g) && decide (x.lo * s.slo * g ≤ 3600 * x.bucket) && decide (3600 * x.bucket ≤ x.hi * s.shi * g)

theorem right_fn0 (s : Sp) (x : Rd) (g : Int) (hp1 : 0 ≤ x.hi * s.shi ∧ x.hi * s.shi ≤ 99 * 600) (hp3 : 0 ≤ x.lo * s.slo ∧ x.lo * s.slo ≤ 99 * 600) (hp4 : 0 < g → 0 ≤ x.lo * s.slo * g ∧ x.lo * s.slo * g ≤ 99 * 600 * 1000) (hp5 : 0 < g → 0 ≤ x.hi * s.shi * g ∧ x.hi * s.shi * g ≤ 99 * 600 * 1000) (b1 : 1 ≤ x.bucket) (b2 : x.bucket ≤ 40) : Cn Try.prog 92 [spV s, rdV x, .int .i64 g] [] (fun _ : Unit => .bool (rightB s x g)) (fun _ => []) (fun _ => True) := by
  refine fn_intro (N := 39) Try.func92 rfl rfl rfl fun w0 => ?_
  refine okc_seq ?_
  refine okc_region ?_
  refine s_boxA rfl rfl rfl rfl rfl rfl (fun b1 => ?_)
  refine s_boxA rfl rfl rfl rfl rfl rfl (fun b2 => ?_)
  refine s_assign rfl rfl rfl rfl rfl rfl ?_
  refine okl_nil ?_
  change OkC Try.prog _ _ _ _ _ _ _
  refine okc_weak (l' := [(0, _), (1, _), (2, _), (3, _), (4, _), (6, _)]) ⟨rfl, rfl, rfl, rfl, rfl, rfl, trivial⟩ ?_
  refine okc_seq ?_
  refine okc_region ?_
  refine s_move rfl rfl rfl rfl rfl rfl ?_
  refine s_cmpS rfl rfl rfl rfl rfl rfl rfl rfl (fun h3 => ?_) (fun h3 => ?_)
  · have hpos : 0 < g := by simpa using h3
    have hq4 := hp4 hpos
    have hq5 := hp5 hpos
    refine s_move rfl rfl rfl rfl rfl rfl ?_
    refine s_field rfl rfl rfl rfl rfl rfl rfl rfl ?_
    refine s_field rfl rfl rfl rfl rfl rfl rfl rfl ?_
    refine s_load1 0 rfl rfl rfl rfl rfl rfl rfl rfl rfl ?_
    refine s_field rfl rfl rfl rfl rfl rfl rfl rfl ?_
    refine s_field rfl rfl rfl rfl rfl rfl rfl rfl ?_
    refine s_load1 1 rfl rfl rfl rfl rfl rfl rfl rfl rfl ?_
    refine s_mul rfl rfl rfl rfl rfl rfl rfl (by omega) ?_
    refine s_move rfl rfl rfl rfl rfl rfl ?_
    refine s_mul rfl rfl rfl rfl rfl rfl rfl (by omega) ?_
    refine s_field rfl rfl rfl rfl rfl rfl rfl rfl ?_
    refine s_load1 0 rfl rfl rfl rfl rfl rfl rfl rfl rfl ?_
    refine s_mul rfl rfl rfl rfl rfl rfl rfl (by omega) ?_
    refine s_cmpS rfl rfl rfl rfl rfl rfl rfl rfl (fun h4 => ?_) (fun h4 => ?_)
    · refine s_pick_t rfl rfl rfl rfl rfl rfl rfl ?_
      refine s_move rfl rfl rfl rfl rfl rfl ?_
      refine s_field rfl rfl rfl rfl rfl rfl rfl rfl ?_
      refine s_load1 0 rfl rfl rfl rfl rfl rfl rfl rfl rfl ?_
      refine s_mul rfl rfl rfl rfl rfl rfl rfl (by omega) ?_
      refine s_field rfl rfl rfl rfl rfl rfl rfl rfl ?_
      refine s_field rfl rfl rfl rfl rfl rfl rfl rfl ?_
      refine s_load1 0 rfl rfl rfl rfl rfl rfl rfl rfl rfl ?_
      refine s_field rfl rfl rfl rfl rfl rfl rfl rfl ?_
      refine s_field rfl rfl rfl rfl rfl rfl rfl rfl ?_
      refine s_load1 1 rfl rfl rfl rfl rfl rfl rfl rfl rfl ?_
      refine s_mul rfl rfl rfl rfl rfl rfl rfl (by omega) ?_
      refine s_move rfl rfl rfl rfl rfl rfl ?_
      refine s_mul rfl rfl rfl rfl rfl rfl rfl (by omega) ?_
      refine s_cmpS rfl rfl rfl rfl rfl rfl rfl rfl (fun h5 => ?_) (fun h5 => ?_)
      · refine s_pick_t rfl rfl rfl rfl rfl rfl rfl ?_
        refine s_assign rfl rfl rfl rfl rfl rfl ?_
        refine okl_nil ?_
        change OkC Try.prog _ _ _ _ _ _ _
        refine okc_weak (l' := [(0, _), (1, _), (2, _), (3, _), (4, _), (6, _)]) ⟨rfl, rfl, rfl, rfl, rfl, rfl, trivial⟩ ?_
        refine okc_ret fun a w hs => ?_
        exact ret_v hs (run_results1 hs rfl (rv_tmp rfl)) (by clear hs; simp_all [rightB] <;> (intros; omega))
      · refine s_pick_t rfl rfl rfl rfl rfl rfl rfl ?_
        refine s_assign rfl rfl rfl rfl rfl rfl ?_
        refine okl_nil ?_
        change OkC Try.prog _ _ _ _ _ _ _
        refine okc_weak (l' := [(0, _), (1, _), (2, _), (3, _), (4, _), (6, _)]) ⟨rfl, rfl, rfl, rfl, rfl, rfl, trivial⟩ ?_
        refine okc_ret fun a w hs => ?_
        exact ret_v hs (run_results1 hs rfl (rv_tmp rfl)) (by clear hs; simp_all [rightB] <;> (intros; omega))
    · refine s_pick_t rfl rfl rfl rfl rfl rfl rfl ?_
      refine s_move rfl rfl rfl rfl rfl rfl ?_
      refine okl_skip rfl rfl rfl rfl ?_
      refine okl_skip rfl rfl rfl rfl ?_
      refine okl_skip rfl rfl rfl rfl ?_
      refine okl_skip rfl rfl rfl rfl ?_
      refine okl_skip rfl rfl rfl rfl ?_
      refine okl_skip rfl rfl rfl rfl ?_
      refine okl_skip rfl rfl rfl rfl ?_
      refine okl_skip rfl rfl rfl rfl ?_
      refine okl_skip rfl rfl rfl rfl ?_
      refine okl_skip rfl rfl rfl rfl ?_
      refine okl_skip rfl rfl rfl rfl ?_
      refine okl_skip rfl rfl rfl rfl ?_
      refine okl_skip rfl rfl rfl rfl ?_
      refine s_pick_f rfl rfl rfl rfl rfl rfl rfl ?_
      refine s_assign rfl rfl rfl rfl rfl rfl ?_
      refine okl_nil ?_
      change OkC Try.prog _ _ _ _ _ _ _
      refine okc_weak (l' := [(0, _), (1, _), (2, _), (3, _), (4, _), (6, _)]) ⟨rfl, rfl, rfl, rfl, rfl, rfl, trivial⟩ ?_
      refine okc_ret fun a w hs => ?_
      exact ret_v hs (run_results1 hs rfl (rv_tmp rfl)) (by clear hs; simp_all [rightB] <;> (intros; omega))
  · have hnp : ¬ 0 < g := by simpa using h3
    refine s_move rfl rfl rfl rfl rfl rfl ?_
    refine okl_skip rfl rfl rfl rfl ?_
    refine okl_skip rfl rfl rfl rfl ?_
    refine okl_skip rfl rfl rfl rfl ?_
    refine okl_skip rfl rfl rfl rfl ?_
    refine okl_skip rfl rfl rfl rfl ?_
    refine okl_skip rfl rfl rfl rfl ?_
    refine okl_skip rfl rfl rfl rfl ?_
    refine okl_skip rfl rfl rfl rfl ?_
    refine okl_skip rfl rfl rfl rfl ?_
    refine okl_skip rfl rfl rfl rfl ?_
    refine okl_skip rfl rfl rfl rfl ?_
    refine okl_skip rfl rfl rfl rfl ?_
    refine okl_skip rfl rfl rfl rfl ?_
    refine s_pick_f rfl rfl rfl rfl rfl rfl rfl ?_
    refine s_move rfl rfl rfl rfl rfl rfl ?_
    refine okl_skip rfl rfl rfl rfl ?_
    refine okl_skip rfl rfl rfl rfl ?_
    refine okl_skip rfl rfl rfl rfl ?_
    refine okl_skip rfl rfl rfl rfl ?_
    refine okl_skip rfl rfl rfl rfl ?_
    refine okl_skip rfl rfl rfl rfl ?_
    refine okl_skip rfl rfl rfl rfl ?_
    refine okl_skip rfl rfl rfl rfl ?_
    refine okl_skip rfl rfl rfl rfl ?_
    refine okl_skip rfl rfl rfl rfl ?_
    refine okl_skip rfl rfl rfl rfl ?_
    refine okl_skip rfl rfl rfl rfl ?_
    refine okl_skip rfl rfl rfl rfl ?_
    refine s_pick_f rfl rfl rfl rfl rfl rfl rfl ?_
    refine s_assign rfl rfl rfl rfl rfl rfl ?_
    refine okl_nil ?_
    change OkC Try.prog _ _ _ _ _ _ _
    refine okc_weak (l' := [(0, _), (1, _), (2, _), (3, _), (4, _), (6, _)]) ⟨rfl, rfl, rfl, rfl, rfl, rfl, trivial⟩ ?_
    refine okc_ret fun a w hs => ?_
    exact ret_v hs (run_results1 hs rfl (rv_tmp rfl)) (by clear hs; simp_all [rightB] <;> (intros; omega))


theorem right_fn (s : Sp) (x : Rd) (g : Int) (ho : Ok s) (hx : OkR s x) (hg : g ≤ 1000) : Cn Try.prog 92 [spV s, rdV x, .int .i64 g] [] (fun _ : Unit => .bool (rightB s x g)) (fun _ => []) (fun _ => True) := by
  obtain ⟨w1, w2, m1, m2, f1, f2, a1, a2, a3, v1, v2, v3⟩ := ho
  obtain ⟨n1, n2, k1, k2, b1, b2, l1, l2, l3, l4⟩ := hx
  have hp1 := mul_bd (a := x.hi) (b := s.shi) (m := 99) (n := 600) (by omega) l3 (by omega) a3
  have hp3 := mul_bd (a := x.lo) (b := s.slo) (m := 99) (n := 600) l1 (by omega) (by omega) (by omega)
  exact right_fn0 s x g hp1 hp3 (fun h => mul_bd hp3.1 hp3.2 (by omega) hg) (fun h => mul_bd hp1.1 hp1.2 (by omega) hg) b1 b2

end Go.Proofs.Ytdpnadknaacinaa
