/-
  The reference: all rains with a truth; whether there is one.
  Conditions: none.
-/
import Derived.Test.YtdpnadknaacinaaC19
import Derived.Test.YtdpnadknaacinaaC16
namespace Go.Proofs.Ytdpnadknaacinaa
open Go.Sx Go.Proofs.Ytdpnadknaacinaa.Ty
set_option linter.unusedVariables false
set_option maxHeartbeats 2000000


def leftsL (s : Sp) (L : List Int) : List Value := L.flatMap fun r => leC (leavesS s r)
theorem base_ok {s : Sp} (hs : OkS s) : BdOk (baseS s) := by
  obtain ⟨w1, w2, m1, m2, f1, f2, a1, a2, a3, v1, v2, v3⟩ := hs.ok
  intro j
  rw [base_red hs]
  split
  · rename_i hj
    have h := red_bd (s := s) hj
    split
    · omega
    · simp; omega
  · simp
theorem rainsF_base {s : Sp} (hs : OkS s) : rainsF s (baseS s) = rainsS s := by
  unfold rainsF rainsFN rainsS rainsN
  refine List.filter_congr fun r _ => ?_
  exact (leaves_same hs r).1
theorem lefts_base {s : Sp} (hs : OkS s) : lefts s (baseS s) (rainsS s) = leftsL s (rainsS s) := by
  unfold lefts leftsL
  refine flatMap_congr' fun r hr => ?_
  have h := (leaves_same hs r).2 (rains_mem hr).1
  show leC (leavesR s r) = leC (leavesS s r)
  rw [h]
theorem ext_v {vs : Array Value} {v u : Value} {k : Nat} (h : ∃ us, [Value.tuple vs] = [Value.tuple us] ∧ us[k]? = some v) (hu : vs[k]? = some u) : v = u := by
  obtain ⟨us, h1, h2⟩ := h
  cases h1
  rw [hu] at h2; exact (Option.some.inj h2).symm

theorem rrains_fn (s : Sp) (M : Args) (hin : s.In M) (hs0 : OkS s) : Cn Try.prog 104 [spV s] M (fun g : Rn2 => .tuple #[.slice g.p1 (rainsS s).length g.c1, .slice g.p2 (rainsS s).length g.c2]) (fun g => g.B1 ++ g.B2) (fun g => Sl g.B1 3 1 g.p1 (rainsS s).length g.c1 (ints (rainsS s)) ∧ Sl g.B2 135 20 g.p2 (rainsS s).length g.c2 (leftsL s (rainsS s))) := by
  refine fn_intro (N := 10) Try.func104 rfl rfl rfl fun w0 => ?_
  refine okc_seq ?_
  refine okc_region ?_
  refine s_boxA rfl rfl rfl rfl rfl rfl (fun b1 => ?_)
  refine s_assign rfl rfl rfl rfl rfl rfl ?_
  refine s_assign rfl rfl rfl rfl rfl rfl ?_
  refine okl_nil ?_
  change OkC Try.prog _ _ _ _ _ _ _
  refine okc_weak (l' := [(0, _), (1, _), (2, _), (3, _)]) ⟨rfl, rfl, rfl, rfl, trivial⟩ ?_
  refine okc_seq ?_
  refine okc_drawx [4, 5, 6, 7, 8, 9] [4, 5] [⟨some 4, [], [], fun _ v B => v = spV s ∧ B = []⟩, ⟨some 5, [], [], fun _ v B => v = spV s ∧ B = []⟩, ⟨some 6, [1], [], fun _ v B => v = leV (baseS s) ∧ B = []⟩, ⟨some 7, [0, 2], [], fun ρs v B => ∃ g : Rn2, v = .tuple #[.slice g.p1 (rainsF s (baseS s)).length g.c1, .slice g.p2 (rainsF s (baseS s)).length g.c2] ∧ B = g.B1 ++ g.B2 ∧ (Sl g.B1 3 1 g.p1 (rainsF s (baseS s)).length g.c1 (ints (rainsF s (baseS s))) ∧ Sl g.B2 135 20 g.p2 (rainsF s (baseS s)).length g.c2 (lefts s (baseS s) (rainsF s (baseS s))))⟩, ⟨some 8, [3], [], fun ρs v B => (∃ us, ρs.map (·.1) = [.tuple us] ∧ us[0]? = some v) ∧ B = []⟩, ⟨some 9, [3], [], fun ρs v B => (∃ us, ρs.map (·.1) = [.tuple us] ∧ us[1]? = some v) ∧ B = []⟩] 6 4 [(b1, [.int .i64 s.weeks, .int .i64 s.most, .int .i64 s.fall, .int .i64 s.slo, .int .i64 s.shi, .int .i64 s.wlo, .int .i64 s.whi, .slice s.bp s.book.length s.bc, .slice s.rp s.reads.length s.rc], 27)] rfl rfl rfl rfl rfl rfl rfl (by show (_ : Blks).Perm (_ ++ []); simp) ⟨?_, ?_, ?_, ?_, ?_, ?_, trivial⟩ (fun ρ hρ => ?_) rfl
  · refine obl_x rfl rfl rfl rfl (fun ρ hρ => ?_)
    exact .inl ⟨rfl, opx_v (fun F => k_loadW 0 rfl rfl rfl rfl rfl rfl)⟩
  · refine obl_x rfl rfl rfl rfl (fun ρ hρ => ?_)
    exact .inl ⟨rfl, opx_v (fun F => k_loadW 0 rfl rfl rfl rfl rfl rfl)⟩
  · refine obl_x rfl rfl rfl rfl (fun ρ hρ => ?_)
    have h1 := hρ 1 (by simp) _ rfl
    change GoodX Try.prog _ _ _ _ ((5, (ρ 1).1) :: _) _ (((ρ 1).2 ++ []) ++ _) _ _
    generalize ρ 1 = q1 at h1 ⊢
    obtain ⟨v1, B1⟩ := q1
    obtain ⟨rfl, rfl⟩ := h1
    exact .inl ⟨rfl, opx_v (fun F => op_callv rfl rfl rfl c107 (base_fn s M hin hs0) covers_all)⟩
  · refine obl_x rfl rfl rfl rfl (fun ρ hρ => ?_)
    have h0 := hρ 0 (by simp) _ rfl
    have h2 := hρ 2 (by simp) _ rfl
    change GoodX Try.prog _ _ _ _ ((4, (ρ 0).1) :: (6, (ρ 2).1) :: _) _ (((ρ 0).2 ++ ((ρ 2).2 ++ [])) ++ _) _ _
    generalize ρ 0 = q0 at h0 ⊢
    obtain ⟨v0, B0⟩ := q0
    obtain ⟨rfl, rfl⟩ := h0
    generalize ρ 2 = q2 at h2 ⊢
    obtain ⟨v2, B2⟩ := q2
    obtain ⟨rfl, rfl⟩ := h2
    exact .inl ⟨rfl, opx_r (fun F => op_call rfl rfl rfl c125 (rained_fn s M hin hs0 (baseS s) (base_ok hs0)) covers_all)⟩
  · refine obl_x rfl rfl rfl rfl (fun ρ hρ => ?_)
    have h3 := hρ 3 (by simp) _ rfl
    change GoodX Try.prog _ _ _ _ ((7, (ρ 3).1) :: _) _ (((ρ 3).2 ++ []) ++ _) _ _
    dsimp only [List.map]
    generalize ρ 3 = q3 at h3 ⊢
    obtain ⟨v3, B3⟩ := q3
    obtain ⟨g3, rfl, rfl, hg3⟩ := h3
    exact .inl ⟨rfl, (opx_v (fun F => op_extract rfl rfl rfl)).mono (by rintro v B ⟨rfl, rfl⟩; exact ⟨⟨#[.slice g3.p1 (rainsF s (baseS s)).length g3.c1, .slice g3.p2 (rainsF s (baseS s)).length g3.c2], rfl, rfl⟩, rfl⟩)⟩
  · refine obl_x rfl rfl rfl rfl (fun ρ hρ => ?_)
    have h3 := hρ 3 (by simp) _ rfl
    change GoodX Try.prog _ _ _ _ ((7, (ρ 3).1) :: _) _ (((ρ 3).2 ++ []) ++ _) _ _
    dsimp only [List.map]
    generalize ρ 3 = q3 at h3 ⊢
    obtain ⟨v3, B3⟩ := q3
    obtain ⟨g3, rfl, rfl, hg3⟩ := h3
    exact .inl ⟨rfl, (opx_v (fun F => op_extract rfl rfl rfl)).mono (by rintro v B ⟨rfl, rfl⟩; exact ⟨⟨#[.slice g3.p1 (rainsF s (baseS s)).length g3.c1, .slice g3.p2 (rainsF s (baseS s)).length g3.c2], rfl, rfl⟩, rfl⟩)⟩
  have h0 := hρ 0 (by decide) _ rfl
  have h1 := hρ 1 (by decide) _ rfl
  have h2 := hρ 2 (by decide) _ rfl
  have h3 := hρ 3 (by decide) _ rfl
  have h4 := hρ 4 (by decide) _ rfl
  dsimp only [List.map] at h4
  have h5 := hρ 5 (by decide) _ rfl
  dsimp only [List.map] at h5
  change Go.Sx.OkL Try.prog _ _ _ _ _ ((8, (ρ 4).1) :: (9, (ρ 5).1) :: _) (_ ++ ((ρ 0).2 ++ ((ρ 1).2 ++ ((ρ 2).2 ++ ((ρ 3).2 ++ ((ρ 4).2 ++ ((ρ 5).2 ++ []))))))) _
  generalize ρ 0 = q0 at *
  obtain ⟨v0, B0⟩ := q0
  obtain ⟨rfl, rfl⟩ := h0
  generalize ρ 1 = q1 at *
  obtain ⟨v1, B1⟩ := q1
  obtain ⟨rfl, rfl⟩ := h1
  generalize ρ 2 = q2 at *
  obtain ⟨v2, B2⟩ := q2
  obtain ⟨rfl, rfl⟩ := h2
  generalize ρ 3 = q3 at *
  obtain ⟨v3, B3⟩ := q3
  obtain ⟨g3, rfl, rfl, hg3⟩ := h3
  generalize ρ 4 = q4 at *
  obtain ⟨v4, B4⟩ := q4
  obtain ⟨he4, rfl⟩ := h4
  generalize ρ 5 = q5 at *
  obtain ⟨v5, B5⟩ := q5
  obtain ⟨he5, rfl⟩ := h5
  obtain rfl := ext_v (u := .slice g3.p1 (rainsF s (baseS s)).length g3.c1) he4 rfl
  obtain rfl := ext_v (u := .slice g3.p2 (rainsF s (baseS s)).length g3.c2) he5 rfl
  refine okl_sub (O' := [(b1, [.int .i64 s.weeks, .int .i64 s.most, .int .i64 s.fall, .int .i64 s.slo, .int .i64 s.shi, .int .i64 s.wlo, .int .i64 s.whi, .slice s.bp s.book.length s.bc, .slice s.rp s.reads.length s.rc], 27)] ++ (g3.B1 ++ g3.B2)) (List.Sublist.append (List.Sublist.refl _) (by dsimp only; simp only [List.nil_append, List.append_nil]; exact List.Sublist.refl _)) ?_
  refine s_assign rfl rfl rfl rfl rfl rfl ?_
  refine s_assign rfl rfl rfl rfl rfl rfl ?_
  refine okl_nil ?_
  change OkC Try.prog _ _ _ _ _ _ _
  refine okc_weak (l' := [(0, _), (1, _), (2, _), (3, _)]) ⟨rfl, rfl, rfl, rfl, trivial⟩ ?_
  refine okc_ret fun a w hs => ?_
  refine ret_postS hs (run_results2 hs rfl (rv_tmp rfl) (rv_tmp rfl)) g3 ?_ ?_ (sub_drop 1 rfl)
  · simp only [rainsF_base hs0]
  · have h := hg3; rw [rainsF_base hs0, lefts_base hs0] at h; exact h
theorem True_fn (s : Sp) (M : Args) (hin : s.In M) (hs0 : OkS s) : Cn Try.prog 64 [spV s] M (fun _ : Unit => .bool (canS s)) (fun _ => []) (fun _ => True) := by
  refine fn_intro (N := 13) Try.func64 rfl rfl rfl fun w0 => ?_
  refine okc_seq ?_
  refine okc_region ?_
  refine s_boxA rfl rfl rfl rfl rfl rfl (fun b2 => ?_)
  refine s_assign rfl rfl rfl rfl rfl rfl ?_
  refine okl_nil ?_
  change OkC Try.prog _ _ _ _ _ _ _
  refine okc_weak (l' := [(0, _), (1, _), (2, _)]) ⟨rfl, rfl, rfl, trivial⟩ ?_
  refine okc_seq ?_
  refine okc_region ?_
  refine s_loadW 0 rfl rfl rfl rfl rfl rfl rfl rfl rfl rfl ?_
  refine okl_rE rfl rfl rfl rfl (op_call rfl rfl rfl c104 (rrains_fn s M hin hs0) covers_all) (fun g hg => ?_)
  refine s_move rfl rfl rfl rfl rfl rfl ?_
  refine s_extract rfl rfl rfl rfl rfl rfl rfl ?_
  refine s_extract rfl rfl rfl rfl rfl rfl rfl ?_
  refine s_assign rfl rfl rfl rfl rfl rfl ?_
  refine s_assign rfl rfl rfl rfl rfl rfl ?_
  refine okl_nil ?_
  change OkC Try.prog _ _ _ _ _ _ _
  refine okc_weak (l' := [(0, _), (1, _), (2, _), (3, _)]) ⟨rfl, rfl, rfl, rfl, trivial⟩ ?_
  refine okc_seq ?_
  refine okc_region ?_
  refine s_move rfl rfl rfl rfl rfl rfl ?_
  refine s_len rfl rfl rfl rfl rfl rfl rfl ?_
  refine s_cmpS rfl rfl rfl rfl rfl rfl rfl rfl (fun h3 => ?_) (fun h3 => ?_)
  · have hlt : 0 < (rainsS s).length := by simpa using h3
    have hc : canS s = true := by unfold canS; cases hr : rainsS s <;> simp_all
    refine s_assign rfl rfl rfl rfl rfl rfl ?_
    refine okl_nil ?_
    change OkC Try.prog _ _ _ _ _ _ _
    refine okc_weak (l' := [(0, _), (1, _), (2, _), (3, _)]) ⟨rfl, rfl, rfl, rfl, trivial⟩ ?_
    refine okc_ret fun a w hs => ?_
    exact ret_v hs (run_results1 hs rfl (rv_tmp rfl)) (by clear hs; rw [hc])
  · have hge : ¬ 0 < (rainsS s).length := by simpa using h3
    have hc : canS s = false := by unfold canS; cases hr : rainsS s <;> simp_all
    refine s_assign rfl rfl rfl rfl rfl rfl ?_
    refine okl_nil ?_
    change OkC Try.prog _ _ _ _ _ _ _
    refine okc_weak (l' := [(0, _), (1, _), (2, _), (3, _)]) ⟨rfl, rfl, rfl, rfl, trivial⟩ ?_
    refine okc_ret fun a w hs => ?_
    exact ret_v hs (run_results1 hs rfl (rv_tmp rfl)) (by clear hs; rw [hc])

end Go.Proofs.Ytdpnadknaacinaa
