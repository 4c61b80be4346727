/-
  What a spring gives in a week.
  Conditions: none.
-/
import Derived.Test.YtdpnadknaacinaaC13
import Derived.Test.YtdpnadknaacinaaMl
import Derived.Test.YtdpnadknaacinaaAp
namespace Go.Proofs.Ytdpnadknaacinaa
open Go.Sx Go.Proofs.Ytdpnadknaacinaa.Ty
set_option linter.unusedVariables false
set_option maxHeartbeats 2000000


theorem gvL_snoc (s : Sp) (k : Nat) (pre : List Int) (r : Int) (v : Int × Int) : gvL s k (pre ++ [r]) v = arS (gvL s k pre v) (leavesS s r k) := by simp [gvL]

theorem gives_fn (s : Sp) (M : Args) (hin : s.In M) (hs0 : OkS s) (k : Nat) (hk : (k : Int) < s.weeks) : Cn Try.prog 77 [spV s, .int .i64 (k : Int)] M (fun _ : Unit => .agg #[.int .i64 (gvS s k).1, .int .i64 (gvS s k).2]) (fun _ => []) (fun _ => True) := by
  obtain ⟨w1, w2, m1, m2, f1, f2, a1, a2, a3, v1, v2, v3⟩ := hs0.ok
  refine fn_introM (n := 22) Try.func77 rfl rfl rfl fun w0 => ?_
  refine okc_seq ?_
  refine okc_region ?_
  refine s_boxA rfl rfl rfl rfl rfl rfl (fun b1 => ?_)
  refine s_box1 rfl rfl rfl rfl rfl rfl rfl (fun b2 => ?_)
  refine s_alloc rfl rfl rfl rfl rfl rfl (fun b3 => ?_)
  refine okl_nil ?_
  change OkC Try.prog _ _ _ _ _ _ _
  refine okc_weak (l' := [(0, _), (1, _), (2, _), (3, _), (4, _)]) ⟨rfl, rfl, rfl, rfl, rfl, trivial⟩ ?_
  refine okc_seq ?_
  refine okc_region ?_
  refine s_field rfl rfl rfl rfl rfl rfl rfl rfl ?_
  refine s_field rfl rfl rfl rfl rfl rfl rfl rfl ?_
  refine s_load1 2 rfl rfl rfl rfl rfl rfl rfl rfl rfl ?_
  refine s_callv rfl rfl rfl rfl rfl rfl rfl c85 (span_fn _ _) covers_nil ?_
  refine s_alloc rfl rfl rfl rfl rfl rfl (fun b4 => ?_)
  refine k_storeW 0 rfl rfl rfl rfl rfl rfl rfl rfl rfl rfl rfl rfl ?_
  refine okl_nil ?_
  change OkC Try.prog _ _ _ _ _ _ _
  refine okc_weak (l' := [(0, _), (1, _), (2, _), (3, _), (4, _), (5, _)]) ⟨rfl, rfl, rfl, rfl, rfl, rfl, trivial⟩ ?_
  refine okc_seq ?_
  refine okc_seq ?_
  refine okc_region ?_
  refine s_loadW 3 rfl rfl rfl rfl rfl rfl rfl rfl rfl rfl ?_
  refine okl_r rfl rfl rfl rfl (op_call rfl rfl rfl c75 (rains_fn s) covers_nil) (fun b5 _ => ?_)
  refine okl_nil ?_
  change OkC Try.prog _ _ _ _ _ _ _
  refine okc_weak (l' := [(0, _), (1, _), (2, _), (3, _), (4, _), (5, _), (13, _)]) ⟨rfl, rfl, rfl, rfl, rfl, rfl, rfl, trivial⟩ ?_
  refine okc_block ?_
  refine okc_reo (l' := [(2, .pointer (some ⟨b1, 0, none⟩)), (3, .pointer (some ⟨b2, 0, none⟩)), (4, .pointer (some ⟨b3, 0, none⟩)), (5, .pointer (some ⟨b4, 0, none⟩)), (13, .func (.func 110) #[] #[.pointer (some ⟨b5, 0, none⟩)])]) (O' := [(b5, spC s, 114), (b1, spC s, 114), (b2, [.int .i64 (k : Int)], 3), (b3, [.int .i64 0, .int .i64 0], 23)] ++ [(b4, [.int .i64 s.most, .int .i64 0], 23)]) ⟨rfl, rfl, rfl, rfl, rfl, trivial⟩ [0, 4, 3, 2, 1] (by simp) rfl ?_
  refine okc_range (rains_it s M hin hs0 b5) rfl rfl rfl c110 (fun _ => rfl) rfl (fun pre Ob => Ob = [(b4, [.int .i64 (gvL s k pre (s.most, 0)).1, .int .i64 (gvL s k pre (s.most, 0)).2], 23)]) (fun _ _ => False) (rfl) ?_ ?_ ?_ ?_
  · intro b cs hb
    rcases List.mem_cons.1 hb with e | hb
    · cases e; exact .inl ⟨114, by simp⟩
    · exact .inr hb
  · rintro pre x Ob W r hpre rfl
    have hxm : x ∈ rainsS s := hpre.subset (by simp)
    have hxo := rains_mem hxm
    have g1 := bd_lo (leavesS s x) (k := k) (n := 0 + k * 2) (by omega) (by omega)
    have g2 := bd_hi (leavesS s x) (k := k) (n := 0 + k * 2 + 1) (by omega) (by omega)
    show OkC Try.prog _ _ _ _ _ _ _
    refine okc_region ?_
    refine s_alloc rfl rfl rfl rfl rfl rfl (fun b6 => ?_)
    refine k_storeW 0 rfl rfl rfl rfl rfl rfl rfl rfl rfl rfl rfl rfl ?_
    refine okl_nil ?_
    refine fun a w hs => ⟨_, _, hs, fun W'' => ?_⟩
    change OkC Try.prog _ _ _ _ _ _ _
    change OkC Try.prog _ _ _ _ _ _ _
    refine okc_weak (l' := [(2, _), (3, _), (4, _), (5, _), (7, _), (13, _), (15, _)]) ⟨rfl, rfl, rfl, rfl, rfl, rfl, rfl, trivial⟩ ?_
    refine okc_block ?_
    refine dr_start [16, 17, 18, 19, 20] ?_
    refine d_loadW 1 [] rfl rfl rfl rfl rfl (fun ν => rfl) rfl rfl (fun ν => rfl) (fun ν => rfl) rfl rfl ?_
    refine d_loadA1 2 [] rfl rfl rfl rfl rfl (fun ν => rfl) rfl rfl (fun ν => rfl) rfl rfl ?_
    refine d_indexA k [1] rfl rfl rfl rfl rfl (fun ν => rfl) rfl (fun ν => rfl) (fun ν => rfl) rfl rfl (by first | rfl | omega) (by omega) rfl ?_
    refine d_loadP2 0 [2] rfl rfl rfl rfl rfl (fun ν => rfl) rfl rfl (fun ν => rfl) (fun ν => rfl) rfl (by assumption) (by assumption) ?_
    refine d_callv [0, 3] rfl rfl rfl rfl rfl (fun ν => rfl) rfl (fun ν => rfl) (fun ν => rfl) c112 (fun ν => around_fn _ _ _ _) (fun ν => covers_nil) ?_
    refine dr_end [16, 17, 18, 19, 20] [4] 5 rfl rfl rfl rfl rfl rfl rfl rfl rfl (fun ν => ?_)
    refine k_storeW 1 rfl rfl rfl rfl rfl rfl rfl rfl rfl rfl rfl rfl ?_
    refine okl_nil ?_
    exact fun a w hs => ⟨[], [(b4, [.int .i64 (gvL s k (pre ++ [x]) (s.most, 0)).1, .int .i64 (gvL s k (pre ++ [x]) (s.most, 0)).2], 23)], rfl, hs.weak trivial [1] (by simp) (by rw [gvL_snoc]; rfl)⟩
  · rintro Ob D rfl
    refine fun a w hs => (?_ : OkC Try.prog ⟨22, [D], none, []⟩ w0 _ _ _ _ _) a w hs
    change OkC Try.prog _ _ _ _ _ _ _
    refine okc_weak (l' := [(2, _), (3, _), (4, _), (5, _), (13, _)]) ⟨rfl, rfl, rfl, rfl, rfl, trivial⟩ ?_
    refine okc_seq ?_
    refine okc_region ?_
    refine s_loadW 4 rfl rfl rfl rfl rfl rfl rfl rfl rfl rfl ?_
    refine k_storeW 3 rfl rfl rfl rfl rfl rfl rfl rfl rfl rfl rfl rfl ?_
    refine okl_nil ?_
    change OkC Try.prog _ _ _ _ _ _ _
    refine okc_weak (l' := [(2, _), (3, _), (4, _), (5, _), (13, _)]) ⟨rfl, rfl, rfl, rfl, rfl, trivial⟩ ?_
    refine okc_ret fun a w hs => ?_
    exact ret_vM hs (fun a w hs => run_results1 hs rfl (k_ragg 3 rfl rfl rfl rfl rfl)) rfl
  · exact fun c Ob D h => h.elim
end Go.Proofs.Ytdpnadknaacinaa
