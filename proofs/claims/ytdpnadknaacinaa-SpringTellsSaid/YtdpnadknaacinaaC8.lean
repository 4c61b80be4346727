/-
  Whether there is a truth; the questions; the beginning of each call.
  Conditions: none.
-/
import Derived.Test.YtdpnadknaacinaaC7
namespace Go.Proofs.Ytdpnadknaacinaa
open Go.Sx Go.Proofs.Ytdpnadknaacinaa.Ty
set_option linter.unusedVariables false
set_option maxHeartbeats 2000000


def canS (s : Sp) : Bool := !(rainsS s).isEmpty
theorem can_fn (s : Sp) (M : Args) (hin : s.In M) (hs0 : OkS s) : Cn Try.prog 73 [spV s] M (fun _ : Unit => .bool (canS s)) (fun _ => []) (fun _ => True) := by
  refine fn_introM (n := 7) Try.func73 rfl rfl rfl fun w0 => ?_
  refine okc_seq ?_
  refine okc_region ?_
  refine s_boxA rfl rfl rfl rfl rfl rfl (fun b1 => ?_)
  refine s_alloc rfl rfl rfl rfl rfl rfl (fun b2 => ?_)
  refine okl_nil ?_
  change OkC Try.prog _ _ _ _ _ _ _
  refine okc_seq ?_
  refine okc_seq ?_
  refine okc_region ?_
  refine s_loadW 1 rfl rfl rfl rfl rfl rfl rfl rfl rfl rfl ?_
  refine okl_r rfl rfl rfl rfl (op_call rfl rfl rfl c75 (rains_fn s) covers_nil) (fun bx _ => ?_)
  refine okl_nil ?_
  change OkC Try.prog _ _ _ _ _ _ _
  refine okc_block ?_
  refine okc_reo (l' := [(2, .pointer (some ⟨b2, 0, none⟩)), (4, .func (.func 110) #[] #[.pointer (some ⟨bx, 0, none⟩)])]) (O' := [(bx, spC s, 114), (b1, spC s, 114)] ++ [(b2, [.bool false], 4)]) ⟨rfl, rfl, trivial⟩ [0, 2, 1] (by simp) rfl ?_
  refine okc_range (rains_it s M hin hs0 bx) rfl rfl rfl c110 (fun _ => rfl) rfl (fun pre Ob => pre = [] ∧ Ob = [(b2, [.bool false], 4)]) (fun c Ob => c = .ret ∧ Ob = [(b2, [.bool true], 4)] ∧ rainsS s ≠ []) ⟨rfl, rfl⟩ ?_ ?_ ?_ ?_
  · intro b cs hb
    rcases List.mem_cons.1 hb with e | hb
    · cases e; exact .inl ⟨114, by simp⟩
    · exact .inr hb
  · rintro pre x Ob W r hpre ⟨rfl, rfl⟩
    refine okc_skip fun a w hs => ⟨_, _, hs, fun W'' => ?_⟩
    refine okc_block ?_
    refine okc_seq ?_
    refine okc_region ?_
    refine k_storeW 0 rfl rfl rfl rfl rfl rfl rfl rfl rfl rfl rfl rfl ?_
    refine okl_nil ?_
    change OkC Try.prog _ _ _ _ _ _ _
    refine okc_ret fun a w hs => ?_
    exact ⟨_, _, ⟨rfl, rfl, by intro e; rw [e] at hpre; simp at hpre⟩, hs⟩
  · rintro Ob D ⟨hx, rfl⟩
    refine fun a w hs => (?_ : OkC Try.prog ⟨7, [D], none, []⟩ w0 _ _ _ _ _) a w hs
    refine okc_seq ?_
    refine okc_region ?_
    refine k_storeW 2 rfl rfl rfl rfl rfl rfl rfl rfl rfl rfl rfl rfl ?_
    refine okl_nil ?_
    change OkC Try.prog _ _ _ _ _ _ _
    refine okc_ret fun a w hs => ?_
    exact ret_vM hs (fun a w hs => run_results1 hs rfl (k_rone 2 rfl rfl rfl rfl)) (by simp [canS, hx])
  · rintro c Ob D ⟨rfl, rfl, hx⟩
    refine okc_ret fun a w hs => ?_
    exact ret_vM hs (fun a w hs => run_results1 hs rfl (k_rone 2 rfl rfl rfl rfl)) (by cases h : rainsS s <;> simp_all [canS])

end Go.Proofs.Ytdpnadknaacinaa
