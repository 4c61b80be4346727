/-
  Rains.
  Conditions: none.
-/
import Derived.Test.YtdpnadknaacinaaC14
import Derived.Test.YtdpnadknaacinaaC11
import Derived.Test.YtdpnadknaacinaaKa
namespace Go.Proofs.Ytdpnadknaacinaa
open Go.Sx Go.Proofs.Ytdpnadknaacinaa.Ty
set_option linter.unusedVariables false
set_option maxHeartbeats 2000000


theorem Sp.In.cons {M : Args} {s : Sp} (h : s.In M) (x : Nat × List Value) : s.In (x :: M) := by
  obtain ⟨⟨b, off, cs, j, h1⟩, ⟨b', off', cs', j', h2⟩, h3, h4⟩ := h
  exact ⟨⟨b, off, cs, j + 1, fun hn => h1 hn⟩, ⟨b', off', cs', j' + 1, fun hn => h2 hn⟩, h3, h4⟩
theorem moreAt (b : Nat) (L : List Int) (M : Args) (h : ∀ m ∈ L, 1 ≤ m ∧ m ≤ 4) (hl : L.length ≤ 1000) : MoreIn ((b, ints L) :: M) (some ⟨b, 0, none⟩) L := ⟨h, hl, fun _ => ⟨b, 0, rfl, rfl⟩⟩
theorem rains_len {s : Sp} (hs : OkS s) : (rainsS s).length ≤ 21 := by
  obtain ⟨w1, w2, m1, m2, f1, f2, a1, a2, a3, v1, v2, v3⟩ := hs.ok
  unfold rainsS rainsN
  refine Nat.le_trans (List.length_filter_le _ _) ?_
  simp only [List.length_map, List.length_range]
  unfold rainN; omega
theorem ints_snoc (L : List Int) (x : Int) : ints (L ++ [x]) = ints L ++ [.int .i64 x] := by simp [ints]

theorem Rains_no (s : Sp) (M : Args) (hin : s.In M) (hb : ¬ beginS s qz [4] = 0) : Cn Try.prog 20 [spV s] M (fun _ : Unit => .tuple #[.slice none 0 0, .int .i64 (beginS s qz [4])]) (fun _ => []) (fun _ => True) := by
  refine fn_intro (N := 27) Try.func20 rfl rfl rfl fun w0 => ?_
  refine okc_seq ?_
  refine okc_region ?_
  refine s_boxA rfl rfl rfl rfl rfl rfl (fun b1 => ?_)
  refine s_assign rfl rfl rfl rfl rfl rfl ?_
  refine s_assign rfl rfl rfl rfl rfl rfl ?_
  refine okl_nil ?_
  change OkC Try.prog _ _ _ _ _ _ _
  refine okc_weak (l' := [(0, _), (1, _), (2, _), (3, _)]) ⟨rfl, rfl, rfl, rfl, trivial⟩ ?_
  refine okc_seq ?_
  refine okc_region ?_
  refine s_loadW 0 rfl rfl rfl rfl rfl rfl rfl rfl rfl rfl ?_
  refine s_build rfl rfl rfl rfl rfl rfl rfl rfl rfl ?_
  refine s_slice1 rfl rfl rfl rfl rfl rfl rfl rfl rfl rfl (fun b2 => ?_)
  refine s_callv rfl rfl rfl rfl rfl rfl rfl c72 (begin_no (M := (b2, ints [4]) :: M) (q := qz) (more := [4]) (hin.cons _) (moreAt b2 [4] M (by decide) (by decide)) hb) (covers_own 0 rfl covers_all) ?_
  refine s_move rfl rfl rfl rfl rfl rfl ?_
  refine s_extract rfl rfl rfl rfl rfl rfl rfl ?_
  refine s_extract rfl rfl rfl rfl rfl rfl rfl ?_
  refine s_alloc rfl rfl rfl rfl rfl rfl (fun b3 => ?_)
  refine k_storeW 0 rfl rfl rfl rfl rfl rfl rfl rfl rfl rfl rfl rfl ?_
  refine s_assign rfl rfl rfl rfl rfl rfl ?_
  refine okl_nil ?_
  change OkC Try.prog _ _ _ _ _ _ _
  refine okc_weak (l' := [(0, _), (1, _), (2, _), (3, _), (4, _), (5, _)]) ⟨rfl, rfl, rfl, rfl, rfl, rfl, trivial⟩ ?_
  refine okc_seq ?_
  refine okc_seq ?_
  refine okc_region ?_
  refine s_move rfl rfl rfl rfl rfl rfl ?_
  refine s_cmpS rfl rfl rfl rfl rfl rfl rfl rfl (fun h4 => ?_) (fun h4 => ?_)
  · refine okl_nil ?_
    change OkC Try.prog _ _ _ _ _ _ _
    refine okc_weak (l' := [(0, _), (1, _), (2, _), (3, _), (4, _), (5, _), (16, _)]) ⟨rfl, rfl, rfl, rfl, rfl, rfl, rfl, trivial⟩ ?_
    refine okc_cond_t rfl ?_
    refine okc_seq ?_
    refine okc_region ?_
    refine s_move rfl rfl rfl rfl rfl rfl ?_
    refine s_assign rfl rfl rfl rfl rfl rfl ?_
    refine s_assign rfl rfl rfl rfl rfl rfl ?_
    refine okl_nil ?_
    change OkC Try.prog _ _ _ _ _ _ _
    refine okc_weak (l' := [(0, _), (1, _), (2, _), (3, _), (4, _), (5, _), (16, _)]) ⟨rfl, rfl, rfl, rfl, rfl, rfl, rfl, trivial⟩ ?_
    refine okc_ret fun a w hs => ?_
    exact ret_v hs (run_results2 hs rfl (rv_tmp rfl) (rv_tmp rfl)) (rfl)
  · exact absurd h4 (by simp [hb]) --closed

theorem Rains_ok (s : Sp) (M : Args) (hin : s.In M) (hb : beginS s qz [4] = 0) : Cn Try.prog 20 [spV s] M (fun g : SlG => .tuple #[.slice g.p (rainsS s).length g.c, .int .i64 0]) (fun g => g.B) (fun g => Sl g.B 3 1 g.p (rainsS s).length g.c (ints (rainsS s))) := by
  have hs0 := ok_of_valid (begin_valid hb)
  refine fn_introM (n := 27) Try.func20 rfl rfl rfl fun w0 => ?_
  refine okc_seq ?_
  refine okc_region ?_
  refine s_boxA rfl rfl rfl rfl rfl rfl (fun b5 => ?_)
  refine s_assign rfl rfl rfl rfl rfl rfl ?_
  refine s_assign rfl rfl rfl rfl rfl rfl ?_
  refine okl_nil ?_
  change OkC Try.prog _ _ _ _ _ _ _
  refine okc_weak (l' := [(0, _), (1, _), (2, _), (3, _)]) ⟨rfl, rfl, rfl, rfl, trivial⟩ ?_
  refine okc_seq ?_
  refine okc_region ?_
  refine s_loadW 0 rfl rfl rfl rfl rfl rfl rfl rfl rfl rfl ?_
  refine s_build rfl rfl rfl rfl rfl rfl rfl rfl rfl ?_
  refine s_slice1 rfl rfl rfl rfl rfl rfl rfl rfl rfl rfl (fun b6 => ?_)
  refine s_callv rfl rfl rfl rfl rfl rfl rfl c72 (begin_ok (M := (b6, ints [4]) :: M) (q := qz) (more := [4]) (hin.cons _) (moreAt b6 [4] M (by decide) (by decide)) hb) (covers_own 0 rfl covers_all) ?_
  refine s_move rfl rfl rfl rfl rfl rfl ?_
  refine s_extract rfl rfl rfl rfl rfl rfl rfl ?_
  refine s_extract rfl rfl rfl rfl rfl rfl rfl ?_
  refine s_alloc rfl rfl rfl rfl rfl rfl (fun b7 => ?_)
  refine k_storeW 0 rfl rfl rfl rfl rfl rfl rfl rfl rfl rfl rfl rfl ?_
  refine s_assign rfl rfl rfl rfl rfl rfl ?_
  refine okl_nil ?_
  change OkC Try.prog _ _ _ _ _ _ _
  refine okc_weak (l' := [(0, _), (1, _), (2, _), (3, _), (4, _), (5, _)]) ⟨rfl, rfl, rfl, rfl, rfl, rfl, trivial⟩ ?_
  refine okc_seq ?_
  refine okc_seq ?_
  refine okc_region ?_
  refine s_move rfl rfl rfl rfl rfl rfl ?_
  refine s_cmpS rfl rfl rfl rfl rfl rfl rfl rfl (fun h8 => ?_) (fun h8 => ?_)
  · exact absurd h8 (by decide) --closed
  · refine okl_nil ?_
    change OkC Try.prog _ _ _ _ _ _ _
    refine okc_weak (l' := [(0, _), (1, _), (2, _), (3, _), (4, _), (5, _), (16, _)]) ⟨rfl, rfl, rfl, rfl, rfl, rfl, rfl, trivial⟩ ?_
    refine okc_cond_f rfl ?_
    refine okc_skip ?_
    change OkC Try.prog _ _ _ _ _ _ _
    refine okc_weak (l' := [(0, _), (1, _), (2, _), (3, _), (4, _), (5, _), (16, _)]) ⟨rfl, rfl, rfl, rfl, rfl, rfl, rfl, trivial⟩ ?_
    refine okc_seq ?_
    refine okc_region ?_
    refine s_alloc rfl rfl rfl rfl rfl rfl (fun b9 => ?_)
    refine okl_nil ?_
    change OkC Try.prog _ _ _ _ _ _ _
    refine okc_weak (l' := [(0, _), (1, _), (2, _), (3, _), (4, _), (5, _), (6, _), (16, _)]) ⟨rfl, rfl, rfl, rfl, rfl, rfl, rfl, rfl, trivial⟩ ?_
    refine okc_seq ?_
    refine okc_seq ?_
    refine okc_region ?_
    refine s_loadW 1 rfl rfl rfl rfl rfl rfl rfl rfl rfl rfl ?_
    refine okl_r rfl rfl rfl rfl (op_call rfl rfl rfl c75 (rains_fn s) covers_nil) (fun b10 _ => ?_)
    refine okl_nil ?_
    change OkC Try.prog _ _ _ _ _ _ _
    refine okc_weak (l' := [(0, _), (1, _), (2, _), (3, _), (4, _), (5, _), (6, _), (16, _), (19, _)]) ⟨rfl, rfl, rfl, rfl, rfl, rfl, rfl, rfl, rfl, trivial⟩ ?_
    refine okc_block ?_
    refine okc_reo (l' := [(4, .pointer (some ⟨b7, 0, none⟩)), (6, .pointer (some ⟨b9, 0, none⟩)), (19, .func (.func 110) #[] #[.pointer (some ⟨b10, 0, none⟩)])]) (O' := [(b10, spC s, 114), (b7, spC s, 114)] ++ [(b9, [.slice none 0 0], 35)]) ⟨rfl, rfl, rfl, trivial⟩ [0, 2, 1] (by simp) rfl ?_
    refine okc_range (rains_it s M hin hs0 b10) rfl rfl rfl c110 (fun _ => rfl) rfl (fun pre Ob => ∃ p n c B, n = pre.length ∧ Ob = (b9, [.slice p n c], 35) :: B ∧ Sl B 3 1 p n c (ints pre)) (fun _ _ => False) (⟨none, 0, 0, [], rfl, rfl, Sl.nil 3 1⟩) ?_ ?_ ?_ ?_
    · intro b cs hb
      rcases List.mem_cons.1 hb with e | hb
      · cases e; exact .inl ⟨114, by simp⟩
      · exact .inr hb
    · rintro pre x Ob W r hpre ⟨p, n, c, B, hn, rfl, hsl⟩
      have hlen := hpre.length_le
      have hrl := rains_len hs0
      simp only [List.length_append, List.length_cons, List.length_nil] at hlen
      show OkC Try.prog _ _ _ _ _ _ _
      refine okc_region ?_
      refine s_assign rfl rfl rfl rfl rfl rfl ?_
      refine okl_nil ?_
      refine fun a w hs => ⟨_, _, hs, fun W'' => ?_⟩
      change OkC Try.prog _ _ _ _ _ _ _
      change OkC Try.prog _ _ _ _ _ _ _
      refine okc_weak (l' := [(4, _), (6, _), (7, _), (19, _), (20, _)]) ⟨rfl, rfl, rfl, rfl, rfl, trivial⟩ ?_
      refine okc_block ?_
      refine okc_region ?_
      refine s_load1 0 rfl rfl rfl rfl rfl rfl rfl rfl rfl ?_
      refine s_move rfl rfl rfl rfl rfl rfl ?_
      refine s_slice1 rfl rfl rfl rfl rfl rfl rfl rfl rfl rfl (fun n1 => ?_)
      refine okl_xm0 [(n1, [.int .i64 x], 3), (b9, [.slice p n c], 35)] B rfl rfl rfl rfl (k_append1 0 hsl by3 rfl rfl rfl rfl rfl rfl rfl rfl rfl rfl rfl (by omega)) rfl (fun v B2 hv => ?_)
      obtain ⟨p2, c2, rfl, hsl2⟩ := hv
      refine k_storeW 1 rfl rfl rfl rfl rfl rfl rfl rfl rfl rfl rfl rfl ?_
      refine okl_nil ?_
      exact fun a w hs => ⟨[], (b9, [.slice p2 (n + 1) c2], 35) :: B2, ⟨p2, n + 1, c2, B2, by simp [hn], rfl, by rw [ints_snoc]; exact hsl2⟩, hs.sub trivial (sub_drop 1 rfl)⟩
    · rintro Ob D ⟨p, n, c, B, hn, rfl, hsl⟩
      refine fun a w hs => (?_ : OkC Try.prog ⟨27, [D], none, []⟩ w0 _ _ _ _ _) a w hs
      change OkC Try.prog _ _ _ _ _ _ _
      refine okc_weak (l' := [(4, _), (6, _), (19, _)]) ⟨rfl, rfl, rfl, trivial⟩ ?_
      refine okc_seq ?_
      refine okc_region ?_
      refine s_load1 2 rfl rfl rfl rfl rfl rfl rfl rfl rfl ?_
      refine s_assign rfl rfl rfl rfl rfl rfl ?_
      refine s_assign rfl rfl rfl rfl rfl rfl ?_
      refine okl_nil ?_
      change OkC Try.prog _ _ _ _ _ _ _
      refine okc_weak (l' := [(2, _), (3, _), (4, _), (6, _), (19, _)]) ⟨rfl, rfl, rfl, rfl, rfl, trivial⟩ ?_
      refine okc_ret fun a w hs => ?_
      exact ret_postMS hs (fun a w hs => run_results2 hs rfl (rv_tmp rfl) (rv_tmp rfl)) ⟨p, c, B⟩ (by subst hn; rfl) (by subst hn; exact hsl) (sub_drop 3 rfl)
    · exact fun c Ob D h => h.elim

/-- The rains, or none and the error. -/
def rnS (s : Sp) : List Int := if beginS s qz [4] = 0 then rainsS s else []
theorem Rains_fn (s : Sp) (M : Args) (hin : s.In M) : Cn Try.prog 20 [spV s] M (fun g : SlG => .tuple #[.slice g.p (rnS s).length g.c, .int .i64 (beginS s qz [4])]) (fun g => g.B) (fun g => Sl g.B 3 1 g.p (rnS s).length g.c (ints (rnS s))) := by
  by_cases hb : beginS s qz [4] = 0
  · have h := Rains_ok s M hin hb
    rw [rnS, if_pos hb, hb]; exact h
  · intro w hM
    refine (Rains_no s M hin hb w hM).mono ?_
    rintro e w' ⟨v, he, hbl, _, hv, _⟩
    rw [rnS, if_neg hb]
    exact ⟨v, he, hbl, SlG.nil, hv, Sl.nil 3 1, res_nil w w'⟩

end Go.Proofs.Ytdpnadknaacinaa
