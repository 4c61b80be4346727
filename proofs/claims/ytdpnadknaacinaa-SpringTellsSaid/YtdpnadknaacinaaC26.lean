/-
  The law SpringTells, as a walk.
  Conditions: none.
-/
import Derived.Test.YtdpnadknaacinaaC25
namespace Go.Proofs.Ytdpnadknaacinaa
open Go.Sx Go.Proofs.Ytdpnadknaacinaa.Ty
set_option linter.unusedVariables false
set_option maxHeartbeats 2000000


theorem begin_nil (s : Sp) : beginS s qz [] = ckS s := by unfold beginS ckS askN; rfl
theorem Check_fn (s : Sp) (M : Args) (hin : s.In M) : Cn Try.prog 26 [spV s] M (fun _ : Unit => .int .i64 (ckS s)) (fun _ => []) (fun _ => True) := by
  by_cases hb : beginS s qz [] = 0
  · have h := Check_ok s M hin hb
    rw [← begin_nil, hb]; exact h
  · rw [← begin_nil]; exact Check_no s M hin hb
theorem Can_fn (s : Sp) (M : Args) (hin : s.In M) : Cn Try.prog 18 [spV s] M (fun _ : Unit => .tuple #[.bool (cnS s), .int .i64 (ckS s)]) (fun _ => []) (fun _ => True) := by
  by_cases hb : beginS s qz [] = 0
  · have h := Can_ok s M hin hb
    rw [← begin_nil, hb]
    rw [show cnS s = canS s from if_pos (begin_valid hb)]
    exact h
  · rw [← begin_nil]
    have h := Can_no s M hin hb
    rw [show cnS s = false from if_neg (fun hv => hb (by rw [begin_nil, ckS, if_pos hv]))]
    exact h
theorem begin4 (s : Sp) : beginS s qz [4] = erS s 0 := by
  by_cases hv : validB s = true
  · have hs0 := ok_of_valid hv
    obtain ⟨w1, w2, _⟩ := hs0.ok
    have hw : isWeekB s.weeks 0 = true := by simp [isWeekB, inS]; omega
    by_cases hc : canS s = true
    · rw [er0 hv hw hc]
      have : askB s qz (4 : Int).toNat = true := hc
      simp only [beginS, hv, if_true, askN, this]
    · have hc' : canS s = false := by simpa using hc
      rw [er8 hv hw hc']
      have : askB s qz (4 : Int).toNat = false := hc'
      simp only [beginS, hv, if_true, askN, this]; rfl
  · have hv' : validB s = false := by simpa using hv
    rw [er10 hv']; simp [beginS, hv']
theorem rn_tl (s : Sp) : rnS s = tlS s 0 := by unfold rnS tlS; rw [begin4]
theorem argsOf_mem {B : Blks} {b : Nat} {cs : List Value} {T : TypeId} (h : (b, cs, T) ∈ B) : ∃ j : Nat, (argsOf B)[j]? = some (b, cs) := List.mem_iff_getElem?.1 (mem_argsOf.2 ⟨T, h⟩)
theorem twin_in {s : Sp} {M : Args} {g : Rn2} (hin : s.In M) (h : TwOk s g) : (twS s g).In (argsOf (g.B1 ++ g.B2)) := by
  obtain ⟨h1, h2⟩ := h
  refine ⟨?_, ?_, hin.bn, hin.rn⟩
  · by_cases hn : s.book = []
    · exact ⟨0, 0, [], 0, fun hne => absurd hn hne⟩
    · obtain ⟨b, cs, hp, hB, ht⟩ := sl_pos h1 (by rcases hb : s.book with _ | _; exact absurd hb hn; simp)
      obtain ⟨j, hj⟩ := argsOf_mem (B := g.B1 ++ g.B2) (b := b) (cs := cs) (T := 76) (by simp [hB])
      refine ⟨b, 0, cs, j, fun _ => ⟨hp, hj, fun k x hx => ?_⟩⟩
      have hk : k < s.book.length := by
        rcases Nat.lt_or_ge k s.book.length with h | h
        · exact h
        · have hx' : s.book[k]? = some x := hx
          rw [List.getElem?_eq_none h] at hx'; cases hx'
      rw [Nat.zero_add, sub_take hk, ht]
      exact rows_at (f := lnL) (fun _ => rfl) hx
  · by_cases hn : s.reads = []
    · exact ⟨0, 0, [], 0, fun hne => absurd hn hne⟩
    · obtain ⟨b, cs, hp, hB, ht⟩ := sl_pos h2 (by rcases hb : s.reads with _ | _; exact absurd hb hn; simp)
      obtain ⟨j, hj⟩ := argsOf_mem (B := g.B1 ++ g.B2) (b := b) (cs := cs) (T := 69) (by simp [hB])
      refine ⟨b, 0, cs, j, fun _ => ⟨hp, hj, fun k x hx => ?_⟩⟩
      have hk : k < s.reads.length := by
        rcases Nat.lt_or_ge k s.reads.length with h | h
        · exact h
        · have hx' : s.reads[k]? = some x := hx
          rw [List.getElem?_eq_none h] at hx'; cases hx'
      rw [Nat.zero_add, sub_take hk, ht]
      exact rows_at (f := rdL) (fun _ => rfl) hx
theorem ints_in {B B' : Blks} {p : Option Addr} {c : Nat} {L : List Int} (h : Sl B 3 1 p L.length c (ints L)) (hB : ∀ x ∈ B, x ∈ B') (hl : L.length ≤ 1000000000) : IntsIn (argsOf B') p L := by
  refine ⟨hl, ?_⟩
  by_cases hn : L = []
  · exact ⟨0, 0, [], 0, fun hne => absurd hn hne⟩
  · obtain ⟨b, cs, hp, hBe, ht⟩ := sl_pos h (by rcases hb : L with _ | _; exact absurd hb hn; simp)
    obtain ⟨j, hj⟩ := argsOf_mem (B := B') (b := b) (cs := cs) (T := 3) (hB _ (by simp [hBe]))
    refine ⟨b, 0, cs, j, fun _ => ⟨hp, hj, fun k x hx => ?_⟩⟩
    have hk : k < L.length := by
      rcases Nat.lt_or_ge k L.length with h | h
      · exact h
      · rw [List.getElem?_eq_none h] at hx; cases hx
    have h1 : (ints L)[k]? = some (.int .i64 x) := by simp [ints, hx]
    rw [← ht, List.getElem?_take] at h1
    rw [if_pos (by omega)] at h1
    rw [Nat.zero_add, Nat.mul_one]; exact h1
theorem tl_len (s : Sp) (w : Int) : (tlS s w).length ≤ 1000000000 := by
  unfold tlS
  split
  · rename_i h
    have := rains_len (ok_of_valid (er_ok h).1); omega
  · simp
theorem Sp.In.mono {M M' : Args} {s : Sp} (h : s.In M) (hM : ∀ x ∈ M, x ∈ M') : s.In M' := by
  obtain ⟨⟨b, off, cs, j, h1⟩, ⟨b', off', cs', j', h2⟩, h3, h4⟩ := h
  refine ⟨?_, ?_, h3, h4⟩
  · by_cases hn : s.book = []
    · exact ⟨0, 0, [], 0, fun hne => absurd hn hne⟩
    · obtain ⟨g1, g2, g3⟩ := h1 hn
      obtain ⟨i, hi⟩ := List.mem_iff_getElem?.1 (hM _ (List.mem_of_getElem? g2))
      exact ⟨b, off, cs, i, fun _ => ⟨g1, hi, g3⟩⟩
  · by_cases hn : s.reads = []
    · exact ⟨0, 0, [], 0, fun hne => absurd hn hne⟩
    · obtain ⟨g1, g2, g3⟩ := h2 hn
      obtain ⟨i, hi⟩ := List.mem_iff_getElem?.1 (hM _ (List.mem_of_getElem? g2))
      exact ⟨b', off', cs', i, fun _ => ⟨g1, hi, g3⟩⟩

theorem tells_fn (s : Sp) (M : Args) (hin : s.In M) (w need : Int) : Cn Try.prog 3 [spV s, .int .i64 w, .int .i64 need] M (fun _ : Unit => .bool true) (fun _ => []) (fun _ => True) := by
  refine fn_intro (N := 124) Try.func3 rfl rfl rfl fun w0 => ?_
  refine okc_seq ?_
  refine okc_region ?_
  refine s_boxA rfl rfl rfl rfl rfl rfl (fun b1 => ?_)
  refine s_assign rfl rfl rfl rfl rfl rfl ?_
  refine okl_nil ?_
  change OkC Try.prog _ _ _ _ _ _ _
  refine okc_weak (l' := [(0, _), (1, _), (2, _), (3, _), (6, _)]) ⟨rfl, rfl, rfl, rfl, rfl, trivial⟩ ?_
  refine okc_seq ?_
  refine okc_seq ?_
  refine okc_region ?_
  refine s_loadW 0 rfl rfl rfl rfl rfl rfl rfl rfl rfl rfl ?_
  refine s_callb rfl rfl rfl rfl rfl rfl rfl c16 (great_fn s) covers_nil (fun h2 => ?_) (fun h2 => ?_)
  · refine okl_nil ?_
    change OkC Try.prog _ _ _ _ _ _ _
    refine okc_weak (l' := [(0, _), (1, _), (2, _), (3, _), (6, _), (25, _)]) ⟨rfl, rfl, rfl, rfl, rfl, rfl, trivial⟩ ?_
    refine okc_cond_t rfl ?_
    refine okc_seq ?_
    refine okc_region ?_
    refine s_assign rfl rfl rfl rfl rfl rfl ?_
    refine okl_nil ?_
    change OkC Try.prog _ _ _ _ _ _ _
    refine okc_weak (l' := [(0, _), (1, _), (2, _), (3, _), (6, _), (25, _)]) ⟨rfl, rfl, rfl, rfl, rfl, rfl, trivial⟩ ?_
    refine okc_ret fun a w hs => ?_
    exact ret_v hs (run_results1 hs rfl (rv_tmp rfl)) (rfl)
  · have hgr : s.book.length ≤ 30 ∧ s.reads.length ≤ 30 := by have hq := h2; simp [greatB] at hq; omega
    refine okl_nil ?_
    change OkC Try.prog _ _ _ _ _ _ _
    refine okc_weak (l' := [(0, _), (1, _), (2, _), (3, _), (6, _), (25, _)]) ⟨rfl, rfl, rfl, rfl, rfl, rfl, trivial⟩ ?_
    refine okc_cond_f rfl ?_
    refine okc_skip ?_
    change OkC Try.prog _ _ _ _ _ _ _
    refine okc_weak (l' := [(0, _), (1, _), (2, _), (3, _), (6, _), (25, _)]) ⟨rfl, rfl, rfl, rfl, rfl, rfl, trivial⟩ ?_
    refine okc_seq ?_
    refine okc_region ?_
    refine s_loadW 0 rfl rfl rfl rfl rfl rfl rfl rfl rfl rfl ?_
    refine okl_rE rfl rfl rfl rfl (op_call rfl rfl rfl c17 (twin_fn s M hin hgr) covers_all) (fun g hg => ?_)
    have hown := twin_in hin hg
    have hCan : Cn Try.prog 18 [spV (twS s g)] (argsOf (g.B1 ++ g.B2)) (fun _ : Unit => .tuple #[.bool (cnS s), .int .i64 (ckS s)]) (fun _ => []) (fun _ => True) := Can_fn (twS s g) _ hown
    have hRains : Cn Try.prog 20 [spV (twS s g)] (argsOf (g.B1 ++ g.B2)) (fun h : SlG => .tuple #[.slice h.p (tlS s 0).length h.c, .int .i64 (erS s 0)]) (fun h => h.B) (fun h => Sl h.B 3 1 h.p (tlS s 0).length h.c (ints (tlS s 0))) := by have h := Rains_fn (twS s g) _ hown; rw [rn_tl, begin4] at h; exact h
    have hGives : Cn Try.prog 22 [spV (twS s g), .int .i64 w] (argsOf (g.B1 ++ g.B2)) (fun _ : Unit => .tuple #[.agg #[.int .i64 (gE s w).1, .int .i64 (gE s w).2], .int .i64 (erS s w)]) (fun _ => []) (fun _ => True) := Gives_fn (twS s g) _ hown w
    have hKnown : Cn Try.prog 24 [spV (twS s g), .int .i64 w, .int .i64 need] (argsOf (g.B1 ++ g.B2)) (fun _ : Unit => .tuple #[.int .u8 (knS s w need), .int .i64 (erS s w)]) (fun _ => []) (fun _ => True) := Known_fn (twS s g) _ hown w need
    have hCheck : Cn Try.prog 26 [spV (twS s g)] (argsOf (g.B1 ++ g.B2)) (fun _ : Unit => .int .i64 (ckS s)) (fun _ => []) (fun _ => True) := Check_fn (twS s g) _ hown
    refine s_alloc rfl rfl rfl rfl rfl rfl (fun b3 => ?_)
    refine k_storeW 0 rfl rfl rfl rfl rfl rfl rfl rfl rfl rfl rfl rfl ?_
    refine okl_nil ?_
    change OkC Try.prog _ _ _ _ _ _ _
    refine okc_weak (l' := [(0, _), (1, _), (2, _), (3, _), (6, _), (7, _), (25, _)]) ⟨rfl, rfl, rfl, rfl, rfl, rfl, rfl, trivial⟩ ?_
    refine okc_seq ?_
    refine okc_region ?_
    refine s_loadW 0 rfl rfl rfl rfl rfl rfl rfl rfl rfl rfl ?_
    refine s_callv rfl rfl rfl rfl rfl rfl rfl c18 (hCan) (covers_grp fun x hx => by simp only [List.mem_append, List.mem_cons, List.append_assoc] at hx ⊢; rcases hx with hx | hx <;> simp [hx]) ?_
    refine s_move rfl rfl rfl rfl rfl rfl ?_
    refine s_extract rfl rfl rfl rfl rfl rfl rfl ?_
    refine s_extract rfl rfl rfl rfl rfl rfl rfl ?_
    refine s_assign rfl rfl rfl rfl rfl rfl ?_
    refine s_assign rfl rfl rfl rfl rfl rfl ?_
    refine okl_nil ?_
    change OkC Try.prog _ _ _ _ _ _ _
    refine okc_weak (l' := [(0, _), (1, _), (2, _), (3, _), (6, _), (7, _), (8, _), (9, _), (25, _)]) ⟨rfl, rfl, rfl, rfl, rfl, rfl, rfl, rfl, rfl, trivial⟩ ?_
    refine okc_seq ?_
    refine okc_region ?_
    refine s_loadW 1 rfl rfl rfl rfl rfl rfl rfl rfl rfl rfl ?_
    refine s_callv rfl rfl rfl rfl rfl rfl rfl c19 (rCan_fn s M hin) covers_all ?_
    refine s_move rfl rfl rfl rfl rfl rfl ?_
    refine s_extract rfl rfl rfl rfl rfl rfl rfl ?_
    refine s_extract rfl rfl rfl rfl rfl rfl rfl ?_
    refine s_assign rfl rfl rfl rfl rfl rfl ?_
    refine s_assign rfl rfl rfl rfl rfl rfl ?_
    refine okl_nil ?_
    change OkC Try.prog _ _ _ _ _ _ _
    refine okc_weak (l' := [(0, _), (1, _), (2, _), (3, _), (6, _), (7, _), (8, _), (9, _), (10, _), (11, _), (25, _)]) ⟨rfl, rfl, rfl, rfl, rfl, rfl, rfl, rfl, rfl, rfl, rfl, trivial⟩ ?_
    refine okc_seq ?_
    refine okc_region ?_
    refine s_loadW 0 rfl rfl rfl rfl rfl rfl rfl rfl rfl rfl ?_
    refine okl_rE rfl rfl rfl rfl (op_call rfl rfl rfl c20 (hRains) (covers_grp fun x hx => by simp only [List.mem_append, List.mem_cons, List.append_assoc] at hx ⊢; rcases hx with hx | hx <;> simp [hx])) (fun gl hgl => ?_)
    refine s_move rfl rfl rfl rfl rfl rfl ?_
    refine s_extract rfl rfl rfl rfl rfl rfl rfl ?_
    refine s_extract rfl rfl rfl rfl rfl rfl rfl ?_
    refine s_assign rfl rfl rfl rfl rfl rfl ?_
    refine s_assign rfl rfl rfl rfl rfl rfl ?_
    refine okl_nil ?_
    change OkC Try.prog _ _ _ _ _ _ _
    refine okc_weak (l' := [(0, _), (1, _), (2, _), (3, _), (6, _), (7, _), (8, _), (9, _), (10, _), (11, _), (12, _), (13, _), (25, _)]) ⟨rfl, rfl, rfl, rfl, rfl, rfl, rfl, rfl, rfl, rfl, rfl, rfl, rfl, trivial⟩ ?_
    refine okc_seq ?_
    refine okc_region ?_
    refine s_loadW 1 rfl rfl rfl rfl rfl rfl rfl rfl rfl rfl ?_
    refine okl_rE rfl rfl rfl rfl (op_call rfl rfl rfl c21 (rRains_fn s M hin) covers_all) (fun gm hgm => ?_)
    refine s_move rfl rfl rfl rfl rfl rfl ?_
    refine s_extract rfl rfl rfl rfl rfl rfl rfl ?_
    refine s_extract rfl rfl rfl rfl rfl rfl rfl ?_
    refine s_assign rfl rfl rfl rfl rfl rfl ?_
    refine s_assign rfl rfl rfl rfl rfl rfl ?_
    refine okl_nil ?_
    change OkC Try.prog _ _ _ _ _ _ _
    refine okc_weak (l' := [(0, _), (1, _), (2, _), (3, _), (6, _), (7, _), (8, _), (9, _), (10, _), (11, _), (12, _), (13, _), (14, _), (15, _), (25, _)]) ⟨rfl, rfl, rfl, rfl, rfl, rfl, rfl, rfl, rfl, rfl, rfl, rfl, rfl, rfl, rfl, trivial⟩ ?_
    refine okc_seq ?_
    refine okc_region ?_
    refine s_loadW 0 rfl rfl rfl rfl rfl rfl rfl rfl rfl rfl ?_
    refine s_move rfl rfl rfl rfl rfl rfl ?_
    refine s_callv rfl rfl rfl rfl rfl rfl rfl c22 (hGives) (covers_grp fun x hx => by simp only [List.mem_append, List.mem_cons, List.append_assoc] at hx ⊢; rcases hx with hx | hx <;> simp [hx]) ?_
    refine s_move rfl rfl rfl rfl rfl rfl ?_
    refine s_extract rfl rfl rfl rfl rfl rfl rfl ?_
    refine s_extract rfl rfl rfl rfl rfl rfl rfl ?_
    refine s_alloc rfl rfl rfl rfl rfl rfl (fun b4 => ?_)
    refine k_storeW 0 rfl rfl rfl rfl rfl rfl rfl rfl rfl rfl rfl rfl ?_
    refine s_assign rfl rfl rfl rfl rfl rfl ?_
    refine okl_nil ?_
    change OkC Try.prog _ _ _ _ _ _ _
    refine okc_weak (l' := [(0, _), (1, _), (2, _), (3, _), (6, _), (7, _), (8, _), (9, _), (10, _), (11, _), (12, _), (13, _), (14, _), (15, _), (16, _), (17, _), (25, _)]) ⟨rfl, rfl, rfl, rfl, rfl, rfl, rfl, rfl, rfl, rfl, rfl, rfl, rfl, rfl, rfl, rfl, rfl, trivial⟩ ?_
    refine okc_seq ?_
    refine okc_region ?_
    refine s_loadW 2 rfl rfl rfl rfl rfl rfl rfl rfl rfl rfl ?_
    refine s_move rfl rfl rfl rfl rfl rfl ?_
    refine s_callv rfl rfl rfl rfl rfl rfl rfl c23 (rGives_fn s M hin w) covers_all ?_
    refine s_move rfl rfl rfl rfl rfl rfl ?_
    refine s_extract rfl rfl rfl rfl rfl rfl rfl ?_
    refine s_extract rfl rfl rfl rfl rfl rfl rfl ?_
    refine s_alloc rfl rfl rfl rfl rfl rfl (fun b5 => ?_)
    refine k_storeW 0 rfl rfl rfl rfl rfl rfl rfl rfl rfl rfl rfl rfl ?_
    refine s_assign rfl rfl rfl rfl rfl rfl ?_
    refine okl_nil ?_
    change OkC Try.prog _ _ _ _ _ _ _
    refine okc_weak (l' := [(0, _), (1, _), (2, _), (3, _), (6, _), (7, _), (8, _), (9, _), (10, _), (11, _), (12, _), (13, _), (14, _), (15, _), (16, _), (17, _), (18, _), (19, _), (25, _)]) ⟨rfl, rfl, rfl, rfl, rfl, rfl, rfl, rfl, rfl, rfl, rfl, rfl, rfl, rfl, rfl, rfl, rfl, rfl, rfl, trivial⟩ ?_
    refine okc_seq ?_
    refine okc_region ?_
    refine s_loadW 2 rfl rfl rfl rfl rfl rfl rfl rfl rfl rfl ?_
    refine s_move rfl rfl rfl rfl rfl rfl ?_
    refine s_move rfl rfl rfl rfl rfl rfl ?_
    refine s_callv rfl rfl rfl rfl rfl rfl rfl c24 (hKnown) (covers_grp fun x hx => by simp only [List.mem_append, List.mem_cons, List.append_assoc] at hx ⊢; rcases hx with hx | hx <;> simp [hx]) ?_
    refine s_move rfl rfl rfl rfl rfl rfl ?_
    refine s_extract rfl rfl rfl rfl rfl rfl rfl ?_
    refine s_extract rfl rfl rfl rfl rfl rfl rfl ?_
    refine s_assign rfl rfl rfl rfl rfl rfl ?_
    refine s_assign rfl rfl rfl rfl rfl rfl ?_
    refine okl_nil ?_
    change OkC Try.prog _ _ _ _ _ _ _
    refine okc_weak (l' := [(0, _), (1, _), (2, _), (3, _), (6, _), (7, _), (8, _), (9, _), (10, _), (11, _), (12, _), (13, _), (14, _), (15, _), (16, _), (17, _), (18, _), (19, _), (20, _), (21, _), (25, _)]) ⟨rfl, rfl, rfl, rfl, rfl, rfl, rfl, rfl, rfl, rfl, rfl, rfl, rfl, rfl, rfl, rfl, rfl, rfl, rfl, rfl, rfl, trivial⟩ ?_
    refine okc_seq ?_
    refine okc_region ?_
    refine s_loadW 3 rfl rfl rfl rfl rfl rfl rfl rfl rfl rfl ?_
    refine s_move rfl rfl rfl rfl rfl rfl ?_
    refine s_move rfl rfl rfl rfl rfl rfl ?_
    refine s_callv rfl rfl rfl rfl rfl rfl rfl c25 (rKnown_fn s M hin w need) covers_all ?_
    refine s_move rfl rfl rfl rfl rfl rfl ?_
    refine s_extract rfl rfl rfl rfl rfl rfl rfl ?_
    refine s_extract rfl rfl rfl rfl rfl rfl rfl ?_
    refine s_assign rfl rfl rfl rfl rfl rfl ?_
    refine s_assign rfl rfl rfl rfl rfl rfl ?_
    refine okl_nil ?_
    change OkC Try.prog _ _ _ _ _ _ _
    refine okc_weak (l' := [(0, _), (1, _), (2, _), (3, _), (6, _), (7, _), (8, _), (9, _), (10, _), (11, _), (12, _), (13, _), (14, _), (15, _), (16, _), (17, _), (18, _), (19, _), (20, _), (21, _), (22, _), (23, _), (25, _)]) ⟨rfl, rfl, rfl, rfl, rfl, rfl, rfl, rfl, rfl, rfl, rfl, rfl, rfl, rfl, rfl, rfl, rfl, rfl, rfl, rfl, rfl, rfl, rfl, trivial⟩ ?_
    refine okc_seq ?_
    refine dr_start [74, 75, 76, 77, 78, 79, 80, 81, 82, 83, 84, 85, 86, 87, 88, 89, 90, 91, 92, 93, 94, 95, 96, 97, 98, 99, 100, 101, 102, 103, 104, 105, 106, 107, 108, 109, 110, 111, 112, 113, 114, 115, 116, 117, 118, 119, 120, 121, 122, 123, 6] ?_
    refine d_loadW 2 [] rfl rfl rfl rfl rfl (fun ν => rfl) rfl rfl (fun ν => rfl) (fun ν => rfl) rfl rfl ?_
    refine d_callv [0] rfl rfl rfl rfl rfl (fun ν => rfl) rfl (fun ν => rfl) (fun ν => rfl) c26 (fun ν => hCheck) (fun ν => (covers_grp fun x hx => by simp only [List.mem_append, List.mem_cons, List.append_assoc] at hx ⊢; rcases hx with hx | hx <;> simp [hx])) ?_
    refine d_loadW 3 [] rfl rfl rfl rfl rfl (fun ν => rfl) rfl rfl (fun ν => rfl) (fun ν => rfl) rfl rfl ?_
    refine d_callv [2] rfl rfl rfl rfl rfl (fun ν => rfl) rfl (fun ν => rfl) (fun ν => rfl) c27 (fun ν => rCheck_fn s M hin) (fun ν => covers_all) ?_
    refine d_cmpS [1, 3] rfl rfl rfl rfl rfl (fun ν => rfl) rfl (fun ν => rfl) (fun ν => rfl) rfl (fun h7 => ?_) (fun h7 => ?_)
    · refine d_move [4] rfl rfl rfl rfl rfl (fun ν => rfl) rfl (fun ν => rfl) ?_
      refine d_move [5] rfl rfl rfl rfl rfl (fun ν => rfl) rfl (fun ν => rfl) ?_
      refine d_move [5] rfl rfl rfl rfl rfl (fun ν => rfl) rfl (fun ν => rfl) ?_
      refine d_b [6, 7, 5] rfl rfl rfl rfl rfl (fun ν => rfl) (fun ν => op_eqlB rfl rfl rfl bool4) (fun h8 => ?_) (fun h8 => ?_)
      · refine d_pick_t [5, 8] rfl rfl rfl rfl rfl (fun ν => rfl) rfl (fun ν => rfl) (fun ν => rfl) ?_
        refine d_move [9] rfl rfl rfl rfl rfl (fun ν => rfl) rfl (fun ν => rfl) ?_
        refine d_move [10] rfl rfl rfl rfl rfl (fun ν => rfl) rfl (fun ν => rfl) ?_
        refine d_move [10] rfl rfl rfl rfl rfl (fun ν => rfl) rfl (fun ν => rfl) ?_
        refine d_cmpS [11, 12, 10] rfl rfl rfl rfl rfl (fun ν => rfl) rfl (fun ν => rfl) (fun ν => rfl) rfl (fun h9 => ?_) (fun h9 => ?_)
        · refine d_pick_t [10, 13] rfl rfl rfl rfl rfl (fun ν => rfl) rfl (fun ν => rfl) (fun ν => rfl) ?_
          refine d_move [14] rfl rfl rfl rfl rfl (fun ν => rfl) rfl (fun ν => rfl) ?_
          refine d_move [15] rfl rfl rfl rfl rfl (fun ν => rfl) rfl (fun ν => rfl) ?_
          refine d_move [15] rfl rfl rfl rfl rfl (fun ν => rfl) rfl (fun ν => rfl) ?_
          refine d_callb [16, 17, 15] rfl rfl rfl rfl rfl (fun ν => rfl) rfl (fun ν => rfl) (fun ν => rfl) c28 (fun ν => sameInts_fn (argsOf (gl.B ++ gm.B)) _ _ _ _ _ _ (ints_in hgl (by simp +contextual) (tl_len s 0)) (ints_in hgm (by simp +contextual) (tl_len s 0))) (fun ν => (covers_grp fun x hx => by simp only [List.mem_append, List.mem_cons, List.append_assoc] at hx ⊢; rcases hx with hx | hx <;> simp [hx])) (fun h10 => ?_) (fun h10 => ?_)
          · refine d_pick_t [15, 18] rfl rfl rfl rfl rfl (fun ν => rfl) rfl (fun ν => rfl) (fun ν => rfl) ?_
            refine d_move [19] rfl rfl rfl rfl rfl (fun ν => rfl) rfl (fun ν => rfl) ?_
            refine d_move [20] rfl rfl rfl rfl rfl (fun ν => rfl) rfl (fun ν => rfl) ?_
            refine d_move [20] rfl rfl rfl rfl rfl (fun ν => rfl) rfl (fun ν => rfl) ?_
            refine d_cmpS [21, 22, 20] rfl rfl rfl rfl rfl (fun ν => rfl) rfl (fun ν => rfl) (fun ν => rfl) rfl (fun h11 => ?_) (fun h11 => ?_)
            · refine d_pick_t [20, 23] rfl rfl rfl rfl rfl (fun ν => rfl) rfl (fun ν => rfl) (fun ν => rfl) ?_
              refine d_move [24] rfl rfl rfl rfl rfl (fun ν => rfl) rfl (fun ν => rfl) ?_
              refine d_loadW 1 [25] rfl rfl rfl rfl rfl (fun ν => rfl) rfl rfl (fun ν => rfl) (fun ν => rfl) rfl rfl ?_
              refine d_loadW 0 [25] rfl rfl rfl rfl rfl (fun ν => rfl) rfl rfl (fun ν => rfl) (fun ν => rfl) rfl rfl ?_
              refine d_b [26, 27, 25] rfl rfl rfl rfl rfl (fun ν => rfl) (fun ν => op_eqlA rfl rfl rfl g23 (eq23 9998 _ _ _ _)) (fun h12 => ?_) (fun h12 => ?_)
              · refine d_pick_t [25, 28] rfl rfl rfl rfl rfl (fun ν => rfl) rfl (fun ν => rfl) (fun ν => rfl) ?_
                refine d_move [29] rfl rfl rfl rfl rfl (fun ν => rfl) rfl (fun ν => rfl) ?_
                refine d_move [30] rfl rfl rfl rfl rfl (fun ν => rfl) rfl (fun ν => rfl) ?_
                refine d_move [30] rfl rfl rfl rfl rfl (fun ν => rfl) rfl (fun ν => rfl) ?_
                refine d_cmpS [31, 32, 30] rfl rfl rfl rfl rfl (fun ν => rfl) rfl (fun ν => rfl) (fun ν => rfl) rfl (fun h13 => ?_) (fun h13 => ?_)
                · refine d_pick_t [30, 33] rfl rfl rfl rfl rfl (fun ν => rfl) rfl (fun ν => rfl) (fun ν => rfl) ?_
                  refine d_move [34] rfl rfl rfl rfl rfl (fun ν => rfl) rfl (fun ν => rfl) ?_
                  refine d_move [35] rfl rfl rfl rfl rfl (fun ν => rfl) rfl (fun ν => rfl) ?_
                  refine d_move [35] rfl rfl rfl rfl rfl (fun ν => rfl) rfl (fun ν => rfl) ?_
                  refine d_cmpS [36, 37, 35] rfl rfl rfl rfl rfl (fun ν => rfl) rfl (fun ν => rfl) (fun ν => rfl) rfl (fun h14 => ?_) (fun h14 => ?_)
                  · refine d_pick_t [35, 38] rfl rfl rfl rfl rfl (fun ν => rfl) rfl (fun ν => rfl) (fun ν => rfl) ?_
                    refine d_move [39] rfl rfl rfl rfl rfl (fun ν => rfl) rfl (fun ν => rfl) ?_
                    refine d_move [40] rfl rfl rfl rfl rfl (fun ν => rfl) rfl (fun ν => rfl) ?_
                    refine d_move [40] rfl rfl rfl rfl rfl (fun ν => rfl) rfl (fun ν => rfl) ?_
                    refine d_cmpS [41, 42, 40] rfl rfl rfl rfl rfl (fun ν => rfl) rfl (fun ν => rfl) (fun ν => rfl) rfl (fun h15 => ?_) (fun h15 => ?_)
                    · refine d_pick_t [40, 43] rfl rfl rfl rfl rfl (fun ν => rfl) rfl (fun ν => rfl) (fun ν => rfl) ?_
                      refine d_move [44] rfl rfl rfl rfl rfl (fun ν => rfl) rfl (fun ν => rfl) ?_
                      refine d_loadW 2 [45] rfl rfl rfl rfl rfl (fun ν => rfl) rfl rfl (fun ν => rfl) (fun ν => rfl) rfl rfl ?_
                      refine d_loadW 3 [45] rfl rfl rfl rfl rfl (fun ν => rfl) rfl rfl (fun ν => rfl) (fun ν => rfl) rfl rfl ?_
                      refine d_callv [46, 47, 45] rfl rfl rfl rfl rfl (fun ν => rfl) rfl (fun ν => rfl) (fun ν => rfl) c29 (fun ν => same_fn s (argsOf (g.B1 ++ g.B2) ++ M) g (hin.mono (by simp +contextual)) (hown.mono (by simp +contextual))) (fun ν => (covers_two (covers_grp fun x hx => by simp only [List.mem_append, List.mem_cons, List.append_assoc] at hx ⊢; rcases hx with hx | hx <;> simp [hx]) covers_all)) ?_
                      refine d_pick_t [45, 48] rfl rfl rfl rfl rfl (fun ν => rfl) rfl (fun ν => rfl) (fun ν => rfl) ?_
                      refine d_assign [49] rfl rfl rfl rfl rfl (fun ν => rfl) rfl (fun ν => rfl) ?_
                      refine dr_end [74, 75, 76, 77, 78, 79, 80, 81, 82, 83, 84, 85, 86, 87, 88, 89, 90, 91, 92, 93, 94, 95, 96, 97, 98, 99, 100, 101, 102, 103, 104, 105, 106, 107, 108, 109, 110, 111, 112, 113, 114, 115, 116, 117, 118, 119, 120, 121, 122, 123, 6] [50] 51 rfl rfl rfl rfl rfl rfl rfl rfl rfl (fun nu6 => ?_)
                      refine okl_nil ?_
                      change OkC Try.prog _ _ _ _ _ _ _
                      refine okc_weak (l' := [(0, _), (1, _), (2, _), (3, _), (6, _), (7, _), (8, _), (9, _), (10, _), (11, _), (12, _), (13, _), (14, _), (15, _), (16, _), (17, _), (18, _), (19, _), (20, _), (21, _), (22, _), (23, _), (25, _)]) ⟨rfl, rfl, rfl, rfl, rfl, rfl, rfl, rfl, rfl, rfl, rfl, rfl, rfl, rfl, rfl, rfl, rfl, rfl, rfl, rfl, rfl, rfl, rfl, trivial⟩ ?_
                      refine okc_ret fun a w hs => ?_
                      exact ret_v hs (run_results1 hs rfl (rv_tmp rfl)) (rfl)
                    · exact absurd h15 (by simp) --closed
                  · exact absurd h14 (by simp) --closed
                · exact absurd h13 (by simp) --closed
              · exact absurd h12 (by simp) --closed
            · exact absurd h11 (by simp) --closed
          · exact absurd h10 (by simp) --closed
        · exact absurd h9 (by simp) --closed
      · exact absurd h8 (by simp) --closed
    · exact absurd h7 (by simp) --closed

end Go.Proofs.Ytdpnadknaacinaa
