/-
  SpringReads: for every spring, reading and week the law returns true, and what came in reads as it did.
  Conditions: none.
-/
import Derived.Test.YtdpnadknaacinaaReads8

section
namespace Go.Proofs.Ytdpnadknaacinaa
open Go.Sx Go.Proofs.Ytdpnadknaacinaa.Ty
set_option linter.unusedVariables false
set_option linter.unusedSimpArgs false
set_option maxHeartbeats 2000000


/-- The spring without any reading. -/
def bareS (s : Sp) : Sp := { s with reads := [], rp := none, rc := 0 }
theorem wide_bare (s : Sp) (ns : List Int) (r : Int) : Wide (preS (wtS s ns) r) (preS (bareS s) r) := by
  intro j
  constructor
  · show (([] : List Rd).foldl (addR s) _ j).1 ≤ _
    have h := (addR_lo (s := wtS s ns) (wtS s ns).reads (s.book.foldl (addL r) (iniN s.most s.weeks.toNat)) j ((preS (wtS s ns) r j).1)).1 (Int.le_refl _)
    exact h.1
  · show _ ≤ (([] : List Rd).foldl (addR s) _ j).2
    have h := (addR_hi (s := wtS s ns) (wtS s ns).reads (s.book.foldl (addL r) (iniN s.most s.weeks.toNat)) j ((preS (wtS s ns) r j).2)).1 (Int.le_refl _)
    exact h.1
theorem can_bare {s : Sp} {ns : List Int} (h : canS (wtS s ns) = true) : canS (bareS s) = true := by
  unfold canS at h ⊢
  cases hr : rainsS (wtS s ns) with
  | nil => rw [hr] at h; cases h
  | cons r L =>
    have hm : r ∈ rainsS (wtS s ns) := by rw [hr]; simp
    have hm2 : r ∈ rainsS (bareS s) := by
      unfold rainsS rainsN at hm ⊢
      rw [List.mem_filter] at hm ⊢
      exact ⟨hm.1, okN_wide (((wide_bare s ns r).fwd _).bwd _) hm.2⟩
    cases hr2 : rainsS (bareS s) with
    | nil => rw [hr2] at hm2; cases hm2
    | cons x L => rfl
theorem strF_can {s : Sp} : ∀ (m fr : Nat) (l l' : List Int), strF s m fr l = some l' → canS (wtS s l') = true
  | 0, fr, l, l', h => by
    simp only [strF] at h
    split at h
    · rename_i hc; cases h; exact hc
    · cases h
  | m + 1, fr, l, l', h => by
    simp only [strF] at h
    obtain ⟨i, _, hi⟩ := List.exists_of_findSome?_eq_some h
    exact strF_can m _ _ l' hi
theorem valid_bare {s : Sp} (h : validB s = true) : validB (bareS s) = true := by
  simp only [validB, readsB, Bool.and_eq_true, decide_eq_true_eq] at h ⊢
  exact ⟨h.1, by simp [bareS], rfl⟩
theorem bare_in {s : Sp} {M : Args} (hin : s.In M) : (bareS s).In M := ⟨hin.book, ⟨0, 0, [], 0, fun h => absurd rfl h⟩, hin.bn, by simp [bareS]⟩
/-- The first number of readings that is enough. -/
def first3 (s : Sp) (k : Nat) : Option (List Int) := (List.range k).findSome? fun m => strF s m 0 []
theorem first3_succ (s : Sp) (k : Nat) : first3 s (k + 1) = (first3 s k).or (strF s k 0 []) := by
  unfold first3
  rw [List.range_succ, List.findSome?_append]
  simp [List.findSome?_cons]
  cases strF s k 0 [] <;> rfl
def wrE (s : Sp) : Int := if validB s then (if canS (bareS s) then (if (first3 s 3).isSome then 0 else 4) else 6) else 10
def wrL (s : Sp) : List Int := if validB s then (if canS (bareS s) then (first3 s 3).getD [] else []) else []
theorem first_some {s : Sp} {k : Nat} {l : List Int} (hk : k < 3) (hn : first3 s k = none) (h : strF s k 0 [] = some l) : first3 s 3 = some l := by
  have h1 : first3 s (k + 1) = some l := by rw [first3_succ, hn, h]; rfl
  have step : ∀ j, first3 s j = some l → first3 s (j + 1) = some l := fun j hj => by rw [first3_succ, hj]; rfl
  match k, hk with
  | 0, _ => exact step 2 (step 1 h1)
  | 1, _ => exact step 2 h1
  | 2, _ => exact h1
theorem strF_len {s : Sp} : ∀ (m fr : Nat) (l l' : List Int), strF s m fr l = some l' → l'.length = l.length + m
  | 0, fr, l, l', h => by
    simp only [strF] at h
    split at h
    · cases h; rfl
    · cases h
  | m + 1, fr, l, l', h => by
    simp only [strF] at h
    obtain ⟨i, _, hi⟩ := List.exists_of_findSome?_eq_some h
    have := strF_len m _ _ l' hi
    simp at this; omega

theorem struck_fn (s : Sp) (M : Args) (hin : s.In M) (hv : validB s = true) (many : Nat) (hmany : many ≤ 2) : Cn Try.prog 95 [spV s, .int .i64 (many : Int)] M (fun g : SlG => .tuple #[.slice g.p ((strF s many 0 []).getD []).length g.c, .bool (strF s many 0 []).isSome]) (fun g => g.B) (fun g => Sl g.B 3 1 g.p ((strF s many 0 []).getD []).length g.c (ints ((strF s many 0 []).getD []))) := by
  refine fn_intro (N := 14) Try.func95 rfl rfl rfl fun w0 => ?_
  refine okc_seq ?_
  refine okc_region ?_
  refine s_boxA rfl rfl rfl rfl rfl rfl (fun b1 => ?_)
  refine s_box1 rfl rfl rfl rfl rfl rfl rfl (fun b2 => ?_)
  refine s_assign rfl rfl rfl rfl rfl rfl ?_
  refine s_assign rfl rfl rfl rfl rfl rfl ?_
  refine okl_nil ?_
  change OkC Try.prog _ _ _ _ _ _ _
  refine okc_weak (l' := [(0, _), (1, _), (2, _), (3, _), (4, _), (5, _)]) ⟨rfl, rfl, rfl, rfl, rfl, rfl, trivial⟩ ?_
  refine okc_seq ?_
  refine okc_region ?_
  refine s_alloc rfl rfl rfl rfl rfl rfl (fun b3 => ?_)
  refine okl_nil ?_
  change OkC Try.prog _ _ _ _ _ _ _
  refine okc_weak (l' := [(0, _), (1, _), (2, _), (3, _), (4, _), (5, _), (6, _)]) ⟨rfl, rfl, rfl, rfl, rfl, rfl, rfl, trivial⟩ ?_
  refine okc_seq ?_
  refine okc_region ?_
  refine s_alloc rfl rfl rfl rfl rfl rfl (fun b4 => ?_)
  refine okl_nil ?_
  change OkC Try.prog _ _ _ _ _ _ _
  refine okc_weak (l' := [(0, _), (1, _), (2, _), (3, _), (4, _), (5, _), (6, _), (7, _)]) ⟨rfl, rfl, rfl, rfl, rfl, rfl, rfl, rfl, trivial⟩ ?_
  refine okc_seq ?_
  refine okc_region ?_
  refine okl_v rfl rfl rfl rfl (op_makeFuncN rfl rfl) ?_
  refine k_storeW 0 rfl rfl rfl rfl rfl rfl rfl rfl rfl rfl rfl rfl ?_
  refine okl_nil ?_
  change OkC Try.prog _ _ _ _ _ _ _
  refine okc_weak (l' := [(0, _), (1, _), (2, _), (3, _), (4, _), (5, _), (6, _), (7, _)]) ⟨rfl, rfl, rfl, rfl, rfl, rfl, rfl, rfl, trivial⟩ ?_
  refine okc_seq ?_
  refine okc_region ?_
  refine s_load1 0 rfl rfl rfl rfl rfl rfl rfl rfl rfl ?_
  have hch := choose_fn s ((b2, [.int .i64 (many : Int)]) :: (b1, spC s) :: (b4, [.func (.func 119) #[] #[.pointer (some ⟨b3, 0, none⟩), .pointer (some ⟨b2, 0, none⟩), .pointer (some ⟨b1, 0, none⟩), .pointer (some ⟨b4, 0, none⟩)]]) :: M) (((hin.cons _).cons _).cons _) hv many hmany b3 b2 b1 b4 0 1 2 ⟨rfl, rfl, rfl⟩ many 0 [] none 0 [] (Nat.zero_le _) (by simp) (Sl.nil 3 1)
  refine okl_x (c := [(b3, [.slice none 0 0], 35)]) (keep := [_, _, _]) [] rfl rfl rfl rfl (opx_callF rfl rfl rfl c119 hch (covers_own 1 rfl (covers_own 2 rfl (covers_own 0 rfl covers_all))) (fun b es c h => by cases h)) (List.perm_middle (l₁ := [_])) (fun v B10 hv10 => ?_)
  obtain ⟨g, rfl, hg, rfl⟩ := hv10
  refine s_assign rfl rfl rfl rfl rfl rfl ?_
  refine okl_nil ?_
  change OkC Try.prog _ _ _ _ _ _ _
  refine okc_weak (l' := [(0, _), (1, _), (2, _), (3, _), (4, _), (5, _), (6, _), (7, _), (8, _)]) ⟨rfl, rfl, rfl, rfl, rfl, rfl, rfl, rfl, rfl, trivial⟩ ?_
  refine okc_seq ?_
  refine okc_region ?_
  refine s_load1 0 rfl rfl rfl rfl rfl rfl rfl rfl rfl ?_
  refine s_move rfl rfl rfl rfl rfl rfl ?_
  refine s_assign rfl rfl rfl rfl rfl rfl ?_
  refine s_assign rfl rfl rfl rfl rfl rfl ?_
  refine okl_nil ?_
  change OkC Try.prog _ _ _ _ _ _ _
  refine okc_weak (l' := [(0, _), (1, _), (2, _), (3, _), (4, _), (5, _), (6, _), (7, _), (8, _)]) ⟨rfl, rfl, rfl, rfl, rfl, rfl, rfl, rfl, rfl, trivial⟩ ?_
  refine okc_ret fun a w hs => ?_
  exact ret_postS hs (run_results2 hs rfl (rv_tmp rfl) (rv_tmp rfl)) ⟨g.p, g.c, g.B⟩ rfl hg (.cons _ (List.sublist_append_left _ _))
theorem Wrong_no (s : Sp) (M : Args) (hin : s.In M) (hb : ¬ beginS s qz [] = 0) : Cn Try.prog 46 [spV s] M (fun _ : Unit => .tuple #[.slice none 0 0, .int .i64 (beginS s qz [])]) (fun _ => []) (fun _ => True) := by
  refine fn_intro (N := 37) Try.func46 rfl rfl rfl fun w0 => ?_
  refine okc_seq ?_
  refine okc_region ?_
  refine s_boxA rfl rfl rfl rfl rfl rfl (fun b5 => ?_)
  refine s_assign rfl rfl rfl rfl rfl rfl ?_
  refine s_assign rfl rfl rfl rfl rfl rfl ?_
  refine okl_nil ?_
  change OkC Try.prog _ _ _ _ _ _ _
  refine okc_weak (l' := [(0, _), (1, _), (2, _), (3, _)]) ⟨rfl, rfl, rfl, rfl, trivial⟩ ?_
  refine okc_seq ?_
  refine okc_region ?_
  refine s_loadW 0 rfl rfl rfl rfl rfl rfl rfl rfl rfl rfl ?_
  refine s_build rfl rfl rfl rfl rfl rfl rfl rfl rfl ?_
  refine s_callv rfl rfl rfl rfl rfl rfl rfl c72 (begin_no (M := M) (q := qz) (more := []) hin (moreNil M) hb) covers_all ?_
  refine s_move rfl rfl rfl rfl rfl rfl ?_
  refine s_extract rfl rfl rfl rfl rfl rfl rfl ?_
  refine s_extract rfl rfl rfl rfl rfl rfl rfl ?_
  refine s_alloc rfl rfl rfl rfl rfl rfl (fun b6 => ?_)
  refine k_storeW 0 rfl rfl rfl rfl rfl rfl rfl rfl rfl rfl rfl rfl ?_
  refine s_assign rfl rfl rfl rfl rfl rfl ?_
  refine okl_nil ?_
  change OkC Try.prog _ _ _ _ _ _ _
  refine okc_weak (l' := [(0, _), (1, _), (2, _), (3, _), (4, _), (5, _)]) ⟨rfl, rfl, rfl, rfl, rfl, rfl, trivial⟩ ?_
  refine okc_seq ?_
  refine okc_seq ?_
  refine okc_region ?_
  refine s_move rfl rfl rfl rfl rfl rfl ?_
  refine s_cmpS rfl rfl rfl rfl rfl rfl rfl rfl (fun h7 => ?_) (fun h7 => ?_)
  · refine okl_nil ?_
    change OkC Try.prog _ _ _ _ _ _ _
    refine okc_weak (l' := [(0, _), (1, _), (2, _), (3, _), (4, _), (5, _), (17, _)]) ⟨rfl, rfl, rfl, rfl, rfl, rfl, rfl, trivial⟩ ?_
    refine okc_cond_t rfl ?_
    refine okc_seq ?_
    refine okc_region ?_
    refine s_move rfl rfl rfl rfl rfl rfl ?_
    refine s_assign rfl rfl rfl rfl rfl rfl ?_
    refine s_assign rfl rfl rfl rfl rfl rfl ?_
    refine okl_nil ?_
    change OkC Try.prog _ _ _ _ _ _ _
    refine okc_weak (l' := [(0, _), (1, _), (2, _), (3, _), (4, _), (5, _), (17, _)]) ⟨rfl, rfl, rfl, rfl, rfl, rfl, rfl, trivial⟩ ?_
    refine okc_ret fun a w hs => ?_
    exact ret_v hs (run_results2 hs rfl (rv_tmp rfl) (rv_tmp rfl)) (rfl)
  · exact absurd h7 (by simp [hb]) --closed

theorem Wrong_ok (s : Sp) (M : Args) (hin : s.In M) (hb : beginS s qz [] = 0) : Cn Try.prog 46 [spV s] M (fun g : SlG => .tuple #[.slice g.p (wrL s).length g.c, .int .i64 (wrE s)]) (fun g => g.B) (fun g => Sl g.B 3 1 g.p (wrL s).length g.c (ints (wrL s))) := by
  have hv := begin_valid hb
  refine fn_intro (N := 37) Try.func46 rfl rfl rfl fun w0 => ?_
  refine okc_seq ?_
  refine okc_region ?_
  refine s_boxA rfl rfl rfl rfl rfl rfl (fun b8 => ?_)
  refine s_assign rfl rfl rfl rfl rfl rfl ?_
  refine s_assign rfl rfl rfl rfl rfl rfl ?_
  refine okl_nil ?_
  change OkC Try.prog _ _ _ _ _ _ _
  refine okc_weak (l' := [(0, _), (1, _), (2, _), (3, _)]) ⟨rfl, rfl, rfl, rfl, trivial⟩ ?_
  refine okc_seq ?_
  refine okc_region ?_
  refine s_loadW 0 rfl rfl rfl rfl rfl rfl rfl rfl rfl rfl ?_
  refine s_build rfl rfl rfl rfl rfl rfl rfl rfl rfl ?_
  refine s_callv rfl rfl rfl rfl rfl rfl rfl c72 (begin_ok (M := M) (q := qz) (more := []) hin (moreNil M) hb) covers_all ?_
  refine s_move rfl rfl rfl rfl rfl rfl ?_
  refine s_extract rfl rfl rfl rfl rfl rfl rfl ?_
  refine s_extract rfl rfl rfl rfl rfl rfl rfl ?_
  refine s_alloc rfl rfl rfl rfl rfl rfl (fun b9 => ?_)
  refine k_storeW 0 rfl rfl rfl rfl rfl rfl rfl rfl rfl rfl rfl rfl ?_
  refine s_assign rfl rfl rfl rfl rfl rfl ?_
  refine okl_nil ?_
  change OkC Try.prog _ _ _ _ _ _ _
  refine okc_weak (l' := [(0, _), (1, _), (2, _), (3, _), (4, _), (5, _)]) ⟨rfl, rfl, rfl, rfl, rfl, rfl, trivial⟩ ?_
  refine okc_seq ?_
  refine okc_seq ?_
  refine okc_region ?_
  refine s_move rfl rfl rfl rfl rfl rfl ?_
  refine s_cmpS rfl rfl rfl rfl rfl rfl rfl rfl (fun h10 => ?_) (fun h10 => ?_)
  · exact absurd h10 (by decide) --closed
  · refine okl_nil ?_
    change OkC Try.prog _ _ _ _ _ _ _
    refine okc_weak (l' := [(0, _), (1, _), (2, _), (3, _), (4, _), (5, _), (17, _)]) ⟨rfl, rfl, rfl, rfl, rfl, rfl, rfl, trivial⟩ ?_
    refine okc_cond_f rfl ?_
    refine okc_skip ?_
    change OkC Try.prog _ _ _ _ _ _ _
    refine okc_weak (l' := [(0, _), (1, _), (2, _), (3, _), (4, _), (5, _), (17, _)]) ⟨rfl, rfl, rfl, rfl, rfl, rfl, rfl, trivial⟩ ?_
    refine okc_seq ?_
    refine okc_region ?_
    refine s_loadW 1 rfl rfl rfl rfl rfl rfl rfl rfl rfl rfl ?_
    refine s_alloc rfl rfl rfl rfl rfl rfl (fun b11 => ?_)
    refine k_storeW 0 rfl rfl rfl rfl rfl rfl rfl rfl rfl rfl rfl rfl ?_
    refine okl_nil ?_
    change OkC Try.prog _ _ _ _ _ _ _
    refine okc_weak (l' := [(0, _), (1, _), (2, _), (3, _), (4, _), (5, _), (6, _), (17, _)]) ⟨rfl, rfl, rfl, rfl, rfl, rfl, rfl, rfl, trivial⟩ ?_
    refine okc_seq ?_
    refine okc_region ?_
    refine s_field rfl rfl rfl rfl rfl rfl rfl rfl ?_
    refine k_store 0 rfl rfl rfl rfl rfl rfl rfl rfl rfl rfl rfl rfl ?_
    refine okl_nil ?_
    change OkC Try.prog _ _ _ _ _ _ _
    refine okc_weak (l' := [(0, _), (1, _), (2, _), (3, _), (4, _), (5, _), (6, _), (17, _)]) ⟨rfl, rfl, rfl, rfl, rfl, rfl, rfl, rfl, trivial⟩ ?_
    refine okc_seq ?_
    refine okc_seq ?_
    refine okc_region ?_
    refine s_loadW 0 rfl rfl rfl rfl rfl rfl rfl rfl rfl rfl ?_
    refine s_build rfl rfl rfl rfl rfl rfl rfl rfl rfl ?_
    refine s_callb rfl rfl rfl rfl rfl rfl rfl c73 (can_fn (bareS s) M (bare_in hin) (ok_of_valid (valid_bare hv))) covers_all (fun hc => ?_) (fun hc => ?_)
    · refine s_not rfl rfl rfl rfl rfl rfl ?_
      refine okl_nil ?_
      change OkC Try.prog _ _ _ _ _ _ _
      refine okc_weak (l' := [(0, _), (1, _), (2, _), (3, _), (4, _), (5, _), (6, _), (17, _), (24, _)]) ⟨rfl, rfl, rfl, rfl, rfl, rfl, rfl, rfl, rfl, trivial⟩ ?_
      refine okc_cond_f rfl ?_
      refine okc_skip ?_
      change OkC Try.prog _ _ _ _ _ _ _
      refine okc_weak (l' := [(0, _), (1, _), (2, _), (3, _), (4, _), (5, _), (6, _), (17, _), (24, _)]) ⟨rfl, rfl, rfl, rfl, rfl, rfl, rfl, rfl, rfl, trivial⟩ ?_
      refine okc_seq ?_
      refine okc_seq ?_
      refine okc_region ?_
      refine s_move rfl rfl rfl rfl rfl rfl ?_
      refine okl_nil ?_
      change OkC Try.prog _ _ _ _ _ _ _
      refine okc_weak (l' := [(0, _), (1, _), (2, _), (3, _), (4, _), (5, _), (6, _), (17, _), (24, _), (25, _)]) ⟨rfl, rfl, rfl, rfl, rfl, rfl, rfl, rfl, rfl, rfl, trivial⟩ ?_
      refine okc_block ?_
      refine okc_loopF (γ := Nat) [(0, _), (1, _), (2, _), (3, _), (4, _), (5, _), (6, _), (17, _), (24, _)] ⟨rfl, rfl, rfl, rfl, rfl, rfl, rfl, rfl, rfl, trivial⟩ [0, 1, 2] [] (by decide) _ rfl (fun m => [(25, .int .i64 (m : Int))]) (fun m => []) (fun m => m ≤ 3 ∧ first3 s m = none) (fun m => 3 - m) 0 ⟨by omega, rfl⟩ ⟨rfl, trivial⟩ rfl ?_
      rintro m ⟨hm, hnone⟩
      change OkC Try.prog _ _ _ _ _ _ _
      refine okc_seq ?_
      refine okc_region ?_
      refine s_cmpS rfl rfl rfl rfl rfl rfl rfl rfl (fun h12 => ?_) (fun h12 => ?_)
      · have hlt : m < 3 := by have hq := h12; simp at hq; omega
        refine okl_nil ?_
        change OkC Try.prog _ _ _ _ _ _ _
        refine okc_weak (l' := [(0, _), (1, _), (2, _), (3, _), (4, _), (5, _), (6, _), (17, _), (24, _), (25, _), (26, _)]) ⟨rfl, rfl, rfl, rfl, rfl, rfl, rfl, rfl, rfl, rfl, rfl, trivial⟩ ?_
        refine okc_seq ?_
        refine okc_cond_t rfl ?_
        refine okc_skip ?_
        change OkC Try.prog _ _ _ _ _ _ _
        refine okc_weak (l' := [(0, _), (1, _), (2, _), (3, _), (4, _), (5, _), (6, _), (17, _), (24, _), (25, _), (26, _)]) ⟨rfl, rfl, rfl, rfl, rfl, rfl, rfl, rfl, rfl, rfl, rfl, trivial⟩ ?_
        refine okc_seq ?_
        refine okc_block ?_
        refine okc_seq ?_
        refine okc_region ?_
        refine s_move rfl rfl rfl rfl rfl rfl ?_
        refine s_assign rfl rfl rfl rfl rfl rfl ?_
        refine okl_nil ?_
        change OkC Try.prog _ _ _ _ _ _ _
        refine okc_weak (l' := [(0, _), (1, _), (2, _), (3, _), (4, _), (5, _), (6, _), (7, _), (17, _), (24, _), (25, _), (26, _)]) ⟨rfl, rfl, rfl, rfl, rfl, rfl, rfl, rfl, rfl, rfl, rfl, rfl, trivial⟩ ?_
        refine okc_seq ?_
        refine okc_region ?_
        refine s_loadW 1 rfl rfl rfl rfl rfl rfl rfl rfl rfl rfl ?_
        refine s_move rfl rfl rfl rfl rfl rfl ?_
        refine okl_rE rfl rfl rfl rfl (op_call rfl rfl rfl c95 (struck_fn s M hin hv m (by omega)) covers_all) (fun g hg => ?_)
        rcases hst : strF s m 0 [] with _ | lf
        · rw [hst] at hg
          simp only [Option.isSome_none, Option.isSome_some, Option.getD_none, Option.getD_some]
          refine s_move rfl rfl rfl rfl rfl rfl ?_
          refine s_extract rfl rfl rfl rfl rfl rfl rfl ?_
          refine s_extract rfl rfl rfl rfl rfl rfl rfl ?_
          refine s_assign rfl rfl rfl rfl rfl rfl ?_
          refine s_assign rfl rfl rfl rfl rfl rfl ?_
          refine okl_nil ?_
          change OkC Try.prog _ _ _ _ _ _ _
          refine okc_weak (l' := [(0, _), (1, _), (2, _), (3, _), (4, _), (5, _), (6, _), (7, _), (8, _), (9, _), (17, _), (24, _), (25, _), (26, _)]) ⟨rfl, rfl, rfl, rfl, rfl, rfl, rfl, rfl, rfl, rfl, rfl, rfl, rfl, rfl, trivial⟩ ?_
          refine okc_seq ?_
          refine okc_region ?_
          refine s_move rfl rfl rfl rfl rfl rfl ?_
          refine okl_nil ?_
          change OkC Try.prog _ _ _ _ _ _ _
          refine okc_weak (l' := [(0, _), (1, _), (2, _), (3, _), (4, _), (5, _), (6, _), (7, _), (8, _), (9, _), (17, _), (24, _), (25, _), (26, _), (34, _)]) ⟨rfl, rfl, rfl, rfl, rfl, rfl, rfl, rfl, rfl, rfl, rfl, rfl, rfl, rfl, rfl, trivial⟩ ?_
          refine okc_cond_f rfl ?_
          refine okc_skip ?_
          change OkC Try.prog _ _ _ _ _ _ _
          refine okc_weak (l' := [(0, _), (1, _), (2, _), (3, _), (4, _), (5, _), (6, _), (7, _), (8, _), (9, _), (17, _), (24, _), (25, _), (26, _), (34, _)]) ⟨rfl, rfl, rfl, rfl, rfl, rfl, rfl, rfl, rfl, rfl, rfl, rfl, rfl, rfl, rfl, trivial⟩ ?_
          refine okc_region ?_
          refine s_add rfl rfl rfl rfl rfl rfl rfl (by omega) ?_
          refine s_move rfl rfl rfl rfl rfl rfl ?_
          refine okl_nil ?_
          refine fun a w hs => ⟨m + 1, ⟨by omega, by rw [first3_succ, hnone, hst]; rfl⟩, by omega, ?_⟩
          exact hs.weak ⟨rfl, rfl, rfl, rfl, rfl, rfl, rfl, rfl, rfl, rfl, trivial⟩ [0, 1, 2] (by decide) (rfl)
        · rw [hst] at hg
          simp only [Option.isSome_none, Option.isSome_some, Option.getD_none, Option.getD_some]
          refine s_move rfl rfl rfl rfl rfl rfl ?_
          refine s_extract rfl rfl rfl rfl rfl rfl rfl ?_
          refine s_extract rfl rfl rfl rfl rfl rfl rfl ?_
          refine s_assign rfl rfl rfl rfl rfl rfl ?_
          refine s_assign rfl rfl rfl rfl rfl rfl ?_
          refine okl_nil ?_
          change OkC Try.prog _ _ _ _ _ _ _
          refine okc_weak (l' := [(0, _), (1, _), (2, _), (3, _), (4, _), (5, _), (6, _), (7, _), (8, _), (9, _), (17, _), (24, _), (25, _), (26, _)]) ⟨rfl, rfl, rfl, rfl, rfl, rfl, rfl, rfl, rfl, rfl, rfl, rfl, rfl, rfl, trivial⟩ ?_
          refine okc_seq ?_
          refine okc_region ?_
          refine s_move rfl rfl rfl rfl rfl rfl ?_
          refine okl_nil ?_
          change OkC Try.prog _ _ _ _ _ _ _
          refine okc_weak (l' := [(0, _), (1, _), (2, _), (3, _), (4, _), (5, _), (6, _), (7, _), (8, _), (9, _), (17, _), (24, _), (25, _), (26, _), (34, _)]) ⟨rfl, rfl, rfl, rfl, rfl, rfl, rfl, rfl, rfl, rfl, rfl, rfl, rfl, rfl, rfl, trivial⟩ ?_
          refine okc_cond_t rfl ?_
          refine okc_seq ?_
          refine okc_region ?_
          refine s_move rfl rfl rfl rfl rfl rfl ?_
          refine s_assign rfl rfl rfl rfl rfl rfl ?_
          refine s_assign rfl rfl rfl rfl rfl rfl ?_
          refine okl_nil ?_
          change OkC Try.prog _ _ _ _ _ _ _
          refine okc_weak (l' := [(0, _), (1, _), (2, _), (3, _), (4, _), (5, _), (6, _), (7, _), (8, _), (9, _), (17, _), (24, _), (25, _), (26, _), (34, _)]) ⟨rfl, rfl, rfl, rfl, rfl, rfl, rfl, rfl, rfl, rfl, rfl, rfl, rfl, rfl, rfl, trivial⟩ ?_
          refine okc_ret fun a w hs => ?_
          have hf := first_some hlt hnone hst
          have hwl : wrL s = lf := by simp [wrL, hv, hc, hf]
          have hwe : wrE s = 0 := by simp [wrE, hv, hc, hf]
          exact ret_postS hs (run_results2 hs rfl (rv_tmp rfl) (rv_tmp rfl)) ⟨g.p, g.c, g.B⟩ (by rw [hwl, hwe]; rfl) (by rw [hwl]; exact hg) (sub_drop 3 rfl)
      · have hge : ¬ m < 3 := by have hq := h12; simp at hq; omega
        obtain rfl : m = 3 := by omega
        refine okl_nil ?_
        change OkC Try.prog _ _ _ _ _ _ _
        refine okc_weak (l' := [(0, _), (1, _), (2, _), (3, _), (4, _), (5, _), (6, _), (17, _), (24, _), (25, _), (26, _)]) ⟨rfl, rfl, rfl, rfl, rfl, rfl, rfl, rfl, rfl, rfl, rfl, trivial⟩ ?_
        refine okc_seq ?_
        refine okc_cond_f rfl ?_
        refine okc_exit ?_
        change OkC Try.prog _ _ _ _ _ _ _
        refine okc_weak (l' := [(0, _), (1, _), (2, _), (3, _), (4, _), (5, _), (6, _), (17, _), (24, _), (25, _), (26, _)]) ⟨rfl, rfl, rfl, rfl, rfl, rfl, rfl, rfl, rfl, rfl, rfl, trivial⟩ ?_
        refine okc_seq ?_
        refine okc_region ?_
        refine s_assign rfl rfl rfl rfl rfl rfl ?_
        refine s_assign rfl rfl rfl rfl rfl rfl ?_
        refine okl_nil ?_
        change OkC Try.prog _ _ _ _ _ _ _
        refine okc_weak (l' := [(0, _), (1, _), (2, _), (3, _), (4, _), (5, _), (6, _), (17, _), (24, _), (25, _), (26, _)]) ⟨rfl, rfl, rfl, rfl, rfl, rfl, rfl, rfl, rfl, rfl, rfl, trivial⟩ ?_
        refine okc_ret fun a w hs => ?_
        have hwl : wrL s = [] := by simp [wrL, hv, hc, hnone]
        have hwe : wrE s = 4 := by simp [wrE, hv, hc, hnone]
        exact ret_postS hs (run_results2 hs rfl (rv_tmp rfl) (rv_tmp rfl)) SlG.nil (by rw [hwl, hwe]; rfl) (by rw [hwl]; exact Sl.nil 3 1) (List.nil_sublist _)
    · refine s_not rfl rfl rfl rfl rfl rfl ?_
      refine okl_nil ?_
      change OkC Try.prog _ _ _ _ _ _ _
      refine okc_weak (l' := [(0, _), (1, _), (2, _), (3, _), (4, _), (5, _), (6, _), (17, _), (24, _)]) ⟨rfl, rfl, rfl, rfl, rfl, rfl, rfl, rfl, rfl, trivial⟩ ?_
      refine okc_cond_t rfl ?_
      refine okc_seq ?_
      refine okc_region ?_
      refine s_assign rfl rfl rfl rfl rfl rfl ?_
      refine s_assign rfl rfl rfl rfl rfl rfl ?_
      refine okl_nil ?_
      change OkC Try.prog _ _ _ _ _ _ _
      refine okc_weak (l' := [(0, _), (1, _), (2, _), (3, _), (4, _), (5, _), (6, _), (17, _), (24, _)]) ⟨rfl, rfl, rfl, rfl, rfl, rfl, rfl, rfl, rfl, trivial⟩ ?_
      refine okc_ret fun a w hs => ?_
      exact ret_postS hs (run_results2 hs rfl (rv_tmp rfl) (rv_tmp rfl)) SlG.nil (by simp [wrE, wrL, hv, hc, SlG.nil]) (by simp only [wrL, hv, hc, if_true]; exact Sl.nil 3 1) (List.nil_sublist _)

theorem Wrong_fn (s : Sp) (M : Args) (hin : s.In M) : Cn Try.prog 46 [spV s] M (fun g : SlG => .tuple #[.slice g.p (wrL s).length g.c, .int .i64 (wrE s)]) (fun g => g.B) (fun g => Sl g.B 3 1 g.p (wrL s).length g.c (ints (wrL s))) := by
  by_cases hb : beginS s qz [] = 0
  · exact Wrong_ok s M hin hb
  · have hv : validB s = false := by
      cases h : validB s with
      | false => rfl
      | true => exact absurd (by rw [begin_nil, ckS, if_pos h]) hb
    have he : beginS s qz [] = 10 := by rw [begin_nil, ckS]; simp [hv]
    intro w0 hM
    refine (Wrong_no s M hin hb w0 hM).mono ?_
    rintro e w' ⟨v, hev, hbl, _, hvv, _⟩
    have hwl : wrL s = [] := by simp [wrL, hv]
    have hwe : wrE s = 10 := by simp [wrE, hv]
    rw [hwl, hwe]
    rw [he] at hvv
    exact ⟨v, hev, hbl, SlG.nil, hvv, Sl.nil 3 1, res_nil w0 w'⟩

end Go.Proofs.Ytdpnadknaacinaa
end

section
namespace Go.Proofs.Ytdpnadknaacinaa
open Go.Sx Go.Proofs.Ytdpnadknaacinaa.Ty
set_option linter.unusedVariables false
set_option linter.unusedSimpArgs false
set_option maxHeartbeats 2000000


theorem ints_flat (l : List Int) : flat (ints l) = true := by
  unfold flat ints; rw [List.all_eq_true]; intro v hv
  obtain ⟨x, _, rfl⟩ := List.mem_map.1 hv
  rfl
theorem sl_lies {B keep : Blks} {M : Args} {q : Option Addr} {c : Nat} {l : List Int} (h : Sl B 3 1 q l.length c (ints l)) (hk : ∀ x ∈ B, x ∈ keep) : (l.length = 0 ∧ ints l = []) ∨ (0 < l.length ∧ ∃ bx ox, q = some ⟨bx, ox, none⟩ ∧ Lies keep M bx ox (ints l)) := by
  cases l with
  | nil => exact .inl ⟨rfl, rfl⟩
  | cons x l =>
    obtain ⟨b, cs, hp, hB, ht⟩ := sl_pos h (by simp)
    refine .inr ⟨by simp, b, 0, hp, cs, .inl ⟨3, hk _ (by simp [hB])⟩, fun j v hv => ?_⟩
    rw [← ht, List.getElem?_take] at hv
    split at hv
    · rw [Nat.zero_add]; exact hv
    · cases hv
/-- What the reference's search owes: it takes the list, and hands one back. -/
def StC (s : Sp) (M : Args) (m fr : Nat) (l : List Int) (q : Option Addr) (c : Nat) (B : Blks) : Prop :=
  CnF Try.prog 96 [spV s, .int .i64 (m : Int), .int .i64 (fr : Int), .slice q l.length c] M [] B
    (fun g : SlG => .tuple #[.slice g.p (if m = 0 then l else (strF s m fr l).getD []).length g.c, .bool (strF s m fr l).isSome]) (fun g => g.B)
    (fun g => Sl g.B 3 1 g.p (if m = 0 then l else (strF s m fr l).getD []).length g.c (ints (if m = 0 then l else (strF s m fr l).getD [])))

theorem rst0 (s : Sp) (M : Args) (hin : s.In M) (hv : validB s = true)  (fr : Nat) (l : List Int) (q : Option Addr) (c : Nat) (B : Blks) (hfr : fr ≤ s.reads.length) (hm : l.length + 0 ≤ 2) (hsl : Sl B 3 1 q l.length c (ints l)) : StC s M (0) fr l q c B := by
  have hs0 := ok_of_valid hv
  have hgr : s.book.length ≤ 30 ∧ s.reads.length ≤ 30 := valid_len hv
  obtain ⟨bR, oR, cR, jR, hR⟩ := hin.reads
  refine fn_introF (n := 50) Try.func96 rfl rfl rfl fun w0 => ?_
  refine okc_seq ?_
  refine okc_region ?_
  refine s_boxA rfl rfl rfl rfl rfl rfl (fun b1 => ?_)
  refine s_assign rfl rfl rfl rfl rfl rfl ?_
  refine s_assign rfl rfl rfl rfl rfl rfl ?_
  refine okl_nil ?_
  change OkC Try.prog _ _ _ _ _ _ _
  refine okc_weak (l' := [(0, _), (1, _), (2, _), (3, _), (4, _), (8, _), (9, _)]) ⟨rfl, rfl, rfl, rfl, rfl, rfl, rfl, trivial⟩ ?_
  refine okc_seq ?_
  refine okc_seq ?_
  refine okc_region ?_
  refine s_move rfl rfl rfl rfl rfl rfl ?_
  refine s_cmpS rfl rfl rfl rfl rfl rfl rfl rfl (fun h2 => ?_) (fun h2 => ?_)
  · refine okl_nil ?_
    change OkC Try.prog _ _ _ _ _ _ _
    refine okc_weak (l' := [(0, _), (1, _), (2, _), (3, _), (4, _), (8, _), (9, _), (14, _)]) ⟨rfl, rfl, rfl, rfl, rfl, rfl, rfl, rfl, trivial⟩ ?_
    refine okc_cond_t rfl ?_
    refine okc_seq ?_
    refine okc_region ?_
    refine s_move rfl rfl rfl rfl rfl rfl ?_
    refine s_loadW 0 rfl rfl rfl rfl rfl rfl rfl rfl rfl rfl ?_
    refine s_move rfl rfl rfl rfl rfl rfl ?_
    have hni : IntsIn (argsOf B ++ M) q l := (ints_in hsl (fun x hx => hx) (by omega)).mono (fun x hx => List.mem_append_left _ hx)
    refine okl_rE rfl rfl rfl rfl (op_call rfl rfl rfl c94 (rWithout_fn s (argsOf B ++ M) (hin.mono (fun x hx => List.mem_append_right _ hx)) hgr l q c hni) (covers_two (covers_grp fun x hx => List.mem_cons_of_mem _ hx) covers_all)) (fun gg hgg => ?_)
    have hcn : Cn Try.prog 64 [spV (twS (wtS s l) gg)] (argsOf (gg.B1 ++ gg.B2)) (fun _ : Unit => .bool (canS (wtS s l))) (fun _ => []) (fun _ => True) := True_fn (twS (wtS s l) gg) (argsOf (gg.B1 ++ gg.B2)) (tw_in (by show s.book.length ≤ _; omega) (by have := wt_len s l; omega) hgg) (ok_of_valid (by exact valid_wt hv))
    refine s_callv rfl rfl rfl rfl rfl rfl rfl c64 hcn (covers_grp fun y hy => List.mem_append_right _ hy) ?_
    refine s_assign rfl rfl rfl rfl rfl rfl ?_
    refine s_assign rfl rfl rfl rfl rfl rfl ?_
    refine okl_nil ?_
    change OkC Try.prog _ _ _ _ _ _ _
    refine okc_weak (l' := [(0, _), (1, _), (2, _), (3, _), (4, _), (8, _), (9, _), (14, _)]) ⟨rfl, rfl, rfl, rfl, rfl, rfl, rfl, rfl, trivial⟩ ?_
    refine okc_ret fun a w hs => ?_
    exact ret_postF hs (run_results2 hs rfl (rv_tmp rfl) (rv_tmp rfl)) ⟨q, c, B⟩ (by simp only [strF, if_true]; cases canS (wtS s l) <;> rfl) (by simpa using hsl) ((List.sublist_append_left B _).trans (sub_drop 1 rfl))
  · exact absurd h2 (by simp) --closed
theorem rstS (s : Sp) (M : Args) (hin : s.In M) (hv : validB s = true) (m : Nat) (ih : ∀ (fr : Nat) (l : List Int) (q : Option Addr) (c : Nat) (B : Blks), fr ≤ s.reads.length → l.length + m ≤ 2 → Sl B 3 1 q l.length c (ints l) → StC s M m fr l q c B) (fr : Nat) (l : List Int) (q : Option Addr) (c : Nat) (B : Blks) (hfr : fr ≤ s.reads.length) (hm : l.length + (m + 1) ≤ 2) (hsl : Sl B 3 1 q l.length c (ints l)) : StC s M ((m + 1)) fr l q c B := by
  have hs0 := ok_of_valid hv
  have hgr : s.book.length ≤ 30 ∧ s.reads.length ≤ 30 := valid_len hv
  obtain ⟨bR, oR, cR, jR, hR⟩ := hin.reads
  have hlies : ∀ keep : Blks, (∀ x ∈ B, x ∈ keep) → (l.length = 0 ∧ ints l = []) ∨ (0 < l.length ∧ ∃ bx ox, q = some ⟨bx, ox, none⟩ ∧ Lies keep M bx ox (ints l)) := fun keep hk => sl_lies hsl hk
  refine fn_introF (n := 50) Try.func96 rfl rfl rfl fun w0 => ?_
  refine okc_seq ?_
  refine okc_region ?_
  refine s_boxA rfl rfl rfl rfl rfl rfl (fun b3 => ?_)
  refine s_assign rfl rfl rfl rfl rfl rfl ?_
  refine s_assign rfl rfl rfl rfl rfl rfl ?_
  refine okl_nil ?_
  change OkC Try.prog _ _ _ _ _ _ _
  refine okc_weak (l' := [(0, _), (1, _), (2, _), (3, _), (4, _), (8, _), (9, _)]) ⟨rfl, rfl, rfl, rfl, rfl, rfl, rfl, trivial⟩ ?_
  refine okc_seq ?_
  refine okc_seq ?_
  refine okc_region ?_
  refine s_move rfl rfl rfl rfl rfl rfl ?_
  refine s_cmpS rfl rfl rfl rfl rfl rfl rfl rfl (fun h4 => ?_) (fun h4 => ?_)
  · exact absurd h4 (by simp; omega) --closed
  · refine okl_nil ?_
    change OkC Try.prog _ _ _ _ _ _ _
    refine okc_weak (l' := [(0, _), (1, _), (2, _), (3, _), (4, _), (8, _), (9, _), (14, _)]) ⟨rfl, rfl, rfl, rfl, rfl, rfl, rfl, rfl, trivial⟩ ?_
    refine okc_cond_f rfl ?_
    refine okc_skip ?_
    change OkC Try.prog _ _ _ _ _ _ _
    refine okc_weak (l' := [(0, _), (1, _), (2, _), (3, _), (4, _), (8, _), (9, _), (14, _)]) ⟨rfl, rfl, rfl, rfl, rfl, rfl, rfl, rfl, trivial⟩ ?_
    refine okc_seq ?_
    refine okc_seq ?_
    refine okc_region ?_
    refine s_move rfl rfl rfl rfl rfl rfl ?_
    refine s_assign rfl rfl rfl rfl rfl rfl ?_
    refine okl_nil ?_
    change OkC Try.prog _ _ _ _ _ _ _
    refine okc_weak (l' := [(0, _), (1, _), (2, _), (3, _), (4, _), (8, _), (9, _), (10, _), (14, _)]) ⟨rfl, rfl, rfl, rfl, rfl, rfl, rfl, rfl, rfl, trivial⟩ ?_
    refine okc_block ?_
    refine okc_loopH (γ := Nat) [(0, _), (1, _), (2, _), (3, _), (4, _), (8, _), (9, _), (14, _)] ⟨rfl, rfl, rfl, rfl, rfl, rfl, rfl, rfl, trivial⟩ [0] [] (by decide) [_] [] _ rfl (fun i => [(10, .int .i64 (i : Int))]) (fun i => []) (fun i => B) (fun i => fr ≤ i ∧ i ≤ s.reads.length ∧ ∀ j, fr ≤ j → j < i → strF s m (j + 1) (l ++ [numAt s j]) = none) (fun i => s.reads.length - i) fr ⟨Nat.le_refl _, hfr, fun j h1 h2 => by omega⟩ ⟨rfl, trivial⟩ rfl rfl ?_
    rintro i ⟨hfi, hil, hnone⟩
    change OkC Try.prog _ _ _ _ _ _ _
    refine okc_seq ?_
    refine okc_seq ?_
    refine okc_region ?_
    refine s_move rfl rfl rfl rfl rfl rfl ?_
    refine s_field rfl rfl rfl rfl rfl rfl rfl rfl ?_
    refine s_load1 0 rfl rfl rfl rfl rfl rfl rfl rfl rfl ?_
    refine s_len rfl rfl rfl rfl rfl rfl rfl ?_
    refine s_cmpS rfl rfl rfl rfl rfl rfl rfl rfl (fun h5 => ?_) (fun h5 => ?_)
    · have hlt : i < s.reads.length := by simpa using h5
      obtain ⟨x, hx⟩ : ∃ x, s.reads[i]? = some x := ⟨s.reads[i], by simp [hlt]⟩
      obtain ⟨hpR, hjR, hatR⟩ := hR (by intro e; simp [e] at hlt)
      have hcell := hatR i x hx
      have hnum : cR[oR + i * 5 + 0]? = some (.int .i64 x.number) := sub_at hcell 0 (by decide)
      have hnx := numAt_eq hx
      refine okl_nil ?_
      change OkC Try.prog _ _ _ _ _ _ _
      refine okc_weak (l' := [(0, _), (1, _), (2, _), (3, _), (4, _), (8, _), (9, _), (10, _), (14, _), (25, _)]) ⟨rfl, rfl, rfl, rfl, rfl, rfl, rfl, rfl, rfl, rfl, trivial⟩ ?_
      refine okc_cond_t rfl ?_
      refine okc_skip ?_
      change OkC Try.prog _ _ _ _ _ _ _
      refine okc_weak (l' := [(0, _), (1, _), (2, _), (3, _), (4, _), (8, _), (9, _), (10, _), (14, _), (25, _)]) ⟨rfl, rfl, rfl, rfl, rfl, rfl, rfl, rfl, rfl, rfl, trivial⟩ ?_
      refine okc_seq ?_
      refine okc_block ?_
      refine okc_seq ?_
      refine okc_drawz [29, 30, 31, 32, 33, 34, 35, 36, 37, 38, 39, 40, 41, 42, 43, 44, 45, 28, 46, 47, 11] [19, 20] [⟨some 29, [], [], fun _ v B => v = spV s ∧ B = []⟩, ⟨some 30, [], [], fun _ v B => v = .int .i64 ((m + 1 : Nat) : Int) ∧ B = []⟩, ⟨some 31, [1], [], fun _ v B => v = .int .i64 (m : Int) ∧ B = []⟩, ⟨some 32, [], [], fun _ v B => v = .int .i64 (i : Int) ∧ B = []⟩, ⟨some 33, [3], [], fun _ v B => v = .int .i64 ((i + 1 : Nat) : Int) ∧ B = []⟩, ⟨some 34, [], [], fun _ v B => ∃ b, v = .slice (some ⟨b, 0, none⟩) 0 0 ∧ B = [(b, [], 3)] ∧ True⟩, ⟨some 35, [], [], fun _ v B => v = .slice q l.length c ∧ B = []⟩, ⟨some 36, [5, 6], [], fun _ v B => ∃ p c, v = .slice p l.length c ∧ Sl B 3 1 p l.length c (ints l)⟩, ⟨some 37, [], [], fun _ v B => v = .pointer (some ⟨b3, 0 + 8, none⟩) ∧ B = []⟩, ⟨some 38, [8], [], fun _ v B => v = .slice s.rp s.reads.length s.rc ∧ B = []⟩, ⟨some 39, [], [], fun _ v B => v = .int .i64 (i : Int) ∧ B = []⟩, ⟨some 40, [9, 10], [], fun _ v B => v = .pointer (some ⟨bR, oR + i * 5, none⟩) ∧ B = []⟩, ⟨some 41, [11], [], fun _ v B => v = .pointer (some ⟨bR, oR + i * 5 + 0, none⟩) ∧ B = []⟩, ⟨some 42, [12], [], fun _ v B => v = .int .i64 x.number ∧ B = []⟩, ⟨some 43, [13], [], fun _ v B => ∃ b, v = .slice (some ⟨b, 0, none⟩) 1 1 ∧ B = [(b, [.int .i64 x.number], 3)] ∧ True⟩, ⟨some 44, [7, 14], [], fun _ v B => ∃ p c, v = .slice p (l ++ [x.number]).length c ∧ Sl B 3 1 p (l ++ [x.number]).length c (ints (l ++ [x.number]))⟩, ⟨some 45, [0, 2, 4, 15], [], fun _ v B => ∃ g : SlG, v = .tuple #[.slice g.p (if m = 0 then l ++ [x.number] else (strF s m (i + 1) (l ++ [x.number])).getD []).length g.c, .bool (strF s m (i + 1) (l ++ [x.number])).isSome] ∧ B = g.B ∧ Sl g.B 3 1 g.p (if m = 0 then l ++ [x.number] else (strF s m (i + 1) (l ++ [x.number])).getD []).length g.c (ints (if m = 0 then l ++ [x.number] else (strF s m (i + 1) (l ++ [x.number])).getD []))⟩, ⟨some 28, [16], [], fun ρs v B => ∃ g : SlG, ρs.map (·.1) = [v] ∧ v = .tuple #[.slice g.p (if m = 0 then l ++ [x.number] else (strF s m (i + 1) (l ++ [x.number])).getD []).length g.c, .bool (strF s m (i + 1) (l ++ [x.number])).isSome] ∧ B = []⟩, ⟨some 46, [17], [], fun ρs v B => ∃ g : SlG, ρs.map (·.1) = [.tuple #[.slice g.p (if m = 0 then l ++ [x.number] else (strF s m (i + 1) (l ++ [x.number])).getD []).length g.c, .bool (strF s m (i + 1) (l ++ [x.number])).isSome]] ∧ v = .slice g.p (if m = 0 then l ++ [x.number] else (strF s m (i + 1) (l ++ [x.number])).getD []).length g.c ∧ B = []⟩, ⟨some 47, [17], [], fun _ v B => v = .bool (strF s m (i + 1) (l ++ [x.number])).isSome ∧ B = []⟩, ⟨some 11, [18], [], fun ρs v B => ∃ g : SlG, ρs.map (·.1) = [v] ∧ v = .slice g.p (if m = 0 then l ++ [x.number] else (strF s m (i + 1) (l ++ [x.number])).getD []).length g.c ∧ B = []⟩] (fun j k => (Nat.beq j 7 && Nat.beq k 5) || (Nat.beq j 15 && Nat.beq k 7) || (Nat.beq j 16 && Nat.beq k 15)) rfl 21 14 (fun _ _ => ([(b3, [.int .i64 s.weeks, .int .i64 s.most, .int .i64 s.fall, .int .i64 s.slo, .int .i64 s.shi, .int .i64 s.wlo, .int .i64 s.whi, .slice s.bp s.book.length s.bc, .slice s.rp s.reads.length s.rc], 27)] ++ ([] ++ B))) rfl rfl rfl rfl rfl rfl rfl (perm_nil _) ⟨?_, ?_, ?_, ?_, ?_, ?_, ?_, ?_, ?_, ?_, ?_, ?_, ?_, ?_, ?_, ?_, ?_, ?_, ?_, ?_, ?_, trivial⟩ (fun ρ hρ => ?_) rfl
      · refine obl_zs rfl rfl rfl rfl (fun ρ hρ => ?_)
        exact .inl ⟨rfl, opx_v (fun F => k_loadW 0 rfl rfl rfl rfl rfl rfl)⟩
      · refine obl_zs rfl rfl rfl rfl (fun ρ hρ => ?_)
        exact .inl ⟨rfl, opx_v (fun F => op_move rfl rfl)⟩
      · refine obl_zs rfl rfl rfl rfl (fun ρ hρ => ?_)
        have h1 := hρ 1 (by simp) _ rfl
        change GoodX Try.prog _ _ _ _ ((30, (ρ 1).1) :: _) ([] ++ []) (((ρ 1).2 ++ []) ++ _) _ _
        generalize ρ 1 = q1 at h1 ⊢
        obtain ⟨v1, B1⟩ := q1
        obtain ⟨rfl, rfl⟩ := h1
        exact .inl ⟨rfl, (opx_v (fun F => op_sub rfl rfl rfl (by omega))).mono (by rintro v B ⟨rfl, rfl⟩; exact ⟨congrArg (Value.int .i64) (by omega), rfl⟩)⟩
      · refine obl_zs rfl rfl rfl rfl (fun ρ hρ => ?_)
        exact .inl ⟨rfl, opx_v (fun F => op_move rfl rfl)⟩
      · refine obl_zs rfl rfl rfl rfl (fun ρ hρ => ?_)
        have h3 := hρ 3 (by simp) _ rfl
        change GoodX Try.prog _ _ _ _ ((32, (ρ 3).1) :: _) ([] ++ []) (((ρ 3).2 ++ []) ++ _) _ _
        generalize ρ 3 = q3 at h3 ⊢
        obtain ⟨v3, B3⟩ := q3
        obtain ⟨rfl, rfl⟩ := h3
        exact .inl ⟨rfl, (opx_v (fun F => op_add rfl rfl rfl (by omega))).mono (by rintro v B ⟨rfl, rfl⟩; exact ⟨congrArg (Value.int .i64) (by omega), rfl⟩)⟩
      · refine obl_zs rfl rfl rfl rfl (fun ρ hρ => ?_)
        exact .inl ⟨rfl, opx_r (fun F => k_slice0 rfl rfl rfl)⟩
      · refine obl_zs rfl rfl rfl rfl (fun ρ hρ => ?_)
        exact .inl ⟨rfl, opx_v (fun F => op_move rfl rfl)⟩
      · refine obl_zs rfl rfl rfl rfl (fun ρ hρ => ?_)
        have h5 := hρ 5 (by simp) _ rfl
        have h6 := hρ 6 (by simp) _ rfl
        change GoodX Try.prog _ _ _ _ ((34, (ρ 5).1) :: (35, (ρ 6).1) :: _) ([] ++ ((ρ 5).2 ++ [])) (((ρ 6).2 ++ []) ++ _) _ _
        generalize ρ 5 = q5 at h5 ⊢
        obtain ⟨v5, B5⟩ := q5
        obtain ⟨b85, rfl, rfl, _⟩ := h5
        generalize ρ 6 = q6 at h6 ⊢
        obtain ⟨v6, B6⟩ := q6
        obtain ⟨rfl, rfl⟩ := h6
        exact .inl ⟨rfl, (k_append (Sl.lit (n := 0) (cs := []) rfl (by decide)) by3 rfl rfl rfl rfl rfl rfl rfl rfl (hlies _ (fun y hy => by simp [hy])) (by simp [ints]) (ints_flat l) (by omega)).mono (by rintro v B ⟨p, c, rfl, h⟩; exact ⟨p, c, by rw [Nat.zero_add], by rw [Nat.zero_add] at h; exact h⟩)⟩
      · refine obl_zs rfl rfl rfl rfl (fun ρ hρ => ?_)
        exact .inl ⟨rfl, opx_v (fun F => k_field rfl rfl rfl rfl)⟩
      · refine obl_zs rfl rfl rfl rfl (fun ρ hρ => ?_)
        have h8 := hρ 8 (by simp) _ rfl
        change GoodX Try.prog _ _ _ _ ((37, (ρ 8).1) :: _) ([] ++ []) (((ρ 8).2 ++ []) ++ _) _ _
        generalize ρ 8 = q8 at h8 ⊢
        obtain ⟨v8, B8⟩ := q8
        obtain ⟨rfl, rfl⟩ := h8
        exact .inl ⟨rfl, opx_v (fun F => k_load1 0 rfl rfl rfl rfl rfl)⟩
      · refine obl_zs rfl rfl rfl rfl (fun ρ hρ => ?_)
        exact .inl ⟨rfl, opx_v (fun F => op_move rfl rfl)⟩
      · refine obl_zs rfl rfl rfl rfl (fun ρ hρ => ?_)
        have h9 := hρ 9 (by simp) _ rfl
        have h10 := hρ 10 (by simp) _ rfl
        change GoodX Try.prog _ _ _ _ ((38, (ρ 9).1) :: (39, (ρ 10).1) :: _) ([] ++ []) (((ρ 9).2 ++ ((ρ 10).2 ++ [])) ++ _) _ _
        generalize ρ 9 = q9 at h9 ⊢
        obtain ⟨v9, B9⟩ := q9
        obtain ⟨rfl, rfl⟩ := h9
        generalize ρ 10 = q10 at h10 ⊢
        obtain ⟨v10, B10⟩ := q10
        obtain ⟨rfl, rfl⟩ := h10
        exact .inl ⟨rfl, opx_v (fun F => k_indexS (j := i) rfl (congrArg (fun z => some (Value.slice z s.reads.length s.rc)) hpR) rfl rfl rfl rfl (by omega) rfl)⟩
      · refine obl_zs rfl rfl rfl rfl (fun ρ hρ => ?_)
        have h11 := hρ 11 (by simp) _ rfl
        change GoodX Try.prog _ _ _ _ ((40, (ρ 11).1) :: _) ([] ++ []) (((ρ 11).2 ++ []) ++ _) _ _
        generalize ρ 11 = q11 at h11 ⊢
        obtain ⟨v11, B11⟩ := q11
        obtain ⟨rfl, rfl⟩ := h11
        exact .inl ⟨rfl, opx_v (fun F => k_field rfl rfl rfl rfl)⟩
      · refine obl_zs rfl rfl rfl rfl (fun ρ hρ => ?_)
        have h12 := hρ 12 (by simp) _ rfl
        change GoodX Try.prog _ _ _ _ ((41, (ρ 12).1) :: _) ([] ++ []) (((ρ 12).2 ++ []) ++ _) _ _
        generalize ρ 12 = q12 at h12 ⊢
        obtain ⟨v12, B12⟩ := q12
        obtain ⟨rfl, rfl⟩ := h12
        exact .inl ⟨rfl, opx_v (fun F => k_loadA1 jR rfl rfl hjR rfl hnum)⟩
      · refine obl_zs rfl rfl rfl rfl (fun ρ hρ => ?_)
        have h13 := hρ 13 (by simp) _ rfl
        change GoodX Try.prog _ _ _ _ ((42, (ρ 13).1) :: _) ([] ++ []) (((ρ 13).2 ++ []) ++ _) _ _
        generalize ρ 13 = q13 at h13 ⊢
        obtain ⟨v13, B13⟩ := q13
        obtain ⟨rfl, rfl⟩ := h13
        exact .inl ⟨rfl, opx_r (fun F => k_slice1 rfl rfl rfl rfl rfl rfl)⟩
      · refine obl_zs rfl rfl rfl rfl (fun ρ hρ => ?_)
        have h7 := hρ 7 (by simp) _ rfl
        have h14 := hρ 14 (by simp) _ rfl
        change GoodX Try.prog _ _ _ _ ((36, (ρ 7).1) :: (43, (ρ 14).1) :: _) ([] ++ ((ρ 7).2 ++ [])) (((ρ 14).2 ++ []) ++ _) _ _
        generalize ρ 7 = q7 at h7 ⊢
        obtain ⟨v7, B7⟩ := q7
        obtain ⟨p7, c7, rfl, hsl7⟩ := h7
        generalize ρ 14 = q14 at h14 ⊢
        obtain ⟨v14, B14⟩ := q14
        obtain ⟨b94, rfl, rfl, _⟩ := h14
        exact .inl ⟨rfl, (k_append1 0 (by simpa using hsl7) by3 rfl rfl rfl rfl rfl rfl rfl rfl rfl rfl rfl (by omega)).mono (by rintro v B ⟨p, c, rfl, h⟩; exact ⟨p, c, by simp, by rw [ints_snoc]; simpa using h⟩)⟩
      · refine obl_zs rfl rfl rfl rfl (fun ρ hρ => ?_)
        have h0 := hρ 0 (by simp) _ rfl
        have h2 := hρ 2 (by simp) _ rfl
        have h4 := hρ 4 (by simp) _ rfl
        have h15 := hρ 15 (by simp) _ rfl
        change GoodX Try.prog _ _ _ _ ((29, (ρ 0).1) :: (31, (ρ 2).1) :: (33, (ρ 4).1) :: (44, (ρ 15).1) :: _) ([] ++ ((ρ 15).2 ++ [])) (((ρ 0).2 ++ ((ρ 2).2 ++ ((ρ 4).2 ++ []))) ++ _) _ _
        generalize ρ 0 = q0 at h0 ⊢
        obtain ⟨v0, B0⟩ := q0
        obtain ⟨rfl, rfl⟩ := h0
        generalize ρ 2 = q2 at h2 ⊢
        obtain ⟨v2, B2⟩ := q2
        obtain ⟨rfl, rfl⟩ := h2
        generalize ρ 4 = q4 at h4 ⊢
        obtain ⟨v4, B4⟩ := q4
        obtain ⟨rfl, rfl⟩ := h4
        generalize ρ 15 = q15 at h15 ⊢
        obtain ⟨v15, B15⟩ := q15
        obtain ⟨p15, c15, rfl, hsl15⟩ := h15
        exact .inl ⟨rfl, (opx_callF rfl rfl rfl c96 (by have h := ih (i + 1) (l ++ [x.number]) p15 c15 B15 hlt (by simp; omega) hsl15; unfold StC at h; simpa using h) covers_all (fun b es c h => by cases h)).mono (by rintro v B ⟨g, rfl, h, rfl⟩; exact ⟨g, rfl, rfl, h⟩)⟩
      · refine obl_zs rfl rfl rfl rfl (fun ρ hρ => ?_)
        have h16 := hρ 16 (by simp) _ rfl
        change GoodX Try.prog _ _ _ _ ((45, (ρ 16).1) :: _) ([] ++ []) (((ρ 16).2 ++ []) ++ _) _ _
        dsimp only [List.map]
        generalize ρ 16 = q16 at h16 ⊢
        obtain ⟨v16, B16⟩ := q16
        obtain ⟨g16, rfl, rfl, hg16⟩ := h16
        exact .inl ⟨rfl, (opx_v (fun F => op_move rfl rfl)).mono (by rintro v B ⟨rfl, rfl⟩; exact ⟨g16, rfl, rfl, rfl⟩)⟩
      · refine obl_zs rfl rfl rfl rfl (fun ρ hρ => ?_)
        have h17 := hρ 17 (by simp) _ rfl
        dsimp only [List.map] at h17
        change GoodX Try.prog _ _ _ _ ((28, (ρ 17).1) :: _) ([] ++ []) (((ρ 17).2 ++ []) ++ _) _ _
        dsimp only [List.map]
        generalize ρ 17 = q17 at h17 ⊢
        obtain ⟨v17, B17⟩ := q17
        obtain ⟨⟨p17, c17, X17⟩, he17, rfl, rfl⟩ := h17
        exact .inl ⟨rfl, (opx_v (fun F => op_extract rfl rfl rfl)).mono (by rintro v B ⟨rfl, rfl⟩; exact ⟨⟨p17, c17, X17⟩, rfl, rfl, rfl⟩)⟩
      · refine obl_zs rfl rfl rfl rfl (fun ρ hρ => ?_)
        have h17 := hρ 17 (by simp) _ rfl
        dsimp only [List.map] at h17
        change GoodX Try.prog _ _ _ _ ((28, (ρ 17).1) :: _) ([] ++ []) (((ρ 17).2 ++ []) ++ _) _ _
        generalize ρ 17 = q17 at h17 ⊢
        obtain ⟨v17, B17⟩ := q17
        obtain ⟨⟨p17, c17, X17⟩, he17, rfl, rfl⟩ := h17
        exact .inl ⟨rfl, opx_v (fun F => op_extract rfl rfl rfl)⟩
      · refine obl_zs rfl rfl rfl rfl (fun ρ hρ => ?_)
        have h18 := hρ 18 (by simp) _ rfl
        dsimp only [List.map] at h18
        change GoodX Try.prog _ _ _ _ ((46, (ρ 18).1) :: _) ([] ++ []) (((ρ 18).2 ++ []) ++ _) _ _
        dsimp only [List.map]
        generalize ρ 18 = q18 at h18 ⊢
        obtain ⟨v18, B18⟩ := q18
        obtain ⟨⟨p18, c18, X18⟩, he18, rfl, rfl⟩ := h18
        exact .inl ⟨rfl, (opx_v (fun F => op_assign rfl rfl)).mono (by rintro v B ⟨rfl, rfl⟩; exact ⟨⟨p18, c18, X18⟩, rfl, rfl, rfl⟩)⟩
      have h0 := hρ 0 (by decide) _ rfl
      have h1 := hρ 1 (by decide) _ rfl
      have h2 := hρ 2 (by decide) _ rfl
      have h3 := hρ 3 (by decide) _ rfl
      have h4 := hρ 4 (by decide) _ rfl
      have h5 := hρ 5 (by decide) _ rfl
      have h6 := hρ 6 (by decide) _ rfl
      have h7 := hρ 7 (by decide) _ rfl
      have h8 := hρ 8 (by decide) _ rfl
      have h9 := hρ 9 (by decide) _ rfl
      have h10 := hρ 10 (by decide) _ rfl
      have h11 := hρ 11 (by decide) _ rfl
      have h12 := hρ 12 (by decide) _ rfl
      have h13 := hρ 13 (by decide) _ rfl
      have h14 := hρ 14 (by decide) _ rfl
      have h15 := hρ 15 (by decide) _ rfl
      have h16 := hρ 16 (by decide) _ rfl
      have h17 := hρ 17 (by decide) _ rfl
      dsimp only [List.map] at h17
      have h18 := hρ 18 (by decide) _ rfl
      dsimp only [List.map] at h18
      have h19 := hρ 19 (by decide) _ rfl
      have h20 := hρ 20 (by decide) _ rfl
      dsimp only [List.map] at h20
      change Go.Sx.OkL Try.prog _ _ _ _ _ ((47, (ρ 19).1) :: (11, (ρ 20).1) :: _) (_ ++ ((ρ 0).2 ++ ((ρ 1).2 ++ ((ρ 2).2 ++ ((ρ 3).2 ++ ((ρ 4).2 ++ ([] ++ ((ρ 6).2 ++ ([] ++ ((ρ 8).2 ++ ((ρ 9).2 ++ ((ρ 10).2 ++ ((ρ 11).2 ++ ((ρ 12).2 ++ ((ρ 13).2 ++ ((ρ 14).2 ++ ([] ++ ((ρ 16).2 ++ ((ρ 17).2 ++ ((ρ 18).2 ++ ((ρ 19).2 ++ ((ρ 20).2 ++ [])))))))))))))))))))))) _
      generalize ρ 0 = q0 at *
      obtain ⟨v0, B0⟩ := q0
      obtain ⟨rfl, rfl⟩ := h0
      generalize ρ 1 = q1 at *
      obtain ⟨v1, B1⟩ := q1
      obtain ⟨rfl, rfl⟩ := h1
      generalize ρ 2 = q2 at *
      obtain ⟨v2, B2⟩ := q2
      obtain ⟨rfl, rfl⟩ := h2
      generalize ρ 3 = q3 at *
      obtain ⟨v3, B3⟩ := q3
      obtain ⟨rfl, rfl⟩ := h3
      generalize ρ 4 = q4 at *
      obtain ⟨v4, B4⟩ := q4
      obtain ⟨rfl, rfl⟩ := h4
      generalize ρ 5 = q5 at *
      obtain ⟨v5, B5⟩ := q5
      obtain ⟨b85, rfl, rfl, _⟩ := h5
      generalize ρ 6 = q6 at *
      obtain ⟨v6, B6⟩ := q6
      obtain ⟨rfl, rfl⟩ := h6
      generalize ρ 7 = q7 at *
      obtain ⟨v7, B7⟩ := q7
      obtain ⟨p7, c7, rfl, hsl7⟩ := h7
      generalize ρ 8 = q8 at *
      obtain ⟨v8, B8⟩ := q8
      obtain ⟨rfl, rfl⟩ := h8
      generalize ρ 9 = q9 at *
      obtain ⟨v9, B9⟩ := q9
      obtain ⟨rfl, rfl⟩ := h9
      generalize ρ 10 = q10 at *
      obtain ⟨v10, B10⟩ := q10
      obtain ⟨rfl, rfl⟩ := h10
      generalize ρ 11 = q11 at *
      obtain ⟨v11, B11⟩ := q11
      obtain ⟨rfl, rfl⟩ := h11
      generalize ρ 12 = q12 at *
      obtain ⟨v12, B12⟩ := q12
      obtain ⟨rfl, rfl⟩ := h12
      generalize ρ 13 = q13 at *
      obtain ⟨v13, B13⟩ := q13
      obtain ⟨rfl, rfl⟩ := h13
      generalize ρ 14 = q14 at *
      obtain ⟨v14, B14⟩ := q14
      obtain ⟨b94, rfl, rfl, _⟩ := h14
      generalize ρ 15 = q15 at *
      obtain ⟨v15, B15⟩ := q15
      obtain ⟨p15, c15, rfl, hsl15⟩ := h15
      generalize ρ 16 = q16 at *
      obtain ⟨v16, B16⟩ := q16
      obtain ⟨g16, rfl, rfl, hg16⟩ := h16
      generalize ρ 17 = q17 at *
      obtain ⟨v17, B17⟩ := q17
      obtain ⟨⟨p17, c17, X17⟩, he17, rfl, rfl⟩ := h17
      generalize ρ 18 = q18 at *
      obtain ⟨v18, B18⟩ := q18
      obtain ⟨⟨p18, c18, X18⟩, he18, rfl, rfl⟩ := h18
      generalize ρ 19 = q19 at *
      obtain ⟨v19, B19⟩ := q19
      obtain ⟨rfl, rfl⟩ := h19
      generalize ρ 20 = q20 at *
      obtain ⟨v20, B20⟩ := q20
      obtain ⟨⟨p20, c20, X20⟩, he20, rfl, rfl⟩ := h20
      simp only [List.cons.injEq, Value.tuple.injEq, Array.mk.injEq, Value.slice.injEq, and_true, true_and] at he17 he18 he20
      obtain ⟨rfl, rfl⟩ := he17
      obtain ⟨rfl, rfl⟩ := he18
      obtain ⟨rfl, rfl⟩ := he20
      refine okl_sub (O' := ([(b3, [.int .i64 s.weeks, .int .i64 s.most, .int .i64 s.fall, .int .i64 s.slo, .int .i64 s.shi, .int .i64 s.wlo, .int .i64 s.whi, .slice s.bp s.book.length s.bc, .slice s.rp s.reads.length s.rc], 27)] ++ ([] ++ B)) ++ g16.B) (List.Sublist.append (List.Sublist.refl _) (by dsimp only; simp only [List.nil_append, List.append_nil, List.cons_append]; exact .cons _ (List.Sublist.refl _))) ?_
      rcases hfound : strF s m (i + 1) (l ++ [x.number]) with _ | lf
      · simp only [Option.isSome_none]
        refine okl_sub (O' := ([(b3, [.int .i64 s.weeks, .int .i64 s.most, .int .i64 s.fall, .int .i64 s.slo, .int .i64 s.shi, .int .i64 s.wlo, .int .i64 s.whi, .slice s.bp s.book.length s.bc, .slice s.rp s.reads.length s.rc], 27)] ++ ([] ++ B))) (List.sublist_append_left _ _) ?_
        refine s_assign rfl rfl rfl rfl rfl rfl ?_
        refine okl_nil ?_
        change OkC Try.prog _ _ _ _ _ _ _
        refine okc_weak (l' := [(0, _), (1, _), (2, _), (3, _), (4, _), (8, _), (9, _), (10, _), (11, _), (12, _), (14, _), (25, _)]) ⟨rfl, rfl, rfl, rfl, rfl, rfl, rfl, rfl, rfl, rfl, rfl, rfl, trivial⟩ ?_
        refine okc_seq ?_
        refine okc_region ?_
        refine s_move rfl rfl rfl rfl rfl rfl ?_
        refine okl_nil ?_
        change OkC Try.prog _ _ _ _ _ _ _
        refine okc_weak (l' := [(0, _), (1, _), (2, _), (3, _), (4, _), (8, _), (9, _), (10, _), (11, _), (12, _), (14, _), (25, _), (48, _)]) ⟨rfl, rfl, rfl, rfl, rfl, rfl, rfl, rfl, rfl, rfl, rfl, rfl, rfl, trivial⟩ ?_
        refine okc_cond_f rfl ?_
        refine okc_skip ?_
        change OkC Try.prog _ _ _ _ _ _ _
        refine okc_weak (l' := [(0, _), (1, _), (2, _), (3, _), (4, _), (8, _), (9, _), (10, _), (11, _), (12, _), (14, _), (25, _), (48, _)]) ⟨rfl, rfl, rfl, rfl, rfl, rfl, rfl, rfl, rfl, rfl, rfl, rfl, rfl, trivial⟩ ?_
        refine okc_region ?_
        refine s_move rfl rfl rfl rfl rfl rfl ?_
        refine s_add rfl rfl rfl rfl rfl rfl rfl (by omega) ?_
        refine s_assign rfl rfl rfl rfl rfl rfl ?_
        refine okl_nil ?_
        refine fun a w hs => ⟨i + 1, ⟨by omega, by omega, fun j h1 h2 => by rcases Nat.lt_or_ge j i with h3 | h3; exact hnone j h1 h3; (obtain rfl : j = i := by omega); rw [hnx]; exact hfound⟩, by omega, ?_⟩
        exact St.pickG (FE := [_]) (G := [] ++ B) (O' := [_]) hs ⟨rfl, rfl, rfl, rfl, rfl, rfl, rfl, rfl, rfl, trivial⟩ [0] (by decide) (rfl)
      · have hlf : (if m = 0 then l ++ [x.number] else (some lf).getD []) = lf := by split; (rename_i h0; subst h0; simp only [strF] at hfound; split at hfound; (cases hfound; rfl); cases hfound); rfl
        rw [hfound, hlf] at hg16
        have hres : strF s (m + 1) fr l = some lf := strF_some hfi hlt hnone (by rw [hnx]; exact hfound)
        simp only [Option.isSome_some, hlf]
        refine s_assign rfl rfl rfl rfl rfl rfl ?_
        refine okl_nil ?_
        change OkC Try.prog _ _ _ _ _ _ _
        refine okc_weak (l' := [(0, _), (1, _), (2, _), (3, _), (4, _), (8, _), (9, _), (10, _), (11, _), (12, _), (14, _), (25, _)]) ⟨rfl, rfl, rfl, rfl, rfl, rfl, rfl, rfl, rfl, rfl, rfl, rfl, trivial⟩ ?_
        refine okc_seq ?_
        refine okc_region ?_
        refine s_move rfl rfl rfl rfl rfl rfl ?_
        refine okl_nil ?_
        change OkC Try.prog _ _ _ _ _ _ _
        refine okc_weak (l' := [(0, _), (1, _), (2, _), (3, _), (4, _), (8, _), (9, _), (10, _), (11, _), (12, _), (14, _), (25, _), (48, _)]) ⟨rfl, rfl, rfl, rfl, rfl, rfl, rfl, rfl, rfl, rfl, rfl, rfl, rfl, trivial⟩ ?_
        refine okc_cond_t rfl ?_
        refine okc_seq ?_
        refine okc_region ?_
        refine s_move rfl rfl rfl rfl rfl rfl ?_
        refine s_assign rfl rfl rfl rfl rfl rfl ?_
        refine s_assign rfl rfl rfl rfl rfl rfl ?_
        refine okl_nil ?_
        change OkC Try.prog _ _ _ _ _ _ _
        refine okc_weak (l' := [(0, _), (1, _), (2, _), (3, _), (4, _), (8, _), (9, _), (10, _), (11, _), (12, _), (14, _), (25, _), (48, _)]) ⟨rfl, rfl, rfl, rfl, rfl, rfl, rfl, rfl, rfl, rfl, rfl, rfl, rfl, trivial⟩ ?_
        refine okc_ret fun a w hs => ?_
        exact ret_postF hs (run_results2 hs rfl (rv_tmp rfl) (rv_tmp rfl)) ⟨g16.p, g16.c, g16.B⟩ (by simp [hres]) (by simpa [hres] using hg16) ((List.sublist_append_right _ g16.B))
    · have hge : ¬ i < s.reads.length := by simpa using h5
      have hres : strF s (m + 1) fr l = none := strF_none (fun j h1 h2 => hnone j h1 (by omega))
      refine okl_nil ?_
      change OkC Try.prog _ _ _ _ _ _ _
      refine okc_weak (l' := [(0, _), (1, _), (2, _), (3, _), (4, _), (8, _), (9, _), (10, _), (14, _), (25, _)]) ⟨rfl, rfl, rfl, rfl, rfl, rfl, rfl, rfl, rfl, rfl, trivial⟩ ?_
      refine okc_cond_f rfl ?_
      refine okc_exit ?_
      change OkC Try.prog _ _ _ _ _ _ _
      refine okc_weak (l' := [(0, _), (1, _), (2, _), (3, _), (4, _), (8, _), (9, _), (10, _), (14, _), (25, _)]) ⟨rfl, rfl, rfl, rfl, rfl, rfl, rfl, rfl, rfl, rfl, trivial⟩ ?_
      refine okc_seq ?_
      refine okc_region ?_
      refine s_assign rfl rfl rfl rfl rfl rfl ?_
      refine s_assign rfl rfl rfl rfl rfl rfl ?_
      refine okl_nil ?_
      change OkC Try.prog _ _ _ _ _ _ _
      refine okc_weak (l' := [(0, _), (1, _), (2, _), (3, _), (4, _), (8, _), (9, _), (10, _), (14, _), (25, _)]) ⟨rfl, rfl, rfl, rfl, rfl, rfl, rfl, rfl, rfl, rfl, trivial⟩ ?_
      refine okc_ret fun a w hs => ?_
      exact ret_postF hs (run_results2 hs rfl (rv_tmp rfl) (rv_tmp rfl)) SlG.nil (by simp [hres, SlG.nil]) (by simp only [hres]; exact Sl.nil 3 1) (List.nil_sublist _)

theorem rst_fn (s : Sp) (M : Args) (hin : s.In M) (hv : validB s = true) : ∀ (m fr : Nat) (l : List Int) (q : Option Addr) (c : Nat) (B : Blks), fr ≤ s.reads.length → l.length + m ≤ 2 → Sl B 3 1 q l.length c (ints l) → StC s M m fr l q c B
  | 0 => fun fr l q c B h1 h2 h3 => rst0 s M hin hv fr l q c B h1 h2 h3
  | m + 1 => fun fr l q c B h1 h2 h3 => rstS s M hin hv m (rst_fn s M hin hv m) fr l q c B h1 h2 h3
theorem rstruck_fn (s : Sp) (M : Args) (hin : s.In M) (hv : validB s = true) (m : Nat) (hm : m ≤ 2) : Cn Try.prog 96 [spV s, .int .i64 (m : Int), .int .i64 0, .slice none 0 0] M (fun g : SlG => .tuple #[.slice g.p ((strF s m 0 []).getD []).length g.c, .bool (strF s m 0 []).isSome]) (fun g => g.B) (fun g => Sl g.B 3 1 g.p ((strF s m 0 []).getD []).length g.c (ints ((strF s m 0 []).getD []))) := by
  have h := rst_fn s M hin hv m 0 [] none 0 [] (Nat.zero_le _) (by simpa using hm) (Sl.nil 3 1)
  unfold StC at h
  have e : (if m = 0 then [] else (strF s m 0 []).getD []) = (strF s m 0 []).getD [] := by
    split
    · rename_i h0; subst h0; simp only [strF]; split <;> rfl
    · rfl
  rw [e] at h
  exact h.plain

end Go.Proofs.Ytdpnadknaacinaa
end

section
namespace Go.Proofs.Ytdpnadknaacinaa
open Go.Sx Go.Proofs.Ytdpnadknaacinaa.Ty
set_option linter.unusedVariables false
set_option linter.unusedSimpArgs false
set_option maxHeartbeats 2000000


theorem first_bare {s : Sp} {l : List Int} (h : first3 s 3 = some l) : canS (bareS s) = true := by
  unfold first3 at h
  obtain ⟨m, _, hm⟩ := List.exists_of_findSome?_eq_some h
  exact can_bare (strF_can m 0 [] l hm)

theorem rWrong_fn (s : Sp) (M : Args) (hin : s.In M) : Cn Try.prog 47 [spV s] M (fun g : SlG => .tuple #[.slice g.p (wrL s).length g.c, .int .i64 (wrE s)]) (fun g => g.B) (fun g => Sl g.B 3 1 g.p (wrL s).length g.c (ints (wrL s))) := by
  refine fn_intro (N := 29) Try.func47 rfl rfl rfl fun w0 => ?_
  refine okc_seq ?_
  refine okc_region ?_
  refine s_boxA rfl rfl rfl rfl rfl rfl (fun b1 => ?_)
  refine s_assign rfl rfl rfl rfl rfl rfl ?_
  refine s_assign rfl rfl rfl rfl rfl rfl ?_
  refine okl_nil ?_
  change OkC Try.prog _ _ _ _ _ _ _
  refine okc_weak (l' := [(0, _), (1, _), (2, _), (3, _)]) ⟨rfl, rfl, rfl, rfl, trivial⟩ ?_
  refine okc_seq ?_
  refine okc_seq ?_
  refine okc_region ?_
  refine s_loadW 0 rfl rfl rfl rfl rfl rfl rfl rfl rfl rfl ?_
  refine s_callb rfl rfl rfl rfl rfl rfl rfl c74 (rSpring_fn s M hin) covers_all (fun h2 => ?_) (fun h2 => ?_)
  · have hv : validB s = true := h2
    have hs0 := ok_of_valid hv
    obtain ⟨w1, w2, m1, m2, f1, f2, a1, a2, a3, v1, v2, v3⟩ := hs0.ok
    refine s_not rfl rfl rfl rfl rfl rfl ?_
    refine okl_nil ?_
    change OkC Try.prog _ _ _ _ _ _ _
    refine okc_weak (l' := [(0, _), (1, _), (2, _), (3, _), (10, _)]) ⟨rfl, rfl, rfl, rfl, rfl, trivial⟩ ?_
    refine okc_cond_f rfl ?_
    refine okc_skip ?_
    change OkC Try.prog _ _ _ _ _ _ _
    refine okc_weak (l' := [(0, _), (1, _), (2, _), (3, _), (10, _)]) ⟨rfl, rfl, rfl, rfl, rfl, trivial⟩ ?_
    refine okc_seq ?_
    refine okc_seq ?_
    refine okc_region ?_
    refine s_assign rfl rfl rfl rfl rfl rfl ?_
    refine okl_nil ?_
    change OkC Try.prog _ _ _ _ _ _ _
    refine okc_weak (l' := [(0, _), (1, _), (2, _), (3, _), (4, _), (10, _)]) ⟨rfl, rfl, rfl, rfl, rfl, rfl, trivial⟩ ?_
    refine okc_block ?_
    refine okc_loopF (γ := Nat) [(0, _), (1, _), (2, _), (3, _), (10, _)] ⟨rfl, rfl, rfl, rfl, rfl, trivial⟩ [0] [] (by decide) _ rfl (fun m => [(4, .int .i64 (m : Int))]) (fun m => []) (fun m => m ≤ 3 ∧ first3 s m = none) (fun m => 3 - m) 0 ⟨by omega, rfl⟩ ⟨rfl, trivial⟩ rfl ?_
    rintro m ⟨hm, hnone⟩
    change OkC Try.prog _ _ _ _ _ _ _
    refine okc_seq ?_
    refine okc_seq ?_
    refine okc_region ?_
    refine s_move rfl rfl rfl rfl rfl rfl ?_
    refine s_cmpS rfl rfl rfl rfl rfl rfl rfl rfl (fun h3 => ?_) (fun h3 => ?_)
    · have hlt : m ≤ 2 := by have hq := h3; simp at hq; omega
      refine okl_nil ?_
      change OkC Try.prog _ _ _ _ _ _ _
      refine okc_weak (l' := [(0, _), (1, _), (2, _), (3, _), (4, _), (10, _), (12, _)]) ⟨rfl, rfl, rfl, rfl, rfl, rfl, rfl, trivial⟩ ?_
      refine okc_cond_t rfl ?_
      refine okc_skip ?_
      change OkC Try.prog _ _ _ _ _ _ _
      refine okc_weak (l' := [(0, _), (1, _), (2, _), (3, _), (4, _), (10, _), (12, _)]) ⟨rfl, rfl, rfl, rfl, rfl, rfl, rfl, trivial⟩ ?_
      refine okc_seq ?_
      refine okc_block ?_
      refine okc_seq ?_
      refine okc_region ?_
      refine s_loadW 0 rfl rfl rfl rfl rfl rfl rfl rfl rfl rfl ?_
      refine s_move rfl rfl rfl rfl rfl rfl ?_
      refine okl_rE rfl rfl rfl rfl (op_call rfl rfl rfl c96 (rstruck_fn s M hin hv m (by omega)) covers_all) (fun g hg => ?_)
      rcases hst : strF s m 0 [] with _ | lf
      · rw [hst] at hg
        simp only [Option.isSome_none, Option.isSome_some, Option.getD_none, Option.getD_some]
        refine s_move rfl rfl rfl rfl rfl rfl ?_
        refine s_extract rfl rfl rfl rfl rfl rfl rfl ?_
        refine s_extract rfl rfl rfl rfl rfl rfl rfl ?_
        refine s_assign rfl rfl rfl rfl rfl rfl ?_
        refine s_assign rfl rfl rfl rfl rfl rfl ?_
        refine okl_nil ?_
        change OkC Try.prog _ _ _ _ _ _ _
        refine okc_weak (l' := [(0, _), (1, _), (2, _), (3, _), (4, _), (5, _), (6, _), (10, _), (12, _)]) ⟨rfl, rfl, rfl, rfl, rfl, rfl, rfl, rfl, rfl, trivial⟩ ?_
        refine okc_seq ?_
        refine okc_region ?_
        refine s_move rfl rfl rfl rfl rfl rfl ?_
        refine okl_nil ?_
        change OkC Try.prog _ _ _ _ _ _ _
        refine okc_weak (l' := [(0, _), (1, _), (2, _), (3, _), (4, _), (5, _), (6, _), (10, _), (12, _), (21, _)]) ⟨rfl, rfl, rfl, rfl, rfl, rfl, rfl, rfl, rfl, rfl, trivial⟩ ?_
        refine okc_cond_f rfl ?_
        refine okc_skip ?_
        change OkC Try.prog _ _ _ _ _ _ _
        refine okc_weak (l' := [(0, _), (1, _), (2, _), (3, _), (4, _), (5, _), (6, _), (10, _), (12, _), (21, _)]) ⟨rfl, rfl, rfl, rfl, rfl, rfl, rfl, rfl, rfl, rfl, trivial⟩ ?_
        refine okc_region ?_
        refine s_move rfl rfl rfl rfl rfl rfl ?_
        refine s_add rfl rfl rfl rfl rfl rfl rfl (by omega) ?_
        refine s_assign rfl rfl rfl rfl rfl rfl ?_
        refine okl_nil ?_
        refine fun a w hs => ⟨m + 1, ⟨by omega, by rw [first3_succ, hnone, hst]; rfl⟩, by omega, ?_⟩
        exact hs.weak ⟨rfl, rfl, rfl, rfl, rfl, rfl, trivial⟩ [0] (by decide) (rfl)
      · rw [hst] at hg
        simp only [Option.isSome_none, Option.isSome_some, Option.getD_none, Option.getD_some]
        refine s_move rfl rfl rfl rfl rfl rfl ?_
        refine s_extract rfl rfl rfl rfl rfl rfl rfl ?_
        refine s_extract rfl rfl rfl rfl rfl rfl rfl ?_
        refine s_assign rfl rfl rfl rfl rfl rfl ?_
        refine s_assign rfl rfl rfl rfl rfl rfl ?_
        refine okl_nil ?_
        change OkC Try.prog _ _ _ _ _ _ _
        refine okc_weak (l' := [(0, _), (1, _), (2, _), (3, _), (4, _), (5, _), (6, _), (10, _), (12, _)]) ⟨rfl, rfl, rfl, rfl, rfl, rfl, rfl, rfl, rfl, trivial⟩ ?_
        refine okc_seq ?_
        refine okc_region ?_
        refine s_move rfl rfl rfl rfl rfl rfl ?_
        refine okl_nil ?_
        change OkC Try.prog _ _ _ _ _ _ _
        refine okc_weak (l' := [(0, _), (1, _), (2, _), (3, _), (4, _), (5, _), (6, _), (10, _), (12, _), (21, _)]) ⟨rfl, rfl, rfl, rfl, rfl, rfl, rfl, rfl, rfl, rfl, trivial⟩ ?_
        refine okc_cond_t rfl ?_
        refine okc_seq ?_
        refine okc_region ?_
        refine s_move rfl rfl rfl rfl rfl rfl ?_
        refine s_assign rfl rfl rfl rfl rfl rfl ?_
        refine s_assign rfl rfl rfl rfl rfl rfl ?_
        refine okl_nil ?_
        change OkC Try.prog _ _ _ _ _ _ _
        refine okc_weak (l' := [(0, _), (1, _), (2, _), (3, _), (4, _), (5, _), (6, _), (10, _), (12, _), (21, _)]) ⟨rfl, rfl, rfl, rfl, rfl, rfl, rfl, rfl, rfl, rfl, trivial⟩ ?_
        refine okc_ret fun a w hs => ?_
        have hf := first_some (by omega) hnone hst
        have hc := first_bare hf
        have hwl : wrL s = lf := by simp [wrL, hv, hc, hf]
        have hwe : wrE s = 0 := by simp [wrE, hv, hc, hf]
        exact ret_postS hs (run_results2 hs rfl (rv_tmp rfl) (rv_tmp rfl)) ⟨g.p, g.c, g.B⟩ (by rw [hwl, hwe]; rfl) (by rw [hwl]; exact hg) (sub_drop 1 rfl)
    · have hge : ¬ m ≤ 2 := by have hq := h3; simp at hq; omega
      obtain rfl : m = 3 := by omega
      refine okl_nil ?_
      change OkC Try.prog _ _ _ _ _ _ _
      refine okc_weak (l' := [(0, _), (1, _), (2, _), (3, _), (4, _), (10, _), (12, _)]) ⟨rfl, rfl, rfl, rfl, rfl, rfl, rfl, trivial⟩ ?_
      refine okc_cond_f rfl ?_
      refine okc_exit ?_
      change OkC Try.prog _ _ _ _ _ _ _
      refine okc_weak (l' := [(0, _), (1, _), (2, _), (3, _), (4, _), (10, _), (12, _)]) ⟨rfl, rfl, rfl, rfl, rfl, rfl, rfl, trivial⟩ ?_
      refine okc_seq ?_
      refine okc_region ?_
      refine s_loadW 0 rfl rfl rfl rfl rfl rfl rfl rfl rfl rfl ?_
      refine okl_rE rfl rfl rfl rfl (op_call rfl rfl rfl c17 (twin_fn s M hin (valid_len hv)) covers_all) (fun gt hgt => ?_)
      refine s_alloc rfl rfl rfl rfl rfl rfl (fun b4 => ?_)
      refine k_storeW 0 rfl rfl rfl rfl rfl rfl rfl rfl rfl rfl rfl rfl ?_
      refine okl_nil ?_
      change OkC Try.prog _ _ _ _ _ _ _
      refine okc_weak (l' := [(0, _), (1, _), (2, _), (3, _), (4, _), (7, _), (10, _), (12, _)]) ⟨rfl, rfl, rfl, rfl, rfl, rfl, rfl, rfl, trivial⟩ ?_
      refine okc_seq ?_
      refine okc_region ?_
      refine s_field rfl rfl rfl rfl rfl rfl rfl rfl ?_
      refine k_store 0 rfl rfl rfl rfl rfl rfl rfl rfl rfl rfl rfl rfl ?_
      refine okl_nil ?_
      change OkC Try.prog _ _ _ _ _ _ _
      refine okc_weak (l' := [(0, _), (1, _), (2, _), (3, _), (4, _), (7, _), (10, _), (12, _)]) ⟨rfl, rfl, rfl, rfl, rfl, rfl, rfl, rfl, trivial⟩ ?_
      refine okc_seq ?_
      refine okc_seq ?_
      refine okc_region ?_
      refine s_loadW 0 rfl rfl rfl rfl rfl rfl rfl rfl rfl rfl ?_
      have hcn : Cn Try.prog 64 [spV (bareS (twS s gt))] (argsOf (gt.B1 ++ gt.B2)) (fun _ : Unit => .bool (canS (bareS s))) (fun _ => []) (fun _ => True) := True_fn (bareS (twS s gt)) (argsOf (gt.B1 ++ gt.B2)) (bare_in (twin_in hin hgt)) (ok_of_valid (by exact valid_bare hv))
      refine s_callb rfl rfl rfl rfl rfl rfl rfl c64 hcn (covers_grp fun y hy => (List.mem_append_right [_, _] hy : y ∈ [_, _] ++ (gt.B1 ++ gt.B2))) (fun hc => ?_) (fun hc => ?_)
      · refine s_not rfl rfl rfl rfl rfl rfl ?_
        refine okl_nil ?_
        change OkC Try.prog _ _ _ _ _ _ _
        refine okc_weak (l' := [(0, _), (1, _), (2, _), (3, _), (4, _), (7, _), (10, _), (12, _), (28, _)]) ⟨rfl, rfl, rfl, rfl, rfl, rfl, rfl, rfl, rfl, trivial⟩ ?_
        refine okc_cond_f rfl ?_
        refine okc_skip ?_
        change OkC Try.prog _ _ _ _ _ _ _
        refine okc_weak (l' := [(0, _), (1, _), (2, _), (3, _), (4, _), (7, _), (10, _), (12, _), (28, _)]) ⟨rfl, rfl, rfl, rfl, rfl, rfl, rfl, rfl, rfl, trivial⟩ ?_
        refine okc_seq ?_
        refine okc_region ?_
        refine s_assign rfl rfl rfl rfl rfl rfl ?_
        refine s_assign rfl rfl rfl rfl rfl rfl ?_
        refine okl_nil ?_
        change OkC Try.prog _ _ _ _ _ _ _
        refine okc_weak (l' := [(0, _), (1, _), (2, _), (3, _), (4, _), (7, _), (10, _), (12, _), (28, _)]) ⟨rfl, rfl, rfl, rfl, rfl, rfl, rfl, rfl, rfl, trivial⟩ ?_
        refine okc_ret fun a w hs => ?_
        have hwl : wrL s = [] := by simp [wrL, hv, hc, hnone]
        have hwe : wrE s = 4 := by simp [wrE, hv, hc, hnone]
        exact ret_postS hs (run_results2 hs rfl (rv_tmp rfl) (rv_tmp rfl)) SlG.nil (by rw [hwl, hwe]; rfl) (by rw [hwl]; exact Sl.nil 3 1) (List.nil_sublist _)
      · refine s_not rfl rfl rfl rfl rfl rfl ?_
        refine okl_nil ?_
        change OkC Try.prog _ _ _ _ _ _ _
        refine okc_weak (l' := [(0, _), (1, _), (2, _), (3, _), (4, _), (7, _), (10, _), (12, _), (28, _)]) ⟨rfl, rfl, rfl, rfl, rfl, rfl, rfl, rfl, rfl, trivial⟩ ?_
        refine okc_cond_t rfl ?_
        refine okc_seq ?_
        refine okc_region ?_
        refine s_assign rfl rfl rfl rfl rfl rfl ?_
        refine s_assign rfl rfl rfl rfl rfl rfl ?_
        refine okl_nil ?_
        change OkC Try.prog _ _ _ _ _ _ _
        refine okc_weak (l' := [(0, _), (1, _), (2, _), (3, _), (4, _), (7, _), (10, _), (12, _), (28, _)]) ⟨rfl, rfl, rfl, rfl, rfl, rfl, rfl, rfl, rfl, trivial⟩ ?_
        refine okc_ret fun a w hs => ?_
        have hwl : wrL s = [] := by simp [wrL, hv, hc]
        have hwe : wrE s = 6 := by simp [wrE, hv, hc]
        exact ret_postS hs (run_results2 hs rfl (rv_tmp rfl) (rv_tmp rfl)) SlG.nil (by rw [hwl, hwe]; rfl) (by rw [hwl]; exact Sl.nil 3 1) (List.nil_sublist _)
  · have hv : validB s = false := h2
    refine s_not rfl rfl rfl rfl rfl rfl ?_
    refine okl_nil ?_
    change OkC Try.prog _ _ _ _ _ _ _
    refine okc_weak (l' := [(0, _), (1, _), (2, _), (3, _), (10, _)]) ⟨rfl, rfl, rfl, rfl, rfl, trivial⟩ ?_
    refine okc_cond_t rfl ?_
    refine okc_seq ?_
    refine okc_region ?_
    refine s_assign rfl rfl rfl rfl rfl rfl ?_
    refine s_assign rfl rfl rfl rfl rfl rfl ?_
    refine okl_nil ?_
    change OkC Try.prog _ _ _ _ _ _ _
    refine okc_weak (l' := [(0, _), (1, _), (2, _), (3, _), (10, _)]) ⟨rfl, rfl, rfl, rfl, rfl, trivial⟩ ?_
    refine okc_ret fun a w hs => ?_
    exact ret_postS hs (run_results2 hs rfl (rv_tmp rfl) (rv_tmp rfl)) SlG.nil (by simp [wrE, wrL, hv, SlG.nil]) (by simp only [wrL, hv]; exact Sl.nil 3 1) (List.nil_sublist _)
end Go.Proofs.Ytdpnadknaacinaa
end

section
namespace Go.Proofs.Ytdpnadknaacinaa
open Go.Sx Go.Proofs.Ytdpnadknaacinaa.Ty
set_option linter.unusedVariables false
set_option linter.unusedSimpArgs false
set_option maxHeartbeats 2000000


theorem strF_tw (s : Sp) (g : Rn2) : ∀ (m fr : Nat) (l : List Int), strF (twS s g) m fr l = strF s m fr l
  | 0, fr, l => rfl
  | m + 1, fr, l => by
    simp only [strF]
    have h : (fun i => strF (twS s g) m (i + 1) (l ++ [numAt (twS s g) i])) = fun i => strF s m (i + 1) (l ++ [numAt s i]) := by
      funext i; exact strF_tw s g m (i + 1) _
    rw [h]; rfl
theorem first3_tw (s : Sp) (g : Rn2) (k : Nat) : first3 (twS s g) k = first3 s k := by
  unfold first3
  congr 1; funext m; exact strF_tw s g m 0 []
theorem wrL_tw (s : Sp) (g : Rn2) : wrL (twS s g) = wrL s := by
  unfold wrL; rw [first3_tw]; rfl
theorem wrE_tw (s : Sp) (g : Rn2) : wrE (twS s g) = wrE s := by
  unfold wrE; rw [first3_tw]; rfl
theorem rest_len {s : Sp} (h : s.reads.length ≤ 30) (w : Int) : (restS s w).length ≤ 1000000000 := by
  unfold restS
  split
  · rw [List.length_map]
    exact Nat.le_trans (List.length_filter_le _ _) (by omega)
  · simp
theorem wr_len (s : Sp) : (wrL s).length ≤ 1000000000 := by
  unfold wrL
  split
  · split
    · cases h : first3 s 3 with
      | none => simp
      | some l =>
        unfold first3 at h
        obtain ⟨m, hm, h'⟩ := List.exists_of_findSome?_eq_some h
        have hl := strF_len m 0 [] l h'
        simp at hm hl
        simp; omega
    · simp
  · simp

theorem reads_fn (s : Sp) (M : Args) (hin : s.In M) (x : Rd) (w : Int) : Cn Try.prog 5 [spV s, rdV x, .int .i64 w] M (fun _ : Unit => .bool true) (fun _ => []) (fun _ => True) := by
  refine fn_intro (N := 91) Try.func5 rfl rfl rfl fun w0 => ?_
  refine okc_seq ?_
  refine okc_region ?_
  refine s_boxA rfl rfl rfl rfl rfl rfl (fun b1 => ?_)
  refine s_boxA rfl rfl rfl rfl rfl rfl (fun b2 => ?_)
  refine s_assign rfl rfl rfl rfl rfl rfl ?_
  refine okl_nil ?_
  change OkC Try.prog _ _ _ _ _ _ _
  refine okc_weak (l' := [(0, _), (1, _), (2, _), (3, _), (4, _), (6, _)]) ⟨rfl, rfl, rfl, rfl, rfl, rfl, trivial⟩ ?_
  refine okc_seq ?_
  refine okc_seq ?_
  refine okc_region ?_
  refine s_loadW 1 rfl rfl rfl rfl rfl rfl rfl rfl rfl rfl ?_
  refine s_callb rfl rfl rfl rfl rfl rfl rfl c16 (great_fn s) covers_nil (fun h3 => ?_) (fun h3 => ?_)
  · refine okl_nil ?_
    change OkC Try.prog _ _ _ _ _ _ _
    refine okc_weak (l' := [(0, _), (1, _), (2, _), (3, _), (4, _), (6, _), (21, _)]) ⟨rfl, rfl, rfl, rfl, rfl, rfl, rfl, trivial⟩ ?_
    refine okc_cond_t rfl ?_
    refine okc_seq ?_
    refine okc_region ?_
    refine s_assign rfl rfl rfl rfl rfl rfl ?_
    refine okl_nil ?_
    change OkC Try.prog _ _ _ _ _ _ _
    refine okc_weak (l' := [(0, _), (1, _), (2, _), (3, _), (4, _), (6, _), (21, _)]) ⟨rfl, rfl, rfl, rfl, rfl, rfl, rfl, trivial⟩ ?_
    refine okc_ret fun a w hs => ?_
    exact ret_v hs (run_results1 hs rfl (rv_tmp rfl)) (rfl)
  · have hgr : s.book.length ≤ 30 ∧ s.reads.length ≤ 30 := by have hq := h3; simp [greatB] at hq; omega
    refine okl_nil ?_
    change OkC Try.prog _ _ _ _ _ _ _
    refine okc_weak (l' := [(0, _), (1, _), (2, _), (3, _), (4, _), (6, _), (21, _)]) ⟨rfl, rfl, rfl, rfl, rfl, rfl, rfl, trivial⟩ ?_
    refine okc_cond_f rfl ?_
    refine okc_skip ?_
    change OkC Try.prog _ _ _ _ _ _ _
    refine okc_weak (l' := [(0, _), (1, _), (2, _), (3, _), (4, _), (6, _), (21, _)]) ⟨rfl, rfl, rfl, rfl, rfl, rfl, rfl, trivial⟩ ?_
    refine okc_seq ?_
    refine okc_region ?_
    refine s_loadW 1 rfl rfl rfl rfl rfl rfl rfl rfl rfl rfl ?_
    refine okl_rE rfl rfl rfl rfl (op_call rfl rfl rfl c17 (twin_fn s M hin hgr) covers_all) (fun g hg => ?_)
    have hown := twin_in hin hg
    have hRead : Cn Try.prog 42 [spV (twS s g), rdV x] (argsOf (g.B1 ++ g.B2)) (fun _ : Unit => .tuple #[.agg #[.int .i64 (rdG s x).1, .int .i64 (rdG s x).2], .int .i64 (rdE s x)]) (fun _ => []) (fun _ => True) := Read_fn (twS s g) _ hown x
    have hRests : Cn Try.prog 44 [spV (twS s g), .int .i64 w] (argsOf (g.B1 ++ g.B2)) (fun h : SlG => .tuple #[.slice h.p (restS s w).length h.c, .int .i64 (erS s w)]) (fun h => h.B) (fun h => Sl h.B 3 1 h.p (restS s w).length h.c (ints (restS s w))) := Rests_fn (twS s g) _ hown hgr w
    have hWrong : Cn Try.prog 46 [spV (twS s g)] (argsOf (g.B1 ++ g.B2)) (fun h : SlG => .tuple #[.slice h.p (wrL s).length h.c, .int .i64 (wrE s)]) (fun h => h.B) (fun h => Sl h.B 3 1 h.p (wrL s).length h.c (ints (wrL s))) := by have h := Wrong_fn (twS s g) _ hown; rw [wrL_tw, wrE_tw] at h; exact h
    refine s_alloc rfl rfl rfl rfl rfl rfl (fun b4 => ?_)
    refine k_storeW 0 rfl rfl rfl rfl rfl rfl rfl rfl rfl rfl rfl rfl ?_
    refine okl_nil ?_
    change OkC Try.prog _ _ _ _ _ _ _
    refine okc_weak (l' := [(0, _), (1, _), (2, _), (3, _), (4, _), (6, _), (7, _), (21, _)]) ⟨rfl, rfl, rfl, rfl, rfl, rfl, rfl, rfl, trivial⟩ ?_
    refine okc_seq ?_
    refine okc_region ?_
    refine s_loadW 0 rfl rfl rfl rfl rfl rfl rfl rfl rfl rfl ?_
    refine s_loadW 1 rfl rfl rfl rfl rfl rfl rfl rfl rfl rfl ?_
    refine s_callv rfl rfl rfl rfl rfl rfl rfl c42 (hRead) (covers_grp fun x hx => by simp only [List.mem_append, List.mem_cons, List.append_assoc] at hx ⊢; rcases hx with hx | hx <;> simp [hx]) ?_
    refine s_move rfl rfl rfl rfl rfl rfl ?_
    refine s_extract rfl rfl rfl rfl rfl rfl rfl ?_
    refine s_extract rfl rfl rfl rfl rfl rfl rfl ?_
    refine s_alloc rfl rfl rfl rfl rfl rfl (fun b5 => ?_)
    refine k_storeW 0 rfl rfl rfl rfl rfl rfl rfl rfl rfl rfl rfl rfl ?_
    refine s_assign rfl rfl rfl rfl rfl rfl ?_
    refine okl_nil ?_
    change OkC Try.prog _ _ _ _ _ _ _
    refine okc_weak (l' := [(0, _), (1, _), (2, _), (3, _), (4, _), (6, _), (7, _), (8, _), (9, _), (21, _)]) ⟨rfl, rfl, rfl, rfl, rfl, rfl, rfl, rfl, rfl, rfl, trivial⟩ ?_
    refine okc_seq ?_
    refine okc_region ?_
    refine s_loadW 3 rfl rfl rfl rfl rfl rfl rfl rfl rfl rfl ?_
    refine s_loadW 2 rfl rfl rfl rfl rfl rfl rfl rfl rfl rfl ?_
    refine s_callv rfl rfl rfl rfl rfl rfl rfl c43 (rRead_fn s M hin x) covers_all ?_
    refine s_move rfl rfl rfl rfl rfl rfl ?_
    refine s_extract rfl rfl rfl rfl rfl rfl rfl ?_
    refine s_extract rfl rfl rfl rfl rfl rfl rfl ?_
    refine s_alloc rfl rfl rfl rfl rfl rfl (fun b6 => ?_)
    refine k_storeW 0 rfl rfl rfl rfl rfl rfl rfl rfl rfl rfl rfl rfl ?_
    refine s_assign rfl rfl rfl rfl rfl rfl ?_
    refine okl_nil ?_
    change OkC Try.prog _ _ _ _ _ _ _
    refine okc_weak (l' := [(0, _), (1, _), (2, _), (3, _), (4, _), (6, _), (7, _), (8, _), (9, _), (10, _), (11, _), (21, _)]) ⟨rfl, rfl, rfl, rfl, rfl, rfl, rfl, rfl, rfl, rfl, rfl, rfl, trivial⟩ ?_
    refine okc_seq ?_
    refine okc_region ?_
    refine s_loadW 2 rfl rfl rfl rfl rfl rfl rfl rfl rfl rfl ?_
    refine s_move rfl rfl rfl rfl rfl rfl ?_
    refine okl_rE rfl rfl rfl rfl (op_call rfl rfl rfl c44 (hRests) (covers_grp fun x hx => by simp only [List.mem_append, List.mem_cons, List.append_assoc] at hx ⊢; rcases hx with hx | hx <;> simp [hx])) (fun gl hgl => ?_)
    refine s_move rfl rfl rfl rfl rfl rfl ?_
    refine s_extract rfl rfl rfl rfl rfl rfl rfl ?_
    refine s_extract rfl rfl rfl rfl rfl rfl rfl ?_
    refine s_assign rfl rfl rfl rfl rfl rfl ?_
    refine s_assign rfl rfl rfl rfl rfl rfl ?_
    refine okl_nil ?_
    change OkC Try.prog _ _ _ _ _ _ _
    refine okc_weak (l' := [(0, _), (1, _), (2, _), (3, _), (4, _), (6, _), (7, _), (8, _), (9, _), (10, _), (11, _), (12, _), (13, _), (21, _)]) ⟨rfl, rfl, rfl, rfl, rfl, rfl, rfl, rfl, rfl, rfl, rfl, rfl, rfl, rfl, trivial⟩ ?_
    refine okc_seq ?_
    refine okc_region ?_
    refine s_loadW 4 rfl rfl rfl rfl rfl rfl rfl rfl rfl rfl ?_
    refine s_move rfl rfl rfl rfl rfl rfl ?_
    refine okl_rE rfl rfl rfl rfl (op_call rfl rfl rfl c45 (rRests_fn s M hin hgr w) covers_all) (fun gm hgm => ?_)
    refine s_move rfl rfl rfl rfl rfl rfl ?_
    refine s_extract rfl rfl rfl rfl rfl rfl rfl ?_
    refine s_extract rfl rfl rfl rfl rfl rfl rfl ?_
    refine s_assign rfl rfl rfl rfl rfl rfl ?_
    refine s_assign rfl rfl rfl rfl rfl rfl ?_
    refine okl_nil ?_
    change OkC Try.prog _ _ _ _ _ _ _
    refine okc_weak (l' := [(0, _), (1, _), (2, _), (3, _), (4, _), (6, _), (7, _), (8, _), (9, _), (10, _), (11, _), (12, _), (13, _), (14, _), (15, _), (21, _)]) ⟨rfl, rfl, rfl, rfl, rfl, rfl, rfl, rfl, rfl, rfl, rfl, rfl, rfl, rfl, rfl, rfl, trivial⟩ ?_
    refine okc_seq ?_
    refine okc_region ?_
    refine s_loadW 2 rfl rfl rfl rfl rfl rfl rfl rfl rfl rfl ?_
    refine okl_rE rfl rfl rfl rfl (op_call rfl rfl rfl c46 (hWrong) (covers_grp fun x hx => by simp only [List.mem_append, List.mem_cons, List.append_assoc] at hx ⊢; rcases hx with hx | hx <;> simp [hx])) (fun gn hgn => ?_)
    refine s_move rfl rfl rfl rfl rfl rfl ?_
    refine s_extract rfl rfl rfl rfl rfl rfl rfl ?_
    refine s_extract rfl rfl rfl rfl rfl rfl rfl ?_
    refine s_assign rfl rfl rfl rfl rfl rfl ?_
    refine s_assign rfl rfl rfl rfl rfl rfl ?_
    refine okl_nil ?_
    change OkC Try.prog _ _ _ _ _ _ _
    refine okc_weak (l' := [(0, _), (1, _), (2, _), (3, _), (4, _), (6, _), (7, _), (8, _), (9, _), (10, _), (11, _), (12, _), (13, _), (14, _), (15, _), (16, _), (17, _), (21, _)]) ⟨rfl, rfl, rfl, rfl, rfl, rfl, rfl, rfl, rfl, rfl, rfl, rfl, rfl, rfl, rfl, rfl, rfl, rfl, trivial⟩ ?_
    refine okc_seq ?_
    refine okc_region ?_
    refine s_loadW 4 rfl rfl rfl rfl rfl rfl rfl rfl rfl rfl ?_
    refine okl_rE rfl rfl rfl rfl (op_call rfl rfl rfl c47 (rWrong_fn s M hin) covers_all) (fun go hgo => ?_)
    refine s_move rfl rfl rfl rfl rfl rfl ?_
    refine s_extract rfl rfl rfl rfl rfl rfl rfl ?_
    refine s_extract rfl rfl rfl rfl rfl rfl rfl ?_
    refine s_assign rfl rfl rfl rfl rfl rfl ?_
    refine s_assign rfl rfl rfl rfl rfl rfl ?_
    refine okl_nil ?_
    change OkC Try.prog _ _ _ _ _ _ _
    refine okc_weak (l' := [(0, _), (1, _), (2, _), (3, _), (4, _), (6, _), (7, _), (8, _), (9, _), (10, _), (11, _), (12, _), (13, _), (14, _), (15, _), (16, _), (17, _), (18, _), (19, _), (21, _)]) ⟨rfl, rfl, rfl, rfl, rfl, rfl, rfl, rfl, rfl, rfl, rfl, rfl, rfl, rfl, rfl, rfl, rfl, rfl, rfl, rfl, trivial⟩ ?_
    refine okc_seq ?_
    refine okc_region ?_
    refine s_loadW 1 rfl rfl rfl rfl rfl rfl rfl rfl rfl rfl ?_
    refine s_loadW 0 rfl rfl rfl rfl rfl rfl rfl rfl rfl rfl ?_
    refine s_b rfl rfl rfl rfl (op_eqlA rfl rfl rfl g23 (eq23 9998 _ _ _ _)) (fun h7 => ?_) (fun h7 => ?_)
    · refine s_move rfl rfl rfl rfl rfl rfl ?_
      refine s_move rfl rfl rfl rfl rfl rfl ?_
      refine s_move rfl rfl rfl rfl rfl rfl ?_
      refine s_cmpS rfl rfl rfl rfl rfl rfl rfl rfl (fun h8 => ?_) (fun h8 => ?_)
      · refine s_pick_t rfl rfl rfl rfl rfl rfl rfl ?_
        refine s_move rfl rfl rfl rfl rfl rfl ?_
        refine s_move rfl rfl rfl rfl rfl rfl ?_
        refine s_move rfl rfl rfl rfl rfl rfl ?_
        refine s_callb rfl rfl rfl rfl rfl rfl rfl c28 (sameInts_fn (argsOf (gl.B ++ gm.B)) _ _ _ _ _ _ (ints_in hgl (by simp +contextual) (rest_len hgr.2 w)) (ints_in hgm (by simp +contextual) (rest_len hgr.2 w))) (covers_grp fun x hx => by simp only [List.mem_append, List.mem_cons, List.append_assoc] at hx ⊢; rcases hx with hx | hx <;> simp [hx]) (fun hc => ?_) (fun hc => ?_)
        · refine s_pick_t rfl rfl rfl rfl rfl rfl rfl ?_
          refine s_move rfl rfl rfl rfl rfl rfl ?_
          refine s_move rfl rfl rfl rfl rfl rfl ?_
          refine s_move rfl rfl rfl rfl rfl rfl ?_
          refine s_cmpS rfl rfl rfl rfl rfl rfl rfl rfl (fun h9 => ?_) (fun h9 => ?_)
          · refine s_pick_t rfl rfl rfl rfl rfl rfl rfl ?_
            refine s_move rfl rfl rfl rfl rfl rfl ?_
            refine s_move rfl rfl rfl rfl rfl rfl ?_
            refine s_move rfl rfl rfl rfl rfl rfl ?_
            refine s_callb rfl rfl rfl rfl rfl rfl rfl c28 (sameInts_fn (argsOf (gn.B ++ go.B)) _ _ _ _ _ _ (ints_in hgn (by simp +contextual) (wr_len s)) (ints_in hgo (by simp +contextual) (wr_len s))) (covers_grp fun x hx => by simp only [List.mem_append, List.mem_cons, List.append_assoc] at hx ⊢; rcases hx with hx | hx <;> simp [hx]) (fun hc => ?_) (fun hc => ?_)
            · refine s_pick_t rfl rfl rfl rfl rfl rfl rfl ?_
              refine s_move rfl rfl rfl rfl rfl rfl ?_
              refine s_move rfl rfl rfl rfl rfl rfl ?_
              refine s_move rfl rfl rfl rfl rfl rfl ?_
              refine s_cmpS rfl rfl rfl rfl rfl rfl rfl rfl (fun h10 => ?_) (fun h10 => ?_)
              · refine s_pick_t rfl rfl rfl rfl rfl rfl rfl ?_
                refine s_move rfl rfl rfl rfl rfl rfl ?_
                refine s_loadW 2 rfl rfl rfl rfl rfl rfl rfl rfl rfl rfl ?_
                refine s_loadW 4 rfl rfl rfl rfl rfl rfl rfl rfl rfl rfl ?_
                refine s_callv rfl rfl rfl rfl rfl rfl rfl c29 (same_fn s (argsOf (g.B1 ++ g.B2) ++ M) g (hin.mono (by simp +contextual)) (hown.mono (by simp +contextual))) (covers_two (covers_grp fun x hx => by simp only [List.mem_append, List.mem_cons, List.append_assoc] at hx ⊢; rcases hx with hx | hx <;> simp [hx]) covers_all) ?_
                refine s_pick_t rfl rfl rfl rfl rfl rfl rfl ?_
                refine s_assign rfl rfl rfl rfl rfl rfl ?_
                refine okl_nil ?_
                change OkC Try.prog _ _ _ _ _ _ _
                refine okc_weak (l' := [(0, _), (1, _), (2, _), (3, _), (4, _), (6, _), (7, _), (8, _), (9, _), (10, _), (11, _), (12, _), (13, _), (14, _), (15, _), (16, _), (17, _), (18, _), (19, _), (21, _)]) ⟨rfl, rfl, rfl, rfl, rfl, rfl, rfl, rfl, rfl, rfl, rfl, rfl, rfl, rfl, rfl, rfl, rfl, rfl, rfl, rfl, trivial⟩ ?_
                refine okc_ret fun a w hs => ?_
                exact ret_v hs (run_results1 hs rfl (rv_tmp rfl)) (rfl)
              · exact absurd h10 (by simp) --closed
            · exact absurd hc (by simp)
          · exact absurd h9 (by simp) --closed
        · exact absurd hc (by simp)
      · exact absurd h8 (by simp) --closed
    · exact absurd h7 (by simp) --closed

end Go.Proofs.Ytdpnadknaacinaa
end

section
namespace Go.Proofs.Ytdpnadknaacinaa
open Go.Sx Go.Proofs.Ytdpnadknaacinaa.Ty
set_option linter.unusedVariables false
set_option linter.unusedSimpArgs false
set_option maxHeartbeats 2000000

theorem reads_great (s : Sp) (hg : greatB s = true) (x : Rd) (w : Int) : Cn Try.prog 5 [spV s, rdV x, .int .i64 w] [] (fun _ : Unit => .bool true) (fun _ => []) (fun _ => True) := by
  refine fn_intro (N := 91) Try.func5 rfl rfl rfl fun w0 => ?_
  refine okc_seq ?_
  refine okc_region ?_
  refine s_boxA rfl rfl rfl rfl rfl rfl (fun b1 => ?_)
  refine s_boxA rfl rfl rfl rfl rfl rfl (fun b2 => ?_)
  refine s_assign rfl rfl rfl rfl rfl rfl ?_
  refine okl_nil ?_
  change OkC Try.prog _ _ _ _ _ _ _
  refine okc_weak (l' := [(0, _), (1, _), (2, _), (3, _), (4, _), (6, _)]) ⟨rfl, rfl, rfl, rfl, rfl, rfl, trivial⟩ ?_
  refine okc_seq ?_
  refine okc_seq ?_
  refine okc_region ?_
  refine s_loadW 1 rfl rfl rfl rfl rfl rfl rfl rfl rfl rfl ?_
  refine s_callb rfl rfl rfl rfl rfl rfl rfl c16 (great_fn s) covers_nil (fun h3 => ?_) (fun h3 => ?_)
  · refine okl_nil ?_
    change OkC Try.prog _ _ _ _ _ _ _
    refine okc_weak (l' := [(0, _), (1, _), (2, _), (3, _), (4, _), (6, _), (21, _)]) ⟨rfl, rfl, rfl, rfl, rfl, rfl, rfl, trivial⟩ ?_
    refine okc_cond_t rfl ?_
    refine okc_seq ?_
    refine okc_region ?_
    refine s_assign rfl rfl rfl rfl rfl rfl ?_
    refine okl_nil ?_
    change OkC Try.prog _ _ _ _ _ _ _
    refine okc_weak (l' := [(0, _), (1, _), (2, _), (3, _), (4, _), (6, _), (21, _)]) ⟨rfl, rfl, rfl, rfl, rfl, rfl, rfl, trivial⟩ ?_
    refine okc_ret fun a w hs => ?_
    exact ret_v hs (run_results1 hs rfl (rv_tmp rfl)) (rfl)
  · exact absurd h3 (by simp [hg]) --closed

open Go.ChangeShapes Go.WideShapes Go.ChangeAt Go.RowKit
set_option maxRecDepth 100000 in
theorem open_reading {H : Type} {enc : TypeId × Value → H} {w : World} {base : Nat} {spare : Nat → Bool} {held : Bool} {v : Value} {d : DataW H} {ps : List MemPlace} (hv : Value.okWide Try.prog w .any base 69 v) (h : DataW.Trod enc Try.prog w 0 spare held 69 v d ps) : ∃ x : Rd, v = rdV x := by
  obtain ⟨cs, rfl, hcs⟩ := okWide_struct Try.underlying69 hv
  obtain ⟨fuel, h⟩ := h
  have h' : DataW.trod enc Try.prog w 0 spare held fuel 69 cs.toList = some (d, ps) := h
  obtain ⟨r, hr⟩ := rd_reading h'
  refine ⟨r, ?_⟩
  show Value.agg cs = Value.agg _
  congr 1
  apply Array.ext'
  rw [hr]
theorem reads_any (s : Sp) (M : Args) (W : World) (hc : Came W M s) (x : Rd) (w : Int) : Calls Try.prog 5 #[spV s, rdV x, .int .i64 w] W fun e w' => e = .returned (.bool true) ∧ Below W.heap.size W w' := by
  cases hg : greatB s with
  | true => exact law_end (reads_great s hg x w) (fun b cs h => by cases h)
  | false =>
    have hgr : s.book.length ≤ 30 ∧ s.reads.length ≤ 30 := by simp [greatB] at hg; omega
    exact law_end (reads_fn s M (hc.2 (by omega) (by omega)) x w) hc.1


set_option maxRecDepth 100000 in
theorem reads_lifted (os : Os) (started : os.Started) (H : Type) (enc : TypeId × Value → H) :
    ReturnsInHanded {} Try.checked os 5 .any (Rows.springReadsSpec.pre6 enc Try.prog Try.f5 Rows.springReadsRow.domain false) (Rows.springReadsSpec.post enc Try.prog Try.f5 false true false false) := by
  refine returnsInHanded_of_change (C := Try.checked) Try.own started (by kernel_rfl) Try.func5
    (ChangeSpec.witness6 (enc := enc) (C := Try.checked) false ⟨#[], #[.agg #[.int .i64 0, .int .i64 0, .int .i64 0, .int .i64 0, .int .i64 0, .int .i64 0, .int .i64 0, .slice none 0 0, .slice none 0 0], .agg #[.int .i64 0, .int .i64 0, .int .i64 0, .int .i64 0, .int .i64 0], .int .i64 0], []⟩ 8 (by kernel_rfl) (by kernel_rfl) (by kernel_rfl) (by kernel_rfl)) ?_
  intro W base args ds gs before hval0 hW hcnd _
  have hval : ∀ (j : Nat) t v, Try.f5.params[j]? = some t → args[j]? = some v → Value.okWide Try.prog W .any base t v := hval0
  have hW' := hW
  obtain ⟨p, q, hA0, hV, rfl, hfz, hnd⟩ := hW
  have hA : DataW.TrodAll enc Try.prog W 0 (fun _ => true) true Try.f5.params.toList args.toList ds p := hA0
  rw [Try.params5] at hA hval
  obtain ⟨v0, v1, v2, d0, d1, d2, p0, p1, p2, rfl, rfl, rfl, h0, h1, h2⟩ := trodAll_three hA
  obtain ⟨rfl, rfl⟩ := trodVars_none hV
  obtain ⟨s, M, rfl, hcame⟩ := open_spring (hval 0 27 v0 rfl rfl) h0
  obtain ⟨x, rfl⟩ := open_reading (hval 1 69 v1 rfl rfl) h1
  obtain ⟨w, rfl, rfl, rfl, w2⟩ := open_int Try.underlying3 (hval 2 3 v2 rfl rfl) h2
  clear hA0 hval0
  simp only [List.append_nil] at hW'
  refine (reads_any s M W hcame x w).mono fun e W' ⟨he, hb⟩ => ?_
  subst he
  have hlt : ∀ y ∈ p0, y.block < W.heap.size := fun y hy => by simpa using hW'.lt y (by simp [hy])
  have hlt1 : ∀ y ∈ p1, y.block < W.heap.size := fun y hy => by simpa using hW'.lt y (by simp [hy])
  refine ⟨_, rfl, _, _, _, [], p0 ++ (p1 ++ []), [], hW', ?_, ?_, ?_, hb.frame _, fun h => by cases h⟩
  · exact trodAll_mk1 (shut_bool Try.underlying4 true)
  · exact trodAll_mk3 (Below.trod Try.laidOut (by kernel_rfl) (of_decide_eq_true (by kernel_rfl)) h0 hb hlt) (Below.trod Try.laidOut (by kernel_rfl) (of_decide_eq_true (by kernel_rfl)) h1 hb hlt1) (shut_int Try.underlying3 w2)
  · rfl

theorem springReads_holds : Rows.SpringReadsSaid :=
  OpenClaim.holds_of_wide 5 Try.f5 rfl rfl rfl rfl rfl rfl rfl ⟨rfl, rfl, rfl, rfl, rfl⟩ rfl rfl rfl rfl rfl (by kernel_rfl) Try.func5 (by kernel_rfl)
    (of_decide_eq_true (by kernel_rfl)) (by unfold Func.isWrapper; first | (rw [if_pos (by decide +kernel)]; kernel_rfl) | (rw [if_neg (by decide +kernel)]; exact ⟨rfl, rfl⟩))
    (fun os started H enc _ => reads_lifted os started H enc)

end Go.Proofs.Ytdpnadknaacinaa
end
