/-
  The reference: the rains with truths, and what they leave.
  Conditions: none.
-/
import Derived.Test.YtdpnadknaacinaaC18
namespace Go.Proofs.Ytdpnadknaacinaa
open Go.Sx Go.Proofs.Ytdpnadknaacinaa.Ty
set_option linter.unusedVariables false
set_option maxHeartbeats 2000000


def leavesF (s : Sp) (f : Bd) (r : Int) : Bd := narS s (s.book.foldl (addL r) f)
def rainsFN (s : Sp) (f : Bd) (k : Nat) : List Int := ((List.range k).map fun (i : Nat) => s.wlo + (i : Int)).filter fun r => okN s (leavesF s f r)
def rainsF (s : Sp) (f : Bd) : List Int := rainsFN s f (rainN s)
theorem rainsFN_succ (s : Sp) (f : Bd) (k : Nat) : rainsFN s f (k + 1) = if okN s (leavesF s f (s.wlo + (k : Int))) then rainsFN s f k ++ [s.wlo + (k : Int)] else rainsFN s f k := by
  simp only [rainsFN, List.range_succ, List.map_append, List.filter_append, List.map_cons, List.map_nil, List.filter_cons, List.filter_nil]
  split <;> simp
theorem rainsFN_len (s : Sp) (f : Bd) (k : Nat) : (rainsFN s f k).length ≤ k := by
  refine Nat.le_trans (List.length_filter_le _ _) ?_
  simp
/-- What they leave, cell by cell. -/
def lefts (s : Sp) (f : Bd) (L : List Int) : List Value := L.flatMap fun r => leC (leavesF s f r)
theorem lefts_snoc (s : Sp) (f : Bd) (L : List Int) (r : Int) : lefts s f (L ++ [r]) = lefts s f L ++ leC (leavesF s f r) := by simp [lefts]
/-- Two slices that are handed back. -/
structure Rn2 where
  p1 : Option Addr
  c1 : Nat
  B1 : Blks
  p2 : Option Addr
  c2 : Nat
  B2 : Blks
theorem rleaves_t (s : Sp) (M : Args) (hin : s.In M) (hs0 : OkS s) (f : Bd) (hf : BdOk f) (rain : Int) {b : Bool} (h : okN s (leavesF s f rain) = b) :
    Cn Try.prog 139 [spV s, leV f, .int .i64 rain] M (fun _ : Unit => .tuple #[leV (leavesF s f rain), .bool b]) (fun _ => []) (fun _ => True) := by
  have := rleaves_fn s M hin hs0 f hf rain
  rw [show okN s (narS s (s.book.foldl (addL rain) f)) = b from h] at this
  exact this

theorem rained_fn (s : Sp) (M : Args) (hin : s.In M) (hs0 : OkS s) (f : Bd) (hf : BdOk f) : Cn Try.prog 125 [spV s, leV f] M (fun g : Rn2 => .tuple #[.slice g.p1 (rainsF s f).length g.c1, .slice g.p2 (rainsF s f).length g.c2]) (fun g => g.B1 ++ g.B2) (fun g => Sl g.B1 3 1 g.p1 (rainsF s f).length g.c1 (ints (rainsF s f)) ∧ Sl g.B2 135 20 g.p2 (rainsF s f).length g.c2 (lefts s f (rainsF s f))) := by
  have ho := hs0.ok
  have ho2 := ho
  obtain ⟨w1, w2, m1, m2, f1, f2, a1, a2, a3, v1, v2, v3⟩ := ho2
  have hrn : rainN s ≤ 21 := by unfold rainN; omega
  refine fn_intro (N := 39) Try.func125 rfl rfl rfl fun w0 => ?_
  refine okc_seq ?_
  refine okc_region ?_
  refine s_boxA rfl rfl rfl rfl rfl rfl (fun b1 => ?_)
  refine s_boxA rfl rfl rfl rfl rfl rfl (fun b2 => ?_)
  refine s_assign rfl rfl rfl rfl rfl rfl ?_
  refine s_assign rfl rfl rfl rfl rfl rfl ?_
  refine okl_nil ?_
  change OkC Try.prog _ _ _ _ _ _ _
  refine okc_weak (l' := [(0, _), (1, _), (2, _), (3, _), (4, _), (5, _)]) ⟨rfl, rfl, rfl, rfl, rfl, rfl, trivial⟩ ?_
  refine okc_seq ?_
  refine okc_region ?_
  refine s_assign rfl rfl rfl rfl rfl rfl ?_
  refine okl_nil ?_
  change OkC Try.prog _ _ _ _ _ _ _
  refine okc_weak (l' := [(0, _), (1, _), (2, _), (3, _), (4, _), (5, _), (6, _)]) ⟨rfl, rfl, rfl, rfl, rfl, rfl, rfl, trivial⟩ ?_
  refine okc_seq ?_
  refine okc_region ?_
  refine s_assign rfl rfl rfl rfl rfl rfl ?_
  refine okl_nil ?_
  change OkC Try.prog _ _ _ _ _ _ _
  refine okc_weak (l' := [(0, _), (1, _), (2, _), (3, _), (4, _), (5, _), (6, _), (7, _)]) ⟨rfl, rfl, rfl, rfl, rfl, rfl, rfl, rfl, trivial⟩ ?_
  refine okc_seq ?_
  refine okc_seq ?_
  refine okc_region ?_
  refine s_field rfl rfl rfl rfl rfl rfl rfl rfl ?_
  refine s_field rfl rfl rfl rfl rfl rfl rfl rfl ?_
  refine s_load1 1 rfl rfl rfl rfl rfl rfl rfl rfl rfl ?_
  refine s_assign rfl rfl rfl rfl rfl rfl ?_
  refine okl_nil ?_
  change OkC Try.prog _ _ _ _ _ _ _
  refine okc_weak (l' := [(0, _), (1, _), (2, _), (3, _), (4, _), (5, _), (6, _), (7, _), (8, _)]) ⟨rfl, rfl, rfl, rfl, rfl, rfl, rfl, rfl, rfl, trivial⟩ ?_
  refine okc_block ?_
  refine okc_loop (γ := Nat × Nat × Rn2) (fun g => [(2, .pointer (some ⟨b1, 0, none⟩)), (3, .pointer (some ⟨b2, 0, none⟩)), (6, .slice g.2.2.p1 g.2.1 g.2.2.c1), (7, .slice g.2.2.p2 g.2.1 g.2.2.c2), (8, .int .i64 (s.wlo + (g.1 : Int)))]) (fun g => [(b2, leC f, 135), (b1, [.int .i64 s.weeks, .int .i64 s.most, .int .i64 s.fall, .int .i64 s.slo, .int .i64 s.shi, .int .i64 s.wlo, .int .i64 s.whi, .slice s.bp s.book.length s.bc, .slice s.rp s.reads.length s.rc], 27)] ++ (g.2.2.B1 ++ g.2.2.B2)) (fun g => g.1 ≤ rainN s ∧ g.2.1 = (rainsFN s f g.1).length ∧ Sl g.2.2.B1 3 1 g.2.2.p1 g.2.1 g.2.2.c1 (ints (rainsFN s f g.1)) ∧ Sl g.2.2.B2 135 20 g.2.2.p2 g.2.1 g.2.2.c2 (lefts s f (rainsFN s f g.1))) (fun g => rainN s - g.1) (0, 0, ⟨none, 0, [], none, 0, []⟩) ⟨Nat.zero_le _, rfl, Sl.nil 3 1, Sl.nil 135 20⟩ (fun a w hs => hs.weak ⟨rfl, rfl, rfl, rfl, congrArg (fun z => some (Value.int .i64 z)) (by simp), trivial⟩ [0, 1] (by simp) rfl) ?_
  rintro ⟨k, n, p1, c1, G1, p2, c2, G2⟩ ⟨hk, hn, hsl1, hsl2⟩
  dsimp only at hk hn hsl1 hsl2 ⊢
  refine okc_seq ?_
  refine okc_seq ?_
  refine okc_region ?_
  refine s_move rfl rfl rfl rfl rfl rfl ?_
  refine s_field rfl rfl rfl rfl rfl rfl rfl rfl ?_
  refine s_field rfl rfl rfl rfl rfl rfl rfl rfl ?_
  refine s_load1 1 rfl rfl rfl rfl rfl rfl rfl rfl rfl ?_
  refine s_cmpS rfl rfl rfl rfl rfl rfl rfl rfl (fun h3 => ?_) (fun h3 => ?_)
  · have hle : s.wlo + (k : Int) ≤ s.whi := by simpa using h3
    have hlt : k < rainN s := by unfold rainN; omega
    have hln := rainsFN_len s f k
    refine okl_nil ?_
    change OkC Try.prog _ _ _ _ _ _ _
    refine okc_weak (l' := [(2, _), (3, _), (6, _), (7, _), (8, _), (18, _)]) ⟨rfl, rfl, rfl, rfl, rfl, rfl, trivial⟩ ?_
    refine okc_cond_t rfl ?_
    refine okc_skip ?_
    change OkC Try.prog _ _ _ _ _ _ _
    refine okc_weak (l' := [(2, _), (3, _), (6, _), (7, _), (8, _), (18, _)]) ⟨rfl, rfl, rfl, rfl, rfl, rfl, trivial⟩ ?_
    refine okc_seq ?_
    refine okc_block ?_
    refine okc_seq ?_
    refine okc_region ?_
    refine s_loadW 1 rfl rfl rfl rfl rfl rfl rfl rfl rfl rfl ?_
    refine s_loadW 0 rfl rfl rfl rfl rfl rfl rfl rfl rfl (by first | rfl | assumption) ?_
    refine s_move rfl rfl rfl rfl rfl rfl ?_
    rcases hbool : okN s (leavesF s f (s.wlo + (k : Int))) with _ | _
    · refine s_callv rfl rfl rfl rfl rfl rfl rfl c139 (rleaves_t s M hin hs0 f hf (s.wlo + (k : Int)) hbool) covers_all ?_
      refine s_move rfl rfl rfl rfl rfl rfl ?_
      refine s_extract rfl rfl rfl rfl rfl rfl rfl ?_
      refine s_extract rfl rfl rfl rfl rfl rfl rfl ?_
      refine s_alloc rfl rfl rfl rfl rfl rfl (fun b4 => ?_)
      refine k_storeW 0 rfl rfl rfl rfl rfl rfl rfl rfl rfl rfl rfl rfl ?_
      refine s_assign rfl rfl rfl rfl rfl rfl ?_
      refine okl_nil ?_
      change OkC Try.prog _ _ _ _ _ _ _
      refine okc_weak (l' := [(2, _), (3, _), (6, _), (7, _), (8, _), (9, _), (10, _), (18, _)]) ⟨rfl, rfl, rfl, rfl, rfl, rfl, rfl, rfl, trivial⟩ ?_
      refine okc_seq ?_
      refine okc_region ?_
      refine s_move rfl rfl rfl rfl rfl rfl ?_
      refine okl_nil ?_
      change OkC Try.prog _ _ _ _ _ _ _
      refine okc_weak (l' := [(2, _), (3, _), (6, _), (7, _), (8, _), (9, _), (10, _), (18, _), (28, _)]) ⟨rfl, rfl, rfl, rfl, rfl, rfl, rfl, rfl, rfl, trivial⟩ ?_
      refine okc_cond_f rfl ?_
      refine okc_skip ?_
      change OkC Try.prog _ _ _ _ _ _ _
      refine okc_weak (l' := [(2, _), (3, _), (6, _), (7, _), (8, _), (9, _), (10, _), (18, _), (28, _)]) ⟨rfl, rfl, rfl, rfl, rfl, rfl, rfl, rfl, rfl, trivial⟩ ?_
      refine okc_region ?_
      refine s_move rfl rfl rfl rfl rfl rfl ?_
      refine s_add rfl rfl rfl rfl rfl rfl rfl (by omega) ?_
      refine s_assign rfl rfl rfl rfl rfl rfl ?_
      refine okl_nil ?_
      exact fun a w hs => ⟨(k + 1, n, ⟨p1, c1, G1, p2, c2, G2⟩), ⟨hlt, by rw [rainsFN_succ, if_neg (by simp [hbool])]; exact hn, by rw [rainsFN_succ, if_neg (by simp [hbool])]; exact hsl1, by rw [rainsFN_succ, if_neg (by simp [hbool])]; exact hsl2⟩, by show rainN s - (k + 1) < rainN s - k; omega, hs.sub ⟨rfl, rfl, rfl, rfl, congrArg (fun z => some (Value.int .i64 z)) (by simp; omega), trivial⟩ (sub_drop 1 rfl)⟩
    · refine s_callv rfl rfl rfl rfl rfl rfl rfl c139 (rleaves_t s M hin hs0 f hf (s.wlo + (k : Int)) hbool) covers_all ?_
      refine s_move rfl rfl rfl rfl rfl rfl ?_
      refine s_extract rfl rfl rfl rfl rfl rfl rfl ?_
      refine s_extract rfl rfl rfl rfl rfl rfl rfl ?_
      refine s_alloc rfl rfl rfl rfl rfl rfl (fun b5 => ?_)
      refine k_storeW 0 rfl rfl rfl rfl rfl rfl rfl rfl rfl rfl rfl rfl ?_
      refine s_assign rfl rfl rfl rfl rfl rfl ?_
      refine okl_nil ?_
      change OkC Try.prog _ _ _ _ _ _ _
      refine okc_weak (l' := [(2, _), (3, _), (6, _), (7, _), (8, _), (9, _), (10, _), (18, _)]) ⟨rfl, rfl, rfl, rfl, rfl, rfl, rfl, rfl, trivial⟩ ?_
      refine okc_seq ?_
      refine okc_region ?_
      refine s_move rfl rfl rfl rfl rfl rfl ?_
      refine okl_nil ?_
      change OkC Try.prog _ _ _ _ _ _ _
      refine okc_weak (l' := [(2, _), (3, _), (6, _), (7, _), (8, _), (9, _), (10, _), (18, _), (28, _)]) ⟨rfl, rfl, rfl, rfl, rfl, rfl, rfl, rfl, rfl, trivial⟩ ?_
      refine okc_cond_t rfl ?_
      refine okc_drawx [29, 30, 31, 32, 33, 34, 35, 36] [3, 7] [⟨some 29, [], [], fun _ v B => v = .slice p1 n c1 ∧ B = []⟩, ⟨some 30, [], [], fun _ v B => v = .int .i64 (s.wlo + (k : Int)) ∧ B = []⟩, ⟨some 31, [1], [], fun _ v B => ∃ b, v = .slice (some ⟨b, 0, none⟩) 1 1 ∧ B = [(b, [.int .i64 (s.wlo + (k : Int))], 3)] ∧ True⟩, ⟨some 32, [0, 2], G1, fun _ v B => ∃ p c, v = .slice p (n + 1) c ∧ Sl B 3 1 p (n + 1) c (ints (rainsFN s f k) ++ [.int .i64 (s.wlo + (k : Int))])⟩, ⟨some 33, [], [], fun _ v B => v = .slice p2 n c2 ∧ B = []⟩, ⟨some 34, [], [], fun _ v B => v = leV (leavesF s f (s.wlo + (k : Int))) ∧ B = []⟩, ⟨some 35, [5], [], fun _ v B => ∃ b, v = .slice (some ⟨b, 0, none⟩) 1 1 ∧ B = [(b, leC (leavesF s f (s.wlo + (k : Int))), 135)] ∧ True⟩, ⟨some 36, [4, 6], G2, fun _ v B => ∃ p c, v = .slice p (n + 1) c ∧ Sl B 135 20 p (n + 1) c (lefts s f (rainsFN s f k) ++ leC (leavesF s f (s.wlo + (k : Int))))⟩] 8 3 [(b5, leC (leavesF s f (s.wlo + (k : Int))), 135), (b2, leC f, 135), (b1, [.int .i64 s.weeks, .int .i64 s.most, .int .i64 s.fall, .int .i64 s.slo, .int .i64 s.shi, .int .i64 s.wlo, .int .i64 s.whi, .slice s.bp s.book.length s.bc, .slice s.rp s.reads.length s.rc], 27)] rfl rfl rfl rfl rfl rfl rfl (by show (_ : Blks).Perm (_ ++ (G1 ++ (G2 ++ []))); simp) ⟨?_, ?_, ?_, ?_, ?_, ?_, ?_, ?_, trivial⟩ (fun ρ hρ => ?_) rfl
      · refine obl_x rfl rfl rfl rfl (fun ρ hρ => ?_)
        exact .inl ⟨rfl, opx_v (fun F => op_move rfl rfl)⟩
      · refine obl_x rfl rfl rfl rfl (fun ρ hρ => ?_)
        exact .inl ⟨rfl, opx_v (fun F => op_move rfl rfl)⟩
      · refine obl_x rfl rfl rfl rfl (fun ρ hρ => ?_)
        have h1 := hρ 1 (by simp) _ rfl
        change GoodX Try.prog _ _ _ _ ((30, (ρ 1).1) :: _) _ (((ρ 1).2 ++ []) ++ _) _ _
        generalize ρ 1 = q1 at h1 ⊢
        obtain ⟨v1, B1⟩ := q1
        obtain ⟨rfl, rfl⟩ := h1
        exact .inl ⟨rfl, opx_r (fun F => k_slice1 rfl rfl rfl rfl rfl rfl)⟩
      · refine obl_x rfl rfl rfl rfl (fun ρ hρ => ?_)
        have h0 := hρ 0 (by simp) _ rfl
        have h2 := hρ 2 (by simp) _ rfl
        change GoodX Try.prog _ _ _ _ ((29, (ρ 0).1) :: (31, (ρ 2).1) :: _) _ (((ρ 0).2 ++ ((ρ 2).2 ++ [])) ++ _) _ _
        generalize ρ 0 = q0 at h0 ⊢
        obtain ⟨v0, B0⟩ := q0
        obtain ⟨rfl, rfl⟩ := h0
        generalize ρ 2 = q2 at h2 ⊢
        obtain ⟨v2, B2⟩ := q2
        obtain ⟨b82, rfl, rfl, _⟩ := h2
        exact .inl ⟨rfl, k_append1 0 hsl1 by3 rfl rfl rfl rfl rfl rfl rfl rfl rfl rfl rfl (by omega)⟩
      · refine obl_x rfl rfl rfl rfl (fun ρ hρ => ?_)
        exact .inl ⟨rfl, opx_v (fun F => op_move rfl rfl)⟩
      · refine obl_x rfl rfl rfl rfl (fun ρ hρ => ?_)
        exact .inl ⟨rfl, opx_v (fun F => k_loadW 0 rfl rfl rfl rfl rfl rfl)⟩
      · refine obl_x rfl rfl rfl rfl (fun ρ hρ => ?_)
        have h5 := hρ 5 (by simp) _ rfl
        change GoodX Try.prog _ _ _ _ ((34, (ρ 5).1) :: _) _ (((ρ 5).2 ++ []) ++ _) _ _
        generalize ρ 5 = q5 at h5 ⊢
        obtain ⟨v5, B5⟩ := q5
        obtain ⟨rfl, rfl⟩ := h5
        exact .inl ⟨rfl, opx_r (fun F => k_slice1N rfl rfl rfl rfl rfl rfl rfl rfl rfl)⟩
      · refine obl_x rfl rfl rfl rfl (fun ρ hρ => ?_)
        have h4 := hρ 4 (by simp) _ rfl
        have h6 := hρ 6 (by simp) _ rfl
        change GoodX Try.prog _ _ _ _ ((33, (ρ 4).1) :: (35, (ρ 6).1) :: _) _ (((ρ 4).2 ++ ((ρ 6).2 ++ [])) ++ _) _ _
        generalize ρ 4 = q4 at h4 ⊢
        obtain ⟨v4, B4⟩ := q4
        obtain ⟨rfl, rfl⟩ := h4
        generalize ρ 6 = q6 at h6 ⊢
        obtain ⟨v6, B6⟩ := q6
        obtain ⟨b86, rfl, rfl, _⟩ := h6
        exact .inl ⟨rfl, k_append1 0 hsl2 by135 rfl rfl rfl rfl rfl rfl rfl rfl rfl rfl rfl (by omega)⟩
      have h0 := hρ 0 (by decide) _ rfl
      have h1 := hρ 1 (by decide) _ rfl
      have h2 := hρ 2 (by decide) _ rfl
      have h3 := hρ 3 (by decide) _ rfl
      have h4 := hρ 4 (by decide) _ rfl
      have h5 := hρ 5 (by decide) _ rfl
      have h6 := hρ 6 (by decide) _ rfl
      have h7 := hρ 7 (by decide) _ rfl
      change Go.Sx.OkL Try.prog _ _ _ _ _ ((32, (ρ 3).1) :: (36, (ρ 7).1) :: _) (_ ++ ((ρ 0).2 ++ ((ρ 1).2 ++ ((ρ 2).2 ++ ((ρ 3).2 ++ ((ρ 4).2 ++ ((ρ 5).2 ++ ((ρ 6).2 ++ ((ρ 7).2 ++ []))))))))) _
      generalize ρ 0 = q0 at *
      obtain ⟨v0, B0⟩ := q0
      obtain ⟨rfl, rfl⟩ := h0
      generalize ρ 1 = q1 at *
      obtain ⟨v1, B1⟩ := q1
      obtain ⟨rfl, rfl⟩ := h1
      generalize ρ 2 = q2 at *
      obtain ⟨v2, B2⟩ := q2
      obtain ⟨b82, rfl, rfl, _⟩ := h2
      generalize ρ 3 = q3 at *
      obtain ⟨v3, B3⟩ := q3
      obtain ⟨pA, cA, rfl, hA⟩ := h3
      generalize ρ 4 = q4 at *
      obtain ⟨v4, B4⟩ := q4
      obtain ⟨rfl, rfl⟩ := h4
      generalize ρ 5 = q5 at *
      obtain ⟨v5, B5⟩ := q5
      obtain ⟨rfl, rfl⟩ := h5
      generalize ρ 6 = q6 at *
      obtain ⟨v6, B6⟩ := q6
      obtain ⟨b86, rfl, rfl, _⟩ := h6
      generalize ρ 7 = q7 at *
      obtain ⟨v7, B7⟩ := q7
      obtain ⟨pB, cB, rfl, hB⟩ := h7
      refine okl_sub (O' := [(b5, leC (leavesF s f (s.wlo + (k : Int))), 135), (b2, leC f, 135), (b1, [.int .i64 s.weeks, .int .i64 s.most, .int .i64 s.fall, .int .i64 s.slo, .int .i64 s.shi, .int .i64 s.wlo, .int .i64 s.whi, .slice s.bp s.book.length s.bc, .slice s.rp s.reads.length s.rc], 27)] ++ (B3 ++ B7)) (List.Sublist.append (List.Sublist.refl _) (by dsimp only; simp only [List.nil_append, List.cons_append, List.append_nil]; exact .cons _ (List.Sublist.append (List.Sublist.refl _) (.cons _ (List.Sublist.refl _))))) ?_
      refine s_assign rfl rfl rfl rfl rfl rfl ?_
      refine s_assign rfl rfl rfl rfl rfl rfl ?_
      refine okl_nil ?_
      change OkC Try.prog _ _ _ _ _ _ _
      refine okc_weak (l' := [(2, _), (3, _), (6, _), (7, _), (8, _), (9, _), (10, _), (18, _), (28, _)]) ⟨rfl, rfl, rfl, rfl, rfl, rfl, rfl, rfl, rfl, trivial⟩ ?_
      refine okc_region ?_
      refine s_move rfl rfl rfl rfl rfl rfl ?_
      refine s_add rfl rfl rfl rfl rfl rfl rfl (by omega) ?_
      refine s_assign rfl rfl rfl rfl rfl rfl ?_
      refine okl_nil ?_
      exact fun a w hs => ⟨(k + 1, n + 1, ⟨pA, cA, B3, pB, cB, B7⟩), ⟨hlt, by rw [rainsFN_succ, if_pos hbool]; simp [hn], by rw [rainsFN_succ, if_pos hbool, ints_snoc]; exact hA, by rw [rainsFN_succ, if_pos hbool, lefts_snoc]; exact hB⟩, by show rainN s - (k + 1) < rainN s - k; omega, hs.sub ⟨rfl, rfl, rfl, rfl, congrArg (fun z => some (Value.int .i64 z)) (by simp; omega), trivial⟩ (sub_drop 1 rfl)⟩
  · have hge : ¬ s.wlo + (k : Int) ≤ s.whi := by simpa using h3
    have hkw : k = rainN s := by unfold rainN at hk ⊢; omega
    refine okl_nil ?_
    change OkC Try.prog _ _ _ _ _ _ _
    refine okc_weak (l' := [(2, _), (3, _), (6, _), (7, _), (8, _), (18, _)]) ⟨rfl, rfl, rfl, rfl, rfl, rfl, trivial⟩ ?_
    refine okc_cond_f rfl ?_
    refine okc_exit ?_
    change OkC Try.prog _ _ _ _ _ _ _
    refine okc_weak (l' := [(2, _), (3, _), (6, _), (7, _), (8, _), (18, _)]) ⟨rfl, rfl, rfl, rfl, rfl, rfl, trivial⟩ ?_
    refine okc_seq ?_
    refine okc_region ?_
    refine s_move rfl rfl rfl rfl rfl rfl ?_
    refine s_move rfl rfl rfl rfl rfl rfl ?_
    refine s_assign rfl rfl rfl rfl rfl rfl ?_
    refine s_assign rfl rfl rfl rfl rfl rfl ?_
    refine okl_nil ?_
    change OkC Try.prog _ _ _ _ _ _ _
    refine okc_weak (l' := [(2, _), (3, _), (4, _), (5, _), (6, _), (7, _), (8, _), (18, _)]) ⟨rfl, rfl, rfl, rfl, rfl, rfl, rfl, rfl, trivial⟩ ?_
    refine okc_ret fun a w hs => ?_
    subst hkw
    subst hn
    exact ret_postS hs (run_results2 hs rfl (rv_tmp rfl) (rv_tmp rfl)) ⟨p1, c1, G1, p2, c2, G2⟩ rfl ⟨hsl1, hsl2⟩ (sub_drop 2 rfl)
end Go.Proofs.Ytdpnadknaacinaa
