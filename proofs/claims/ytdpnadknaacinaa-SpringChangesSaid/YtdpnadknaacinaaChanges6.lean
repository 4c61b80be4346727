/-
  Texts that the proof uses, part 6.
  Conditions: none.
-/
import Derived.Test.YtdpnadknaacinaaChanges5
import Derived.Laws.StructEq

set_option linter.unusedVariables false
set_option linter.unusedSimpArgs false

section
namespace Go.Proofs.Ytdpnadknaacinaa
open Go.Sx Go.Proofs.Ytdpnadknaacinaa.Ty
set_option linter.unusedVariables false
set_option maxHeartbeats 2000000


def leavesF (s : Sp) (f : Bd) (r : Int) : Bd := narS s (s.book.foldl (addL r) f)
def rainsFN (s : Sp) (f : Bd) (k : Nat) : List Int := ((List.range k).map fun (i : Nat) => s.wlo + (i : Int)).filter fun r => okN s (leavesF s f r)
def rainsF (s : Sp) (f : Bd) : List Int := rainsFN s f (rainN s)
theorem rainsFN_succ (s : Sp) (f : Bd) (k : Nat) : rainsFN s f (k + 1) = if okN s (leavesF s f (s.wlo + (k : Int))) then rainsFN s f k ++ [s.wlo + (k : Int)] else rainsFN s f k := by
  simp only [rainsFN, List.range_succ, List.map_append, List.filter_append, List.map_cons, List.map_nil, List.filter_cons, List.filter_nil]
  split <;> simp
theorem rainsFN_len (s : Sp) (f : Bd) (k : Nat) : (rainsFN s f k).length ≤ k := by
  refine Nat.le_trans (List.length_filter_le _ _) ?_
  simp
/-- What they leave, cell by cell. -/
def lefts (s : Sp) (f : Bd) (L : List Int) : List Value := L.flatMap fun r => leC (leavesF s f r)
theorem lefts_snoc (s : Sp) (f : Bd) (L : List Int) (r : Int) : lefts s f (L ++ [r]) = lefts s f L ++ leC (leavesF s f r) := by simp [lefts]
/-- Two slices that are handed back. -/
structure Rn2 where
  p1 : Option Addr
  c1 : Nat
  B1 : Blks
  p2 : Option Addr
  c2 : Nat
  B2 : Blks
theorem rleaves_t (s : Sp) (M : Args) (hin : s.In M) (hs0 : OkS s) (f : Bd) (hf : BdOk f) (rain : Int) {b : Bool} (h : okN s (leavesF s f rain) = b) :
    Cn Try.prog 139 [spV s, leV f, .int .i64 rain] M (fun _ : Unit => .tuple #[leV (leavesF s f rain), .bool b]) (fun _ => []) (fun _ => True) := by
  have := rleaves_fn s M hin hs0 f hf rain
  rw [show okN s (narS s (s.book.foldl (addL rain) f)) = b from h] at this
  exact this

theorem rained_fn (s : Sp) (M : Args) (hin : s.In M) (hs0 : OkS s) (f : Bd) (hf : BdOk f) : Cn Try.prog 125 [spV s, leV f] M (fun g : Rn2 => .tuple #[.slice g.p1 (rainsF s f).length g.c1, .slice g.p2 (rainsF s f).length g.c2]) (fun g => g.B1 ++ g.B2) (fun g => Sl g.B1 3 1 g.p1 (rainsF s f).length g.c1 (ints (rainsF s f)) ∧ Sl g.B2 135 20 g.p2 (rainsF s f).length g.c2 (lefts s f (rainsF s f))) := by
  have ho := hs0.ok
  have ho2 := ho
  obtain ⟨w1, w2, m1, m2, f1, f2, a1, a2, a3, v1, v2, v3⟩ := ho2
  have hrn : rainN s ≤ 21 := by unfold rainN; omega
  refine fn_intro (N := 39) Try.func125 rfl rfl rfl fun w0 => ?_
  refine okc_seq ?_
  refine okc_region ?_
  refine s_boxA rfl rfl rfl rfl rfl rfl (fun b1 => ?_)
  refine s_boxA rfl rfl rfl rfl rfl rfl (fun b2 => ?_)
  refine s_assign rfl rfl rfl rfl rfl rfl ?_
  refine s_assign rfl rfl rfl rfl rfl rfl ?_
  refine okl_nil ?_
  change OkC Try.prog _ _ _ _ _ _ _
  refine okc_weak (l' := [(0, _), (1, _), (2, _), (3, _), (4, _), (5, _)]) ⟨rfl, rfl, rfl, rfl, rfl, rfl, trivial⟩ ?_
  refine okc_seq ?_
  refine okc_region ?_
  refine s_assign rfl rfl rfl rfl rfl rfl ?_
  refine okl_nil ?_
  change OkC Try.prog _ _ _ _ _ _ _
  refine okc_weak (l' := [(0, _), (1, _), (2, _), (3, _), (4, _), (5, _), (6, _)]) ⟨rfl, rfl, rfl, rfl, rfl, rfl, rfl, trivial⟩ ?_
  refine okc_seq ?_
  refine okc_region ?_
  refine s_assign rfl rfl rfl rfl rfl rfl ?_
  refine okl_nil ?_
  change OkC Try.prog _ _ _ _ _ _ _
  refine okc_weak (l' := [(0, _), (1, _), (2, _), (3, _), (4, _), (5, _), (6, _), (7, _)]) ⟨rfl, rfl, rfl, rfl, rfl, rfl, rfl, rfl, trivial⟩ ?_
  refine okc_seq ?_
  refine okc_seq ?_
  refine okc_region ?_
  refine s_field rfl rfl rfl rfl rfl rfl rfl rfl ?_
  refine s_field rfl rfl rfl rfl rfl rfl rfl rfl ?_
  refine s_load1 1 rfl rfl rfl rfl rfl rfl rfl rfl rfl ?_
  refine s_assign rfl rfl rfl rfl rfl rfl ?_
  refine okl_nil ?_
  change OkC Try.prog _ _ _ _ _ _ _
  refine okc_weak (l' := [(0, _), (1, _), (2, _), (3, _), (4, _), (5, _), (6, _), (7, _), (8, _)]) ⟨rfl, rfl, rfl, rfl, rfl, rfl, rfl, rfl, rfl, trivial⟩ ?_
  refine okc_block ?_
  refine okc_loop (γ := Nat × Nat × Rn2) (fun g => [(2, .pointer (some ⟨b1, 0, none⟩)), (3, .pointer (some ⟨b2, 0, none⟩)), (6, .slice g.2.2.p1 g.2.1 g.2.2.c1), (7, .slice g.2.2.p2 g.2.1 g.2.2.c2), (8, .int .i64 (s.wlo + (g.1 : Int)))]) (fun g => [(b2, leC f, 135), (b1, [.int .i64 s.weeks, .int .i64 s.most, .int .i64 s.fall, .int .i64 s.slo, .int .i64 s.shi, .int .i64 s.wlo, .int .i64 s.whi, .slice s.bp s.book.length s.bc, .slice s.rp s.reads.length s.rc], 27)] ++ (g.2.2.B1 ++ g.2.2.B2)) (fun g => g.1 ≤ rainN s ∧ g.2.1 = (rainsFN s f g.1).length ∧ Sl g.2.2.B1 3 1 g.2.2.p1 g.2.1 g.2.2.c1 (ints (rainsFN s f g.1)) ∧ Sl g.2.2.B2 135 20 g.2.2.p2 g.2.1 g.2.2.c2 (lefts s f (rainsFN s f g.1))) (fun g => rainN s - g.1) (0, 0, ⟨none, 0, [], none, 0, []⟩) ⟨Nat.zero_le _, rfl, Sl.nil 3 1, Sl.nil 135 20⟩ (fun a w hs => hs.weak ⟨rfl, rfl, rfl, rfl, congrArg (fun z => some (Value.int .i64 z)) (by simp), trivial⟩ [0, 1] (by simp) rfl) ?_
  rintro ⟨k, n, p1, c1, G1, p2, c2, G2⟩ ⟨hk, hn, hsl1, hsl2⟩
  dsimp only at hk hn hsl1 hsl2 ⊢
  refine okc_seq ?_
  refine okc_seq ?_
  refine okc_region ?_
  refine s_move rfl rfl rfl rfl rfl rfl ?_
  refine s_field rfl rfl rfl rfl rfl rfl rfl rfl ?_
  refine s_field rfl rfl rfl rfl rfl rfl rfl rfl ?_
  refine s_load1 1 rfl rfl rfl rfl rfl rfl rfl rfl rfl ?_
  refine s_cmpS rfl rfl rfl rfl rfl rfl rfl rfl (fun h3 => ?_) (fun h3 => ?_)
  · have hle : s.wlo + (k : Int) ≤ s.whi := by simpa using h3
    have hlt : k < rainN s := by unfold rainN; omega
    have hln := rainsFN_len s f k
    refine okl_nil ?_
    change OkC Try.prog _ _ _ _ _ _ _
    refine okc_weak (l' := [(2, _), (3, _), (6, _), (7, _), (8, _), (18, _)]) ⟨rfl, rfl, rfl, rfl, rfl, rfl, trivial⟩ ?_
    refine okc_cond_t rfl ?_
    refine okc_skip ?_
    change OkC Try.prog _ _ _ _ _ _ _
    refine okc_weak (l' := [(2, _), (3, _), (6, _), (7, _), (8, _), (18, _)]) ⟨rfl, rfl, rfl, rfl, rfl, rfl, trivial⟩ ?_
    refine okc_seq ?_
    refine okc_block ?_
    refine okc_seq ?_
    refine okc_region ?_
    refine s_loadW 1 rfl rfl rfl rfl rfl rfl rfl rfl rfl rfl ?_
    refine s_loadW 0 rfl rfl rfl rfl rfl rfl rfl rfl rfl (by first | rfl | assumption) ?_
    refine s_move rfl rfl rfl rfl rfl rfl ?_
    rcases hbool : okN s (leavesF s f (s.wlo + (k : Int))) with _ | _
    · refine s_callv rfl rfl rfl rfl rfl rfl rfl c139 (rleaves_t s M hin hs0 f hf (s.wlo + (k : Int)) hbool) covers_all ?_
      refine s_move rfl rfl rfl rfl rfl rfl ?_
      refine s_extract rfl rfl rfl rfl rfl rfl rfl ?_
      refine s_extract rfl rfl rfl rfl rfl rfl rfl ?_
      refine s_alloc rfl rfl rfl rfl rfl rfl (fun b4 => ?_)
      refine k_storeW 0 rfl rfl rfl rfl rfl rfl rfl rfl rfl rfl rfl rfl ?_
      refine s_assign rfl rfl rfl rfl rfl rfl ?_
      refine okl_nil ?_
      change OkC Try.prog _ _ _ _ _ _ _
      refine okc_weak (l' := [(2, _), (3, _), (6, _), (7, _), (8, _), (9, _), (10, _), (18, _)]) ⟨rfl, rfl, rfl, rfl, rfl, rfl, rfl, rfl, trivial⟩ ?_
      refine okc_seq ?_
      refine okc_region ?_
      refine s_move rfl rfl rfl rfl rfl rfl ?_
      refine okl_nil ?_
      change OkC Try.prog _ _ _ _ _ _ _
      refine okc_weak (l' := [(2, _), (3, _), (6, _), (7, _), (8, _), (9, _), (10, _), (18, _), (28, _)]) ⟨rfl, rfl, rfl, rfl, rfl, rfl, rfl, rfl, rfl, trivial⟩ ?_
      refine okc_cond_f rfl ?_
      refine okc_skip ?_
      change OkC Try.prog _ _ _ _ _ _ _
      refine okc_weak (l' := [(2, _), (3, _), (6, _), (7, _), (8, _), (9, _), (10, _), (18, _), (28, _)]) ⟨rfl, rfl, rfl, rfl, rfl, rfl, rfl, rfl, rfl, trivial⟩ ?_
      refine okc_region ?_
      refine s_move rfl rfl rfl rfl rfl rfl ?_
      refine s_add rfl rfl rfl rfl rfl rfl rfl (by omega) ?_
      refine s_assign rfl rfl rfl rfl rfl rfl ?_
      refine okl_nil ?_
      exact fun a w hs => ⟨(k + 1, n, ⟨p1, c1, G1, p2, c2, G2⟩), ⟨hlt, by rw [rainsFN_succ, if_neg (by simp [hbool])]; exact hn, by rw [rainsFN_succ, if_neg (by simp [hbool])]; exact hsl1, by rw [rainsFN_succ, if_neg (by simp [hbool])]; exact hsl2⟩, by show rainN s - (k + 1) < rainN s - k; omega, hs.sub ⟨rfl, rfl, rfl, rfl, congrArg (fun z => some (Value.int .i64 z)) (by simp; omega), trivial⟩ (sub_drop 1 rfl)⟩
    · refine s_callv rfl rfl rfl rfl rfl rfl rfl c139 (rleaves_t s M hin hs0 f hf (s.wlo + (k : Int)) hbool) covers_all ?_
      refine s_move rfl rfl rfl rfl rfl rfl ?_
      refine s_extract rfl rfl rfl rfl rfl rfl rfl ?_
      refine s_extract rfl rfl rfl rfl rfl rfl rfl ?_
      refine s_alloc rfl rfl rfl rfl rfl rfl (fun b5 => ?_)
      refine k_storeW 0 rfl rfl rfl rfl rfl rfl rfl rfl rfl rfl rfl rfl ?_
      refine s_assign rfl rfl rfl rfl rfl rfl ?_
      refine okl_nil ?_
      change OkC Try.prog _ _ _ _ _ _ _
      refine okc_weak (l' := [(2, _), (3, _), (6, _), (7, _), (8, _), (9, _), (10, _), (18, _)]) ⟨rfl, rfl, rfl, rfl, rfl, rfl, rfl, rfl, trivial⟩ ?_
      refine okc_seq ?_
      refine okc_region ?_
      refine s_move rfl rfl rfl rfl rfl rfl ?_
      refine okl_nil ?_
      change OkC Try.prog _ _ _ _ _ _ _
      refine okc_weak (l' := [(2, _), (3, _), (6, _), (7, _), (8, _), (9, _), (10, _), (18, _), (28, _)]) ⟨rfl, rfl, rfl, rfl, rfl, rfl, rfl, rfl, rfl, trivial⟩ ?_
      refine okc_cond_t rfl ?_
      refine okc_drawx [29, 30, 31, 32, 33, 34, 35, 36] [3, 7] [⟨some 29, [], [], fun _ v B => v = .slice p1 n c1 ∧ B = []⟩, ⟨some 30, [], [], fun _ v B => v = .int .i64 (s.wlo + (k : Int)) ∧ B = []⟩, ⟨some 31, [1], [], fun _ v B => ∃ b, v = .slice (some ⟨b, 0, none⟩) 1 1 ∧ B = [(b, [.int .i64 (s.wlo + (k : Int))], 3)] ∧ True⟩, ⟨some 32, [0, 2], G1, fun _ v B => ∃ p c, v = .slice p (n + 1) c ∧ Sl B 3 1 p (n + 1) c (ints (rainsFN s f k) ++ [.int .i64 (s.wlo + (k : Int))])⟩, ⟨some 33, [], [], fun _ v B => v = .slice p2 n c2 ∧ B = []⟩, ⟨some 34, [], [], fun _ v B => v = leV (leavesF s f (s.wlo + (k : Int))) ∧ B = []⟩, ⟨some 35, [5], [], fun _ v B => ∃ b, v = .slice (some ⟨b, 0, none⟩) 1 1 ∧ B = [(b, leC (leavesF s f (s.wlo + (k : Int))), 135)] ∧ True⟩, ⟨some 36, [4, 6], G2, fun _ v B => ∃ p c, v = .slice p (n + 1) c ∧ Sl B 135 20 p (n + 1) c (lefts s f (rainsFN s f k) ++ leC (leavesF s f (s.wlo + (k : Int))))⟩] 8 3 [(b5, leC (leavesF s f (s.wlo + (k : Int))), 135), (b2, leC f, 135), (b1, [.int .i64 s.weeks, .int .i64 s.most, .int .i64 s.fall, .int .i64 s.slo, .int .i64 s.shi, .int .i64 s.wlo, .int .i64 s.whi, .slice s.bp s.book.length s.bc, .slice s.rp s.reads.length s.rc], 27)] rfl rfl rfl rfl rfl rfl rfl (by show (_ : Blks).Perm (_ ++ (G1 ++ (G2 ++ []))); simp) ⟨?_, ?_, ?_, ?_, ?_, ?_, ?_, ?_, trivial⟩ (fun ρ hρ => ?_) rfl
      · refine obl_x rfl rfl rfl rfl (fun ρ hρ => ?_)
        exact .inl ⟨rfl, opx_v (fun F => op_move rfl rfl)⟩
      · refine obl_x rfl rfl rfl rfl (fun ρ hρ => ?_)
        exact .inl ⟨rfl, opx_v (fun F => op_move rfl rfl)⟩
      · refine obl_x rfl rfl rfl rfl (fun ρ hρ => ?_)
        have h1 := hρ 1 (by simp) _ rfl
        change GoodX Try.prog _ _ _ _ ((30, (ρ 1).1) :: _) _ (((ρ 1).2 ++ []) ++ _) _ _
        generalize ρ 1 = q1 at h1 ⊢
        obtain ⟨v1, B1⟩ := q1
        obtain ⟨rfl, rfl⟩ := h1
        exact .inl ⟨rfl, opx_r (fun F => k_slice1 rfl rfl rfl rfl rfl rfl)⟩
      · refine obl_x rfl rfl rfl rfl (fun ρ hρ => ?_)
        have h0 := hρ 0 (by simp) _ rfl
        have h2 := hρ 2 (by simp) _ rfl
        change GoodX Try.prog _ _ _ _ ((29, (ρ 0).1) :: (31, (ρ 2).1) :: _) _ (((ρ 0).2 ++ ((ρ 2).2 ++ [])) ++ _) _ _
        generalize ρ 0 = q0 at h0 ⊢
        obtain ⟨v0, B0⟩ := q0
        obtain ⟨rfl, rfl⟩ := h0
        generalize ρ 2 = q2 at h2 ⊢
        obtain ⟨v2, B2⟩ := q2
        obtain ⟨b82, rfl, rfl, _⟩ := h2
        exact .inl ⟨rfl, k_append1 0 hsl1 by3 rfl rfl rfl rfl rfl rfl rfl rfl rfl rfl rfl (by omega)⟩
      · refine obl_x rfl rfl rfl rfl (fun ρ hρ => ?_)
        exact .inl ⟨rfl, opx_v (fun F => op_move rfl rfl)⟩
      · refine obl_x rfl rfl rfl rfl (fun ρ hρ => ?_)
        exact .inl ⟨rfl, opx_v (fun F => k_loadW 0 rfl rfl rfl rfl rfl rfl)⟩
      · refine obl_x rfl rfl rfl rfl (fun ρ hρ => ?_)
        have h5 := hρ 5 (by simp) _ rfl
        change GoodX Try.prog _ _ _ _ ((34, (ρ 5).1) :: _) _ (((ρ 5).2 ++ []) ++ _) _ _
        generalize ρ 5 = q5 at h5 ⊢
        obtain ⟨v5, B5⟩ := q5
        obtain ⟨rfl, rfl⟩ := h5
        exact .inl ⟨rfl, opx_r (fun F => k_slice1N rfl rfl rfl rfl rfl rfl rfl rfl rfl)⟩
      · refine obl_x rfl rfl rfl rfl (fun ρ hρ => ?_)
        have h4 := hρ 4 (by simp) _ rfl
        have h6 := hρ 6 (by simp) _ rfl
        change GoodX Try.prog _ _ _ _ ((33, (ρ 4).1) :: (35, (ρ 6).1) :: _) _ (((ρ 4).2 ++ ((ρ 6).2 ++ [])) ++ _) _ _
        generalize ρ 4 = q4 at h4 ⊢
        obtain ⟨v4, B4⟩ := q4
        obtain ⟨rfl, rfl⟩ := h4
        generalize ρ 6 = q6 at h6 ⊢
        obtain ⟨v6, B6⟩ := q6
        obtain ⟨b86, rfl, rfl, _⟩ := h6
        exact .inl ⟨rfl, k_append1 0 hsl2 by135 rfl rfl rfl rfl rfl rfl rfl rfl rfl rfl rfl (by omega)⟩
      have h0 := hρ 0 (by decide) _ rfl
      have h1 := hρ 1 (by decide) _ rfl
      have h2 := hρ 2 (by decide) _ rfl
      have h3 := hρ 3 (by decide) _ rfl
      have h4 := hρ 4 (by decide) _ rfl
      have h5 := hρ 5 (by decide) _ rfl
      have h6 := hρ 6 (by decide) _ rfl
      have h7 := hρ 7 (by decide) _ rfl
      change Go.Sx.OkL Try.prog _ _ _ _ _ ((32, (ρ 3).1) :: (36, (ρ 7).1) :: _) (_ ++ ((ρ 0).2 ++ ((ρ 1).2 ++ ((ρ 2).2 ++ ((ρ 3).2 ++ ((ρ 4).2 ++ ((ρ 5).2 ++ ((ρ 6).2 ++ ((ρ 7).2 ++ []))))))))) _
      generalize ρ 0 = q0 at *
      obtain ⟨v0, B0⟩ := q0
      obtain ⟨rfl, rfl⟩ := h0
      generalize ρ 1 = q1 at *
      obtain ⟨v1, B1⟩ := q1
      obtain ⟨rfl, rfl⟩ := h1
      generalize ρ 2 = q2 at *
      obtain ⟨v2, B2⟩ := q2
      obtain ⟨b82, rfl, rfl, _⟩ := h2
      generalize ρ 3 = q3 at *
      obtain ⟨v3, B3⟩ := q3
      obtain ⟨pA, cA, rfl, hA⟩ := h3
      generalize ρ 4 = q4 at *
      obtain ⟨v4, B4⟩ := q4
      obtain ⟨rfl, rfl⟩ := h4
      generalize ρ 5 = q5 at *
      obtain ⟨v5, B5⟩ := q5
      obtain ⟨rfl, rfl⟩ := h5
      generalize ρ 6 = q6 at *
      obtain ⟨v6, B6⟩ := q6
      obtain ⟨b86, rfl, rfl, _⟩ := h6
      generalize ρ 7 = q7 at *
      obtain ⟨v7, B7⟩ := q7
      obtain ⟨pB, cB, rfl, hB⟩ := h7
      refine okl_sub (O' := [(b5, leC (leavesF s f (s.wlo + (k : Int))), 135), (b2, leC f, 135), (b1, [.int .i64 s.weeks, .int .i64 s.most, .int .i64 s.fall, .int .i64 s.slo, .int .i64 s.shi, .int .i64 s.wlo, .int .i64 s.whi, .slice s.bp s.book.length s.bc, .slice s.rp s.reads.length s.rc], 27)] ++ (B3 ++ B7)) (List.Sublist.append (List.Sublist.refl _) (by dsimp only; simp only [List.nil_append, List.cons_append, List.append_nil]; exact .cons _ (List.Sublist.append (List.Sublist.refl _) (.cons _ (List.Sublist.refl _))))) ?_
      refine s_assign rfl rfl rfl rfl rfl rfl ?_
      refine s_assign rfl rfl rfl rfl rfl rfl ?_
      refine okl_nil ?_
      change OkC Try.prog _ _ _ _ _ _ _
      refine okc_weak (l' := [(2, _), (3, _), (6, _), (7, _), (8, _), (9, _), (10, _), (18, _), (28, _)]) ⟨rfl, rfl, rfl, rfl, rfl, rfl, rfl, rfl, rfl, trivial⟩ ?_
      refine okc_region ?_
      refine s_move rfl rfl rfl rfl rfl rfl ?_
      refine s_add rfl rfl rfl rfl rfl rfl rfl (by omega) ?_
      refine s_assign rfl rfl rfl rfl rfl rfl ?_
      refine okl_nil ?_
      exact fun a w hs => ⟨(k + 1, n + 1, ⟨pA, cA, B3, pB, cB, B7⟩), ⟨hlt, by rw [rainsFN_succ, if_pos hbool]; simp [hn], by rw [rainsFN_succ, if_pos hbool, ints_snoc]; exact hA, by rw [rainsFN_succ, if_pos hbool, lefts_snoc]; exact hB⟩, by show rainN s - (k + 1) < rainN s - k; omega, hs.sub ⟨rfl, rfl, rfl, rfl, congrArg (fun z => some (Value.int .i64 z)) (by simp; omega), trivial⟩ (sub_drop 1 rfl)⟩
  · have hge : ¬ s.wlo + (k : Int) ≤ s.whi := by simpa using h3
    have hkw : k = rainN s := by unfold rainN at hk ⊢; omega
    refine okl_nil ?_
    change OkC Try.prog _ _ _ _ _ _ _
    refine okc_weak (l' := [(2, _), (3, _), (6, _), (7, _), (8, _), (18, _)]) ⟨rfl, rfl, rfl, rfl, rfl, rfl, trivial⟩ ?_
    refine okc_cond_f rfl ?_
    refine okc_exit ?_
    change OkC Try.prog _ _ _ _ _ _ _
    refine okc_weak (l' := [(2, _), (3, _), (6, _), (7, _), (8, _), (18, _)]) ⟨rfl, rfl, rfl, rfl, rfl, rfl, trivial⟩ ?_
    refine okc_seq ?_
    refine okc_region ?_
    refine s_move rfl rfl rfl rfl rfl rfl ?_
    refine s_move rfl rfl rfl rfl rfl rfl ?_
    refine s_assign rfl rfl rfl rfl rfl rfl ?_
    refine s_assign rfl rfl rfl rfl rfl rfl ?_
    refine okl_nil ?_
    change OkC Try.prog _ _ _ _ _ _ _
    refine okc_weak (l' := [(2, _), (3, _), (4, _), (5, _), (6, _), (7, _), (8, _), (18, _)]) ⟨rfl, rfl, rfl, rfl, rfl, rfl, rfl, rfl, trivial⟩ ?_
    refine okc_ret fun a w hs => ?_
    subst hkw
    subst hn
    exact ret_postS hs (run_results2 hs rfl (rv_tmp rfl) (rv_tmp rfl)) ⟨p1, c1, G1, p2, c2, G2⟩ rfl ⟨hsl1, hsl2⟩ (sub_drop 2 rfl)
end Go.Proofs.Ytdpnadknaacinaa
end

section
namespace Go.Proofs.Ytdpnadknaacinaa
open Go.Sx Go.Proofs.Ytdpnadknaacinaa.Ty
set_option linter.unusedVariables false
set_option maxHeartbeats 2000000


def leftsL (s : Sp) (L : List Int) : List Value := L.flatMap fun r => leC (leavesS s r)
theorem base_ok {s : Sp} (hs : OkS s) : BdOk (baseS s) := by
  obtain ⟨w1, w2, m1, m2, f1, f2, a1, a2, a3, v1, v2, v3⟩ := hs.ok
  intro j
  rw [base_red hs]
  split
  · rename_i hj
    have h := red_bd (s := s) hj
    split
    · omega
    · simp; omega
  · simp
theorem rainsF_base {s : Sp} (hs : OkS s) : rainsF s (baseS s) = rainsS s := by
  unfold rainsF rainsFN rainsS rainsN
  refine List.filter_congr fun r _ => ?_
  exact (leaves_same hs r).1
theorem lefts_base {s : Sp} (hs : OkS s) : lefts s (baseS s) (rainsS s) = leftsL s (rainsS s) := by
  unfold lefts leftsL
  refine flatMap_congr' fun r hr => ?_
  have h := (leaves_same hs r).2 (rains_mem hr).1
  show leC (leavesR s r) = leC (leavesS s r)
  rw [h]
theorem ext_v {vs : Array Value} {v u : Value} {k : Nat} (h : ∃ us, [Value.tuple vs] = [Value.tuple us] ∧ us[k]? = some v) (hu : vs[k]? = some u) : v = u := by
  obtain ⟨us, h1, h2⟩ := h
  cases h1
  rw [hu] at h2; exact (Option.some.inj h2).symm

theorem rrains_fn (s : Sp) (M : Args) (hin : s.In M) (hs0 : OkS s) : Cn Try.prog 104 [spV s] M (fun g : Rn2 => .tuple #[.slice g.p1 (rainsS s).length g.c1, .slice g.p2 (rainsS s).length g.c2]) (fun g => g.B1 ++ g.B2) (fun g => Sl g.B1 3 1 g.p1 (rainsS s).length g.c1 (ints (rainsS s)) ∧ Sl g.B2 135 20 g.p2 (rainsS s).length g.c2 (leftsL s (rainsS s))) := by
  refine fn_intro (N := 10) Try.func104 rfl rfl rfl fun w0 => ?_
  refine okc_seq ?_
  refine okc_region ?_
  refine s_boxA rfl rfl rfl rfl rfl rfl (fun b1 => ?_)
  refine s_assign rfl rfl rfl rfl rfl rfl ?_
  refine s_assign rfl rfl rfl rfl rfl rfl ?_
  refine okl_nil ?_
  change OkC Try.prog _ _ _ _ _ _ _
  refine okc_weak (l' := [(0, _), (1, _), (2, _), (3, _)]) ⟨rfl, rfl, rfl, rfl, trivial⟩ ?_
  refine okc_seq ?_
  refine okc_drawx [4, 5, 6, 7, 8, 9] [4, 5] [⟨some 4, [], [], fun _ v B => v = spV s ∧ B = []⟩, ⟨some 5, [], [], fun _ v B => v = spV s ∧ B = []⟩, ⟨some 6, [1], [], fun _ v B => v = leV (baseS s) ∧ B = []⟩, ⟨some 7, [0, 2], [], fun ρs v B => ∃ g : Rn2, v = .tuple #[.slice g.p1 (rainsF s (baseS s)).length g.c1, .slice g.p2 (rainsF s (baseS s)).length g.c2] ∧ B = g.B1 ++ g.B2 ∧ (Sl g.B1 3 1 g.p1 (rainsF s (baseS s)).length g.c1 (ints (rainsF s (baseS s))) ∧ Sl g.B2 135 20 g.p2 (rainsF s (baseS s)).length g.c2 (lefts s (baseS s) (rainsF s (baseS s))))⟩, ⟨some 8, [3], [], fun ρs v B => (∃ us, ρs.map (·.1) = [.tuple us] ∧ us[0]? = some v) ∧ B = []⟩, ⟨some 9, [3], [], fun ρs v B => (∃ us, ρs.map (·.1) = [.tuple us] ∧ us[1]? = some v) ∧ B = []⟩] 6 4 [(b1, [.int .i64 s.weeks, .int .i64 s.most, .int .i64 s.fall, .int .i64 s.slo, .int .i64 s.shi, .int .i64 s.wlo, .int .i64 s.whi, .slice s.bp s.book.length s.bc, .slice s.rp s.reads.length s.rc], 27)] rfl rfl rfl rfl rfl rfl rfl (by show (_ : Blks).Perm (_ ++ []); simp) ⟨?_, ?_, ?_, ?_, ?_, ?_, trivial⟩ (fun ρ hρ => ?_) rfl
  · refine obl_x rfl rfl rfl rfl (fun ρ hρ => ?_)
    exact .inl ⟨rfl, opx_v (fun F => k_loadW 0 rfl rfl rfl rfl rfl rfl)⟩
  · refine obl_x rfl rfl rfl rfl (fun ρ hρ => ?_)
    exact .inl ⟨rfl, opx_v (fun F => k_loadW 0 rfl rfl rfl rfl rfl rfl)⟩
  · refine obl_x rfl rfl rfl rfl (fun ρ hρ => ?_)
    have h1 := hρ 1 (by simp) _ rfl
    change GoodX Try.prog _ _ _ _ ((5, (ρ 1).1) :: _) _ (((ρ 1).2 ++ []) ++ _) _ _
    generalize ρ 1 = q1 at h1 ⊢
    obtain ⟨v1, B1⟩ := q1
    obtain ⟨rfl, rfl⟩ := h1
    exact .inl ⟨rfl, opx_v (fun F => op_callv rfl rfl rfl c107 (base_fn s M hin hs0) covers_all)⟩
  · refine obl_x rfl rfl rfl rfl (fun ρ hρ => ?_)
    have h0 := hρ 0 (by simp) _ rfl
    have h2 := hρ 2 (by simp) _ rfl
    change GoodX Try.prog _ _ _ _ ((4, (ρ 0).1) :: (6, (ρ 2).1) :: _) _ (((ρ 0).2 ++ ((ρ 2).2 ++ [])) ++ _) _ _
    generalize ρ 0 = q0 at h0 ⊢
    obtain ⟨v0, B0⟩ := q0
    obtain ⟨rfl, rfl⟩ := h0
    generalize ρ 2 = q2 at h2 ⊢
    obtain ⟨v2, B2⟩ := q2
    obtain ⟨rfl, rfl⟩ := h2
    exact .inl ⟨rfl, opx_r (fun F => op_call rfl rfl rfl c125 (rained_fn s M hin hs0 (baseS s) (base_ok hs0)) covers_all)⟩
  · refine obl_x rfl rfl rfl rfl (fun ρ hρ => ?_)
    have h3 := hρ 3 (by simp) _ rfl
    change GoodX Try.prog _ _ _ _ ((7, (ρ 3).1) :: _) _ (((ρ 3).2 ++ []) ++ _) _ _
    dsimp only [List.map]
    generalize ρ 3 = q3 at h3 ⊢
    obtain ⟨v3, B3⟩ := q3
    obtain ⟨g3, rfl, rfl, hg3⟩ := h3
    exact .inl ⟨rfl, (opx_v (fun F => op_extract rfl rfl rfl)).mono (by rintro v B ⟨rfl, rfl⟩; exact ⟨⟨#[.slice g3.p1 (rainsF s (baseS s)).length g3.c1, .slice g3.p2 (rainsF s (baseS s)).length g3.c2], rfl, rfl⟩, rfl⟩)⟩
  · refine obl_x rfl rfl rfl rfl (fun ρ hρ => ?_)
    have h3 := hρ 3 (by simp) _ rfl
    change GoodX Try.prog _ _ _ _ ((7, (ρ 3).1) :: _) _ (((ρ 3).2 ++ []) ++ _) _ _
    dsimp only [List.map]
    generalize ρ 3 = q3 at h3 ⊢
    obtain ⟨v3, B3⟩ := q3
    obtain ⟨g3, rfl, rfl, hg3⟩ := h3
    exact .inl ⟨rfl, (opx_v (fun F => op_extract rfl rfl rfl)).mono (by rintro v B ⟨rfl, rfl⟩; exact ⟨⟨#[.slice g3.p1 (rainsF s (baseS s)).length g3.c1, .slice g3.p2 (rainsF s (baseS s)).length g3.c2], rfl, rfl⟩, rfl⟩)⟩
  have h0 := hρ 0 (by decide) _ rfl
  have h1 := hρ 1 (by decide) _ rfl
  have h2 := hρ 2 (by decide) _ rfl
  have h3 := hρ 3 (by decide) _ rfl
  have h4 := hρ 4 (by decide) _ rfl
  dsimp only [List.map] at h4
  have h5 := hρ 5 (by decide) _ rfl
  dsimp only [List.map] at h5
  change Go.Sx.OkL Try.prog _ _ _ _ _ ((8, (ρ 4).1) :: (9, (ρ 5).1) :: _) (_ ++ ((ρ 0).2 ++ ((ρ 1).2 ++ ((ρ 2).2 ++ ((ρ 3).2 ++ ((ρ 4).2 ++ ((ρ 5).2 ++ []))))))) _
  generalize ρ 0 = q0 at *
  obtain ⟨v0, B0⟩ := q0
  obtain ⟨rfl, rfl⟩ := h0
  generalize ρ 1 = q1 at *
  obtain ⟨v1, B1⟩ := q1
  obtain ⟨rfl, rfl⟩ := h1
  generalize ρ 2 = q2 at *
  obtain ⟨v2, B2⟩ := q2
  obtain ⟨rfl, rfl⟩ := h2
  generalize ρ 3 = q3 at *
  obtain ⟨v3, B3⟩ := q3
  obtain ⟨g3, rfl, rfl, hg3⟩ := h3
  generalize ρ 4 = q4 at *
  obtain ⟨v4, B4⟩ := q4
  obtain ⟨he4, rfl⟩ := h4
  generalize ρ 5 = q5 at *
  obtain ⟨v5, B5⟩ := q5
  obtain ⟨he5, rfl⟩ := h5
  obtain rfl := ext_v (u := .slice g3.p1 (rainsF s (baseS s)).length g3.c1) he4 rfl
  obtain rfl := ext_v (u := .slice g3.p2 (rainsF s (baseS s)).length g3.c2) he5 rfl
  refine okl_sub (O' := [(b1, [.int .i64 s.weeks, .int .i64 s.most, .int .i64 s.fall, .int .i64 s.slo, .int .i64 s.shi, .int .i64 s.wlo, .int .i64 s.whi, .slice s.bp s.book.length s.bc, .slice s.rp s.reads.length s.rc], 27)] ++ (g3.B1 ++ g3.B2)) (List.Sublist.append (List.Sublist.refl _) (by dsimp only; simp only [List.nil_append, List.append_nil]; exact List.Sublist.refl _)) ?_
  refine s_assign rfl rfl rfl rfl rfl rfl ?_
  refine s_assign rfl rfl rfl rfl rfl rfl ?_
  refine okl_nil ?_
  change OkC Try.prog _ _ _ _ _ _ _
  refine okc_weak (l' := [(0, _), (1, _), (2, _), (3, _)]) ⟨rfl, rfl, rfl, rfl, trivial⟩ ?_
  refine okc_ret fun a w hs => ?_
  refine ret_postS hs (run_results2 hs rfl (rv_tmp rfl) (rv_tmp rfl)) g3 ?_ ?_ (sub_drop 1 rfl)
  · simp only [rainsF_base hs0]
  · have h := hg3; rw [rainsF_base hs0, lefts_base hs0] at h; exact h
theorem True_fn (s : Sp) (M : Args) (hin : s.In M) (hs0 : OkS s) : Cn Try.prog 64 [spV s] M (fun _ : Unit => .bool (canS s)) (fun _ => []) (fun _ => True) := by
  refine fn_intro (N := 13) Try.func64 rfl rfl rfl fun w0 => ?_
  refine okc_seq ?_
  refine okc_region ?_
  refine s_boxA rfl rfl rfl rfl rfl rfl (fun b2 => ?_)
  refine s_assign rfl rfl rfl rfl rfl rfl ?_
  refine okl_nil ?_
  change OkC Try.prog _ _ _ _ _ _ _
  refine okc_weak (l' := [(0, _), (1, _), (2, _)]) ⟨rfl, rfl, rfl, trivial⟩ ?_
  refine okc_seq ?_
  refine okc_region ?_
  refine s_loadW 0 rfl rfl rfl rfl rfl rfl rfl rfl rfl rfl ?_
  refine okl_rE rfl rfl rfl rfl (op_call rfl rfl rfl c104 (rrains_fn s M hin hs0) covers_all) (fun g hg => ?_)
  refine s_move rfl rfl rfl rfl rfl rfl ?_
  refine s_extract rfl rfl rfl rfl rfl rfl rfl ?_
  refine s_extract rfl rfl rfl rfl rfl rfl rfl ?_
  refine s_assign rfl rfl rfl rfl rfl rfl ?_
  refine s_assign rfl rfl rfl rfl rfl rfl ?_
  refine okl_nil ?_
  change OkC Try.prog _ _ _ _ _ _ _
  refine okc_weak (l' := [(0, _), (1, _), (2, _), (3, _)]) ⟨rfl, rfl, rfl, rfl, trivial⟩ ?_
  refine okc_seq ?_
  refine okc_region ?_
  refine s_move rfl rfl rfl rfl rfl rfl ?_
  refine s_len rfl rfl rfl rfl rfl rfl rfl ?_
  refine s_cmpS rfl rfl rfl rfl rfl rfl rfl rfl (fun h3 => ?_) (fun h3 => ?_)
  · have hlt : 0 < (rainsS s).length := by simpa using h3
    have hc : canS s = true := by unfold canS; cases hr : rainsS s <;> simp_all
    refine s_assign rfl rfl rfl rfl rfl rfl ?_
    refine okl_nil ?_
    change OkC Try.prog _ _ _ _ _ _ _
    refine okc_weak (l' := [(0, _), (1, _), (2, _), (3, _)]) ⟨rfl, rfl, rfl, rfl, trivial⟩ ?_
    refine okc_ret fun a w hs => ?_
    exact ret_v hs (run_results1 hs rfl (rv_tmp rfl)) (by clear hs; rw [hc])
  · have hge : ¬ 0 < (rainsS s).length := by simpa using h3
    have hc : canS s = false := by unfold canS; cases hr : rainsS s <;> simp_all
    refine s_assign rfl rfl rfl rfl rfl rfl ?_
    refine okl_nil ?_
    change OkC Try.prog _ _ _ _ _ _ _
    refine okc_weak (l' := [(0, _), (1, _), (2, _), (3, _)]) ⟨rfl, rfl, rfl, rfl, trivial⟩ ?_
    refine okc_ret fun a w hs => ?_
    exact ret_v hs (run_results1 hs rfl (rv_tmp rfl)) (by clear hs; rw [hc])

end Go.Proofs.Ytdpnadknaacinaa
end

section
namespace Go.Proofs.Ytdpnadknaacinaa
open Go.Sx Go.Proofs.Ytdpnadknaacinaa.Ty
set_option linter.unusedVariables false
set_option maxHeartbeats 2000000


theorem er10 {s : Sp} {w : Int} (hv : validB s = false) : erS s w = 10 := by simp [erS, beginS, hv]
theorem er11 {s : Sp} {w : Int} (hv : validB s = true) (hw : isWeekB s.weeks w = false) : erS s w = 11 := by
  have : askB s (qw w) (1 : Int).toNat = false := hw
  simp only [erS, beginS, hv, if_true, askN, this]; rfl
theorem er8 {s : Sp} {w : Int} (hv : validB s = true) (hw : isWeekB s.weeks w = true) (hc : canS s = false) : erS s w = 8 := by
  have h1 : askB s (qw w) (1 : Int).toNat = true := hw
  have h2 : askB s (qw w) (4 : Int).toNat = false := hc
  simp only [erS, beginS, hv, if_true, askN, h1, h2]; rfl
theorem er0 {s : Sp} {w : Int} (hv : validB s = true) (hw : isWeekB s.weeks w = true) (hc : canS s = true) : erS s w = 0 := by
  have h1 : askB s (qw w) (1 : Int).toNat = true := hw
  have h2 : askB s (qw w) (4 : Int).toNat = true := hc
  simp only [erS, beginS, hv, if_true, askN, h1, h2]
def tlS (s : Sp) (w : Int) : List Int := if erS s w = 0 then rainsS s else []
theorem tl_no {s : Sp} {w : Int} {e : Int} (h : erS s w = e) (he : e ≠ 0) : tlS s w = [] := if_neg (by rw [h]; exact he)
theorem tl_ok {s : Sp} {w : Int} (h : erS s w = 0) : tlS s w = rainsS s := if_pos h
def Rn2.no : Rn2 := ⟨none, 0, [], none, 0, []⟩
def Told (s : Sp) (w : Int) (g : Rn2) : Prop := Sl g.B1 3 1 g.p1 (tlS s w).length g.c1 (ints (tlS s w)) ∧ Sl g.B2 135 20 g.p2 (tlS s w).length g.c2 (leftsL s (tlS s w))
theorem told_no {s : Sp} {w : Int} {e : Int} (h : erS s w = e) (he : e ≠ 0) : Told s w Rn2.no := by
  unfold Told; rw [tl_no h he]; exact ⟨Sl.nil 3 1, Sl.nil 135 20⟩
theorem told_v {s : Sp} {w : Int} {e : Int} (h : erS s w = e) (he : e ≠ 0) : Value.tuple #[.slice none 0 0, .slice none 0 0, .int .i64 e] = .tuple #[.slice Rn2.no.p1 (tlS s w).length Rn2.no.c1, .slice Rn2.no.p2 (tlS s w).length Rn2.no.c2, .int .i64 (erS s w)] := by
  rw [tl_no h he, h]; rfl

theorem told_fn76 (s : Sp) (M : Args) (hin : s.In M) (w : Int) : Cn Try.prog 76 [spV s, .int .i64 w] M (fun g : Rn2 => .tuple #[.slice g.p1 (tlS s w).length g.c1, .slice g.p2 (tlS s w).length g.c2, .int .i64 (erS s w)]) (fun g => g.B1 ++ g.B2) (Told s w) := by
  refine fn_intro (N := 28) Try.func76 rfl rfl rfl fun w0 => ?_
  refine okc_seq ?_
  refine okc_region ?_
  refine s_boxA rfl rfl rfl rfl rfl rfl (fun b1 => ?_)
  refine s_assign rfl rfl rfl rfl rfl rfl ?_
  refine s_assign rfl rfl rfl rfl rfl rfl ?_
  refine s_assign rfl rfl rfl rfl rfl rfl ?_
  refine okl_nil ?_
  change OkC Try.prog _ _ _ _ _ _ _
  refine okc_weak (l' := [(0, _), (1, _), (2, _), (4, _), (5, _), (6, _)]) ⟨rfl, rfl, rfl, rfl, rfl, rfl, trivial⟩ ?_
  refine okc_seq ?_
  refine okc_seq ?_
  refine okc_region ?_
  refine s_loadW 0 rfl rfl rfl rfl rfl rfl rfl rfl rfl rfl ?_
  refine s_callb rfl rfl rfl rfl rfl rfl rfl c74 (rSpring_fn s M hin) covers_all (fun h2 => ?_) (fun h2 => ?_)
  · have hv : validB s = true := h2
    have hs0 := ok_of_valid hv
    obtain ⟨w1, w2, m1, m2, f1, f2, a1, a2, a3, v1, v2, v3⟩ := hs0.ok
    refine s_not rfl rfl rfl rfl rfl rfl ?_
    refine okl_nil ?_
    change OkC Try.prog _ _ _ _ _ _ _
    refine okc_weak (l' := [(0, _), (1, _), (2, _), (4, _), (5, _), (6, _), (11, _)]) ⟨rfl, rfl, rfl, rfl, rfl, rfl, rfl, trivial⟩ ?_
    refine okc_cond_f rfl ?_
    refine okc_skip ?_
    change OkC Try.prog _ _ _ _ _ _ _
    refine okc_weak (l' := [(0, _), (1, _), (2, _), (4, _), (5, _), (6, _), (11, _)]) ⟨rfl, rfl, rfl, rfl, rfl, rfl, rfl, trivial⟩ ?_
    refine okc_seq ?_
    refine okc_seq ?_
    refine okc_region ?_
    refine s_move rfl rfl rfl rfl rfl rfl ?_
    refine s_field rfl rfl rfl rfl rfl rfl rfl rfl ?_
    refine s_load1 0 rfl rfl rfl rfl rfl rfl rfl rfl rfl ?_
    refine s_sub rfl rfl rfl rfl rfl rfl rfl (by omega) ?_
    refine s_callb rfl rfl rfl rfl rfl rfl rfl c87 (rwithin_fn _ _ _) covers_nil (fun h3 => ?_) (fun h3 => ?_)
    · have hw : isWeekB s.weeks w = true := h3
      refine s_not rfl rfl rfl rfl rfl rfl ?_
      refine okl_nil ?_
      change OkC Try.prog _ _ _ _ _ _ _
      refine okc_weak (l' := [(0, _), (1, _), (2, _), (4, _), (5, _), (6, _), (11, _), (17, _)]) ⟨rfl, rfl, rfl, rfl, rfl, rfl, rfl, rfl, trivial⟩ ?_
      refine okc_cond_f rfl ?_
      refine okc_skip ?_
      change OkC Try.prog _ _ _ _ _ _ _
      refine okc_weak (l' := [(0, _), (1, _), (2, _), (4, _), (5, _), (6, _), (11, _), (17, _)]) ⟨rfl, rfl, rfl, rfl, rfl, rfl, rfl, rfl, trivial⟩ ?_
      refine okc_seq ?_
      refine okc_region ?_
      refine s_loadW 0 rfl rfl rfl rfl rfl rfl rfl rfl rfl rfl ?_
      refine okl_rE rfl rfl rfl rfl (op_call rfl rfl rfl c104 (rrains_fn s M hin hs0) covers_all) (fun g hg => ?_)
      refine s_move rfl rfl rfl rfl rfl rfl ?_
      refine s_extract rfl rfl rfl rfl rfl rfl rfl ?_
      refine s_extract rfl rfl rfl rfl rfl rfl rfl ?_
      refine s_assign rfl rfl rfl rfl rfl rfl ?_
      refine s_assign rfl rfl rfl rfl rfl rfl ?_
      refine okl_nil ?_
      change OkC Try.prog _ _ _ _ _ _ _
      refine okc_weak (l' := [(0, _), (1, _), (2, _), (4, _), (5, _), (6, _), (7, _), (8, _), (11, _), (17, _)]) ⟨rfl, rfl, rfl, rfl, rfl, rfl, rfl, rfl, rfl, rfl, trivial⟩ ?_
      refine okc_seq ?_
      refine okc_seq ?_
      refine okc_region ?_
      refine s_move rfl rfl rfl rfl rfl rfl ?_
      refine s_len rfl rfl rfl rfl rfl rfl rfl ?_
      refine s_cmpS rfl rfl rfl rfl rfl rfl rfl rfl (fun h4 => ?_) (fun h4 => ?_)
      · have hlen : (rainsS s).length = 0 := by simpa using h4
        have hc : canS s = false := by unfold canS; cases hr : rainsS s <;> simp_all
        refine okl_nil ?_
        change OkC Try.prog _ _ _ _ _ _ _
        refine okc_weak (l' := [(0, _), (1, _), (2, _), (4, _), (5, _), (6, _), (7, _), (8, _), (11, _), (17, _), (25, _)]) ⟨rfl, rfl, rfl, rfl, rfl, rfl, rfl, rfl, rfl, rfl, rfl, trivial⟩ ?_
        refine okc_cond_t rfl ?_
        refine okc_seq ?_
        refine okc_region ?_
        refine s_assign rfl rfl rfl rfl rfl rfl ?_
        refine s_assign rfl rfl rfl rfl rfl rfl ?_
        refine s_assign rfl rfl rfl rfl rfl rfl ?_
        refine okl_nil ?_
        change OkC Try.prog _ _ _ _ _ _ _
        refine okc_weak (l' := [(0, _), (1, _), (2, _), (4, _), (5, _), (6, _), (7, _), (8, _), (11, _), (17, _), (25, _)]) ⟨rfl, rfl, rfl, rfl, rfl, rfl, rfl, rfl, rfl, rfl, rfl, trivial⟩ ?_
        refine okc_ret fun a w hs => ?_
        exact ret_postS hs (run_results3 hs rfl (rv_tmp rfl) (rv_tmp rfl) (rv_tmp rfl)) Rn2.no (told_v (er8 hv hw hc) (by decide)) (told_no (er8 hv hw hc) (by decide)) (List.nil_sublist _)
      · have hlen : ¬ (rainsS s).length = 0 := by simpa using h4
        have hc : canS s = true := by unfold canS; cases hr : rainsS s <;> simp_all
        refine okl_nil ?_
        change OkC Try.prog _ _ _ _ _ _ _
        refine okc_weak (l' := [(0, _), (1, _), (2, _), (4, _), (5, _), (6, _), (7, _), (8, _), (11, _), (17, _), (25, _)]) ⟨rfl, rfl, rfl, rfl, rfl, rfl, rfl, rfl, rfl, rfl, rfl, trivial⟩ ?_
        refine okc_cond_f rfl ?_
        refine okc_skip ?_
        change OkC Try.prog _ _ _ _ _ _ _
        refine okc_weak (l' := [(0, _), (1, _), (2, _), (4, _), (5, _), (6, _), (7, _), (8, _), (11, _), (17, _), (25, _)]) ⟨rfl, rfl, rfl, rfl, rfl, rfl, rfl, rfl, rfl, rfl, rfl, trivial⟩ ?_
        refine okc_seq ?_
        refine okc_region ?_
        refine s_move rfl rfl rfl rfl rfl rfl ?_
        refine s_move rfl rfl rfl rfl rfl rfl ?_
        refine s_assign rfl rfl rfl rfl rfl rfl ?_
        refine s_assign rfl rfl rfl rfl rfl rfl ?_
        refine s_assign rfl rfl rfl rfl rfl rfl ?_
        refine okl_nil ?_
        change OkC Try.prog _ _ _ _ _ _ _
        refine okc_weak (l' := [(0, _), (1, _), (2, _), (4, _), (5, _), (6, _), (7, _), (8, _), (11, _), (17, _), (25, _)]) ⟨rfl, rfl, rfl, rfl, rfl, rfl, rfl, rfl, rfl, rfl, rfl, trivial⟩ ?_
        refine okc_ret fun a w hs => ?_
        refine ret_postS hs (run_results3 hs rfl (rv_tmp rfl) (rv_tmp rfl) (rv_tmp rfl)) g ?_ ?_ (sub_drop 1 rfl)
        · rw [er0 hv hw hc, tl_ok (er0 hv hw hc)]; rfl
        · unfold Told; rw [tl_ok (er0 hv hw hc)]; exact hg
    · have hw : isWeekB s.weeks w = false := h3
      refine s_not rfl rfl rfl rfl rfl rfl ?_
      refine okl_nil ?_
      change OkC Try.prog _ _ _ _ _ _ _
      refine okc_weak (l' := [(0, _), (1, _), (2, _), (4, _), (5, _), (6, _), (11, _), (17, _)]) ⟨rfl, rfl, rfl, rfl, rfl, rfl, rfl, rfl, trivial⟩ ?_
      refine okc_cond_t rfl ?_
      refine okc_seq ?_
      refine okc_region ?_
      refine s_assign rfl rfl rfl rfl rfl rfl ?_
      refine s_assign rfl rfl rfl rfl rfl rfl ?_
      refine s_assign rfl rfl rfl rfl rfl rfl ?_
      refine okl_nil ?_
      change OkC Try.prog _ _ _ _ _ _ _
      refine okc_weak (l' := [(0, _), (1, _), (2, _), (4, _), (5, _), (6, _), (11, _), (17, _)]) ⟨rfl, rfl, rfl, rfl, rfl, rfl, rfl, rfl, trivial⟩ ?_
      refine okc_ret fun a w hs => ?_
      exact ret_postS hs (run_results3 hs rfl (rv_tmp rfl) (rv_tmp rfl) (rv_tmp rfl)) Rn2.no (told_v (er11 hv hw) (by decide)) (told_no (er11 hv hw) (by decide)) (List.nil_sublist _)
  · have hv : validB s = false := h2
    refine s_not rfl rfl rfl rfl rfl rfl ?_
    refine okl_nil ?_
    change OkC Try.prog _ _ _ _ _ _ _
    refine okc_weak (l' := [(0, _), (1, _), (2, _), (4, _), (5, _), (6, _), (11, _)]) ⟨rfl, rfl, rfl, rfl, rfl, rfl, rfl, trivial⟩ ?_
    refine okc_cond_t rfl ?_
    refine okc_seq ?_
    refine okc_region ?_
    refine s_assign rfl rfl rfl rfl rfl rfl ?_
    refine s_assign rfl rfl rfl rfl rfl rfl ?_
    refine s_assign rfl rfl rfl rfl rfl rfl ?_
    refine okl_nil ?_
    change OkC Try.prog _ _ _ _ _ _ _
    refine okc_weak (l' := [(0, _), (1, _), (2, _), (4, _), (5, _), (6, _), (11, _)]) ⟨rfl, rfl, rfl, rfl, rfl, rfl, rfl, trivial⟩ ?_
    refine okc_ret fun a w hs => ?_
    exact ret_postS hs (run_results3 hs rfl (rv_tmp rfl) (rv_tmp rfl) (rv_tmp rfl)) Rn2.no (told_v (er10 hv) (by decide)) (told_no (er10 hv) (by decide)) (List.nil_sublist _)

def ckS (s : Sp) : Int := if validB s then 0 else 10

theorem rCheck_fn (s : Sp) (M : Args) (hin : s.In M) : Cn Try.prog 27 [spV s] M (fun _ : Unit => .int .i64 (ckS s)) (fun _ => []) (fun _ => True) := by
  refine fn_intro (N := 6) Try.func27 rfl rfl rfl fun w0 => ?_
  refine okc_seq ?_
  refine okc_region ?_
  refine s_boxA rfl rfl rfl rfl rfl rfl (fun b5 => ?_)
  refine s_assign rfl rfl rfl rfl rfl rfl ?_
  refine okl_nil ?_
  change OkC Try.prog _ _ _ _ _ _ _
  refine okc_weak (l' := [(0, _), (1, _), (2, _)]) ⟨rfl, rfl, rfl, trivial⟩ ?_
  refine okc_seq ?_
  refine okc_seq ?_
  refine okc_region ?_
  refine s_loadW 0 rfl rfl rfl rfl rfl rfl rfl rfl rfl rfl ?_
  refine s_callb rfl rfl rfl rfl rfl rfl rfl c74 (rSpring_fn s M hin) covers_all (fun h6 => ?_) (fun h6 => ?_)
  · have hv : validB s = true := h6
    have hs0 := ok_of_valid hv
    obtain ⟨w1, w2, m1, m2, f1, f2, a1, a2, a3, v1, v2, v3⟩ := hs0.ok
    refine s_not rfl rfl rfl rfl rfl rfl ?_
    refine okl_nil ?_
    change OkC Try.prog _ _ _ _ _ _ _
    refine okc_weak (l' := [(0, _), (1, _), (2, _), (5, _)]) ⟨rfl, rfl, rfl, rfl, trivial⟩ ?_
    refine okc_cond_f rfl ?_
    refine okc_skip ?_
    change OkC Try.prog _ _ _ _ _ _ _
    refine okc_weak (l' := [(0, _), (1, _), (2, _), (5, _)]) ⟨rfl, rfl, rfl, rfl, trivial⟩ ?_
    refine okc_seq ?_
    refine okc_region ?_
    refine s_assign rfl rfl rfl rfl rfl rfl ?_
    refine okl_nil ?_
    change OkC Try.prog _ _ _ _ _ _ _
    refine okc_weak (l' := [(0, _), (1, _), (2, _), (5, _)]) ⟨rfl, rfl, rfl, rfl, trivial⟩ ?_
    refine okc_ret fun a w hs => ?_
    exact ret_v hs (run_results1 hs rfl (rv_tmp rfl)) (by clear hs; simp [ckS, hv])
  · have hv : validB s = false := h6
    refine s_not rfl rfl rfl rfl rfl rfl ?_
    refine okl_nil ?_
    change OkC Try.prog _ _ _ _ _ _ _
    refine okc_weak (l' := [(0, _), (1, _), (2, _), (5, _)]) ⟨rfl, rfl, rfl, rfl, trivial⟩ ?_
    refine okc_cond_t rfl ?_
    refine okc_seq ?_
    refine okc_region ?_
    refine s_assign rfl rfl rfl rfl rfl rfl ?_
    refine okl_nil ?_
    change OkC Try.prog _ _ _ _ _ _ _
    refine okc_weak (l' := [(0, _), (1, _), (2, _), (5, _)]) ⟨rfl, rfl, rfl, rfl, trivial⟩ ?_
    refine okc_ret fun a w hs => ?_
    exact ret_v hs (run_results1 hs rfl (rv_tmp rfl)) (by clear hs; simp [ckS, hv])

def cnS (s : Sp) : Bool := if validB s then canS s else false

theorem rCan_fn (s : Sp) (M : Args) (hin : s.In M) : Cn Try.prog 19 [spV s] M (fun _ : Unit => .tuple #[.bool (cnS s), .int .i64 (ckS s)]) (fun _ => []) (fun _ => True) := by
  refine fn_intro (N := 9) Try.func19 rfl rfl rfl fun w0 => ?_
  refine okc_seq ?_
  refine okc_region ?_
  refine s_boxA rfl rfl rfl rfl rfl rfl (fun b7 => ?_)
  refine s_assign rfl rfl rfl rfl rfl rfl ?_
  refine s_assign rfl rfl rfl rfl rfl rfl ?_
  refine okl_nil ?_
  change OkC Try.prog _ _ _ _ _ _ _
  refine okc_weak (l' := [(0, _), (1, _), (2, _), (3, _)]) ⟨rfl, rfl, rfl, rfl, trivial⟩ ?_
  refine okc_seq ?_
  refine okc_seq ?_
  refine okc_region ?_
  refine s_loadW 0 rfl rfl rfl rfl rfl rfl rfl rfl rfl rfl ?_
  refine s_callb rfl rfl rfl rfl rfl rfl rfl c74 (rSpring_fn s M hin) covers_all (fun h8 => ?_) (fun h8 => ?_)
  · have hv : validB s = true := h8
    have hs0 := ok_of_valid hv
    obtain ⟨w1, w2, m1, m2, f1, f2, a1, a2, a3, v1, v2, v3⟩ := hs0.ok
    refine s_not rfl rfl rfl rfl rfl rfl ?_
    refine okl_nil ?_
    change OkC Try.prog _ _ _ _ _ _ _
    refine okc_weak (l' := [(0, _), (1, _), (2, _), (3, _), (6, _)]) ⟨rfl, rfl, rfl, rfl, rfl, trivial⟩ ?_
    refine okc_cond_f rfl ?_
    refine okc_skip ?_
    change OkC Try.prog _ _ _ _ _ _ _
    refine okc_weak (l' := [(0, _), (1, _), (2, _), (3, _), (6, _)]) ⟨rfl, rfl, rfl, rfl, rfl, trivial⟩ ?_
    refine okc_seq ?_
    refine okc_region ?_
    refine s_loadW 0 rfl rfl rfl rfl rfl rfl rfl rfl rfl rfl ?_
    refine s_callv rfl rfl rfl rfl rfl rfl rfl c64 (True_fn s M hin hs0) covers_all ?_
    refine s_assign rfl rfl rfl rfl rfl rfl ?_
    refine s_assign rfl rfl rfl rfl rfl rfl ?_
    refine okl_nil ?_
    change OkC Try.prog _ _ _ _ _ _ _
    refine okc_weak (l' := [(0, _), (1, _), (2, _), (3, _), (6, _)]) ⟨rfl, rfl, rfl, rfl, rfl, trivial⟩ ?_
    refine okc_ret fun a w hs => ?_
    exact ret_v hs (run_results2 hs rfl (rv_tmp rfl) (rv_tmp rfl)) (by clear hs; simp [ckS, cnS, hv])
  · have hv : validB s = false := h8
    refine s_not rfl rfl rfl rfl rfl rfl ?_
    refine okl_nil ?_
    change OkC Try.prog _ _ _ _ _ _ _
    refine okc_weak (l' := [(0, _), (1, _), (2, _), (3, _), (6, _)]) ⟨rfl, rfl, rfl, rfl, rfl, trivial⟩ ?_
    refine okc_cond_t rfl ?_
    refine okc_seq ?_
    refine okc_region ?_
    refine s_assign rfl rfl rfl rfl rfl rfl ?_
    refine s_assign rfl rfl rfl rfl rfl rfl ?_
    refine okl_nil ?_
    change OkC Try.prog _ _ _ _ _ _ _
    refine okc_weak (l' := [(0, _), (1, _), (2, _), (3, _), (6, _)]) ⟨rfl, rfl, rfl, rfl, rfl, trivial⟩ ?_
    refine okc_ret fun a w hs => ?_
    exact ret_v hs (run_results2 hs rfl (rv_tmp rfl) (rv_tmp rfl)) (by clear hs; simp [ckS, cnS, hv])

theorem rRains_fn (s : Sp) (M : Args) (hin : s.In M) : Cn Try.prog 21 [spV s] M (fun g : SlG => .tuple #[.slice g.p (tlS s 0).length g.c, .int .i64 (erS s 0)]) (fun g => g.B) (fun g => Sl g.B 3 1 g.p (tlS s 0).length g.c (ints (tlS s 0))) := by
  refine fn_intro (N := 15) Try.func21 rfl rfl rfl fun w0 => ?_
  refine okc_seq ?_
  refine okc_region ?_
  refine s_boxA rfl rfl rfl rfl rfl rfl (fun b9 => ?_)
  refine s_assign rfl rfl rfl rfl rfl rfl ?_
  refine s_assign rfl rfl rfl rfl rfl rfl ?_
  refine okl_nil ?_
  change OkC Try.prog _ _ _ _ _ _ _
  refine okc_weak (l' := [(0, _), (1, _), (2, _), (3, _)]) ⟨rfl, rfl, rfl, rfl, trivial⟩ ?_
  refine okc_seq ?_
  refine okc_region ?_
  refine s_loadW 0 rfl rfl rfl rfl rfl rfl rfl rfl rfl rfl ?_
  refine okl_rE rfl rfl rfl rfl (op_call rfl rfl rfl c76 (told_fn76 s M hin 0) covers_all) (fun g hg => ?_)
  refine s_move rfl rfl rfl rfl rfl rfl ?_
  refine s_extract rfl rfl rfl rfl rfl rfl rfl ?_
  refine s_extract rfl rfl rfl rfl rfl rfl rfl ?_
  refine s_extract rfl rfl rfl rfl rfl rfl rfl ?_
  refine s_assign rfl rfl rfl rfl rfl rfl ?_
  refine s_assign rfl rfl rfl rfl rfl rfl ?_
  refine s_assign rfl rfl rfl rfl rfl rfl ?_
  refine okl_nil ?_
  change OkC Try.prog _ _ _ _ _ _ _
  refine okc_weak (l' := [(0, _), (1, _), (2, _), (3, _), (4, _), (6, _)]) ⟨rfl, rfl, rfl, rfl, rfl, rfl, trivial⟩ ?_
  refine okc_seq ?_
  refine okc_region ?_
  refine s_move rfl rfl rfl rfl rfl rfl ?_
  refine s_move rfl rfl rfl rfl rfl rfl ?_
  refine s_assign rfl rfl rfl rfl rfl rfl ?_
  refine s_assign rfl rfl rfl rfl rfl rfl ?_
  refine okl_nil ?_
  change OkC Try.prog _ _ _ _ _ _ _
  refine okc_weak (l' := [(0, _), (1, _), (2, _), (3, _), (4, _), (6, _)]) ⟨rfl, rfl, rfl, rfl, rfl, rfl, trivial⟩ ?_
  refine okc_ret fun a w hs => ?_
  exact ret_postS hs (run_results2 hs rfl (rv_tmp rfl) (rv_tmp rfl)) ⟨g.p1, g.c1, g.B1⟩ rfl hg.1 ((List.sublist_append_left g.B1 g.B2).trans (sub_drop 1 rfl))
end Go.Proofs.Ytdpnadknaacinaa
end

section
namespace Go.Sx
open Go.RowKit
/-- Two aggregates are alike, says the model. -/
def EqA (P : Program) (T : TypeId) (d : Nat) (xs ys : List Value) (r : Bool) : Prop := ∀ w, (Op.equalIn d T (.agg xs.toArray) (.agg ys.toArray)).run P w = .ok r w
/-- One part. -/
def EqF (P : Program) (d : Nat) (xs ys : List Value) (T : TypeId) (off : Nat) (r : Bool) : Prop :=
  ∃ a b, (∀ w, (part T xs.toArray off).run P w = .ok a w) ∧ (∀ w, (part T ys.toArray off).run P w = .ok b w) ∧ ∀ w, (Op.equalIn d T a b).run P w = .ok r w

section
variable {P : Program} {N : Cx} {w0 : World} {l : Env} {O : Blks} {A : Args} {o : Oper}

theorem eqFields_list {d : Nat} {xs ys : List Value} : ∀ (fs : List (Field × Bool)), (∀ p ∈ fs, p.1.name ≠ "_" ∧ EqF P d xs ys p.1.type p.1.offset p.2) → ∀ w, (Op.eqFields d xs.toArray ys.toArray (fs.map (·.1))).run P w = .ok (fs.all (·.2)) w
  | [], _, w => by simp [Op.eqFields]
  | (f, r) :: fs, h, w => by
    obtain ⟨hn, a, b, h1, h2, h3⟩ := h (f, r) (by simp)
    have ih := eqFields_list fs (fun p hp => h p (by simp [hp])) w
    simp only [List.map_cons, Op.eqFields]
    rw [if_pos hn]
    simp only [Sem.run_bind, h1, h2, h3, Result.andThen_ok, List.all_cons]
    cases r
    · simp
    · simp [ih]

theorem eqA_of {d : Nat} {T : TypeId} {xs ys : List Value} {fs : Array Field} (hu : P.underlying T = some (.struct fs)) (hp : P.stoodInHeld T = false) (ps : List (Field × Bool)) (hps : ps.map (·.1) = fs.toList)
    (h : ∀ p ∈ ps, p.1.name ≠ "_" ∧ EqF P d xs ys p.1.type p.1.offset p.2) : EqA P T (d + 1) xs ys (ps.all (·.2)) := by
  intro w
  have hf : P.fieldsOf T = fs := by simp [Program.fieldsOf, hu]
  rw [run_equalIn_struct w d T _ _ (by rw [hf]; exact hu) hp, hf, ← hps]
  exact eqFields_list ps h w

theorem eqF_int {d off : Nat} {T : TypeId} {xs ys : List Value} {i j : Int} (hu : P.underlying T = some (.int .i64)) (ha : isAggB P T = some false) (hx : xs[off]? = some (.int .i64 i)) (hy : ys[off]? = some (.int .i64 j)) : EqF P (d + 1) xs ys T off (decide (i = j)) := by
  refine ⟨.int .i64 i, .int .i64 j, fun w => ?_, fun w => ?_, fun w => ?_⟩
  · simp [part, run_isAgg ha, hx]
  · simp [part, run_isAgg ha, hy]
  · rw [run_equalIn_int w d T .i64 .i64 i j hu]
    congr 1

theorem eqF_agg {d off n : Nat} {T : TypeId} {xs ys us vs : List Value} {r : Bool} (ha : isAggB P T = some true) (hn : sizeB P T = some n) (hx : (xs.drop off).take n = us) (hy : (ys.drop off).take n = vs) (h : EqA P T d us vs r) : EqF P d xs ys T off r := by
  have e : ∀ zs : List Value, zs.toArray.extract off (off + n) = ((zs.drop off).take n).toArray := fun zs => by
    apply Array.ext'
    simp [List.take_drop]
  refine ⟨.agg us.toArray, .agg vs.toArray, fun w => ?_, fun w => ?_, h⟩
  · simp only [part, Sem.run_bind, run_isAgg ha, Result.andThen_ok, if_true, run_sizeOf hn, Sem.run_pure, e, hx]
  · simp only [part, Sem.run_bind, run_isAgg ha, Result.andThen_ok, if_true, run_sizeOf hn, Sem.run_pure, e, hy]

theorem op_eqlA {T T' : TypeId} {x y : Operand} {xs ys : List Value} {r : Bool} (ho : o.op = .binOp .eql T x y T') (hx : ev l x = some (.agg xs.toArray)) (hy : ev l y = some (.agg ys.toArray)) (hg : P.eqGuardType P.depth T = false) (h : EqA P T 10000 xs ys r) :
    OpV P N w0 l O A o (pv (.bool r)) :=
  opv_run fun a w hs => by
    simp only [execOp, ho, hs.eval hx, hs.eval hy, Sem.run_bind, run_eqGuard_agg w _ T _ _ _ _ hg, Result.andThen_ok, run_eql_struct, h w, Sem.run_pure]
theorem op_neqA {T T' : TypeId} {x y : Operand} {xs ys : List Value} {r : Bool} (ho : o.op = .binOp .neq T x y T') (hx : ev l x = some (.agg xs.toArray)) (hy : ev l y = some (.agg ys.toArray)) (hg : P.eqGuardType P.depth T = false) (h : EqA P T 10000 xs ys r) :
    OpV P N w0 l O A o (pv (.bool (!r))) :=
  opv_run fun a w hs => by
    simp only [execOp, ho, hs.eval hx, hs.eval hy, Sem.run_bind, run_eqGuard_agg w _ T _ _ _ _ hg, Result.andThen_ok, run_neq_struct, h w, Sem.run_pure]
end
end Go.Sx

namespace Go.Proofs.Ytdpnadknaacinaa
open Go.Sx Go.Proofs.Ytdpnadknaacinaa.Ty
abbrev spanC (a b : Int) : List Value := [.int .i64 a, .int .i64 b]
theorem s_b {N : Cx} {w0 : World} {l : Env} {O : Blks} {A : Args} {o : Oper} {ops : Array Oper} {Q : Exit → Act → World → Prop} {is : List Nat} {i d : Nat} {r : Bool} (h0 : ops[i]? = some o) (hg : wantsB ops l o = some true) (hd : o.dst = some d) (hN : Nat.blt d N.n = true) (h : OpV Try.prog N w0 l O A o (pv (.bool r)))
    (ht : r = true → OkL Try.prog N w0 ops Q is ((d, .bool true) :: l) O A) (hf : r = false → OkL Try.prog N w0 ops Q is ((d, .bool false) :: l) O A) : OkL Try.prog N w0 ops Q (i :: is) l O A := by
  cases r with
  | true => exact okl_v h0 hg hd hN h (ht rfl)
  | false => exact okl_v h0 hg hd hN h (hf rfl)
theorem d_build {N : Cx} {w0 : World} {l lb : Env} {O : Blks} {A : Args} {o : Oper} {ops : Array Oper} {Q : Exit → Act → World → Prop} {i d id : Nat} {es : Ents} {T : Nat} {parts : Array (Nat × Operand)} {ps : List (Nat × Value)} {zs cs : List Value} {pl : List (Nat × Nat)} (ds : List Nat) (hi : es.length = i) (h0 : ops[i]? = some o) (hd : o.dst = some d) (hN : Nat.blt d N.n = true) (hds : depsB o i ds = true)
    (hg : ∀ ν, wantsB ops (envD es ν ds ++ lb) o = some true) (ho : o.op = .build T parts) (hps : ∀ ν, evParts (envD es ν ds ++ lb) parts.toList = some ps) (hz : lookT zerL T = some zs) (hpl : lookT plaL T = some pl) (hf : fillL pl zs (ps.map fun p => (p.1, p.2.cells.toList)) = some cs)
    (rest : Dr Try.prog N w0 id ops Q l lb O A ((i, d, some (.inl (.agg cs.toArray))) :: es)) : Dr Try.prog N w0 id ops Q l lb O A es := d_v ds hi h0 hd hN hds hg (fun ν => k_build ho (hps ν) hz hpl hf) rest
theorem d_loadAP {N : Cx} {w0 : World} {l lb : Env} {O : Blks} {A : Args} {o : Oper} {ops : Array Oper} {Q : Exit → Act → World → Prop} {i d id : Nat} {es : Ents} (j : Nat) {b off Ty n : Nat} {cs vs : List Value} {x : Operand} (ds : List Nat) (hi : es.length = i) (h0 : ops[i]? = some o) (hd : o.dst = some d) (hN : Nat.blt d N.n = true) (hds : depsB o i ds = true)
    (hg : ∀ ν, wantsB ops (envD es ν ds ++ lb) o = some true) (ho : o.op = .load Ty x) (ha : nth aggL Ty = some (some true)) (hx : ∀ ν, ev (envD es ν ds ++ lb) x = some (.pointer (some ⟨b, off, none⟩)))
    (hj : A[j]? = some (b, cs)) (hn : nth sizL Ty = some (some n)) (hvs : sub cs off n = vs) (hl : vs.length = n) (hpos : Nat.blt 0 n = true)
    (rest : Dr Try.prog N w0 id ops Q l lb O A ((i, d, some (.inl (.agg vs.toArray))) :: es)) : Dr Try.prog N w0 id ops Q l lb O A es := d_v ds hi h0 hd hN hds hg (fun ν => op_loadAP ho (hx ν) hj (agg_of ha) (siz_of hn) hvs hl (by simpa [Nat.blt_eq] using hpos)) rest
theorem bool4 : Try.prog.underlying 4 = some .bool := by kernel_rfl
theorem op_eqlB {N : Cx} {w0 : World} {l : Env} {O : Blks} {A : Args} {o : Oper} {T T' : TypeId} {x y : Operand} {a b : Bool} (ho : o.op = .binOp .eql T x y T') (hx : ev l x = some (.bool a)) (hy : ev l y = some (.bool b)) (hu : Try.prog.underlying T = some .bool) :
    OpV Try.prog N w0 l O A o (pv (.bool (a == b))) :=
  opv_run fun a_1 w hs => by
    have h := run_equalIn_bool' (P := Try.prog) w 9999 T a b hu
    simp [execOp, ho, hs.eval hx, hs.eval hy, eqGuard, binOp, Op.equal, Op.maxDepth, h]
theorem int3 : Try.prog.underlying 3 = some (.int .i64) := by kernel_rfl
theorem eq23 (d : Nat) (a b c e : Int) : EqA Try.prog 23 (d + 2) (spanC a b) (spanC c e) (decide (a = c) && decide (b = e)) := by
  have h := eqA_of (d := d + 1) (xs := spanC a b) (ys := spanC c e) Try.underlying23 (by kernel_rfl) [(_, decide (a = c)), (_, decide (b = e))] rfl (by
    intro p hp
    simp only [List.mem_cons, List.not_mem_nil, or_false] at hp
    rcases hp with rfl | rfl
    · exact ⟨by simp, eqF_int int3 (agg_of rfl) rfl rfl⟩
    · exact ⟨by simp, eqF_int int3 (agg_of rfl) rfl rfl⟩)
  simpa using h
theorem eq76 (d : Nat) (a1 a2 a3 a4 a5 b1 b2 b3 b4 b5 : Int) : EqA Try.prog 76 (d + 3) [.int .i64 a1, .int .i64 a2, .int .i64 a3, .int .i64 a4, .int .i64 a5] [.int .i64 b1, .int .i64 b2, .int .i64 b3, .int .i64 b4, .int .i64 b5]
    (decide (a1 = b1) && decide (a2 = b2) && (decide (a3 = b3) && (decide (a4 = b4) && decide (a5 = b5)))) := by
  have h := eqA_of (d := d + 2) (xs := [.int .i64 a1, .int .i64 a2, .int .i64 a3, .int .i64 a4, .int .i64 a5]) (ys := [.int .i64 b1, .int .i64 b2, .int .i64 b3, .int .i64 b4, .int .i64 b5]) Try.underlying76 (by kernel_rfl)
    [(_, decide (a1 = b1) && decide (a2 = b2)), (_, decide (a3 = b3)), (_, decide (a4 = b4) && decide (a5 = b5))] rfl (by
    intro p hp
    simp only [List.mem_cons, List.not_mem_nil, or_false] at hp
    rcases hp with rfl | rfl | rfl
    · exact ⟨by simp, eqF_agg (agg_of rfl) (siz_of rfl) rfl rfl (eq23 d a1 a2 b1 b2)⟩
    · exact ⟨by simp, eqF_int int3 (agg_of rfl) rfl rfl⟩
    · exact ⟨by simp, eqF_agg (agg_of rfl) (siz_of rfl) rfl rfl (eq23 d a4 a5 b4 b5)⟩)
  simpa using h
theorem eq69 (d : Nat) (a1 a2 a3 a4 a5 b1 b2 b3 b4 b5 : Int) : EqA Try.prog 69 (d + 3) [.int .i64 a1, .int .i64 a2, .int .i64 a3, .int .i64 a4, .int .i64 a5] [.int .i64 b1, .int .i64 b2, .int .i64 b3, .int .i64 b4, .int .i64 b5]
    (decide (a1 = b1) && (decide (a2 = b2) && (decide (a3 = b3) && (decide (a4 = b4) && decide (a5 = b5))))) := by
  have h := eqA_of (d := d + 2) (xs := [.int .i64 a1, .int .i64 a2, .int .i64 a3, .int .i64 a4, .int .i64 a5]) (ys := [.int .i64 b1, .int .i64 b2, .int .i64 b3, .int .i64 b4, .int .i64 b5]) Try.underlying69 (by kernel_rfl)
    [(_, decide (a1 = b1)), (_, decide (a2 = b2)), (_, decide (a3 = b3)), (_, decide (a4 = b4) && decide (a5 = b5))] rfl (by
    intro p hp
    simp only [List.mem_cons, List.not_mem_nil, or_false] at hp
    rcases hp with rfl | rfl | rfl | rfl
    · exact ⟨by simp, eqF_int int3 (agg_of rfl) rfl rfl⟩
    · exact ⟨by simp, eqF_int int3 (agg_of rfl) rfl rfl⟩
    · exact ⟨by simp, eqF_int int3 (agg_of rfl) rfl rfl⟩
    · exact ⟨by simp, eqF_agg (agg_of rfl) (siz_of rfl) rfl rfl (eq23 d a4 a5 b4 b5)⟩)
  simpa using h
theorem g76 : Try.prog.eqGuardType Try.prog.depth 76 = false := by kernel_rfl
theorem g69 : Try.prog.eqGuardType Try.prog.depth 69 = false := by kernel_rfl
theorem g23 : Try.prog.eqGuardType Try.prog.depth 23 = false := by kernel_rfl
end Go.Proofs.Ytdpnadknaacinaa
end

section
namespace Go.Proofs.Ytdpnadknaacinaa
open Go.Sx Go.Proofs.Ytdpnadknaacinaa.Ty
set_option linter.unusedVariables false
set_option maxHeartbeats 2000000


theorem gvL_take {s : Sp} {k i : Nat} {L : List Int} {r : Int} (h : L[i]? = some r) (v : Int × Int) : gvL s k (L.take (i + 1)) v = arS (gvL s k (L.take i) v) (leavesS s r k) := by
  unfold gvL; rw [List.take_add_one, h]; simp
theorem rows_at {α : Type} {f : α → List Value} {m : Nat} (hf : ∀ x, (f x).length = m) : ∀ {L : List α} {i : Nat} {x : α}, L[i]? = some x → sub (L.flatMap f) (i * m) m = f x
  | [], i, x, h => by simp at h
  | y :: L, 0, x, h => by
    simp at h; subst h
    simp [sub, List.flatMap_cons, ← hf y]
  | y :: L, i + 1, x, h => by
    have ih := rows_at hf (L := L) (i := i) (x := x) (by simpa using h)
    rw [← ih]
    unfold sub
    rw [List.flatMap_cons, List.drop_append, hf y, List.drop_eq_nil_of_le (by rw [hf y, Nat.succ_mul]; omega)]
    simp [Nat.succ_mul]
theorem sub_take {cs : List Value} {i m n : Nat} (h : i < n) : sub cs (i * m) m = sub (cs.take (n * m)) (i * m) m := by
  unfold sub
  rw [List.drop_take, List.take_take]
  have h2 : (i + 1) * m ≤ n * m := Nat.mul_le_mul_right m h
  rw [Nat.succ_mul] at h2
  rw [Nat.min_eq_left (by omega)]
theorem leC_len (f : Bd) : (leC f).length = 20 := rfl

theorem hull_fn (s : Sp) (M : Args) (L : List Int) (r0 : Int) (h0 : L[0]? = some r0) (hl : L.length ≤ 1000) (k : Nat) (hk : k < 10) (p : Option Addr) (bL oL cc jL : Nat) (cL : List Value) (hpL : p = some ⟨bL, oL, none⟩) (hjL : M[jL]? = some (bL, cL)) (hatL : ∀ i r, L[i]? = some r → sub cL (oL + i * 20) 20 = leC (leavesS s r)) : Cn Try.prog 78 [.slice p L.length cc, .int .i64 (k : Int)] M (fun _ : Unit => .agg #[.int .i64 (gvL s k L (leavesS s r0 k)).1, .int .i64 (gvL s k L (leavesS s r0 k)).2]) (fun _ => []) (fun _ => True) := by
  have hpos : 0 < L.length := by rcases Nat.lt_or_ge 0 L.length with h | h; exact h; rw [List.getElem?_eq_none (by omega)] at h0; cases h0
  have hc0 := hatL 0 r0 h0
  have hA1 : cL[oL + 0 * 20 + 0 + k * 1]? = some (.int .i64 (leavesS s r0 k).1) := by have h := sub_at hc0 k (by omega); rw [le_lo _ (k := k) (by omega) rfl] at h; rw [← h]; congr 1; omega
  have hA2 : cL[oL + 0 * 20 + 10 + k * 1]? = some (.int .i64 (leavesS s r0 k).2) := by have h := sub_at hc0 (10 + k) (by omega); rw [le_hi _ (k := k) (by omega) rfl] at h; rw [← h]; congr 1; omega
  refine fn_intro (N := 44) Try.func78 rfl rfl rfl fun w0 => ?_
  refine okc_seq ?_
  refine okc_region ?_
  refine s_alloc rfl rfl rfl rfl rfl rfl (fun b1 => ?_)
  refine okl_nil ?_
  change OkC Try.prog _ _ _ _ _ _ _
  refine okc_weak (l' := [(0, _), (1, _), (4, _)]) ⟨rfl, rfl, rfl, trivial⟩ ?_
  refine okc_seq ?_
  refine dr_start [8, 9, 10, 11, 12, 13, 14, 15, 16, 17, 18, 19, 20, 5] ?_
  refine d_move [] rfl rfl rfl rfl rfl (fun ν => rfl) rfl (fun ν => rfl) ?_
  refine d_move [] rfl rfl rfl rfl rfl (fun ν => rfl) rfl (fun ν => rfl) ?_
  refine d_indexP 0 hpL [0] rfl rfl rfl rfl rfl (fun ν => rfl) rfl (fun ν => rfl) (fun ν => rfl) rfl rfl rfl (by omega) rfl ?_
  refine d_field [2] rfl rfl rfl rfl rfl (fun ν => rfl) rfl (fun ν => rfl) rfl rfl ?_
  refine d_indexA k [3, 1] rfl rfl rfl rfl rfl (fun ν => rfl) rfl (fun ν => rfl) (fun ν => rfl) rfl rfl (by first | rfl | omega) (by omega) rfl ?_
  refine d_loadA1 jL [4] rfl rfl rfl rfl rfl (fun ν => rfl) rfl rfl (fun ν => rfl) hjL (by assumption) ?_
  refine d_move [] rfl rfl rfl rfl rfl (fun ν => rfl) rfl (fun ν => rfl) ?_
  refine d_move [] rfl rfl rfl rfl rfl (fun ν => rfl) rfl (fun ν => rfl) ?_
  refine d_indexP 0 hpL [6] rfl rfl rfl rfl rfl (fun ν => rfl) rfl (fun ν => rfl) (fun ν => rfl) rfl rfl rfl (by omega) rfl ?_
  refine d_field [8] rfl rfl rfl rfl rfl (fun ν => rfl) rfl (fun ν => rfl) rfl rfl ?_
  refine d_indexA k [9, 7] rfl rfl rfl rfl rfl (fun ν => rfl) rfl (fun ν => rfl) (fun ν => rfl) rfl rfl (by first | rfl | omega) (by omega) rfl ?_
  refine d_loadA1 jL [10] rfl rfl rfl rfl rfl (fun ν => rfl) rfl rfl (fun ν => rfl) hjL (by assumption) ?_
  refine d_build [5, 11] rfl rfl rfl rfl rfl (fun ν => rfl) rfl (fun ν => rfl) rfl rfl rfl ?_
  refine d_alloc [] rfl rfl rfl rfl rfl (fun ν => rfl) rfl rfl ?_
  refine dr_end [8, 9, 10, 11, 12, 13, 14, 15, 16, 17, 18, 19, 20, 5] [12, 13] 14 rfl rfl rfl rfl rfl rfl rfl rfl rfl (fun nu2 => ?_)
  refine k_storeW 0 rfl rfl rfl rfl rfl rfl rfl rfl rfl rfl rfl rfl ?_
  refine okl_nil ?_
  change OkC Try.prog _ _ _ _ _ _ _
  refine okc_weak (l' := [(0, _), (1, _), (4, _), (5, _)]) ⟨rfl, rfl, rfl, rfl, trivial⟩ ?_
  refine okc_seq ?_
  refine okc_seq ?_
  refine okc_region ?_
  refine s_move rfl rfl rfl rfl rfl rfl ?_
  refine s_len rfl rfl rfl rfl rfl rfl rfl ?_
  refine s_move rfl rfl rfl rfl rfl rfl ?_
  refine okl_nil ?_
  change OkC Try.prog _ _ _ _ _ _ _
  refine okc_weak (l' := [(0, _), (1, _), (4, _), (5, _), (21, _), (22, _), (23, _)]) ⟨rfl, rfl, rfl, rfl, rfl, rfl, rfl, trivial⟩ ?_
  refine okc_block ?_
  refine okc_loop (γ := Nat) (fun i => [(0, .slice p L.length cc), (1, .int .i64 (k : Int)), (4, .pointer (some ⟨b1, 0, none⟩)), (5, .pointer (some ⟨(nu2 13), 0, none⟩)), (21, .slice p L.length cc), (22, .int .i64 L.length), (23, .int .i64 i)]) (fun i => [((nu2 13), [.int .i64 (gvL s k (L.take i) (leavesS s r0 k)).1, .int .i64 (gvL s k (L.take i) (leavesS s r0 k)).2], 23), (b1, [.int .i64 0, .int .i64 0], 23)]) (fun i => i ≤ L.length) (fun i => L.length - i) 0 (Nat.zero_le _) (fun a w hs => by exact hs.weak ⟨rfl, rfl, rfl, rfl, rfl, rfl, rfl, trivial⟩ [0, 1] (by simp) (by rfl)) ?_
  rintro i hi
  refine okc_seq ?_
  refine okc_region ?_
  refine s_cmpS rfl rfl rfl rfl rfl rfl rfl rfl (fun h3 => ?_) (fun h3 => ?_)
  · have hlt : i < L.length := by simpa using h3
    obtain ⟨r, hr⟩ : ∃ r, L[i]? = some r := ⟨L[i], by simp [hlt]⟩
    have hcell := hatL i r hr
    have g1 := le_lo (leavesS s r) (k := k) (n := 0 + 0 + k * 1) (by omega) (by omega)
    have g2 := le_hi (leavesS s r) (k := k) (n := 0 + 10 + k * 1) (by omega) (by omega)
    refine okl_nil ?_
    change OkC Try.prog _ _ _ _ _ _ _
    refine okc_weak (l' := [(0, _), (1, _), (4, _), (5, _), (21, _), (22, _), (23, _), (24, _)]) ⟨rfl, rfl, rfl, rfl, rfl, rfl, rfl, rfl, trivial⟩ ?_
    refine okc_seq ?_
    refine okc_cond_t rfl ?_
    refine okc_skip ?_
    change OkC Try.prog _ _ _ _ _ _ _
    refine okc_weak (l' := [(0, _), (1, _), (4, _), (5, _), (21, _), (22, _), (23, _), (24, _)]) ⟨rfl, rfl, rfl, rfl, rfl, rfl, rfl, rfl, trivial⟩ ?_
    refine okc_seq ?_
    refine okc_block ?_
    refine okc_seq ?_
    refine okc_region ?_
    refine s_indexP i hpL rfl rfl rfl rfl rfl rfl rfl rfl rfl rfl (by omega) rfl ?_
    refine s_loadAP jL rfl rfl rfl rfl rfl rfl rfl hjL rfl (by assumption) rfl ?_
    refine s_alloc rfl rfl rfl rfl rfl rfl (fun b4 => ?_)
    refine k_storeW 0 rfl rfl rfl rfl rfl rfl rfl rfl rfl rfl rfl rfl ?_
    refine okl_nil ?_
    change OkC Try.prog _ _ _ _ _ _ _
    refine okc_weak (l' := [(0, _), (1, _), (4, _), (5, _), (7, _), (21, _), (22, _), (23, _), (24, _)]) ⟨rfl, rfl, rfl, rfl, rfl, rfl, rfl, rfl, rfl, trivial⟩ ?_
    refine dr_start [27, 28, 29, 30, 31, 32, 33, 34, 35, 36, 37, 38, 39, 40, 41] ?_
    refine d_field [] rfl rfl rfl rfl rfl (fun ν => rfl) rfl (fun ν => rfl) rfl rfl ?_
    refine d_load1 1 [0] rfl rfl rfl rfl rfl (fun ν => rfl) rfl rfl (fun ν => rfl) (fun ν => rfl) rfl ?_
    refine d_move [] rfl rfl rfl rfl rfl (fun ν => rfl) rfl (fun ν => rfl) ?_
    refine d_field [] rfl rfl rfl rfl rfl (fun ν => rfl) rfl (fun ν => rfl) rfl rfl ?_
    refine d_indexA k [3, 2] rfl rfl rfl rfl rfl (fun ν => rfl) rfl (fun ν => rfl) (fun ν => rfl) rfl rfl (by first | rfl | omega) (by omega) rfl ?_
    refine d_load1 0 [4] rfl rfl rfl rfl rfl (fun ν => rfl) rfl rfl (fun ν => rfl) (fun ν => rfl) (by assumption) ?_
    refine d_min [1, 5] rfl rfl rfl rfl rfl (fun ν => rfl) rfl (fun ν => rfl) (fun ν => rfl) ?_
    refine d_field [] rfl rfl rfl rfl rfl (fun ν => rfl) rfl (fun ν => rfl) rfl rfl ?_
    refine d_load1 1 [7] rfl rfl rfl rfl rfl (fun ν => rfl) rfl rfl (fun ν => rfl) (fun ν => rfl) rfl ?_
    refine d_move [] rfl rfl rfl rfl rfl (fun ν => rfl) rfl (fun ν => rfl) ?_
    refine d_field [] rfl rfl rfl rfl rfl (fun ν => rfl) rfl (fun ν => rfl) rfl rfl ?_
    refine d_indexA k [10, 9] rfl rfl rfl rfl rfl (fun ν => rfl) rfl (fun ν => rfl) (fun ν => rfl) rfl rfl (by first | rfl | omega) (by omega) rfl ?_
    refine d_load1 0 [11] rfl rfl rfl rfl rfl (fun ν => rfl) rfl rfl (fun ν => rfl) (fun ν => rfl) (by assumption) ?_
    refine d_max [8, 12] rfl rfl rfl rfl rfl (fun ν => rfl) rfl (fun ν => rfl) (fun ν => rfl) ?_
    refine d_build [6, 13] rfl rfl rfl rfl rfl (fun ν => rfl) rfl (fun ν => rfl) rfl rfl rfl ?_
    refine dr_end [27, 28, 29, 30, 31, 32, 33, 34, 35, 36, 37, 38, 39, 40, 41] [14] 15 rfl rfl rfl rfl rfl rfl rfl rfl rfl (fun nu5 => ?_)
    refine k_storeW 1 rfl rfl rfl rfl rfl rfl rfl rfl rfl rfl rfl rfl ?_
    refine okl_nil ?_
    change OkC Try.prog _ _ _ _ _ _ _
    refine okc_weak (l' := [(0, _), (1, _), (4, _), (5, _), (7, _), (21, _), (22, _), (23, _), (24, _)]) ⟨rfl, rfl, rfl, rfl, rfl, rfl, rfl, rfl, rfl, trivial⟩ ?_
    refine okc_region ?_
    refine s_add rfl rfl rfl rfl rfl rfl rfl (by omega) ?_
    refine s_move rfl rfl rfl rfl rfl rfl ?_
    refine okl_nil ?_
    exact fun a w hs => ⟨i + 1, by omega, by omega, hs.weak ⟨rfl, rfl, rfl, rfl, rfl, rfl, rfl, trivial⟩ [1, 2] (by simp) (by rw [gvL_take hr]; rfl)⟩
  · have hge : ¬ i < L.length := by simpa using h3
    have hfin : L.take i = L := List.take_of_length_le (by omega)
    refine okl_nil ?_
    change OkC Try.prog _ _ _ _ _ _ _
    refine okc_weak (l' := [(0, _), (1, _), (4, _), (5, _), (21, _), (22, _), (23, _), (24, _)]) ⟨rfl, rfl, rfl, rfl, rfl, rfl, rfl, rfl, trivial⟩ ?_
    refine okc_seq ?_
    refine okc_cond_f rfl ?_
    refine okc_exit ?_
    change OkC Try.prog _ _ _ _ _ _ _
    refine okc_weak (l' := [(0, _), (1, _), (4, _), (5, _), (21, _), (22, _), (23, _), (24, _)]) ⟨rfl, rfl, rfl, rfl, rfl, rfl, rfl, rfl, trivial⟩ ?_
    refine okc_seq ?_
    refine okc_region ?_
    refine s_loadW 0 rfl rfl rfl rfl rfl rfl rfl rfl rfl rfl ?_
    refine k_storeW 1 rfl rfl rfl rfl rfl rfl rfl rfl rfl rfl rfl rfl ?_
    refine okl_nil ?_
    change OkC Try.prog _ _ _ _ _ _ _
    refine okc_weak (l' := [(0, _), (1, _), (4, _), (5, _), (21, _), (22, _), (23, _), (24, _)]) ⟨rfl, rfl, rfl, rfl, rfl, rfl, rfl, rfl, trivial⟩ ?_
    refine okc_ret fun a w hs => ?_
    exact ret_v hs (run_results1 hs rfl (k_ragg 1 rfl rfl rfl rfl rfl)) (by clear hs; rw [hfin])

end Go.Proofs.Ytdpnadknaacinaa
end

section
namespace Go.Proofs.Ytdpnadknaacinaa
open Go.Sx Go.Proofs.Ytdpnadknaacinaa.Ty
set_option linter.unusedVariables false
set_option maxHeartbeats 2000000


theorem sl_pos {B : Blks} {e : TypeId} {size n c : Nat} {p : Option Addr} {xs : List Value} (h : Sl B e size p n c xs) (hn : 0 < n) : ∃ g cs, p = some ⟨g, 0, none⟩ ∧ B = [(g, cs, e)] ∧ cs.take (n * size) = xs := by
  rcases h.2 with ⟨_, rfl, _, _⟩ | ⟨g, cs, h1, h2, _, _, _, h3⟩
  · omega
  · exact ⟨g, cs, h1, h2, h3⟩
theorem gE_no {s : Sp} {w : Int} (h : ¬ erS s w = 0) : gE s w = (0, 0) := if_neg h
theorem gE_ok {s : Sp} {w : Int} (h : erS s w = 0) : gE s w = gvS s w.toNat := if_pos h

theorem rGives_fn (s : Sp) (M : Args) (hin : s.In M) (w : Int) : Cn Try.prog 23 [spV s, .int .i64 w] M (fun _ : Unit => .tuple #[.agg #[.int .i64 (gE s w).1, .int .i64 (gE s w).2], .int .i64 (erS s w)]) (fun _ => []) (fun _ => True) := by
  refine fn_intro (N := 23) Try.func23 rfl rfl rfl fun w0 => ?_
  refine okc_seq ?_
  refine okc_region ?_
  refine s_boxA rfl rfl rfl rfl rfl rfl (fun b1 => ?_)
  refine s_alloc rfl rfl rfl rfl rfl rfl (fun b2 => ?_)
  refine s_assign rfl rfl rfl rfl rfl rfl ?_
  refine okl_nil ?_
  change OkC Try.prog _ _ _ _ _ _ _
  refine okc_weak (l' := [(0, _), (1, _), (2, _), (4, _), (5, _)]) ⟨rfl, rfl, rfl, rfl, rfl, trivial⟩ ?_
  refine okc_seq ?_
  refine okc_region ?_
  refine s_loadW 1 rfl rfl rfl rfl rfl rfl rfl rfl rfl rfl ?_
  refine s_move rfl rfl rfl rfl rfl rfl ?_
  refine okl_rE rfl rfl rfl rfl (op_call rfl rfl rfl c76 (told_fn76 s M hin w) covers_all) (fun g hg => ?_)
  obtain ⟨p1, k1, B1, p2, k2, B2⟩ := g
  refine s_move rfl rfl rfl rfl rfl rfl ?_
  refine s_extract rfl rfl rfl rfl rfl rfl rfl ?_
  refine s_extract rfl rfl rfl rfl rfl rfl rfl ?_
  refine s_extract rfl rfl rfl rfl rfl rfl rfl ?_
  refine s_assign rfl rfl rfl rfl rfl rfl ?_
  refine s_assign rfl rfl rfl rfl rfl rfl ?_
  refine s_assign rfl rfl rfl rfl rfl rfl ?_
  refine okl_nil ?_
  change OkC Try.prog _ _ _ _ _ _ _
  refine okc_weak (l' := [(0, _), (1, _), (2, _), (4, _), (5, _), (7, _), (8, _)]) ⟨rfl, rfl, rfl, rfl, rfl, rfl, rfl, trivial⟩ ?_
  refine okc_seq ?_
  refine okc_seq ?_
  refine okc_region ?_
  refine s_move rfl rfl rfl rfl rfl rfl ?_
  refine s_cmpS rfl rfl rfl rfl rfl rfl rfl rfl (fun h3 => ?_) (fun h3 => ?_)
  · have hb : ¬ erS s w = 0 := by simpa using h3
    refine okl_nil ?_
    change OkC Try.prog _ _ _ _ _ _ _
    refine okc_weak (l' := [(0, _), (1, _), (2, _), (4, _), (5, _), (7, _), (8, _), (17, _)]) ⟨rfl, rfl, rfl, rfl, rfl, rfl, rfl, rfl, trivial⟩ ?_
    refine okc_cond_t rfl ?_
    refine okc_seq ?_
    refine okc_region ?_
    refine s_build rfl rfl rfl rfl rfl rfl rfl rfl rfl ?_
    refine s_move rfl rfl rfl rfl rfl rfl ?_
    refine k_storeW 0 rfl rfl rfl rfl rfl rfl rfl rfl rfl rfl rfl rfl ?_
    refine s_assign rfl rfl rfl rfl rfl rfl ?_
    refine okl_nil ?_
    change OkC Try.prog _ _ _ _ _ _ _
    refine okc_weak (l' := [(0, _), (1, _), (2, _), (4, _), (5, _), (7, _), (8, _), (17, _)]) ⟨rfl, rfl, rfl, rfl, rfl, rfl, rfl, rfl, trivial⟩ ?_
    refine okc_ret fun a w hs => ?_
    exact ret_v hs (run_results2 hs rfl (k_ragg 0 rfl rfl rfl rfl rfl) (rv_tmp rfl)) (by clear hs; rw [gE_no hb]; rfl)
  · have hb : erS s w = 0 := by simpa using h3
    obtain ⟨hv, h0w, h1w, hcan⟩ := er_ok hb
    have hs0 := ok_of_valid hv
    obtain ⟨w1, w2, m1, m2, f1, f2, a1, a2, a3, v1, v2, v3⟩ := hs0.ok
    have hrl := rains_len hs0
    obtain ⟨k, rfl⟩ : ∃ k : Nat, w = k := ⟨w.toNat, by omega⟩
    obtain ⟨_, hg2⟩ := hg
    dsimp only at hg2
    rw [tl_ok hb] at hg2 ⊢
    obtain ⟨r0, L0, hL0⟩ : ∃ r0 L0, rainsS s = r0 :: L0 := by unfold canS at hcan; cases hr : rainsS s with | nil => simp [hr] at hcan | cons x L => exact ⟨x, L, rfl⟩
    have hr0 : (rainsS s)[0]? = some r0 := by rw [hL0]; rfl
    obtain ⟨gb, gcs, rfl, rfl, htk⟩ := sl_pos hg2 (by rw [hL0]; simp)
    have hat : ∀ i r, (rainsS s)[i]? = some r → sub gcs (0 + i * 20) 20 = leC (leavesS s r) := by intro i r hi; rw [Nat.zero_add, sub_take (n := (rainsS s).length) (by rcases Nat.lt_or_ge i (rainsS s).length with h | h; exact h; rw [List.getElem?_eq_none h] at hi; cases hi), htk]; exact rows_at (fun x => leC_len _) hi
    refine okl_nil ?_
    change OkC Try.prog _ _ _ _ _ _ _
    refine okc_weak (l' := [(0, _), (1, _), (2, _), (4, _), (5, _), (7, _), (8, _), (17, _)]) ⟨rfl, rfl, rfl, rfl, rfl, rfl, rfl, rfl, trivial⟩ ?_
    refine okc_cond_f rfl ?_
    refine okc_skip ?_
    change OkC Try.prog _ _ _ _ _ _ _
    refine okc_weak (l' := [(0, _), (1, _), (2, _), (4, _), (5, _), (7, _), (8, _), (17, _)]) ⟨rfl, rfl, rfl, rfl, rfl, rfl, rfl, rfl, trivial⟩ ?_
    refine okc_seq ?_
    refine okc_region ?_
    refine s_move rfl rfl rfl rfl rfl rfl ?_
    refine s_move rfl rfl rfl rfl rfl rfl ?_
    refine s_callv rfl rfl rfl rfl rfl rfl rfl c78 (hull_fn s [(gb, gcs)] (rainsS s) r0 hr0 (by omega) k (by omega) _ gb 0 k2 0 gcs rfl rfl hat) (fun b cs hm => by cases List.mem_singleton.1 hm; exact .inl ⟨135, by simp⟩) ?_
    refine k_storeW 0 rfl rfl rfl rfl rfl rfl rfl rfl rfl rfl rfl rfl ?_
    refine s_assign rfl rfl rfl rfl rfl rfl ?_
    refine okl_nil ?_
    change OkC Try.prog _ _ _ _ _ _ _
    refine okc_weak (l' := [(0, _), (1, _), (2, _), (4, _), (5, _), (7, _), (8, _), (17, _)]) ⟨rfl, rfl, rfl, rfl, rfl, rfl, rfl, rfl, trivial⟩ ?_
    refine okc_ret fun a w hs => ?_
    exact ret_v hs (run_results2 hs rfl (k_ragg 0 rfl rfl rfl rfl rfl) (rv_tmp rfl)) (by clear hs; rw [gE_ok hb, hb, show ((k : Int)).toNat = k from rfl, ← hull_eq (by omega) hL0])

theorem rKnown_fn (s : Sp) (M : Args) (hin : s.In M) (w : Int) (need : Int) : Cn Try.prog 25 [spV s, .int .i64 w, .int .i64 need] M (fun _ : Unit => .tuple #[.int .u8 (knS s w need), .int .i64 (erS s w)]) (fun _ => []) (fun _ => True) := by
  refine fn_intro (N := 27) Try.func25 rfl rfl rfl fun w0 => ?_
  refine okc_seq ?_
  refine okc_region ?_
  refine s_boxA rfl rfl rfl rfl rfl rfl (fun b4 => ?_)
  refine s_assign rfl rfl rfl rfl rfl rfl ?_
  refine s_assign rfl rfl rfl rfl rfl rfl ?_
  refine okl_nil ?_
  change OkC Try.prog _ _ _ _ _ _ _
  refine okc_weak (l' := [(0, _), (1, _), (2, _), (3, _), (6, _), (7, _)]) ⟨rfl, rfl, rfl, rfl, rfl, rfl, trivial⟩ ?_
  refine okc_seq ?_
  refine okc_region ?_
  refine s_loadW 0 rfl rfl rfl rfl rfl rfl rfl rfl rfl rfl ?_
  refine s_move rfl rfl rfl rfl rfl rfl ?_
  refine s_callv rfl rfl rfl rfl rfl rfl rfl c23 (rGives_fn s M hin w) covers_all ?_
  refine s_move rfl rfl rfl rfl rfl rfl ?_
  refine s_extract rfl rfl rfl rfl rfl rfl rfl ?_
  refine s_extract rfl rfl rfl rfl rfl rfl rfl ?_
  refine s_alloc rfl rfl rfl rfl rfl rfl (fun b5 => ?_)
  refine k_storeW 0 rfl rfl rfl rfl rfl rfl rfl rfl rfl rfl rfl rfl ?_
  refine s_assign rfl rfl rfl rfl rfl rfl ?_
  refine okl_nil ?_
  change OkC Try.prog _ _ _ _ _ _ _
  refine okc_weak (l' := [(0, _), (1, _), (2, _), (3, _), (6, _), (7, _), (8, _), (9, _)]) ⟨rfl, rfl, rfl, rfl, rfl, rfl, rfl, rfl, trivial⟩ ?_
  refine okc_seq ?_
  refine okc_seq ?_
  refine okc_region ?_
  refine s_move rfl rfl rfl rfl rfl rfl ?_
  refine s_cmpS rfl rfl rfl rfl rfl rfl rfl rfl (fun h6 => ?_) (fun h6 => ?_)
  · refine okl_nil ?_
    change OkC Try.prog _ _ _ _ _ _ _
    refine okc_weak (l' := [(0, _), (1, _), (2, _), (3, _), (6, _), (7, _), (8, _), (9, _), (17, _)]) ⟨rfl, rfl, rfl, rfl, rfl, rfl, rfl, rfl, rfl, trivial⟩ ?_
    refine okc_cond_t rfl ?_
    refine okc_seq ?_
    refine okc_region ?_
    refine s_move rfl rfl rfl rfl rfl rfl ?_
    refine s_assign rfl rfl rfl rfl rfl rfl ?_
    refine s_assign rfl rfl rfl rfl rfl rfl ?_
    refine okl_nil ?_
    change OkC Try.prog _ _ _ _ _ _ _
    refine okc_weak (l' := [(0, _), (1, _), (2, _), (3, _), (6, _), (7, _), (8, _), (9, _), (17, _)]) ⟨rfl, rfl, rfl, rfl, rfl, rfl, rfl, rfl, rfl, trivial⟩ ?_
    refine okc_ret fun a w hs => ?_
    exact ret_v hs (run_results2 hs rfl (rv_tmp rfl) (rv_tmp rfl)) (by clear hs; simp only [knS]; simp_all <;> (intros; omega))
  · refine okl_nil ?_
    change OkC Try.prog _ _ _ _ _ _ _
    refine okc_weak (l' := [(0, _), (1, _), (2, _), (3, _), (6, _), (7, _), (8, _), (9, _), (17, _)]) ⟨rfl, rfl, rfl, rfl, rfl, rfl, rfl, rfl, rfl, trivial⟩ ?_
    refine okc_cond_f rfl ?_
    refine okc_skip ?_
    change OkC Try.prog _ _ _ _ _ _ _
    refine okc_weak (l' := [(0, _), (1, _), (2, _), (3, _), (6, _), (7, _), (8, _), (9, _), (17, _)]) ⟨rfl, rfl, rfl, rfl, rfl, rfl, rfl, rfl, rfl, trivial⟩ ?_
    refine okc_seq ?_
    refine okc_seq ?_
    refine okc_region ?_
    refine s_field rfl rfl rfl rfl rfl rfl rfl rfl ?_
    refine s_load1 0 rfl rfl rfl rfl rfl rfl rfl rfl rfl ?_
    refine s_move rfl rfl rfl rfl rfl rfl ?_
    refine s_cmpS rfl rfl rfl rfl rfl rfl rfl rfl (fun h7 => ?_) (fun h7 => ?_)
    · refine okl_nil ?_
      change OkC Try.prog _ _ _ _ _ _ _
      refine okc_weak (l' := [(0, _), (1, _), (2, _), (3, _), (6, _), (7, _), (8, _), (9, _), (17, _), (22, _)]) ⟨rfl, rfl, rfl, rfl, rfl, rfl, rfl, rfl, rfl, rfl, trivial⟩ ?_
      refine okc_cond_t rfl ?_
      refine okc_seq ?_
      refine okc_region ?_
      refine s_assign rfl rfl rfl rfl rfl rfl ?_
      refine s_assign rfl rfl rfl rfl rfl rfl ?_
      refine okl_nil ?_
      change OkC Try.prog _ _ _ _ _ _ _
      refine okc_weak (l' := [(0, _), (1, _), (2, _), (3, _), (6, _), (7, _), (8, _), (9, _), (17, _), (22, _)]) ⟨rfl, rfl, rfl, rfl, rfl, rfl, rfl, rfl, rfl, rfl, trivial⟩ ?_
      refine okc_ret fun a w hs => ?_
      exact ret_v hs (run_results2 hs rfl (rv_tmp rfl) (rv_tmp rfl)) (by clear hs; simp only [knS]; simp_all <;> (intros; omega))
    · refine okl_nil ?_
      change OkC Try.prog _ _ _ _ _ _ _
      refine okc_weak (l' := [(0, _), (1, _), (2, _), (3, _), (6, _), (7, _), (8, _), (9, _), (17, _), (22, _)]) ⟨rfl, rfl, rfl, rfl, rfl, rfl, rfl, rfl, rfl, rfl, trivial⟩ ?_
      refine okc_cond_f rfl ?_
      refine okc_skip ?_
      change OkC Try.prog _ _ _ _ _ _ _
      refine okc_weak (l' := [(0, _), (1, _), (2, _), (3, _), (6, _), (7, _), (8, _), (9, _), (17, _), (22, _)]) ⟨rfl, rfl, rfl, rfl, rfl, rfl, rfl, rfl, rfl, rfl, trivial⟩ ?_
      refine okc_seq ?_
      refine okc_seq ?_
      refine okc_region ?_
      refine s_field rfl rfl rfl rfl rfl rfl rfl rfl ?_
      refine s_load1 0 rfl rfl rfl rfl rfl rfl rfl rfl rfl ?_
      refine s_move rfl rfl rfl rfl rfl rfl ?_
      refine s_cmpS rfl rfl rfl rfl rfl rfl rfl rfl (fun h8 => ?_) (fun h8 => ?_)
      · refine okl_nil ?_
        change OkC Try.prog _ _ _ _ _ _ _
        refine okc_weak (l' := [(0, _), (1, _), (2, _), (3, _), (6, _), (7, _), (8, _), (9, _), (17, _), (22, _), (26, _)]) ⟨rfl, rfl, rfl, rfl, rfl, rfl, rfl, rfl, rfl, rfl, rfl, trivial⟩ ?_
        refine okc_cond_t rfl ?_
        refine okc_seq ?_
        refine okc_region ?_
        refine s_assign rfl rfl rfl rfl rfl rfl ?_
        refine s_assign rfl rfl rfl rfl rfl rfl ?_
        refine okl_nil ?_
        change OkC Try.prog _ _ _ _ _ _ _
        refine okc_weak (l' := [(0, _), (1, _), (2, _), (3, _), (6, _), (7, _), (8, _), (9, _), (17, _), (22, _), (26, _)]) ⟨rfl, rfl, rfl, rfl, rfl, rfl, rfl, rfl, rfl, rfl, rfl, trivial⟩ ?_
        refine okc_ret fun a w hs => ?_
        exact ret_v hs (run_results2 hs rfl (rv_tmp rfl) (rv_tmp rfl)) (by clear hs; simp only [knS]; simp_all <;> (intros; omega))
      · refine okl_nil ?_
        change OkC Try.prog _ _ _ _ _ _ _
        refine okc_weak (l' := [(0, _), (1, _), (2, _), (3, _), (6, _), (7, _), (8, _), (9, _), (17, _), (22, _), (26, _)]) ⟨rfl, rfl, rfl, rfl, rfl, rfl, rfl, rfl, rfl, rfl, rfl, trivial⟩ ?_
        refine okc_cond_f rfl ?_
        refine okc_skip ?_
        change OkC Try.prog _ _ _ _ _ _ _
        refine okc_weak (l' := [(0, _), (1, _), (2, _), (3, _), (6, _), (7, _), (8, _), (9, _), (17, _), (22, _), (26, _)]) ⟨rfl, rfl, rfl, rfl, rfl, rfl, rfl, rfl, rfl, rfl, rfl, trivial⟩ ?_
        refine okc_seq ?_
        refine okc_region ?_
        refine s_assign rfl rfl rfl rfl rfl rfl ?_
        refine s_assign rfl rfl rfl rfl rfl rfl ?_
        refine okl_nil ?_
        change OkC Try.prog _ _ _ _ _ _ _
        refine okc_weak (l' := [(0, _), (1, _), (2, _), (3, _), (6, _), (7, _), (8, _), (9, _), (17, _), (22, _), (26, _)]) ⟨rfl, rfl, rfl, rfl, rfl, rfl, rfl, rfl, rfl, rfl, rfl, trivial⟩ ?_
        refine okc_ret fun a w hs => ?_
        exact ret_v hs (run_results2 hs rfl (rv_tmp rfl) (rv_tmp rfl)) (by clear hs; simp only [knS]; simp_all <;> (intros; omega))


structure IntsIn (M : Args) (p : Option Addr) (L : List Int) : Prop where
  len : L.length ≤ 1000000000
  row : ∃ (b off : Nat) (cs : List Value) (j : Nat), L ≠ [] → p = some ⟨b, off, none⟩ ∧ M[j]? = some (b, cs) ∧ ∀ (i : Nat) (x : Int), L[i]? = some x → cs[off + i * 1]? = some (.int .i64 x)

theorem sameInts_fn (M : Args) (a b : List Int) (pa pb : Option Addr) (ca cb : Nat) (hia : IntsIn M pa a) (hib : IntsIn M pb b) : Cn Try.prog 28 [.slice pa a.length ca, .slice pb b.length cb] M (fun _ : Unit => .bool (decide (a = b))) (fun _ => []) (fun _ => True) := by
  have hla := hia.len
  have hlb := hib.len
  obtain ⟨bA, oA, cA, jA, hA⟩ := hia.row
  obtain ⟨bB, oB, cB, jB, hB⟩ := hib.row
  refine fn_intro (N := 26) Try.func28 rfl rfl rfl fun w0 => ?_
  refine okc_seq ?_
  refine okc_region ?_
  refine s_assign rfl rfl rfl rfl rfl rfl ?_
  refine okl_nil ?_
  change OkC Try.prog _ _ _ _ _ _ _
  refine okc_weak (l' := [(0, _), (1, _), (4, _)]) ⟨rfl, rfl, rfl, trivial⟩ ?_
  refine okc_seq ?_
  refine okc_seq ?_
  refine okc_region ?_
  refine s_move rfl rfl rfl rfl rfl rfl ?_
  refine s_len rfl rfl rfl rfl rfl rfl rfl ?_
  refine s_move rfl rfl rfl rfl rfl rfl ?_
  refine s_len rfl rfl rfl rfl rfl rfl rfl ?_
  refine s_cmpS rfl rfl rfl rfl rfl rfl rfl rfl (fun h9 => ?_) (fun h9 => ?_)
  · have hln : a.length ≠ b.length := by have hq := h9; simp at hq; omega
    have hfin : decide (a = b) = false := decide_eq_false (fun e => hln (by rw [e]))
    refine okl_nil ?_
    change OkC Try.prog _ _ _ _ _ _ _
    refine okc_weak (l' := [(0, _), (1, _), (4, _), (10, _)]) ⟨rfl, rfl, rfl, rfl, trivial⟩ ?_
    refine okc_cond_t rfl ?_
    refine okc_seq ?_
    refine okc_region ?_
    refine s_assign rfl rfl rfl rfl rfl rfl ?_
    refine okl_nil ?_
    change OkC Try.prog _ _ _ _ _ _ _
    refine okc_weak (l' := [(0, _), (1, _), (4, _), (10, _)]) ⟨rfl, rfl, rfl, rfl, trivial⟩ ?_
    refine okc_ret fun a w hs => ?_
    exact ret_v hs (run_results1 hs rfl (rv_tmp rfl)) (by clear hs; rw [hfin])
  · have hln : a.length = b.length := by have hq := h9; simp at hq; omega
    refine okl_nil ?_
    change OkC Try.prog _ _ _ _ _ _ _
    refine okc_weak (l' := [(0, _), (1, _), (4, _), (10, _)]) ⟨rfl, rfl, rfl, rfl, trivial⟩ ?_
    refine okc_cond_f rfl ?_
    refine okc_skip ?_
    change OkC Try.prog _ _ _ _ _ _ _
    refine okc_weak (l' := [(0, _), (1, _), (4, _), (10, _)]) ⟨rfl, rfl, rfl, rfl, trivial⟩ ?_
    refine okc_seq ?_
    refine okc_seq ?_
    refine okc_region ?_
    refine s_assign rfl rfl rfl rfl rfl rfl ?_
    refine okl_nil ?_
    change OkC Try.prog _ _ _ _ _ _ _
    refine okc_weak (l' := [(0, _), (1, _), (4, _), (5, _), (10, _)]) ⟨rfl, rfl, rfl, rfl, rfl, trivial⟩ ?_
    refine okc_block ?_
    refine okc_loop (γ := Nat) (fun k => [(0, .slice pa a.length ca), (1, .slice pb b.length cb), (5, .int .i64 k)]) (fun k => []) (fun k => k ≤ a.length ∧ a.take k = b.take k) (fun k => a.length - k) 0 ⟨Nat.zero_le _, rfl⟩ (fun a w hs => by exact hs.weak ⟨rfl, rfl, rfl, trivial⟩ [] (by simp) (by rfl)) ?_
    rintro k ⟨hk, htk⟩
    refine okc_seq ?_
    refine okc_seq ?_
    refine okc_region ?_
    refine s_move rfl rfl rfl rfl rfl rfl ?_
    refine s_move rfl rfl rfl rfl rfl rfl ?_
    refine s_len rfl rfl rfl rfl rfl rfl rfl ?_
    refine s_cmpS rfl rfl rfl rfl rfl rfl rfl rfl (fun h10 => ?_) (fun h10 => ?_)
    · have hlt : k < a.length := by simpa using h10
      obtain ⟨x, hx⟩ : ∃ x, a[k]? = some x := ⟨a[k], by simp [hlt]⟩
      obtain ⟨y, hy⟩ : ∃ y, b[k]? = some y := ⟨b[k]'(by omega), by simp⟩
      obtain ⟨hpA, hjA, hatA⟩ := hA (by intro e; simp [e] at hx)
      obtain ⟨hpB, hjB, hatB⟩ := hB (by intro e; simp [e] at hy)
      have hcx := hatA k x hx
      have hcy := hatB k y hy
      refine okl_nil ?_
      change OkC Try.prog _ _ _ _ _ _ _
      refine okc_weak (l' := [(0, _), (1, _), (5, _), (14, _)]) ⟨rfl, rfl, rfl, rfl, trivial⟩ ?_
      refine okc_cond_t rfl ?_
      refine okc_skip ?_
      change OkC Try.prog _ _ _ _ _ _ _
      refine okc_weak (l' := [(0, _), (1, _), (5, _), (14, _)]) ⟨rfl, rfl, rfl, rfl, trivial⟩ ?_
      refine okc_seq ?_
      refine okc_block ?_
      refine okc_seq ?_
      refine dr_start [17, 18, 19, 20, 21, 22, 23, 24, 25] ?_
      refine d_move [] rfl rfl rfl rfl rfl (fun ν => rfl) rfl (fun ν => rfl) ?_
      refine d_move [] rfl rfl rfl rfl rfl (fun ν => rfl) rfl (fun ν => rfl) ?_
      refine d_indexP k hpA [0, 1] rfl rfl rfl rfl rfl (fun ν => rfl) rfl (fun ν => rfl) (fun ν => rfl) rfl rfl rfl (by omega) rfl ?_
      refine d_loadA1 jA [2] rfl rfl rfl rfl rfl (fun ν => rfl) rfl rfl (fun ν => rfl) hjA (by assumption) ?_
      refine d_move [] rfl rfl rfl rfl rfl (fun ν => rfl) rfl (fun ν => rfl) ?_
      refine d_move [] rfl rfl rfl rfl rfl (fun ν => rfl) rfl (fun ν => rfl) ?_
      refine d_indexP k hpB [4, 5] rfl rfl rfl rfl rfl (fun ν => rfl) rfl (fun ν => rfl) (fun ν => rfl) rfl rfl rfl (by omega) rfl ?_
      refine d_loadA1 jB [6] rfl rfl rfl rfl rfl (fun ν => rfl) rfl rfl (fun ν => rfl) hjB (by assumption) ?_
      refine d_cmpS [3, 7] rfl rfl rfl rfl rfl (fun ν => rfl) rfl (fun ν => rfl) (fun ν => rfl) rfl (fun h12 => ?_) (fun h12 => ?_)
      · have hne : x ≠ y := by simpa using h12
        have hfin : decide (a = b) = false := decide_eq_false (fun e => hne (by rw [e, hy] at hx; exact (Option.some.inj hx).symm))
        refine dr_end [17, 18, 19, 20, 21, 22, 23, 24, 25] [8] 9 rfl rfl rfl rfl rfl rfl rfl rfl rfl (fun nu11 => ?_)
        refine okl_nil ?_
        change OkC Try.prog _ _ _ _ _ _ _
        refine okc_weak (l' := [(0, _), (1, _), (5, _), (14, _), (25, _)]) ⟨rfl, rfl, rfl, rfl, rfl, trivial⟩ ?_
        refine okc_cond_t rfl ?_
        refine okc_seq ?_
        refine okc_region ?_
        refine s_assign rfl rfl rfl rfl rfl rfl ?_
        refine okl_nil ?_
        change OkC Try.prog _ _ _ _ _ _ _
        refine okc_weak (l' := [(0, _), (1, _), (4, _), (5, _), (14, _), (25, _)]) ⟨rfl, rfl, rfl, rfl, rfl, rfl, trivial⟩ ?_
        refine okc_ret fun a w hs => ?_
        exact ret_v hs (run_results1 hs rfl (rv_tmp rfl)) (by clear hs; rw [hfin])
      · have heq : x = y := by simpa using h12
        refine dr_end [17, 18, 19, 20, 21, 22, 23, 24, 25] [8] 9 rfl rfl rfl rfl rfl rfl rfl rfl rfl (fun nu11 => ?_)
        refine okl_nil ?_
        change OkC Try.prog _ _ _ _ _ _ _
        refine okc_weak (l' := [(0, _), (1, _), (5, _), (14, _), (25, _)]) ⟨rfl, rfl, rfl, rfl, rfl, trivial⟩ ?_
        refine okc_cond_f rfl ?_
        refine okc_skip ?_
        change OkC Try.prog _ _ _ _ _ _ _
        refine okc_weak (l' := [(0, _), (1, _), (5, _), (14, _), (25, _)]) ⟨rfl, rfl, rfl, rfl, rfl, trivial⟩ ?_
        refine okc_region ?_
        refine s_move rfl rfl rfl rfl rfl rfl ?_
        refine s_add rfl rfl rfl rfl rfl rfl rfl (by omega) ?_
        refine s_assign rfl rfl rfl rfl rfl rfl ?_
        refine okl_nil ?_
        exact fun a_1 w hs => ⟨k + 1, ⟨by omega, by rw [List.take_add_one, List.take_add_one, htk, hx, hy, heq]⟩, by omega, hs.weak ⟨rfl, rfl, rfl, trivial⟩ [] (by simp) (by rfl)⟩
    · have hge : ¬ k < a.length := by simpa using h10
      have hfin : decide (a = b) = true := by rw [List.take_of_length_le (by omega), List.take_of_length_le (by omega)] at htk; simpa using htk
      refine okl_nil ?_
      change OkC Try.prog _ _ _ _ _ _ _
      refine okc_weak (l' := [(0, _), (1, _), (5, _), (14, _)]) ⟨rfl, rfl, rfl, rfl, trivial⟩ ?_
      refine okc_cond_f rfl ?_
      refine okc_exit ?_
      change OkC Try.prog _ _ _ _ _ _ _
      refine okc_weak (l' := [(0, _), (1, _), (5, _), (14, _)]) ⟨rfl, rfl, rfl, rfl, trivial⟩ ?_
      refine okc_seq ?_
      refine okc_region ?_
      refine s_assign rfl rfl rfl rfl rfl rfl ?_
      refine okl_nil ?_
      change OkC Try.prog _ _ _ _ _ _ _
      refine okc_weak (l' := [(0, _), (1, _), (4, _), (5, _), (14, _)]) ⟨rfl, rfl, rfl, rfl, rfl, trivial⟩ ?_
      refine okc_ret fun a w hs => ?_
      exact ret_v hs (run_results1 hs rfl (rv_tmp rfl)) (by clear hs; rw [hfin])

def greatB (s : Sp) : Bool := decide (30 < s.book.length) || decide (30 < s.reads.length)

theorem great_fn (s : Sp) : Cn Try.prog 16 [spV s] [] (fun _ : Unit => .bool (greatB s)) (fun _ => []) (fun _ => True) := by
  refine fn_intro (N := 13) Try.func16 rfl rfl rfl fun w0 => ?_
  refine okc_seq ?_
  refine okc_region ?_
  refine s_boxA rfl rfl rfl rfl rfl rfl (fun b13 => ?_)
  refine s_assign rfl rfl rfl rfl rfl rfl ?_
  refine okl_nil ?_
  change OkC Try.prog _ _ _ _ _ _ _
  refine okc_weak (l' := [(0, _), (1, _), (2, _)]) ⟨rfl, rfl, rfl, trivial⟩ ?_
  refine okc_seq ?_
  refine okc_region ?_
  refine s_field rfl rfl rfl rfl rfl rfl rfl rfl ?_
  refine s_load1 0 rfl rfl rfl rfl rfl rfl rfl rfl rfl ?_
  refine s_len rfl rfl rfl rfl rfl rfl rfl ?_
  refine s_cmpS rfl rfl rfl rfl rfl rfl rfl rfl (fun h14 => ?_) (fun h14 => ?_)
  · refine s_move rfl rfl rfl rfl rfl rfl ?_
    refine okl_skip rfl rfl rfl rfl ?_
    refine okl_skip rfl rfl rfl rfl ?_
    refine okl_skip rfl rfl rfl rfl ?_
    refine okl_skip rfl rfl rfl rfl ?_
    refine s_pick_t rfl rfl rfl rfl rfl rfl rfl ?_
    refine s_assign rfl rfl rfl rfl rfl rfl ?_
    refine okl_nil ?_
    change OkC Try.prog _ _ _ _ _ _ _
    refine okc_weak (l' := [(0, _), (1, _), (2, _)]) ⟨rfl, rfl, rfl, trivial⟩ ?_
    refine okc_ret fun a w hs => ?_
    exact ret_v hs (run_results1 hs rfl (rv_tmp rfl)) (by clear hs; simp_all [greatB]; try omega)
  · refine s_move rfl rfl rfl rfl rfl rfl ?_
    refine s_field rfl rfl rfl rfl rfl rfl rfl rfl ?_
    refine s_load1 0 rfl rfl rfl rfl rfl rfl rfl rfl rfl ?_
    refine s_len rfl rfl rfl rfl rfl rfl rfl ?_
    refine s_cmpS rfl rfl rfl rfl rfl rfl rfl rfl (fun h15 => ?_) (fun h15 => ?_)
    · refine s_pick_f rfl rfl rfl rfl rfl rfl rfl ?_
      refine s_assign rfl rfl rfl rfl rfl rfl ?_
      refine okl_nil ?_
      change OkC Try.prog _ _ _ _ _ _ _
      refine okc_weak (l' := [(0, _), (1, _), (2, _)]) ⟨rfl, rfl, rfl, trivial⟩ ?_
      refine okc_ret fun a w hs => ?_
      exact ret_v hs (run_results1 hs rfl (rv_tmp rfl)) (by clear hs; simp_all [greatB]; try omega)
    · refine s_pick_f rfl rfl rfl rfl rfl rfl rfl ?_
      refine s_assign rfl rfl rfl rfl rfl rfl ?_
      refine okl_nil ?_
      change OkC Try.prog _ _ _ _ _ _ _
      refine okc_weak (l' := [(0, _), (1, _), (2, _)]) ⟨rfl, rfl, rfl, trivial⟩ ?_
      refine okc_ret fun a w hs => ?_
      exact ret_v hs (run_results1 hs rfl (rv_tmp rfl)) (by clear hs; simp_all [greatB]; try omega)

end Go.Proofs.Ytdpnadknaacinaa
end

section
namespace Go.Sx
open Go.RowKit Region
set_option linter.unusedVariables false

/-- An operation under a frame: the blocks that it sees ahead and behind. -/
def OpY (P : Program) (N : Cx) (w0 : World) (l : Env) (pre : Blks) (post : Value → Blks → Blks) (A : Args) (o : Oper) (φ : Value → Blks → Prop) : Prop :=
  ∀ (F : Blks) (a : Act) (w : World), St N w0 l (F ++ pre) A a w → ∀ (K : Act → World → Prop) (Q : Exit → Act → World → Prop),
    (∀ v B w', φ v B → St N w0 l (F ++ (B ++ post v B)) A a w' → K (a.put o.dst v) w') → o.wpIn (Fr N.r) 0 P a w K Q
section
variable (P : Program) (N : Cx) (w0 : World) (ops : Array Oper) (lb : Env) (Osh : (Nat → Bool) → (Nat → Value × Blks) → Blks) (A : Args)
def GoodY (l : Env) (c pre : Blks) (post : Value → Blks → Blks) (o : Oper) (φ : Value → Blks → Prop) : Prop :=
  (wantsB ops l o = some true ∧ OpY P N w0 l (c ++ pre) post A o φ) ∨ (wantsB ops l o = some false ∧ φ undef c ∧ pre = post undef c)
def OblY (es : List EX) (i : Nat) (e : EX) : Prop :=
  ∃ o, ops[i]? = some o ∧ o.dst = e.d ∧ (∀ d, e.d = some d → d < N.n) ∧ (∀ k ∈ e.ds, k < es.length ∧ ∃ g ∈ o.after, g.on = k ∧ binds .any g = true) ∧ e.ds.Nodup ∧
    ∀ (ρ : Nat → Value × Blks) (D : Nat → Bool), (∀ k ∈ e.ds, okX es ρ k) → ClX ops D → D i = false → (∀ g ∈ o.after, binds .any g = true → D g.on = true) →
      GoodY P N w0 ops A (envX es ρ e.ds ++ lb) e.c (blkX ρ e.ds ++ Osh D ρ) (fun v B => blkX ρ e.ds ++ Osh (upd D i) (fun k => if k = i then (v, B) else ρ k)) o (e.φ (e.ds.map ρ))
end

section
variable {P : Program} {N : Cx} {w0 : World} {ops : Array Oper} {lb l : Env} {O : Blks} {Osh : (Nat → Bool) → (Nat → Value × Blks) → Blks} {A : Args} {es : List EX}

structure MidY (P : Program) (N : Cx) (w0 : World) (lb : Env) (Osh : (Nat → Bool) → (Nat → Value × Blks) → Blks) (A : Args) (es : List EX) (ρ : Nat → Value × Blks) (D : Nat → Bool) (a : Act) (w : World) : Prop where
  st : St N w0 lb (Osh D ρ ++ remX es D ρ) A a w
  env : ∀ k e d, D k = true → es[k]? = some e → e.d = some d → a.tmps[d]? = some (ρ k).1
  ok : ∀ k, D k = true → okX es ρ k
  dep : ∀ k e, D k = true → es[k]? = some e → ∀ j ∈ e.ds, D j = true

theorem midy_runs {n : Nat} {Q : Exit → Act → World → Prop} (hlen : es.length = n) (hle : n ≤ ops.size) (htail : TailX ops n) (hob : ∀ i e, es[i]? = some e → OblY P N w0 ops lb Osh A es i e) (hn : (slotsX es).Nodup)
    (hlb : ∀ t v, get lb t = some v → t ∉ slotsX es)
    (hQ : ∀ ρ a w, MidY P N w0 lb Osh A es ρ (fun i => Nat.blt i n) a w → wpOpsIn (Fr N.r) 0 P ops Q (List.range' n (ops.size - n)) a w) :
    ∀ (is : List Nat) (ρ : Nat → Value × Blks) (D : Nat → Bool) (a : Act) (w : World), (∀ i, D i = true → i < n) → ClX ops D → Val .any ops D is → MidY P N w0 lb Osh A es ρ D a w → wpOpsIn (Fr N.r) 0 P ops Q is a w
  | [], ρ, D, a, w, hDn, hcl, hv, hm => by
    have hall : ∀ i, i < n → D i = true := fun i hi => hv i (Nat.lt_of_lt_of_le hi hle)
    have := hQ ρ a w (eq_blt hDn hall ▸ hm)
    have h0 : ops.size - n = 0 := by
      rcases Nat.lt_or_ge n ops.size with h1 | h1
      · exact absurd (hDn n (hv n h1)) (Nat.lt_irrefl n)
      · omega
    rw [h0] at this
    exact this
  | i :: is, ρ, D, a, w, hDn, hcl, ⟨⟨hr1, hr2, hr3⟩, hv⟩, hm => by
    by_cases hin : i < n
    case neg =>
      have hall : ∀ k, k < i → D k = true := by
        intro k hk
        obtain ⟨o, ho⟩ : ∃ o, ops[i]? = some o := ⟨ops[i], by simp [hr1]⟩
        exact htail i o (by omega) ho D hcl (fun g hg hb => hr3 o ho g hg hb) k hk
      have hDe := eq_blt hDn (fun k hk => hall k (by omega))
      have hfor := forcedX htail (i :: is) D n (Nat.le_refl _) hle hcl (fun k => ⟨fun h => hDn k h, fun h => hall k (by omega)⟩) ⟨⟨hr1, hr2, hr3⟩, hv⟩
      rw [hfor]
      exact hQ ρ a w (hDe ▸ hm)
    obtain ⟨e, he⟩ : ∃ e, es[i]? = some e := ⟨es[i]'(by omega), by simp [hlen, hin]⟩
    obtain ⟨o, ho, hd, hN, hds, hnd, hgood⟩ := hob i e he
    have hD : ∀ k ∈ e.ds, D k = true := by
      intro k hk
      obtain ⟨_, g, hg, hgk, hgb⟩ := hds k hk
      rw [← hgk]
      exact hr3 o ho g hg (binds_any hgb)
    have hids : i ∉ e.ds := fun h => by have := hD i h; rw [hr2] at this; cases this
    have hnd' : (i :: e.ds).Nodup := List.nodup_cons.2 ⟨hids, hnd⟩
    have hpm := perm_split (n := n) hin (fun k hk => hlen ▸ (hds k hk).1) hnd'
    generalize hrest : (List.range n).filter (fun k => !(decide (k ∈ i :: e.ds))) = rest at hpm
    have hrestI : ∀ k ∈ rest, k ≠ i := fun k hk e2 => by
      rw [← hrest] at hk
      simp only [List.mem_filter, Bool.not_eq_true', decide_eq_false_iff_not] at hk
      exact hk.2 (by simp [e2])
    -- the blocks, seen from this operation
    have hrem : (Osh D ρ ++ remX es D ρ).Perm (rest.flatMap (fun k => if D k then (ρ k).2 else consX es k) ++ (e.c ++ (blkX ρ e.ds ++ Osh D ρ))) := by
      have h1 : (remX es D ρ).Perm (rest.flatMap (fun k => if D k then (ρ k).2 else consX es k) ++ (e.c ++ blkX ρ e.ds)) := by
        unfold remX
        rw [hlen]
        refine (hpm.flatMap_right _).trans ?_
        rw [List.flatMap_append, List.flatMap_cons]
        have e1 : (if D i then (ρ i).2 else consX es i) = e.c := by rw [hr2]; simp [consX, he]
        have e2 : e.ds.flatMap (fun k => if D k then (ρ k).2 else consX es k) = blkX ρ e.ds := flatMap_congr' fun k hk => by rw [hD k hk]; rfl
        rw [e1, e2]
      exact (List.Perm.append_left (Osh D ρ) h1).trans (perm_four _ _ _ _)
    have hst : St N w0 (envX es ρ e.ds ++ lb) (rest.flatMap (fun k => if D k then (ρ k).2 else consX es k) ++ (e.c ++ (blkX ρ e.ds ++ Osh D ρ))) A a w := by
      have h1 := hm.st.reo hrem
      refine ⟨h1.size, h1.noDef, h1.bel, ?_, h1.own, h1.nodup, h1.arg, h1.more⟩
      intro t v hg
      rcases get_append _ _ t v hg with h2 | h2
      · obtain ⟨k, hk, e', he', hd', rfl⟩ := mem_envX _ h2
        exact hm.env k e' t (hD k hk) he' hd'
      · exact h1.env t v h2
    have hDn' : ∀ k, upd D i k = true → k < n := by
      intro k hk
      simp only [upd] at hk
      split at hk
      · rename_i e; rw [e]; exact hin
      · exact hDn k hk
    have hbase : ∀ t v d, get lb t = some v → e.d = some d → t ≠ d := fun t v d hg hd' e2 => hlb t v hg (e2 ▸ List.mem_filterMap.2 ⟨e, List.mem_of_getElem? he, hd'⟩)
    have hputne : ∀ (v : Value) (t : Nat), (∀ d, e.d = some d → t ≠ d) → (a.put e.d v).tmps[t]? = a.tmps[t]? := by
      intro v t ht
      cases h : e.d with
      | none => rfl
      | some d =>
        simp only [Act.put]
        exact Array.getElem?_setIfInBounds_ne (fun h' => ht d h h'.symm)
    have hsz := hm.st.size
    -- the state behind it
    have key : ∀ (v : Value) (B : Blks) (w' : World), e.φ (e.ds.map ρ) v B → St N w0 (envX es ρ e.ds ++ lb) (rest.flatMap (fun k => if D k then (ρ k).2 else consX es k) ++ (B ++ (blkX ρ e.ds ++ Osh (upd D i) (fun k => if k = i then (v, B) else ρ k)))) A a w' →
        MidY P N w0 lb Osh A es (fun k => if k = i then (v, B) else ρ k) (upd D i) (a.put e.d v) w' := by
      intro v B w' hφ hst'
      have hmap : ∀ (ks : List Nat), i ∉ ks → ks.map (fun k => if k = i then (v, B) else ρ k) = ks.map ρ := fun ks hks => List.map_congr_left fun k hk => if_neg (fun (e2 : k = i) => hks (e2 ▸ hk))
      refine ⟨?_, ?_, ?_, ?_⟩
      · have hrem' : (rest.flatMap (fun k => if D k then (ρ k).2 else consX es k) ++ (B ++ (blkX ρ e.ds ++ Osh (upd D i) (fun k => if k = i then (v, B) else ρ k)))).Perm (Osh (upd D i) (fun k => if k = i then (v, B) else ρ k) ++ remX es (upd D i) (fun k => if k = i then (v, B) else ρ k)) := by
          have h1 : (remX es (upd D i) (fun k => if k = i then (v, B) else ρ k)).Perm (rest.flatMap (fun k => if D k then (ρ k).2 else consX es k) ++ (B ++ blkX ρ e.ds)) := by
            unfold remX
            rw [hlen]
            refine (hpm.flatMap_right _).trans ?_
            rw [List.flatMap_append, List.flatMap_cons]
            have e0 : rest.flatMap (fun k => if upd D i k then (if k = i then (v, B) else ρ k).2 else consX es k) = rest.flatMap (fun k => if D k then (ρ k).2 else consX es k) :=
              flatMap_congr' fun k hk => by simp [upd, hrestI k hk]
            have e1 : (if upd D i i then (if i = i then (v, B) else ρ i).2 else consX es i) = B := by simp [upd]
            have e2 : e.ds.flatMap (fun k => if upd D i k then (if k = i then (v, B) else ρ k).2 else consX es k) = blkX ρ e.ds := flatMap_congr' fun k hk => by
              have hne : k ≠ i := fun e2 => hids (e2 ▸ hk)
              simp [upd, hne, hD k hk]
            rw [e0, e1, e2]
          exact ((List.Perm.append_left (Osh (upd D i) (fun k => if k = i then (v, B) else ρ k)) h1).trans (perm_four _ _ _ _)).symm
        have h1 := hst'.reo hrem'
        refine ⟨?_, ?_, h1.bel, ?_, h1.own, h1.nodup, h1.arg, h1.more⟩
        · cases h : e.d <;> simp [Act.put, hsz]
        · have := h1.noDef
          cases h : e.d <;> simpa [Act.put] using this
        · intro t u hg
          rw [hputne v t (fun d hd' => hbase t u d hg hd')]
          exact hm.st.env t u hg
      · intro k e' d' hk he' hd'
        by_cases ek : k = i
        · subst ek
          obtain rfl : e = e' := Option.some.inj (he.symm.trans he')
          simp only [if_true]
          rw [hd']
          have := hN d' hd'
          simp [Act.put, hsz, this]
        · have hDk : D k = true := by simpa [upd, ek] using hk
          rw [if_neg ek, hputne v d' (fun d hd2 (e2 : d' = d) => ek (slotsX_inj hn he' he hd' (e2 ▸ hd2)))]
          exact hm.env k e' d' hDk he' hd'
      · intro k hk e' he'
        by_cases ek : k = i
        · subst ek
          obtain rfl : e = e' := Option.some.inj (he.symm.trans he')
          simp only [if_true]
          rw [hmap _ hids]
          exact hφ
        · have hDk : D k = true := by simpa [upd, ek] using hk
          have hni : i ∉ e'.ds := fun h => by have := hm.dep k e' hDk he' i h; rw [hr2] at this; cases this
          simp only [if_neg ek]
          rw [hmap _ hni]
          exact hm.ok k hDk e' he'
      · intro k e' hk he' j hj
        by_cases ek : k = i
        · subst ek
          obtain rfl : e = e' := Option.some.inj (he.symm.trans he')
          have := hD j hj
          simp [upd, this]
        · have hDk : D k = true := by simpa [upd, ek] using hk
          have := hm.dep k e' hDk he' j hj
          simp [upd, this]
    have next : ∀ (v : Value) (B : Blks) (w' : World), e.φ (e.ds.map ρ) v B → St N w0 (envX es ρ e.ds ++ lb) (rest.flatMap (fun k => if D k then (ρ k).2 else consX es k) ++ (B ++ (blkX ρ e.ds ++ Osh (upd D i) (fun k => if k = i then (v, B) else ρ k)))) A a w' →
        wpOpsIn (Fr N.r) 0 P ops Q is (a.put e.d v) w' := fun v B w' hφ hst' =>
      midy_runs hlen hle htail hob hn hlb hQ is _ (upd D i) _ w' hDn' (clX_upd hcl (fun o ho g hg hb => hr3 o ho g hg hb)) hv (key v B w' hφ hst')
    simp only [wpOpsIn, ho]
    rcases hgood ρ D (fun k hk => hm.ok k (hD k hk)) hcl hr2 (fun g hg hb => hr3 o ho g hg hb) with ⟨hwant, hop⟩ | ⟨hwant, hφ, hsame⟩
    · rw [wanted_of hst hwant]
      simp only [if_true]
      refine hop _ a w hst _ _ fun v B w' hφ hst' => ?_
      rw [hd]
      exact next v B w' hφ hst'
    · rw [wanted_of hst hwant]
      simp only [Bool.false_eq_true, if_false]
      rw [hd]
      exact ⟨fun _ _ => trivial, next undef e.c w hφ (by have h9 := hst; rw [hsame] at h9; exact h9)⟩

def OblsY (P : Program) (N : Cx) (w0 : World) (ops : Array Oper) (lb : Env) (Osh : (Nat → Bool) → (Nat → Value × Blks) → Blks) (A : Args) (es : List EX) : Nat → List EX → Prop
  | _, [] => True
  | i, e :: r => OblY P N w0 ops lb Osh A es i e ∧ OblsY P N w0 ops lb Osh A es (i + 1) r
theorem oblsY_at : ∀ {r : List EX} {k : Nat}, OblsY P N w0 ops lb Osh A es k r → ∀ i e, r[i]? = some e → OblY P N w0 ops lb Osh A es (k + i) e
  | [], k, _, i, e, h => by simp at h
  | x :: r, k, ⟨h1, h2⟩, 0, e, h => by simp at h; subst h; exact h1
  | x :: r, k, ⟨h1, h2⟩, i + 1, e, h => by
    have := oblsY_at h2 i e (by simpa using h)
    rwa [show k + 1 + i = k + (i + 1) by omega] at this

/-- The region: n operations whose order is open, then the others. -/
theorem okc_drawy {id : Nat} {Q : Exit → Act → World → Prop} (ds keep : List Nat) (es : List EX) (n f : Nat) (Osh : (Nat → Bool) → (Nat → Value × Blks) → Blks) (hm : P.follows .mixedOrders = true) (hlen : es.length = n) (hb : backA ops = true) (hle : Nat.ble n ops.size = true) (ht : tailX ops n f = true)
    (hn : nodupB (slotsX es) = true) (hin : inB (slotsX es) ds = true) (hO : O.Perm (Osh (fun _ => false) (fun _ => (undef, [])) ++ (List.range n).flatMap (consX es)))
    (hob : OblsY P N w0 ops (dropK ds l) Osh A es 0 es)
    (rest : ∀ ρ : Nat → Value × Blks, (∀ k, k < n → okX es ρ k) → OkL P N w0 ops Q (List.range' n (ops.size - n)) (envX es ρ keep ++ dropK ds l) (Osh (fun i => Nat.blt i n) ρ ++ blkX ρ (List.range n)) A) (hk : allBelow keep n = true) :
    OkC P N w0 (.region id ops true) Q l O A := by
  intro a w hs
  refine wpIn_region_draw fun t => ?_
  have hval := schedule_any (mixed := P.follows .mixedOrders) (ops := ops) hm hb t
  have hdrew : ({ w with drawn := w.drawn + 1 } : World) = w.drew := rfl
  rw [hdrew]
  have hs' : St N w0 l O A a w.drew := hs.ext ((Below.refl _ w).drew)
  have hlb : St N w0 (dropK ds l) O A a w.drew := ⟨hs'.size, hs'.noDef, hs'.bel, fun t v hg => hs'.env t v (get_dropK ds l t v hg).2, hs'.own, hs'.nodup, hs'.arg, hs'.more⟩
  refine midy_runs (es := es) (n := n) (Osh := Osh) (lb := dropK ds l) hlen (Nat.le_of_ble_eq_true hle) (tailX_of ht) (fun i e he => by have := oblsY_at hob i e he; rwa [Nat.zero_add] at this) (nodup_ofB hn) ?_ ?_ _ (fun _ => (undef, [])) (fun _ => false) a w.drew (fun _ h => by cases h) (fun _ _ h => by cases h) hval ⟨?_, ?_, ?_, ?_⟩
  · intro t v hg hm'
    have h1 := (get_dropK ds l t v hg).1
    unfold inB at hin
    rw [List.all_eq_true] at hin
    have := hin t hm'
    rw [List.any_eq_true] at this
    obtain ⟨d, hd, hd'⟩ := this
    have := Nat.eq_of_beq_eq_true hd'
    subst this
    exact h1 hd
  · intro ρ a' w' hmid
    refine rest ρ (fun k hk => hmid.ok k (blt_of hk)) a' w' ?_
    have hrem : remX es (fun i => Nat.blt i n) ρ = blkX ρ (List.range n) := by
      unfold remX blkX
      rw [hlen]
      exact flatMap_congr' fun k hk => by rw [if_pos (blt_of (List.mem_range.1 hk))]
    have h1 := hmid.st
    rw [hrem] at h1
    refine ⟨h1.size, h1.noDef, h1.bel, ?_, h1.own, h1.nodup, h1.arg, h1.more⟩
    intro t v hg
    rcases get_append _ _ t v hg with h2 | h2
    · obtain ⟨k, hk', e', he', hd', rfl⟩ := mem_envX _ h2
      refine hmid.env k e' t (blt_of ?_) he' hd'
      unfold allBelow at hk
      rw [List.all_eq_true] at hk
      exact of_blt (hk k hk')
    · exact h1.env t v h2
  · have hrem : remX es (fun _ => false) (fun _ => (undef, [])) = (List.range n).flatMap (consX es) := by
      unfold remX
      rw [hlen]
      exact flatMap_congr' fun k _ => by simp
    rw [hrem]
    exact hlb.reo hO
  · intro k e d h; cases h
  · intro k h; cases h
  · intro k e h; cases h


variable {o : Oper} {c keep pre : Blks} {post : Value → Blks → Blks}
theorem OpX.y {φ : Value → Blks → Prop} (h : OpX P N w0 l c keep A o φ) : OpY P N w0 l (c ++ keep) (fun _ _ => keep) A o φ := h
theorem OpY.mono {φ φ' : Value → Blks → Prop} (h : OpY P N w0 l pre post A o φ) (hi : ∀ v B, φ v B → φ' v B) : OpY P N w0 l pre post A o φ' :=
  fun F a w hst K Q hK => h F a w hst K Q fun v B w' hφ hs => hK v B w' (hi v B hφ) hs
/-- A store. -/
theorem opy_store {j b off Ty n : Nat} {T : TypeId} {cs vs : List Value} {x y : Operand} {v : Value} (hd : o.dst = none) (hop : o.op = .store Ty x y)
    (hx : ev l x = some (.pointer (some ⟨b, off, none⟩))) (hy : ev l y = some v) (hv : v.cells = vs.toArray) (hj : pre[j]? = some (b, cs, T)) (hn : sizeB P Ty = some n) (hl : vs.length = n) (hfit : off + n ≤ cs.length) (h1 : flat vs = true)
    (hpost : pre.set j (b, setL cs off vs, T) = post undef []) : OpY P N w0 l pre post A o (fun v B => v = undef ∧ B = []) := by
  intro F a w hs K Q hK
  have hj' : (F ++ pre)[F.length + j]? = some (b, cs, T) := by rw [List.getElem?_append_right (by omega)]; simpa using hj
  have hrun := run_storeVar (P := P) (hs.own _ b cs T hj').1 hv hn hl hfit h1
  have : (execOp a.eval o).run P w = .ok .skip (w.setRow b (setL cs off vs).toArray) := by
    simp [execOp, hop, hs.eval hx, hs.eval hy, hrun]
  refine opIn_of (fun c h => by rw [hop] at h; cases h) ?_
  rw [this]
  have h2 := hs.setRow _ b cs (setL cs off vs) T hj'
  rw [List.set_append_right _ _ (by omega)] at h2
  simp only [Nat.add_sub_cancel_left] at h2
  rw [hpost] at h2
  exact hK undef [] _ ⟨rfl, rfl⟩ h2
/-- An operation that sees the blocks as they are. -/
theorem opy_same {φ : Value → Blks → Prop} (h : OpX P N w0 l c keep A o φ) (hp : ∀ v B, φ v B → keep = post v B) : OpY P N w0 l (c ++ keep) post A o φ := fun F a w hst K Q hK => h F a w hst K Q fun v B w' hφ hs => hK v B w' hφ (hp v B hφ ▸ hs)
theorem goody_same {φ : Value → Blks → Prop} (hpre : pre = keep) (h : GoodX P N w0 ops A l c keep o φ) (hp : ∀ v B, φ v B → keep = post v B) : GoodY P N w0 ops A l c pre post o φ := by
  subst hpre
  rcases h with ⟨h1, h2⟩ | ⟨h1, h2⟩
  · exact .inl ⟨h1, opy_same h2 hp⟩
  · exact .inr ⟨h1, h2, hp _ _ h2⟩
theorem obl_y {i : Nat} {e : EX} (ho : ops[i]? = some o) (hd : o.dst = e.d) (hN : slotB e.d N.n = true) (hds : depX o es.length e.ds = true)
    (h : ∀ (ρ : Nat → Value × Blks) (D : Nat → Bool), (∀ k ∈ e.ds, okX es ρ k) → ClX ops D → D i = false → (∀ g ∈ o.after, binds .any g = true → D g.on = true) →
      GoodY P N w0 ops A (envX es ρ e.ds ++ lb) e.c (blkX ρ e.ds ++ Osh D ρ) (fun v B => blkX ρ e.ds ++ Osh (upd D i) (fun k => if k = i then (v, B) else ρ k)) o (e.φ (e.ds.map ρ))) : OblY P N w0 ops lb Osh A es i e := by
  unfold depX at hds
  rw [Bool.and_eq_true, List.all_eq_true] at hds
  refine ⟨o, ho, hd, fun d hd' => by rw [hd'] at hN; exact of_blt hN, fun k hk => ?_, nodup_ofB hds.2, h⟩
  have h1 := hds.1 k hk
  rw [Bool.and_eq_true, List.any_eq_true] at h1
  obtain ⟨h2, g, hg, hgb⟩ := h1
  rw [Bool.and_eq_true] at hgb
  exact ⟨of_blt h2, g, by simpa using hg, Nat.eq_of_beq_eq_true hgb.1, hgb.2⟩
/-- What is done before operation i: by its own edges. -/
def edgeB (ops : Array Oper) (i k : Nat) : Bool := match ops[i]? with | some o => o.after.toList.any fun g => Nat.beq g.on k && binds .any g | none => false
theorem done_of {i k : Nat} {D : Nat → Bool} (ho : ops[i]? = some o) (hr : ∀ g ∈ o.after, binds .any g = true → D g.on = true) (h : edgeB ops i k = true) : D k = true := by
  unfold edgeB at h
  rw [ho] at h
  rw [List.any_eq_true] at h
  obtain ⟨g, hg, hgb⟩ := h
  rw [Bool.and_eq_true] at hgb
  rw [← Nat.eq_of_beq_eq_true hgb.1]
  exact hr g (by simpa using hg) hgb.2
/-- What comes behind i is not done before it. -/
theorem open_of {i k : Nat} {D : Nat → Bool} (hc : ClX ops D) (hi : D i = false) (h : edgeB ops k i = true) : D k = false := by
  cases hk : D k with
  | false => rfl
  | true =>
    unfold edgeB at h
    cases ho : ops[k]? with
    | none => rw [ho] at h; cases h
    | some o =>
      rw [ho] at h
      rw [List.any_eq_true] at h
      obtain ⟨g, hg, hgb⟩ := h
      rw [Bool.and_eq_true] at hgb
      have := hc k o hk ho g (by simpa using hg) hgb.2
      rw [Nat.eq_of_beq_eq_true hgb.1, hi] at this
      cases this
end
end Go.Sx
end

section
namespace Go.Sx
open Go.RowKit Region
set_option linter.unusedVariables false

def eatenZ (E : Nat → Nat → Bool) (n : Nat) (D : Nat → Bool) (k : Nat) : Bool := (List.range n).any fun j => D j && E j k
def curZ (E : Nat → Nat → Bool) (n : Nat) (es : List EX) (D : Nat → Bool) (ρ : Nat → Value × Blks) (k : Nat) : Blks := if D k then (if eatenZ E n D k then [] else (ρ k).2) else consX es k
def remZ (E : Nat → Nat → Bool) (es : List EX) (D : Nat → Bool) (ρ : Nat → Value × Blks) : Blks := (List.range es.length).flatMap (curZ E es.length es D ρ)
def eatOkZ (E : Nat → Nat → Bool) (es : List EX) : Bool := es.zipIdx.all fun (e, i) => ((List.range es.length).all fun k => !E i k || e.ds.any (Nat.beq k)) && (e.ds.all fun k => (List.range es.length).all fun j => Nat.beq j i || !E j k)
theorem blkX_filter (ρ : Nat → Value × Blks) (p : Nat → Bool) : ∀ ds : List Nat, blkX ρ (ds.filter p) = ds.flatMap fun k => if p k = true then (ρ k).2 else []
  | [] => rfl
  | k :: ds => by
    have ih := blkX_filter ρ p ds
    unfold blkX at ih ⊢
    rw [List.filter_cons, List.flatMap_cons, ← ih]
    split <;> simp
theorem filter_perm (ρ : Nat → Value × Blks) (p : Nat → Bool) : ∀ ds : List Nat, (blkX ρ ds).Perm (blkX ρ (ds.filter fun k => p k) ++ blkX ρ (ds.filter fun k => !p k)) := fun ds => by
  unfold blkX
  rw [← List.flatMap_append]
  exact (List.filter_append_perm p ds).symm.flatMap_right _
theorem eaten_upd (E : Nat → Nat → Bool) {n i : Nat} {D : Nat → Bool} (hi : i < n) (k : Nat) : eatenZ E n (upd D i) k = (E i k || eatenZ E n D k) := by
  rw [Bool.eq_iff_iff]
  simp only [eatenZ, List.any_eq_true, List.mem_range, Bool.and_eq_true, Bool.or_eq_true, upd]
  constructor
  · rintro ⟨j, hj, h1, h2⟩
    by_cases e : j = i
    · subst e; exact .inl h2
    · rw [if_neg e] at h1; exact .inr ⟨j, hj, h1, h2⟩
  · rintro (h | ⟨j, hj, h1, h2⟩)
    · exact ⟨i, hi, by simp, h⟩
    · refine ⟨j, hj, ?_, h2⟩
      split
      · rfl
      · exact h1

section
variable (P : Program) (N : Cx) (w0 : World) (ops : Array Oper) (lb : Env) (Osh : (Nat → Bool) → (Nat → Value × Blks) → Blks) (A : Args) (E : Nat → Nat → Bool)
def OblZ (es : List EX) (i : Nat) (e : EX) : Prop :=
  ∃ o, ops[i]? = some o ∧ o.dst = e.d ∧ (∀ d, e.d = some d → d < N.n) ∧ (∀ k ∈ e.ds, k < es.length ∧ ∃ g ∈ o.after, g.on = k ∧ binds .any g = true) ∧ e.ds.Nodup ∧
    ∀ (ρ : Nat → Value × Blks) (D : Nat → Bool), (∀ k ∈ e.ds, okX es ρ k) → ClX ops D → D i = false → (∀ g ∈ o.after, binds .any g = true → D g.on = true) →
      GoodY P N w0 ops A (envX es ρ e.ds ++ lb) (e.c ++ blkX ρ (e.ds.filter fun k => E i k)) (blkX ρ (e.ds.filter fun k => !E i k) ++ Osh D ρ) (fun v B => blkX ρ (e.ds.filter fun k => !E i k) ++ Osh (upd D i) (fun k => if k = i then (v, B) else ρ k)) o (e.φ (e.ds.map ρ))
end

section
variable {P : Program} {N : Cx} {w0 : World} {ops : Array Oper} {lb l : Env} {O : Blks} {Osh : (Nat → Bool) → (Nat → Value × Blks) → Blks} {A : Args} {es : List EX} {E : Nat → Nat → Bool}
theorem eat1 (h : eatOkZ E es = true) : ∀ j e, es[j]? = some e → ∀ k, E j k = true → k < es.length → k ∈ e.ds := by
  intro j e he k hk hkl
  unfold eatOkZ at h
  rw [List.all_eq_true] at h
  have := h (e, j) (by rw [List.mem_zipIdx_iff_getElem?]; exact he)
  simp only [Bool.and_eq_true, List.all_eq_true] at this
  have h1 := this.1 k (List.mem_range.2 hkl)
  rw [hk] at h1
  simp only [Bool.not_true, Bool.false_or, List.any_eq_true] at h1
  obtain ⟨x, hx, hxk⟩ := h1
  rw [Nat.eq_of_beq_eq_true hxk]; exact hx
theorem eat2 (h : eatOkZ E es = true) : ∀ i e, es[i]? = some e → ∀ k ∈ e.ds, ∀ j, j < es.length → j ≠ i → E j k = false := by
  intro i e he k hk j hj hji
  unfold eatOkZ at h
  rw [List.all_eq_true] at h
  have := h (e, i) (by rw [List.mem_zipIdx_iff_getElem?]; exact he)
  simp only [Bool.and_eq_true, List.all_eq_true] at this
  have h1 := this.2 k hk j (List.mem_range.2 hj)
  rw [Bool.or_eq_true] at h1
  rcases h1 with h1 | h1
  · exact absurd (Nat.eq_of_beq_eq_true h1) hji
  · simpa using h1

structure MidZ (P : Program) (N : Cx) (w0 : World) (lb : Env) (Osh : (Nat → Bool) → (Nat → Value × Blks) → Blks) (A : Args) (E : Nat → Nat → Bool) (es : List EX) (ρ : Nat → Value × Blks) (D : Nat → Bool) (a : Act) (w : World) : Prop where
  st : St N w0 lb (Osh D ρ ++ remZ E es D ρ) A a w
  env : ∀ k e d, D k = true → es[k]? = some e → e.d = some d → a.tmps[d]? = some (ρ k).1
  ok : ∀ k, D k = true → okX es ρ k
  dep : ∀ k e, D k = true → es[k]? = some e → ∀ j ∈ e.ds, D j = true

theorem midz_runs {n : Nat} {Q : Exit → Act → World → Prop} (hlen : es.length = n) (hle : n ≤ ops.size) (htail : TailX ops n) (hob : ∀ i e, es[i]? = some e → OblZ P N w0 ops lb Osh A E es i e) (hn : (slotsX es).Nodup)
    (hE1' : ∀ j e, es[j]? = some e → ∀ k, E j k = true → k < n → k ∈ e.ds) (hE2 : ∀ i e, es[i]? = some e → ∀ k ∈ e.ds, ∀ j, j < n → j ≠ i → E j k = false)
    (hlb : ∀ t v, get lb t = some v → t ∉ slotsX es)
    (hQ : ∀ ρ a w, MidZ P N w0 lb Osh A E es ρ (fun i => Nat.blt i n) a w → wpOpsIn (Fr N.r) 0 P ops Q (List.range' n (ops.size - n)) a w) :
    ∀ (is : List Nat) (ρ : Nat → Value × Blks) (D : Nat → Bool) (a : Act) (w : World), (∀ i, D i = true → i < n) → ClX ops D → Val .any ops D is → MidZ P N w0 lb Osh A E es ρ D a w → wpOpsIn (Fr N.r) 0 P ops Q is a w
  | [], ρ, D, a, w, hDn, hcl, hv, hm => by
    have hall : ∀ i, i < n → D i = true := fun i hi => hv i (Nat.lt_of_lt_of_le hi hle)
    have := hQ ρ a w (eq_blt hDn hall ▸ hm)
    have h0 : ops.size - n = 0 := by
      rcases Nat.lt_or_ge n ops.size with h1 | h1
      · exact absurd (hDn n (hv n h1)) (Nat.lt_irrefl n)
      · omega
    rw [h0] at this
    exact this
  | i :: is, ρ, D, a, w, hDn, hcl, ⟨⟨hr1, hr2, hr3⟩, hv⟩, hm => by
    by_cases hin : i < n
    case neg =>
      have hall : ∀ k, k < i → D k = true := by
        intro k hk
        obtain ⟨o, ho⟩ : ∃ o, ops[i]? = some o := ⟨ops[i], by simp [hr1]⟩
        exact htail i o (by omega) ho D hcl (fun g hg hb => hr3 o ho g hg hb) k hk
      have hDe := eq_blt hDn (fun k hk => hall k (by omega))
      have hfor := forcedX htail (i :: is) D n (Nat.le_refl _) hle hcl (fun k => ⟨fun h => hDn k h, fun h => hall k (by omega)⟩) ⟨⟨hr1, hr2, hr3⟩, hv⟩
      rw [hfor]
      exact hQ ρ a w (hDe ▸ hm)
    obtain ⟨e, he⟩ : ∃ e, es[i]? = some e := ⟨es[i]'(by omega), by simp [hlen, hin]⟩
    obtain ⟨o, ho, hd, hN, hds, hnd, hgood⟩ := hob i e he
    have hD : ∀ k ∈ e.ds, D k = true := by
      intro k hk
      obtain ⟨_, g, hg, hgk, hgb⟩ := hds k hk
      rw [← hgk]
      exact hr3 o ho g hg (binds_any hgb)
    have hids : i ∉ e.ds := fun h => by have := hD i h; rw [hr2] at this; cases this
    have hnd' : (i :: e.ds).Nodup := List.nodup_cons.2 ⟨hids, hnd⟩
    have hne : ∀ k ∈ e.ds, eatenZ E n D k = false := by
      intro k hk
      unfold eatenZ
      rw [List.any_eq_false]
      intro j hj
      cases hDj : D j with
      | false => simp
      | true =>
        have hji : j ≠ i := fun e2 => by rw [e2, hr2] at hDj; cases hDj
        simp [hE2 i e he k hk j (List.mem_range.1 hj) hji]
    have hnei : ∀ j, j < n → D j = true → E j i = false := by
      intro j hj hDj
      cases hji : E j i with
      | false => rfl
      | true =>
        obtain ⟨e', he'⟩ : ∃ e', es[j]? = some e' := ⟨es[j]'(by omega), by simp [hlen, hj]⟩
        have := hm.dep j e' hDj he' i (hE1' j e' he' i hji hin)
        rw [hr2] at this; cases this
    have hEii : E i i = false := by
      cases h : E i i with
      | false => rfl
      | true => exact absurd (hE1' i e he i h hin) hids
    have hpm := perm_split (n := n) hin (fun k hk => hlen ▸ (hds k hk).1) hnd'
    generalize hrest : (List.range n).filter (fun k => !(decide (k ∈ i :: e.ds))) = rest at hpm
    have hrestI : ∀ k ∈ rest, k ≠ i := fun k hk e2 => by
      rw [← hrest] at hk
      simp only [List.mem_filter, Bool.not_eq_true', decide_eq_false_iff_not] at hk
      exact hk.2 (by simp [e2])
    -- the blocks, seen from this operation
    have hrem : (Osh D ρ ++ remZ E es D ρ).Perm (rest.flatMap (curZ E es.length es D ρ) ++ ((e.c ++ blkX ρ (e.ds.filter fun k => E i k)) ++ (blkX ρ (e.ds.filter fun k => !E i k) ++ Osh D ρ))) := by
      have h1 : (remZ E es D ρ).Perm (rest.flatMap (curZ E es.length es D ρ) ++ ((e.c ++ blkX ρ (e.ds.filter fun k => E i k)) ++ blkX ρ (e.ds.filter fun k => !E i k))) := by
        unfold remZ
        rw [hlen]
        refine (hpm.flatMap_right _).trans ?_
        rw [List.flatMap_append, List.flatMap_cons]
        have e1 : curZ E n es D ρ i = e.c := by simp [curZ, hr2, consX, he]
        have e2 : e.ds.flatMap (curZ E n es D ρ) = blkX ρ e.ds := flatMap_congr' fun k hk => by simp [curZ, hD k hk, hne k hk]
        rw [e1, e2, List.append_assoc e.c]
        exact List.Perm.append_left _ (List.Perm.append_left _ (filter_perm ρ _ e.ds))
      exact (List.Perm.append_left (Osh D ρ) h1).trans (perm_four _ _ _ _)
    have hst : St N w0 (envX es ρ e.ds ++ lb) (rest.flatMap (curZ E es.length es D ρ) ++ ((e.c ++ blkX ρ (e.ds.filter fun k => E i k)) ++ (blkX ρ (e.ds.filter fun k => !E i k) ++ Osh D ρ))) A a w := by
      have h1 := hm.st.reo hrem
      refine ⟨h1.size, h1.noDef, h1.bel, ?_, h1.own, h1.nodup, h1.arg, h1.more⟩
      intro t v hg
      rcases get_append _ _ t v hg with h2 | h2
      · obtain ⟨k, hk, e', he', hd', rfl⟩ := mem_envX _ h2
        exact hm.env k e' t (hD k hk) he' hd'
      · exact h1.env t v h2
    have hDn' : ∀ k, upd D i k = true → k < n := by
      intro k hk
      simp only [upd] at hk
      split at hk
      · rename_i e; rw [e]; exact hin
      · exact hDn k hk
    have hbase : ∀ t v d, get lb t = some v → e.d = some d → t ≠ d := fun t v d hg hd' e2 => hlb t v hg (e2 ▸ List.mem_filterMap.2 ⟨e, List.mem_of_getElem? he, hd'⟩)
    have hputne : ∀ (v : Value) (t : Nat), (∀ d, e.d = some d → t ≠ d) → (a.put e.d v).tmps[t]? = a.tmps[t]? := by
      intro v t ht
      cases h : e.d with
      | none => rfl
      | some d =>
        simp only [Act.put]
        exact Array.getElem?_setIfInBounds_ne (fun h' => ht d h h'.symm)
    have hsz := hm.st.size
    -- the state behind it
    have key : ∀ (v : Value) (B : Blks) (w' : World), e.φ (e.ds.map ρ) v B → St N w0 (envX es ρ e.ds ++ lb) (rest.flatMap (curZ E es.length es D ρ) ++ (B ++ (blkX ρ (e.ds.filter fun k => !E i k) ++ Osh (upd D i) (fun k => if k = i then (v, B) else ρ k)))) A a w' →
        MidZ P N w0 lb Osh A E es (fun k => if k = i then (v, B) else ρ k) (upd D i) (a.put e.d v) w' := by
      intro v B w' hφ hst'
      have hmap : ∀ (ks : List Nat), i ∉ ks → ks.map (fun k => if k = i then (v, B) else ρ k) = ks.map ρ := fun ks hks => List.map_congr_left fun k hk => if_neg (fun (e2 : k = i) => hks (e2 ▸ hk))
      refine ⟨?_, ?_, ?_, ?_⟩
      · have hrem' : (rest.flatMap (curZ E es.length es D ρ) ++ (B ++ (blkX ρ (e.ds.filter fun k => !E i k) ++ Osh (upd D i) (fun k => if k = i then (v, B) else ρ k)))).Perm (Osh (upd D i) (fun k => if k = i then (v, B) else ρ k) ++ remZ E es (upd D i) (fun k => if k = i then (v, B) else ρ k)) := by
          have h1 : (remZ E es (upd D i) (fun k => if k = i then (v, B) else ρ k)).Perm (rest.flatMap (curZ E es.length es D ρ) ++ (B ++ blkX ρ (e.ds.filter fun k => !E i k))) := by
            unfold remZ
            rw [hlen]
            refine (hpm.flatMap_right _).trans ?_
            rw [List.flatMap_append, List.flatMap_cons]
            have hin' : ∀ k, eatenZ E n (upd D i) k = (E i k || eatenZ E n D k) := fun k => eaten_upd E hin k
            have e0 : rest.flatMap (curZ E n es (upd D i) (fun k => if k = i then (v, B) else ρ k)) = rest.flatMap (curZ E n es D ρ) :=
              flatMap_congr' fun k hk => by
                have h1 := hrestI k hk
                have h2 : E i k = false := by
                  cases h : E i k with
                  | false => rfl
                  | true =>
                    have hkn : k < n := by rw [← hrest] at hk; exact List.mem_range.1 (List.mem_filter.1 hk).1
                    have := hE1' i e he k h hkn
                    rw [← hrest] at hk
                    simp only [List.mem_filter, Bool.not_eq_true', decide_eq_false_iff_not] at hk
                    exact absurd (List.mem_cons_of_mem _ this) hk.2
                simp [curZ, upd, h1, hin', h2]
            have e1 : curZ E n es (upd D i) (fun k => if k = i then (v, B) else ρ k) i = B := by
              have h3 : eatenZ E n D i = false := by
                unfold eatenZ
                rw [List.any_eq_false]
                intro j hj
                cases hDj : D j with
                | false => simp
                | true => simp [hnei j (List.mem_range.1 hj) hDj]
              simp [curZ, upd, hin', h3, hEii]
            have e2 : e.ds.flatMap (curZ E n es (upd D i) (fun k => if k = i then (v, B) else ρ k)) = blkX ρ (e.ds.filter fun k => !E i k) := by
              have : e.ds.flatMap (curZ E n es (upd D i) (fun k => if k = i then (v, B) else ρ k)) = e.ds.flatMap (fun k => if (!E i k) = true then (ρ k).2 else []) := flatMap_congr' fun k hk => by
                have h4 : k ≠ i := fun e2 => hids (e2 ▸ hk)
                cases h : E i k <;> simp [curZ, upd, h4, hD k hk, hin', hne k hk, h]
              rw [this]; exact (blkX_filter ρ _ e.ds).symm
            rw [e0, e1, e2]
          exact ((List.Perm.append_left (Osh (upd D i) (fun k => if k = i then (v, B) else ρ k)) h1).trans (perm_four _ _ _ _)).symm
        have h1 := hst'.reo hrem'
        refine ⟨?_, ?_, h1.bel, ?_, h1.own, h1.nodup, h1.arg, h1.more⟩
        · cases h : e.d <;> simp [Act.put, hsz]
        · have := h1.noDef
          cases h : e.d <;> simpa [Act.put] using this
        · intro t u hg
          rw [hputne v t (fun d hd' => hbase t u d hg hd')]
          exact hm.st.env t u hg
      · intro k e' d' hk he' hd'
        by_cases ek : k = i
        · subst ek
          obtain rfl : e = e' := Option.some.inj (he.symm.trans he')
          simp only [if_true]
          rw [hd']
          have := hN d' hd'
          simp [Act.put, hsz, this]
        · have hDk : D k = true := by simpa [upd, ek] using hk
          rw [if_neg ek, hputne v d' (fun d hd2 (e2 : d' = d) => ek (slotsX_inj hn he' he hd' (e2 ▸ hd2)))]
          exact hm.env k e' d' hDk he' hd'
      · intro k hk e' he'
        by_cases ek : k = i
        · subst ek
          obtain rfl : e = e' := Option.some.inj (he.symm.trans he')
          simp only [if_true]
          rw [hmap _ hids]
          exact hφ
        · have hDk : D k = true := by simpa [upd, ek] using hk
          have hni : i ∉ e'.ds := fun h => by have := hm.dep k e' hDk he' i h; rw [hr2] at this; cases this
          simp only [if_neg ek]
          rw [hmap _ hni]
          exact hm.ok k hDk e' he'
      · intro k e' hk he' j hj
        by_cases ek : k = i
        · subst ek
          obtain rfl : e = e' := Option.some.inj (he.symm.trans he')
          have := hD j hj
          simp [upd, this]
        · have hDk : D k = true := by simpa [upd, ek] using hk
          have := hm.dep k e' hDk he' j hj
          simp [upd, this]
    have next : ∀ (v : Value) (B : Blks) (w' : World), e.φ (e.ds.map ρ) v B → St N w0 (envX es ρ e.ds ++ lb) (rest.flatMap (curZ E es.length es D ρ) ++ (B ++ (blkX ρ (e.ds.filter fun k => !E i k) ++ Osh (upd D i) (fun k => if k = i then (v, B) else ρ k)))) A a w' →
        wpOpsIn (Fr N.r) 0 P ops Q is (a.put e.d v) w' := fun v B w' hφ hst' =>
      midz_runs hlen hle htail hob hn hE1' hE2 hlb hQ is _ (upd D i) _ w' hDn' (clX_upd hcl (fun o ho g hg hb => hr3 o ho g hg hb)) hv (key v B w' hφ hst')
    simp only [wpOpsIn, ho]
    rcases hgood ρ D (fun k hk => hm.ok k (hD k hk)) hcl hr2 (fun g hg hb => hr3 o ho g hg hb) with ⟨hwant, hop⟩ | ⟨hwant, hφ, hsame⟩
    · rw [wanted_of hst hwant]
      simp only [if_true]
      refine hop _ a w hst _ _ fun v B w' hφ hst' => ?_
      rw [hd]
      exact next v B w' hφ hst'
    · rw [wanted_of hst hwant]
      simp only [Bool.false_eq_true, if_false]
      rw [hd]
      exact ⟨fun _ _ => trivial, next undef (e.c ++ blkX ρ (e.ds.filter fun k => E i k)) w hφ (by have h9 := hst; rw [hsame] at h9; exact h9)⟩

def OblsZ (P : Program) (N : Cx) (w0 : World) (ops : Array Oper) (lb : Env) (Osh : (Nat → Bool) → (Nat → Value × Blks) → Blks) (A : Args) (E : Nat → Nat → Bool) (es : List EX) : Nat → List EX → Prop
  | _, [] => True
  | i, e :: r => OblZ P N w0 ops lb Osh A E es i e ∧ OblsZ P N w0 ops lb Osh A E es (i + 1) r
theorem oblsZ_at : ∀ {r : List EX} {k : Nat}, OblsZ P N w0 ops lb Osh A E es k r → ∀ i e, r[i]? = some e → OblZ P N w0 ops lb Osh A E es (k + i) e
  | [], k, _, i, e, h => by simp at h
  | x :: r, k, ⟨h1, h2⟩, 0, e, h => by simp at h; subst h; exact h1
  | x :: r, k, ⟨h1, h2⟩, i + 1, e, h => by
    have := oblsZ_at h2 i e (by simpa using h)
    rwa [show k + 1 + i = k + (i + 1) by omega] at this

/-- The region: n operations whose order is open, then the others. -/
theorem okc_drawz {id : Nat} {Q : Exit → Act → World → Prop} (ds keep : List Nat) (es : List EX) (E : Nat → Nat → Bool) (hE : eatOkZ E es = true) (n f : Nat) (Osh : (Nat → Bool) → (Nat → Value × Blks) → Blks) (hm : P.follows .mixedOrders = true) (hlen : es.length = n) (hb : backA ops = true) (hle : Nat.ble n ops.size = true) (ht : tailX ops n f = true)
    (hn : nodupB (slotsX es) = true) (hin : inB (slotsX es) ds = true) (hO : O.Perm (Osh (fun _ => false) (fun _ => (undef, [])) ++ (List.range n).flatMap (consX es)))
    (hob : OblsZ P N w0 ops (dropK ds l) Osh A E es 0 es)
    (rest : ∀ ρ : Nat → Value × Blks, (∀ k, k < n → okX es ρ k) → OkL P N w0 ops Q (List.range' n (ops.size - n)) (envX es ρ keep ++ dropK ds l) (Osh (fun i => Nat.blt i n) ρ ++ remZ E es (fun i => Nat.blt i n) ρ) A) (hk : allBelow keep n = true) :
    OkC P N w0 (.region id ops true) Q l O A := by
  intro a w hs
  refine wpIn_region_draw fun t => ?_
  have hval := schedule_any (mixed := P.follows .mixedOrders) (ops := ops) hm hb t
  have hdrew : ({ w with drawn := w.drawn + 1 } : World) = w.drew := rfl
  rw [hdrew]
  have hs' : St N w0 l O A a w.drew := hs.ext ((Below.refl _ w).drew)
  have hlb : St N w0 (dropK ds l) O A a w.drew := ⟨hs'.size, hs'.noDef, hs'.bel, fun t v hg => hs'.env t v (get_dropK ds l t v hg).2, hs'.own, hs'.nodup, hs'.arg, hs'.more⟩
  refine midz_runs (es := es) (n := n) (Osh := Osh) (lb := dropK ds l) hlen (Nat.le_of_ble_eq_true hle) (tailX_of ht) (fun i e he => by have := oblsZ_at hob i e he; rwa [Nat.zero_add] at this) (nodup_ofB hn) (fun j e he k hk hkn => eat1 hE j e he k hk (by omega)) (fun i e he k hk j hj hji => eat2 hE i e he k hk j (by omega) hji) ?_ ?_ _ (fun _ => (undef, [])) (fun _ => false) a w.drew (fun _ h => by cases h) (fun _ _ h => by cases h) hval ⟨?_, ?_, ?_, ?_⟩
  · intro t v hg hm'
    have h1 := (get_dropK ds l t v hg).1
    unfold inB at hin
    rw [List.all_eq_true] at hin
    have := hin t hm'
    rw [List.any_eq_true] at this
    obtain ⟨d, hd, hd'⟩ := this
    have := Nat.eq_of_beq_eq_true hd'
    subst this
    exact h1 hd
  · intro ρ a' w' hmid
    refine rest ρ (fun k hk => hmid.ok k (blt_of hk)) a' w' ?_
    have h1 := hmid.st
    refine ⟨h1.size, h1.noDef, h1.bel, ?_, h1.own, h1.nodup, h1.arg, h1.more⟩
    intro t v hg
    rcases get_append _ _ t v hg with h2 | h2
    · obtain ⟨k, hk', e', he', hd', rfl⟩ := mem_envX _ h2
      refine hmid.env k e' t (blt_of ?_) he' hd'
      unfold allBelow at hk
      rw [List.all_eq_true] at hk
      exact of_blt (hk k hk')
    · exact h1.env t v h2
  · have hrem : remZ E es (fun _ => false) (fun _ => (undef, [])) = (List.range n).flatMap (consX es) := by
      unfold remZ
      rw [hlen]
      exact flatMap_congr' fun k _ => by simp [curZ]
    rw [hrem]
    exact hlb.reo hO
  · intro k e d h; cases h
  · intro k h; cases h
  · intro k e h; cases h



theorem obl_z {i : Nat} {e : EX} (ho : ∃ o, ops[i]? = some o ∧ o.dst = e.d ∧ depX o es.length e.ds = true) (hN : slotB e.d N.n = true)
    (h : ∀ o, ops[i]? = some o → ∀ (ρ : Nat → Value × Blks) (D : Nat → Bool), (∀ k ∈ e.ds, okX es ρ k) → ClX ops D → D i = false → (∀ g ∈ o.after, binds .any g = true → D g.on = true) →
      GoodY P N w0 ops A (envX es ρ e.ds ++ lb) (e.c ++ blkX ρ (e.ds.filter fun k => E i k)) (blkX ρ (e.ds.filter fun k => !E i k) ++ Osh D ρ) (fun v B => blkX ρ (e.ds.filter fun k => !E i k) ++ Osh (upd D i) (fun k => if k = i then (v, B) else ρ k)) o (e.φ (e.ds.map ρ))) : OblZ P N w0 ops lb Osh A E es i e := by
  obtain ⟨o, ho, hd, hds⟩ := ho
  unfold depX at hds
  rw [Bool.and_eq_true, List.all_eq_true] at hds
  refine ⟨o, ho, hd, fun d hd' => by rw [hd'] at hN; exact of_blt hN, fun k hk => ?_, nodup_ofB hds.2, h o ho⟩
  have h1 := hds.1 k hk
  rw [Bool.and_eq_true, List.any_eq_true] at h1
  obtain ⟨h2, g, hg, hgb⟩ := h1
  rw [Bool.and_eq_true] at hgb
  exact ⟨of_blt h2, g, by simpa using hg, Nat.eq_of_beq_eq_true hgb.1, hgb.2⟩
/-- The same, where nothing shared is written in the region. -/
theorem obl_zs {i : Nat} {e : EX} {Os : Blks} {o : Oper} (ho : ops[i]? = some o) (hd : o.dst = e.d) (hN : slotB e.d N.n = true) (hds : depX o es.length e.ds = true)
    (h : ∀ (ρ : Nat → Value × Blks), (∀ k ∈ e.ds, okX es ρ k) → GoodX P N w0 ops A (envX es ρ e.ds ++ lb) (e.c ++ blkX ρ (e.ds.filter fun k => E i k)) (blkX ρ (e.ds.filter fun k => !E i k) ++ Os) o (e.φ (e.ds.map ρ))) : OblZ P N w0 ops lb (fun _ _ => Os) A E es i e := by
  refine obl_z ⟨o, ho, hd, hds⟩ hN fun o' ho' ρ D hρ _ _ _ => ?_
  obtain rfl : o = o' := Option.some.inj (ho.symm.trans ho')
  exact goody_same rfl (h ρ hρ) (fun _ _ _ => rfl)
end
end Go.Sx
end

section
namespace Go.Proofs.Ytdpnadknaacinaa
open Go.Sx Go.Proofs.Ytdpnadknaacinaa.Ty
set_option linter.unusedVariables false
set_option maxHeartbeats 2000000


def lnsC (L : List Ln) : List Value := L.flatMap lnL
def rdsC (L : List Rd) : List Value := L.flatMap rdL
theorem lnsC_len (L : List Ln) : (lnsC L).length = L.length * 5 := by
  induction L with
  | nil => rfl
  | cons x L ih => simp only [lnsC, List.flatMap_cons, List.length_append, List.length_cons] at ih ⊢; rw [ih]; simp; omega
theorem rdsC_len (L : List Rd) : (rdsC L).length = L.length * 5 := by
  induction L with
  | nil => rfl
  | cons x L ih => simp only [rdsC, List.flatMap_cons, List.length_append, List.length_cons] at ih ⊢; rw [ih]; simp; omega
theorem lnsC_flat (L : List Ln) : flat (lnsC L) = true := by
  unfold flat lnsC; rw [List.all_eq_true]; intro v hv
  obtain ⟨x, _, hx⟩ := List.mem_flatMap.1 hv
  simp only [lnL, List.mem_cons, List.not_mem_nil, or_false] at hx
  rcases hx with rfl | rfl | rfl | rfl | rfl <;> rfl
theorem rdsC_flat (L : List Rd) : flat (rdsC L) = true := by
  unfold flat rdsC; rw [List.all_eq_true]; intro v hv
  obtain ⟨x, _, hx⟩ := List.mem_flatMap.1 hv
  simp only [rdL, List.mem_cons, List.not_mem_nil, or_false] at hx
  rcases hx with rfl | rfl | rfl | rfl | rfl <;> rfl
theorem row_cell {cs vs : List Value} {off i j : Nat} {v : Value} (h : sub cs (off + i * 5) 5 = vs) (hj : j < 5) : cs[off + (i * 5 + j)]? = vs[j]? := by
  have := sub_at h j hj
  rw [← this]; congr 1; omega
theorem lies_rows {α : Type} {f : α → List Value} {cs : List Value} {off : Nat} {L : List α} (hf : ∀ x, (f x).length = 5) (h : ∀ i x, L[i]? = some x → sub cs (off + i * 5) 5 = f x) :
    ∀ j v, (L.flatMap f)[j]? = some v → cs[off + j]? = some v := by
  intro j v hv
  have hlen : (L.flatMap f).length = L.length * 5 := by
    clear h hv
    induction L with
    | nil => rfl
    | cons x L ih => simp only [List.flatMap_cons, List.length_append, List.length_cons]; rw [ih, hf]; omega
  have hj : j < L.length * 5 := by
    rcases Nat.lt_or_ge j (L.flatMap f).length with h1 | h1
    · omega
    · rw [List.getElem?_eq_none h1] at hv; cases hv
  have hi : j / 5 < L.length := by omega
  obtain ⟨x, hx⟩ : ∃ x, L[j / 5]? = some x := ⟨L[j / 5], by simp [hi]⟩
  have h1 := rows_at hf hx
  have h2 := h _ x hx
  have e : j = j / 5 * 5 + j % 5 := by omega
  have h3 := sub_at h1 (j % 5) (by omega)
  rw [← e] at h3
  have h4 := sub_at h2 (j % 5) (by omega)
  rw [Nat.add_assoc, ← e] at h4
  rw [h4, ← h3, hv]
theorem lns_lies {M : Args} {keep : Blks} {p : Option Addr} {L : List Ln} (h : LnsIn M p L) : (L.length = 0 ∧ lnsC L = []) ∨ (0 < L.length ∧ ∃ bx ox, p = some ⟨bx, ox, none⟩ ∧ Lies keep M bx ox (lnsC L)) := by
  obtain ⟨b, off, cs, j, h⟩ := h
  cases L with
  | nil => exact .inl ⟨rfl, rfl⟩
  | cons x L =>
    obtain ⟨h1, h2, h3⟩ := h (by simp)
    exact .inr ⟨by simp, b, off, h1, Lies.arg (List.mem_of_getElem? h2) (lies_rows (fun _ => rfl) h3)⟩
theorem rds_lies {M : Args} {keep : Blks} {p : Option Addr} {L : List Rd} (h : RdsIn M p L) : (L.length = 0 ∧ rdsC L = []) ∨ (0 < L.length ∧ ∃ bx ox, p = some ⟨bx, ox, none⟩ ∧ Lies keep M bx ox (rdsC L)) := by
  obtain ⟨b, off, cs, j, h⟩ := h
  cases L with
  | nil => exact .inl ⟨rfl, rfl⟩
  | cons x L =>
    obtain ⟨h1, h2, h3⟩ := h (by simp)
    exact .inr ⟨by simp, b, off, h1, Lies.arg (List.mem_of_getElem? h2) (lies_rows (fun _ => rfl) h3)⟩
/-- The same spring, its lists elsewhere. -/
def twS (s : Sp) (g : Rn2) : Sp := { s with bp := g.p1, bc := g.c1, rp := g.p2, rc := g.c2 }
def TwOk (s : Sp) (g : Rn2) : Prop := Sl g.B1 76 5 g.p1 s.book.length g.c1 (lnsC s.book) ∧ Sl g.B2 69 5 g.p2 s.reads.length g.c2 (rdsC s.reads)

theorem twin_fn (s : Sp) (M : Args) (hin : s.In M) (hgr : s.book.length ≤ 30 ∧ s.reads.length ≤ 30) : Cn Try.prog 17 [spV s] M (fun g : Rn2 => spV (twS s g)) (fun g => g.B1 ++ g.B2) (TwOk s) := by
  have hbn := hgr.1
  have hrn := hgr.2
  refine fn_intro (N := 14) Try.func17 rfl rfl rfl fun w0 => ?_
  refine okc_seq ?_
  refine okc_region ?_
  refine s_boxA rfl rfl rfl rfl rfl rfl (fun b1 => ?_)
  refine s_alloc rfl rfl rfl rfl rfl rfl (fun b2 => ?_)
  refine okl_nil ?_
  change OkC Try.prog _ _ _ _ _ _ _
  refine okc_weak (l' := [(0, _), (1, _), (2, _)]) ⟨rfl, rfl, rfl, trivial⟩ ?_
  refine okc_seq ?_
  refine okc_drawz [3, 4, 5, 6, 7, 8, 9, 10, 11] [3, 7, 8] [⟨some 3, [], [], fun _ v B => ∃ b, v = .slice (some ⟨b, 0, none⟩) 0 0 ∧ B = [(b, [], 76)] ∧ True⟩, ⟨some 4, [], [], fun _ v B => v = .pointer (some ⟨b1, 0 + 7, none⟩) ∧ B = []⟩, ⟨some 5, [1], [], fun _ v B => v = .slice s.bp s.book.length s.bc ∧ B = []⟩, ⟨some 6, [0, 2], [], fun _ v B => ∃ p c, v = .slice p s.book.length c ∧ Sl B 76 5 p s.book.length c (lnsC s.book)⟩, ⟨some 7, [], [], fun _ v B => ∃ b, v = .slice (some ⟨b, 0, none⟩) 0 0 ∧ B = [(b, [], 69)] ∧ True⟩, ⟨some 8, [], [], fun _ v B => v = .pointer (some ⟨b1, 0 + 8, none⟩) ∧ B = []⟩, ⟨some 9, [5], [], fun _ v B => v = .slice s.rp s.reads.length s.rc ∧ B = []⟩, ⟨some 10, [4, 6], [], fun _ v B => ∃ p c, v = .slice p s.reads.length c ∧ Sl B 69 5 p s.reads.length c (rdsC s.reads)⟩, ⟨some 11, [], [], fun _ v B => v = .pointer (some ⟨b1, 0 + 7, none⟩) ∧ B = []⟩] (fun j k => (Nat.beq j 3 && Nat.beq k 0) || (Nat.beq j 7 && Nat.beq k 4)) rfl 9 4 (fun _ _ => [(b2, [.int .i64 0, .int .i64 0, .int .i64 0, .int .i64 0, .int .i64 0, .int .i64 0, .int .i64 0, .slice none 0 0, .slice none 0 0], 27), (b1, [.int .i64 s.weeks, .int .i64 s.most, .int .i64 s.fall, .int .i64 s.slo, .int .i64 s.shi, .int .i64 s.wlo, .int .i64 s.whi, .slice s.bp s.book.length s.bc, .slice s.rp s.reads.length s.rc], 27)]) rfl rfl rfl rfl rfl rfl rfl (by show (_ : Blks).Perm (_ ++ []); simp) ⟨?_, ?_, ?_, ?_, ?_, ?_, ?_, ?_, ?_, trivial⟩ (fun ρ hρ => ?_) rfl
  · refine obl_zs rfl rfl rfl rfl (fun ρ hρ => ?_)
    exact .inl ⟨rfl, opx_r (fun F => k_slice0 rfl rfl rfl)⟩
  · refine obl_zs rfl rfl rfl rfl (fun ρ hρ => ?_)
    exact .inl ⟨rfl, opx_v (fun F => k_field rfl rfl rfl rfl)⟩
  · refine obl_zs rfl rfl rfl rfl (fun ρ hρ => ?_)
    have h1 := hρ 1 (by simp) _ rfl
    change GoodX Try.prog _ _ _ _ ((4, (ρ 1).1) :: _) ([] ++ []) (((ρ 1).2 ++ []) ++ _) _ _
    generalize ρ 1 = q1 at h1 ⊢
    obtain ⟨v1, B1⟩ := q1
    obtain ⟨rfl, rfl⟩ := h1
    exact .inl ⟨rfl, opx_v (fun F => k_load1 1 rfl rfl rfl rfl rfl)⟩
  · refine obl_zs rfl rfl rfl rfl (fun ρ hρ => ?_)
    have h0 := hρ 0 (by simp) _ rfl
    have h2 := hρ 2 (by simp) _ rfl
    change GoodX Try.prog _ _ _ _ ((3, (ρ 0).1) :: (5, (ρ 2).1) :: _) ([] ++ ((ρ 0).2 ++ [])) (((ρ 2).2 ++ []) ++ _) _ _
    generalize ρ 0 = q0 at h0 ⊢
    obtain ⟨v0, B0⟩ := q0
    obtain ⟨b80, rfl, rfl, _⟩ := h0
    generalize ρ 2 = q2 at h2 ⊢
    obtain ⟨v2, B2⟩ := q2
    obtain ⟨rfl, rfl⟩ := h2
    exact .inl ⟨rfl, (k_append (Sl.lit (n := 0) (cs := []) rfl (by decide)) by76 rfl rfl rfl rfl rfl rfl rfl rfl (lns_lies hin.book) (lnsC_len _) (lnsC_flat _) (by omega)).mono (by rintro v B ⟨p, c, rfl, h⟩; exact ⟨p, c, by rw [Nat.zero_add], by rw [Nat.zero_add] at h; exact h⟩)⟩
  · refine obl_zs rfl rfl rfl rfl (fun ρ hρ => ?_)
    exact .inl ⟨rfl, opx_r (fun F => k_slice0 rfl rfl rfl)⟩
  · refine obl_zs rfl rfl rfl rfl (fun ρ hρ => ?_)
    exact .inl ⟨rfl, opx_v (fun F => k_field rfl rfl rfl rfl)⟩
  · refine obl_zs rfl rfl rfl rfl (fun ρ hρ => ?_)
    have h5 := hρ 5 (by simp) _ rfl
    change GoodX Try.prog _ _ _ _ ((8, (ρ 5).1) :: _) ([] ++ []) (((ρ 5).2 ++ []) ++ _) _ _
    generalize ρ 5 = q5 at h5 ⊢
    obtain ⟨v5, B5⟩ := q5
    obtain ⟨rfl, rfl⟩ := h5
    exact .inl ⟨rfl, opx_v (fun F => k_load1 1 rfl rfl rfl rfl rfl)⟩
  · refine obl_zs rfl rfl rfl rfl (fun ρ hρ => ?_)
    have h4 := hρ 4 (by simp) _ rfl
    have h6 := hρ 6 (by simp) _ rfl
    change GoodX Try.prog _ _ _ _ ((7, (ρ 4).1) :: (9, (ρ 6).1) :: _) ([] ++ ((ρ 4).2 ++ [])) (((ρ 6).2 ++ []) ++ _) _ _
    generalize ρ 4 = q4 at h4 ⊢
    obtain ⟨v4, B4⟩ := q4
    obtain ⟨b84, rfl, rfl, _⟩ := h4
    generalize ρ 6 = q6 at h6 ⊢
    obtain ⟨v6, B6⟩ := q6
    obtain ⟨rfl, rfl⟩ := h6
    exact .inl ⟨rfl, (k_append (Sl.lit (n := 0) (cs := []) rfl (by decide)) by69 rfl rfl rfl rfl rfl rfl rfl rfl (rds_lies hin.reads) (rdsC_len _) (rdsC_flat _) (by omega)).mono (by rintro v B ⟨p, c, rfl, h⟩; exact ⟨p, c, by rw [Nat.zero_add], by rw [Nat.zero_add] at h; exact h⟩)⟩
  · refine obl_zs rfl rfl rfl rfl (fun ρ hρ => ?_)
    exact .inl ⟨rfl, opx_v (fun F => k_field rfl rfl rfl rfl)⟩
  have h0 := hρ 0 (by decide) _ rfl
  have h1 := hρ 1 (by decide) _ rfl
  have h2 := hρ 2 (by decide) _ rfl
  have h3 := hρ 3 (by decide) _ rfl
  have h4 := hρ 4 (by decide) _ rfl
  have h5 := hρ 5 (by decide) _ rfl
  have h6 := hρ 6 (by decide) _ rfl
  have h7 := hρ 7 (by decide) _ rfl
  have h8 := hρ 8 (by decide) _ rfl
  change Go.Sx.OkL Try.prog _ _ _ _ _ ((6, (ρ 3).1) :: (10, (ρ 7).1) :: (11, (ρ 8).1) :: _) (_ ++ ([] ++ ((ρ 1).2 ++ ((ρ 2).2 ++ ((ρ 3).2 ++ ([] ++ ((ρ 5).2 ++ ((ρ 6).2 ++ ((ρ 7).2 ++ ((ρ 8).2 ++ [])))))))))) _
  generalize ρ 0 = q0 at *
  obtain ⟨v0, B0⟩ := q0
  obtain ⟨b80, rfl, rfl, _⟩ := h0
  generalize ρ 1 = q1 at *
  obtain ⟨v1, B1⟩ := q1
  obtain ⟨rfl, rfl⟩ := h1
  generalize ρ 2 = q2 at *
  obtain ⟨v2, B2⟩ := q2
  obtain ⟨rfl, rfl⟩ := h2
  generalize ρ 3 = q3 at *
  obtain ⟨v3, B3⟩ := q3
  obtain ⟨p3, c3, rfl, h3⟩ := h3
  generalize ρ 4 = q4 at *
  obtain ⟨v4, B4⟩ := q4
  obtain ⟨b84, rfl, rfl, _⟩ := h4
  generalize ρ 5 = q5 at *
  obtain ⟨v5, B5⟩ := q5
  obtain ⟨rfl, rfl⟩ := h5
  generalize ρ 6 = q6 at *
  obtain ⟨v6, B6⟩ := q6
  obtain ⟨rfl, rfl⟩ := h6
  generalize ρ 7 = q7 at *
  obtain ⟨v7, B7⟩ := q7
  obtain ⟨p7, c7, rfl, h7⟩ := h7
  generalize ρ 8 = q8 at *
  obtain ⟨v8, B8⟩ := q8
  obtain ⟨rfl, rfl⟩ := h8
  refine okl_sub (O' := [(b2, [.int .i64 0, .int .i64 0, .int .i64 0, .int .i64 0, .int .i64 0, .int .i64 0, .int .i64 0, .slice none 0 0, .slice none 0 0], 27), (b1, [.int .i64 s.weeks, .int .i64 s.most, .int .i64 s.fall, .int .i64 s.slo, .int .i64 s.shi, .int .i64 s.wlo, .int .i64 s.whi, .slice s.bp s.book.length s.bc, .slice s.rp s.reads.length s.rc], 27)] ++ (B3 ++ B7)) (List.Sublist.append (List.Sublist.refl _) (by dsimp only; simp only [List.nil_append, List.append_nil]; exact List.Sublist.refl _)) ?_
  refine k_store 1 rfl rfl rfl rfl rfl rfl rfl rfl rfl rfl rfl rfl ?_
  refine s_field rfl rfl rfl rfl rfl rfl rfl rfl ?_
  refine k_store 1 rfl rfl rfl rfl rfl rfl rfl rfl rfl rfl rfl rfl ?_
  refine okl_nil ?_
  change OkC Try.prog _ _ _ _ _ _ _
  refine okc_weak (l' := [(0, _), (1, _), (2, _)]) ⟨rfl, rfl, rfl, trivial⟩ ?_
  refine okc_seq ?_
  refine okc_region ?_
  refine s_loadW 1 rfl rfl rfl rfl rfl rfl rfl rfl rfl rfl ?_
  refine k_storeW 0 rfl rfl rfl rfl rfl rfl rfl rfl rfl rfl rfl rfl ?_
  refine okl_nil ?_
  change OkC Try.prog _ _ _ _ _ _ _
  refine okc_weak (l' := [(0, _), (1, _), (2, _)]) ⟨rfl, rfl, rfl, trivial⟩ ?_
  refine okc_ret fun a w hs => ?_
  exact ret_postS hs (run_results1 hs rfl (k_ragg 0 rfl rfl rfl rfl rfl)) ⟨p3, c3, B3, p7, c7, B7⟩ rfl ⟨h3, h7⟩ (sub_drop 2 rfl)
end Go.Proofs.Ytdpnadknaacinaa
end
