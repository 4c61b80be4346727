/-
  A spring in new memory.
  Conditions: none.
-/
import Derived.Test.YtdpnadknaacinaaC23
import Derived.Test.YtdpnadknaacinaaDz
namespace Go.Proofs.Ytdpnadknaacinaa
open Go.Sx Go.Proofs.Ytdpnadknaacinaa.Ty
set_option linter.unusedVariables false
set_option maxHeartbeats 2000000


def lnsC (L : List Ln) : List Value := L.flatMap lnL
def rdsC (L : List Rd) : List Value := L.flatMap rdL
theorem lnsC_len (L : List Ln) : (lnsC L).length = L.length * 5 := by
  induction L with
  | nil => rfl
  | cons x L ih => simp only [lnsC, List.flatMap_cons, List.length_append, List.length_cons] at ih ⊢; rw [ih]; simp; omega
theorem rdsC_len (L : List Rd) : (rdsC L).length = L.length * 5 := by
  induction L with
  | nil => rfl
  | cons x L ih => simp only [rdsC, List.flatMap_cons, List.length_append, List.length_cons] at ih ⊢; rw [ih]; simp; omega
theorem lnsC_flat (L : List Ln) : flat (lnsC L) = true := by
  unfold flat lnsC; rw [List.all_eq_true]; intro v hv
  obtain ⟨x, _, hx⟩ := List.mem_flatMap.1 hv
  simp only [lnL, List.mem_cons, List.not_mem_nil, or_false] at hx
  rcases hx with rfl | rfl | rfl | rfl | rfl <;> rfl
theorem rdsC_flat (L : List Rd) : flat (rdsC L) = true := by
  unfold flat rdsC; rw [List.all_eq_true]; intro v hv
  obtain ⟨x, _, hx⟩ := List.mem_flatMap.1 hv
  simp only [rdL, List.mem_cons, List.not_mem_nil, or_false] at hx
  rcases hx with rfl | rfl | rfl | rfl | rfl <;> rfl
theorem row_cell {cs vs : List Value} {off i j : Nat} {v : Value} (h : sub cs (off + i * 5) 5 = vs) (hj : j < 5) : cs[off + (i * 5 + j)]? = vs[j]? := by
  have := sub_at h j hj
  rw [← this]; congr 1; omega
theorem lies_rows {α : Type} {f : α → List Value} {cs : List Value} {off : Nat} {L : List α} (hf : ∀ x, (f x).length = 5) (h : ∀ i x, L[i]? = some x → sub cs (off + i * 5) 5 = f x) :
    ∀ j v, (L.flatMap f)[j]? = some v → cs[off + j]? = some v := by
  intro j v hv
  have hlen : (L.flatMap f).length = L.length * 5 := by
    clear h hv
    induction L with
    | nil => rfl
    | cons x L ih => simp only [List.flatMap_cons, List.length_append, List.length_cons]; rw [ih, hf]; omega
  have hj : j < L.length * 5 := by
    rcases Nat.lt_or_ge j (L.flatMap f).length with h1 | h1
    · omega
    · rw [List.getElem?_eq_none h1] at hv; cases hv
  have hi : j / 5 < L.length := by omega
  obtain ⟨x, hx⟩ : ∃ x, L[j / 5]? = some x := ⟨L[j / 5], by simp [hi]⟩
  have h1 := rows_at hf hx
  have h2 := h _ x hx
  have e : j = j / 5 * 5 + j % 5 := by omega
  have h3 := sub_at h1 (j % 5) (by omega)
  rw [← e] at h3
  have h4 := sub_at h2 (j % 5) (by omega)
  rw [Nat.add_assoc, ← e] at h4
  rw [h4, ← h3, hv]
theorem lns_lies {M : Args} {keep : Blks} {p : Option Addr} {L : List Ln} (h : LnsIn M p L) : (L.length = 0 ∧ lnsC L = []) ∨ (0 < L.length ∧ ∃ bx ox, p = some ⟨bx, ox, none⟩ ∧ Lies keep M bx ox (lnsC L)) := by
  obtain ⟨b, off, cs, j, h⟩ := h
  cases L with
  | nil => exact .inl ⟨rfl, rfl⟩
  | cons x L =>
    obtain ⟨h1, h2, h3⟩ := h (by simp)
    exact .inr ⟨by simp, b, off, h1, Lies.arg (List.mem_of_getElem? h2) (lies_rows (fun _ => rfl) h3)⟩
theorem rds_lies {M : Args} {keep : Blks} {p : Option Addr} {L : List Rd} (h : RdsIn M p L) : (L.length = 0 ∧ rdsC L = []) ∨ (0 < L.length ∧ ∃ bx ox, p = some ⟨bx, ox, none⟩ ∧ Lies keep M bx ox (rdsC L)) := by
  obtain ⟨b, off, cs, j, h⟩ := h
  cases L with
  | nil => exact .inl ⟨rfl, rfl⟩
  | cons x L =>
    obtain ⟨h1, h2, h3⟩ := h (by simp)
    exact .inr ⟨by simp, b, off, h1, Lies.arg (List.mem_of_getElem? h2) (lies_rows (fun _ => rfl) h3)⟩
/-- The same spring, its lists elsewhere. -/
def twS (s : Sp) (g : Rn2) : Sp := { s with bp := g.p1, bc := g.c1, rp := g.p2, rc := g.c2 }
def TwOk (s : Sp) (g : Rn2) : Prop := Sl g.B1 76 5 g.p1 s.book.length g.c1 (lnsC s.book) ∧ Sl g.B2 69 5 g.p2 s.reads.length g.c2 (rdsC s.reads)

theorem twin_fn (s : Sp) (M : Args) (hin : s.In M) (hgr : s.book.length ≤ 30 ∧ s.reads.length ≤ 30) : Cn Try.prog 17 [spV s] M (fun g : Rn2 => spV (twS s g)) (fun g => g.B1 ++ g.B2) (TwOk s) := by
  have hbn := hgr.1
  have hrn := hgr.2
  refine fn_intro (N := 14) Try.func17 rfl rfl rfl fun w0 => ?_
  refine okc_seq ?_
  refine okc_region ?_
  refine s_boxA rfl rfl rfl rfl rfl rfl (fun b1 => ?_)
  refine s_alloc rfl rfl rfl rfl rfl rfl (fun b2 => ?_)
  refine okl_nil ?_
  change OkC Try.prog _ _ _ _ _ _ _
  refine okc_weak (l' := [(0, _), (1, _), (2, _)]) ⟨rfl, rfl, rfl, trivial⟩ ?_
  refine okc_seq ?_
  refine okc_drawz [3, 4, 5, 6, 7, 8, 9, 10, 11] [3, 7, 8] [⟨some 3, [], [], fun _ v B => ∃ b, v = .slice (some ⟨b, 0, none⟩) 0 0 ∧ B = [(b, [], 76)] ∧ True⟩, ⟨some 4, [], [], fun _ v B => v = .pointer (some ⟨b1, 0 + 7, none⟩) ∧ B = []⟩, ⟨some 5, [1], [], fun _ v B => v = .slice s.bp s.book.length s.bc ∧ B = []⟩, ⟨some 6, [0, 2], [], fun _ v B => ∃ p c, v = .slice p s.book.length c ∧ Sl B 76 5 p s.book.length c (lnsC s.book)⟩, ⟨some 7, [], [], fun _ v B => ∃ b, v = .slice (some ⟨b, 0, none⟩) 0 0 ∧ B = [(b, [], 69)] ∧ True⟩, ⟨some 8, [], [], fun _ v B => v = .pointer (some ⟨b1, 0 + 8, none⟩) ∧ B = []⟩, ⟨some 9, [5], [], fun _ v B => v = .slice s.rp s.reads.length s.rc ∧ B = []⟩, ⟨some 10, [4, 6], [], fun _ v B => ∃ p c, v = .slice p s.reads.length c ∧ Sl B 69 5 p s.reads.length c (rdsC s.reads)⟩, ⟨some 11, [], [], fun _ v B => v = .pointer (some ⟨b1, 0 + 7, none⟩) ∧ B = []⟩] (fun j k => (Nat.beq j 3 && Nat.beq k 0) || (Nat.beq j 7 && Nat.beq k 4)) rfl 9 4 (fun _ _ => [(b2, [.int .i64 0, .int .i64 0, .int .i64 0, .int .i64 0, .int .i64 0, .int .i64 0, .int .i64 0, .slice none 0 0, .slice none 0 0], 27), (b1, [.int .i64 s.weeks, .int .i64 s.most, .int .i64 s.fall, .int .i64 s.slo, .int .i64 s.shi, .int .i64 s.wlo, .int .i64 s.whi, .slice s.bp s.book.length s.bc, .slice s.rp s.reads.length s.rc], 27)]) rfl rfl rfl rfl rfl rfl rfl (by show (_ : Blks).Perm (_ ++ []); simp) ⟨?_, ?_, ?_, ?_, ?_, ?_, ?_, ?_, ?_, trivial⟩ (fun ρ hρ => ?_) rfl
  · refine obl_zs rfl rfl rfl rfl (fun ρ hρ => ?_)
    exact .inl ⟨rfl, opx_r (fun F => k_slice0 rfl rfl rfl)⟩
  · refine obl_zs rfl rfl rfl rfl (fun ρ hρ => ?_)
    exact .inl ⟨rfl, opx_v (fun F => k_field rfl rfl rfl rfl)⟩
  · refine obl_zs rfl rfl rfl rfl (fun ρ hρ => ?_)
    have h1 := hρ 1 (by simp) _ rfl
    change GoodX Try.prog _ _ _ _ ((4, (ρ 1).1) :: _) ([] ++ []) (((ρ 1).2 ++ []) ++ _) _ _
    generalize ρ 1 = q1 at h1 ⊢
    obtain ⟨v1, B1⟩ := q1
    obtain ⟨rfl, rfl⟩ := h1
    exact .inl ⟨rfl, opx_v (fun F => k_load1 1 rfl rfl rfl rfl rfl)⟩
  · refine obl_zs rfl rfl rfl rfl (fun ρ hρ => ?_)
    have h0 := hρ 0 (by simp) _ rfl
    have h2 := hρ 2 (by simp) _ rfl
    change GoodX Try.prog _ _ _ _ ((3, (ρ 0).1) :: (5, (ρ 2).1) :: _) ([] ++ ((ρ 0).2 ++ [])) (((ρ 2).2 ++ []) ++ _) _ _
    generalize ρ 0 = q0 at h0 ⊢
    obtain ⟨v0, B0⟩ := q0
    obtain ⟨b80, rfl, rfl, _⟩ := h0
    generalize ρ 2 = q2 at h2 ⊢
    obtain ⟨v2, B2⟩ := q2
    obtain ⟨rfl, rfl⟩ := h2
    exact .inl ⟨rfl, (k_append (Sl.lit (n := 0) (cs := []) rfl (by decide)) by76 rfl rfl rfl rfl rfl rfl rfl rfl (lns_lies hin.book) (lnsC_len _) (lnsC_flat _) (by omega)).mono (by rintro v B ⟨p, c, rfl, h⟩; exact ⟨p, c, by rw [Nat.zero_add], by rw [Nat.zero_add] at h; exact h⟩)⟩
  · refine obl_zs rfl rfl rfl rfl (fun ρ hρ => ?_)
    exact .inl ⟨rfl, opx_r (fun F => k_slice0 rfl rfl rfl)⟩
  · refine obl_zs rfl rfl rfl rfl (fun ρ hρ => ?_)
    exact .inl ⟨rfl, opx_v (fun F => k_field rfl rfl rfl rfl)⟩
  · refine obl_zs rfl rfl rfl rfl (fun ρ hρ => ?_)
    have h5 := hρ 5 (by simp) _ rfl
    change GoodX Try.prog _ _ _ _ ((8, (ρ 5).1) :: _) ([] ++ []) (((ρ 5).2 ++ []) ++ _) _ _
    generalize ρ 5 = q5 at h5 ⊢
    obtain ⟨v5, B5⟩ := q5
    obtain ⟨rfl, rfl⟩ := h5
    exact .inl ⟨rfl, opx_v (fun F => k_load1 1 rfl rfl rfl rfl rfl)⟩
  · refine obl_zs rfl rfl rfl rfl (fun ρ hρ => ?_)
    have h4 := hρ 4 (by simp) _ rfl
    have h6 := hρ 6 (by simp) _ rfl
    change GoodX Try.prog _ _ _ _ ((7, (ρ 4).1) :: (9, (ρ 6).1) :: _) ([] ++ ((ρ 4).2 ++ [])) (((ρ 6).2 ++ []) ++ _) _ _
    generalize ρ 4 = q4 at h4 ⊢
    obtain ⟨v4, B4⟩ := q4
    obtain ⟨b84, rfl, rfl, _⟩ := h4
    generalize ρ 6 = q6 at h6 ⊢
    obtain ⟨v6, B6⟩ := q6
    obtain ⟨rfl, rfl⟩ := h6
    exact .inl ⟨rfl, (k_append (Sl.lit (n := 0) (cs := []) rfl (by decide)) by69 rfl rfl rfl rfl rfl rfl rfl rfl (rds_lies hin.reads) (rdsC_len _) (rdsC_flat _) (by omega)).mono (by rintro v B ⟨p, c, rfl, h⟩; exact ⟨p, c, by rw [Nat.zero_add], by rw [Nat.zero_add] at h; exact h⟩)⟩
  · refine obl_zs rfl rfl rfl rfl (fun ρ hρ => ?_)
    exact .inl ⟨rfl, opx_v (fun F => k_field rfl rfl rfl rfl)⟩
  have h0 := hρ 0 (by decide) _ rfl
  have h1 := hρ 1 (by decide) _ rfl
  have h2 := hρ 2 (by decide) _ rfl
  have h3 := hρ 3 (by decide) _ rfl
  have h4 := hρ 4 (by decide) _ rfl
  have h5 := hρ 5 (by decide) _ rfl
  have h6 := hρ 6 (by decide) _ rfl
  have h7 := hρ 7 (by decide) _ rfl
  have h8 := hρ 8 (by decide) _ rfl
  change Go.Sx.OkL Try.prog _ _ _ _ _ ((6, (ρ 3).1) :: (10, (ρ 7).1) :: (11, (ρ 8).1) :: _) (_ ++ ([] ++ ((ρ 1).2 ++ ((ρ 2).2 ++ ((ρ 3).2 ++ ([] ++ ((ρ 5).2 ++ ((ρ 6).2 ++ ((ρ 7).2 ++ ((ρ 8).2 ++ [])))))))))) _
  generalize ρ 0 = q0 at *
  obtain ⟨v0, B0⟩ := q0
  obtain ⟨b80, rfl, rfl, _⟩ := h0
  generalize ρ 1 = q1 at *
  obtain ⟨v1, B1⟩ := q1
  obtain ⟨rfl, rfl⟩ := h1
  generalize ρ 2 = q2 at *
  obtain ⟨v2, B2⟩ := q2
  obtain ⟨rfl, rfl⟩ := h2
  generalize ρ 3 = q3 at *
  obtain ⟨v3, B3⟩ := q3
  obtain ⟨p3, c3, rfl, h3⟩ := h3
  generalize ρ 4 = q4 at *
  obtain ⟨v4, B4⟩ := q4
  obtain ⟨b84, rfl, rfl, _⟩ := h4
  generalize ρ 5 = q5 at *
  obtain ⟨v5, B5⟩ := q5
  obtain ⟨rfl, rfl⟩ := h5
  generalize ρ 6 = q6 at *
  obtain ⟨v6, B6⟩ := q6
  obtain ⟨rfl, rfl⟩ := h6
  generalize ρ 7 = q7 at *
  obtain ⟨v7, B7⟩ := q7
  obtain ⟨p7, c7, rfl, h7⟩ := h7
  generalize ρ 8 = q8 at *
  obtain ⟨v8, B8⟩ := q8
  obtain ⟨rfl, rfl⟩ := h8
  refine okl_sub (O' := [(b2, [.int .i64 0, .int .i64 0, .int .i64 0, .int .i64 0, .int .i64 0, .int .i64 0, .int .i64 0, .slice none 0 0, .slice none 0 0], 27), (b1, [.int .i64 s.weeks, .int .i64 s.most, .int .i64 s.fall, .int .i64 s.slo, .int .i64 s.shi, .int .i64 s.wlo, .int .i64 s.whi, .slice s.bp s.book.length s.bc, .slice s.rp s.reads.length s.rc], 27)] ++ (B3 ++ B7)) (List.Sublist.append (List.Sublist.refl _) (by dsimp only; simp only [List.nil_append, List.append_nil]; exact List.Sublist.refl _)) ?_
  refine k_store 1 rfl rfl rfl rfl rfl rfl rfl rfl rfl rfl rfl rfl ?_
  refine s_field rfl rfl rfl rfl rfl rfl rfl rfl ?_
  refine k_store 1 rfl rfl rfl rfl rfl rfl rfl rfl rfl rfl rfl rfl ?_
  refine okl_nil ?_
  change OkC Try.prog _ _ _ _ _ _ _
  refine okc_weak (l' := [(0, _), (1, _), (2, _)]) ⟨rfl, rfl, rfl, trivial⟩ ?_
  refine okc_seq ?_
  refine okc_region ?_
  refine s_loadW 1 rfl rfl rfl rfl rfl rfl rfl rfl rfl rfl ?_
  refine k_storeW 0 rfl rfl rfl rfl rfl rfl rfl rfl rfl rfl rfl rfl ?_
  refine okl_nil ?_
  change OkC Try.prog _ _ _ _ _ _ _
  refine okc_weak (l' := [(0, _), (1, _), (2, _)]) ⟨rfl, rfl, rfl, trivial⟩ ?_
  refine okc_ret fun a w hs => ?_
  exact ret_postS hs (run_results1 hs rfl (k_ragg 0 rfl rfl rfl rfl rfl)) ⟨p3, c3, B3, p7, c7, B7⟩ rfl ⟨h3, h7⟩ (sub_drop 2 rfl)
end Go.Proofs.Ytdpnadknaacinaa
