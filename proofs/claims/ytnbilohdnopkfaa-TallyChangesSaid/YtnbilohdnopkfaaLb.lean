/-
  TallyChanges: what a notch and a joining leave: the tallies handed in read as before, and so do copies, whatever becomes of the results.
  Conditions: none.
-/
import Derived.Test.YtnbilohdnopkfaaLa
import Derived.Test.YtnbilohdnopkfaaRows
import Derived.Test.YtnbilohdnopkfaaChecked
import Derived.Lib.SmallJoins
import Derived.ChangeMaps5
namespace Go.Proofs.Ytnbilohdnopkfaa
open Go.Ev Go.Sx Go.RowKit Go.ChangeShapes Go.WideShapes Go.ChangeAt
set_option linter.unusedVariables false
set_option linter.unusedSimpArgs false
set_option maxRecDepth 100000
set_option maxHeartbeats 4000000
theorem Try.own : ownKnob Try.prog.godebug = none := by kernel_rfl
theorem Try.laidOut : laidOutB Try.prog = true := by kernel_rfl
theorem law3g (call : CallF) (x y : Tx) (k : Int) (h : Tr Ob) (N : Nat) (xs : Ints h N x.s x.t.st) (xf : Ints h N x.f x.t.fo) (ys : Ints h N y.s y.t.st) (yf : Ints h N y.f y.t.fo) (hgr : greatT x.t = true ∨ greatT y.t = true) :
    ∃ h' N', s3 call x.v y.v (iS k) h N = some (.bool true, h', N') := by
  unfold s3
  have c0 : cel x.v = x.c := rfl
  have c00 : cel y.v = y.c := rfl
  simp only [fN_eq, c0, c00]
  generalize hh : Tr.set (Tr.set h (some (.c x.c 24)) N) (some (.c y.c 24)) N.succ = g
  have g0 : g.get N = some (.c x.c 24) := by rw [← hh, Tr.get_other _ _ (by omega), Tr.get_same]
  have g1 : g.get (N + 1) = some (.c y.c 24) := by rw [← hh, Tr.get_same]
  have gr : Gr h N g (N + 2) := by rw [← hh]; exact ((Gr.refl h N).set (Nat.le_refl _) (by omega : N ≤ N + 1) _).set (by omega) (by omega) _
  clear hh
  rw [ldN_c g0 (by simp), obind_s, tk4]
  obtain ⟨ha, Na, pa, qa⟩ := great4 call x.t x.s x.f g (N + 2) (xs.gr gr) (xf.gr gr)
  rw [show N.succ.succ = N + 2 from rfl, pa, orun_s]
  have gra := gr.trans qa
  have a1 : ha.get (N + 1) = some (.c y.c 24) := by rw [qa.old (N + 1) (by omega)]; exact g1
  cases c1 : greatT x.t with
  | true =>
    simp only [wnt_tf, obind_s, br_f, orun_s, pck_t, cnd_t]
    exact ⟨_, _, rfl⟩
  | false =>
  simp only [wnt_ff, obind_s, br_t, orun_s, pck_f]
  rw [ldN_c a1 (by simp), obind_s, tk4, orun_s]
  obtain ⟨hb, Nb, pb, qb⟩ := great4 call y.t y.s y.f ha Na (ys.gr gra) (yf.gr gra)
  rw [pb, orun_s, orun_s]
  have c2 : greatT y.t = true := by
    rcases hgr with e | e
    · rw [c1] at e; cases e
    · exact e
  rw [c2, cnd_t]
  exact ⟨_, _, rfl⟩
theorem law_all (x y : Tx) (k : Int) (h : Tr Ob) (N : Nat) (xs : Ints h N x.s x.t.st) (xf : Ints h N x.f x.t.fo) (ys : Ints h N y.s y.t.st) (yf : Ints h N y.f y.t.fo) :
    ∃ h' N', s3 cT x.v y.v (iS k) h N = some (.bool true, h', N') := by
  cases c1 : greatT x.t with
  | true => exact law3g cT x y k h N xs xf ys yf (.inl c1)
  | false =>
    cases c2 : greatT y.t with
    | true => exact law3g cT x y k h N xs xf ys yf (.inr c2)
    | false =>
      obtain ⟨x1, x2⟩ := greatT_len c1
      obtain ⟨y1, y2⟩ := greatT_len c2
      exact law3 x y k h N ⟨xs, xf, by omega, by omega⟩ ⟨ys, yf, by omega, by omega⟩
theorem rl4 {σ : Sg} {a b : Int} {s f s' f' : Value} (h1 : Rl σ s s') (h2 : Rl σ f f') : Rl σ (.agg ⟨[iS a, iS b, s, f]⟩) (.agg ⟨[iS a, iS b, s', f']⟩) := by
  refine .agg rfl fun i u v hu hv => ?_
  match i with
  | 0 => cases hu; cases hv; exact .sc rfl
  | 1 => cases hu; cases hv; exact .sc rfl
  | 2 => cases hu; cases hv; exact h1
  | 3 => cases hu; cases hv; exact h2
  | (i + 4) => cases hu
theorem law_any (W : World) (a b c d k : Int) (s f s2 f2 : Value) (K1 K2 K3 K4 : List Int) (h1 : In W s K1) (h2 : In W f K2) (h3 : In W s2 K3) (h4 : In W f2 K4) :
    Calls Try.prog 3 #[.agg #[iS a, iS b, s, f], .agg #[iS c, iS d, s2, f2], iS k] W fun e W' => e = .returned (.bool true) ∧ Below W.heap.size W W' := by
  have H0 : HR (.all W) (fun _ => none) (.nil : Tr Ob) W := ⟨Kept.all W, fun i b r h => (by simp at h), fun i b r o h => (by simp at h), fun i j b r r' h => (by simp at h), fun i b r h => (by simp at h)⟩
  obtain ⟨σ1, m1, u1, H1, w1, n1, le1, g1, r1, t1⟩ := tell h1 (i := 0) H0 (fun j => by rw [Tr.get_nil]; rfl) (fun j _ => rfl)
  obtain ⟨σ2, m2, u2, H2, w2, n2, le2, g2, r2, t2⟩ := tell h2 (i := 1) H1 w1 n1
  obtain ⟨σ3, m3, u3, H3, w3, n3, le3, g3, r3, t3⟩ := tell h3 (i := 2) H2 w2 n2
  obtain ⟨σ4, m4, u4, H4, w4, n4, le4, g4, r4, t4⟩ := tell h4 (i := 3) H3 w3 n3
  obtain ⟨h', N', hr⟩ := law_all ⟨⟨a, b, K1, K2⟩, u1, u2⟩ ⟨⟨c, d, K3, K4⟩, u3, u4⟩ k m4 4 (t1.gr ((g2.trans g3).trans g4)) (t2.gr (g3.trans g4)) (t3.gr g4) t4
  obtain ⟨hcal, e1, e2⟩ := o3 cT cT_ok [.agg ⟨[iS a, iS b, u1, u2]⟩, .agg ⟨[iS c, iS d, u3, u4]⟩, iS k] m4 4 _ h' N' hr
  refine (e2 (.all W) σ4 W [.agg ⟨[iS a, iS b, s, f]⟩, .agg ⟨[iS c, iS d, s2, f2]⟩, iS k] H4 ⟨rfl, fun i u v hu hv => ?_⟩ (fun i hi _ => n4 i hi)).mono ?_
  · match i with
    | 0 => cases hu; cases hv; exact rl4 (((r1.mono le2).mono le3).mono le4) ((r2.mono le3).mono le4)
    | 1 => cases hu; cases hv; exact rl4 (r3.mono le4) r4
    | 2 => cases hu; cases hv; exact .sc rfl
    | (i + 3) => cases hu
  · rintro e w' ⟨v', rfl, σ', _, H', hv'⟩
    exact ⟨by rw [hv'.scal_eq rfl], H'.bel.below⟩

theorem row_split (f : Int → Value) (row : List Value) : ∀ (L : List Int) (off : Nat), (∀ (i : Nat) (r : Int), L[i]? = some r → sub row (off + i * 1) 1 = [f r]) → row.drop off = L.map f ++ row.drop (off + L.length)
  | [], off, _ => by simp
  | r :: L, off, h => by
    have h0 := h 0 r rfl
    unfold sub at h0
    rw [Nat.zero_mul, Nat.add_zero] at h0
    have h1 : row.drop off = f r :: row.drop (off + 1) := by
      cases hd : row.drop off with
      | nil => rw [hd] at h0; cases h0
      | cons v tl =>
        rw [hd] at h0
        simp at h0
        rw [h0]
        have : (row.drop off).drop 1 = row.drop (off + 1) := by rw [List.drop_drop]
        rw [← this, hd]; rfl
    rw [h1, row_split f row L (off + 1) (fun i r' hi => by
      have := h (i + 1) r' (by simpa using hi)
      rw [show off + 1 + i * 1 = off + (i + 1) * 1 by omega]; exact this)]
    simp only [List.map_cons, List.cons_append, List.length_cons]
    rw [show off + 1 + L.length = off + (L.length + 1) by omega]
section
variable {H : Type} {enc : TypeId × Value → H} {w : World} {base fuel : Nat} {spare : Nat → Bool} {held : Bool} {y : DataW H × List MemPlace} {v : Value}
theorem slice_has {a : Addr} {len cap : Nat} {b0 : Nat} (h : Cell.okWide Try.prog w .any b0 22 (.slice (some a) len cap)) : a.spot = none ∧ a.block < w.heap.size := by
  unfold Cell.okWide Cell.ok at h
  rw [Try.underlying22] at h
  obtain ⟨_, _, _, hs, row, cells, hsh, _⟩ := h
  refine ⟨hs, ?_⟩
  unfold World.shape? at hsh
  cases hb : w.heap[a.block]? with
  | none => rw [hb] at hsh; cases hsh
  | some o => exact (Array.getElem?_eq_some_iff.1 hb).1
theorem slice_nil {len cap : Nat} {b0 : Nat} (h : Cell.okWide Try.prog w .any b0 22 (.slice none len cap)) : len = 0 ∧ cap = 0 := by
  unfold Cell.okWide Cell.ok at h
  rw [Try.underlying22] at h
  match len, cap, h with
  | 0, 0, _ => exact ⟨rfl, rfl⟩
theorem open_ints {b0 : Nat} (hv : Cell.okWide Try.prog w .any b0 22 v) (h : DataW.trod enc Try.prog w base spare held fuel 22 [v] = some y) : ∃ K, In w v K := by
  obtain ⟨p, L, cap, he, b, off, row, hr⟩ := open_rows (α := Int) (f := fun n => [iS n]) (m := 1) (by omega) (fun _ => rfl) (by kernel_rfl) Try.underlying22
    (fun fuel cs x hx => by obtain ⟨n, h1, _⟩ := DataW.trod_int Try.underlying3 hx; exact ⟨n, h1⟩) h
  simp only [List.cons.injEq, and_true] at he
  subst he
  refine ⟨L, ?_⟩
  cases p with
  | none =>
    obtain ⟨h1, h2⟩ := slice_nil hv
    have h3 : L = [] := List.length_eq_zero_iff.1 h1
    subst h3; subst h2
    exact .inl ⟨rfl, rfl⟩
  | some a =>
    obtain ⟨h1, h2⟩ := slice_has hv
    obtain ⟨ab, ao, asp⟩ := a
    dsimp only at h1 h2
    subst h1
    refine .inr ⟨ab, ao, cap, rfl, h2, fun hL => ?_⟩
    obtain ⟨e1, ⟨T, fr, e2⟩, e3⟩ := hr hL
    cases e1
    have hs := row_split iS row L off e3
    have hlen : off ≤ row.length := by
      rcases Nat.lt_or_ge row.length off with hlt | hge
      · rw [List.drop_eq_nil_of_le (by omega)] at hs
        cases L with
        | nil => exact absurd rfl hL
        | cons r L => cases hs
      · exact hge
    refine ⟨row.take off, row.drop (off + L.length), T, fr, by rw [List.length_take]; omega, ?_⟩
    rw [← hs, List.take_append_drop]
    exact e2
end
end Go.Proofs.Ytnbilohdnopkfaa
