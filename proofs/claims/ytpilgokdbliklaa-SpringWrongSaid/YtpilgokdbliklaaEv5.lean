/-
  An evaluator over the model's code, and why it holds, part 5.
  Conditions: none; generic over the program.
-/
import Derived.Test.YtpilgokdbliklaaEv4
import Derived.Lib.SmallJoins
import Derived.ProofKit

set_option linter.unusedVariables false
set_option linter.unusedSimpArgs false

section
namespace Go.Ev
open Go.RowKit Go.Sx
set_option linter.unusedVariables false
set_option linter.unusedSimpArgs false
set_option linter.unusedSectionVars false
theorem lay_sub {xs vs : List Value} {off : Nat} (h : off + vs.length ≤ xs.length) : lay xs vs off = xs.take off ++ vs ++ xs.drop (off + vs.length) := by rw [lay_eq, Go.Sx.setL_eq _ _ _ h]
theorem natOf_some {k hi d : Nat} (h : k ≤ hi) : natOf (some (nS k)) d hi = some k := natOf_i h
section
variable {P : Program} {T e w : Nat} (he : elemOf P T = some e) (hz : sizeB P e = some w)
include he hz
theorem sl_hi {i off n c k : Nat} (hk : k ≤ c) : evSlice P T (.slice (some ⟨i, off, none⟩) n c) none (some (nS k)) none = some (.slice (some ⟨i, off, none⟩) k c) := by
  unfold evSlice
  simp only [he, hz, obind_s, natOf_some hk, fN_eq, show natOf none c c = some c from rfl, show natOf none 0 k = some 0 from rfl]
  show ocond true (Bool.rec (motive := fun _ => Option Value) (some (.slice (some ⟨i, off + 0 * w, none⟩) (k - 0) (c - 0))) (some (.slice (some ⟨i, off, none⟩) (k - 0) (c - 0))) (Nat.beq c 0)) = _
  rw [Nat.zero_mul, Nat.add_zero, Nat.sub_zero, Nat.sub_zero]
  cases Nat.beq c 0 <;> rfl
theorem sl_lo {i off n c l : Nat} (hl : l ≤ n) (hn : n ≤ c) (hc : l < c) : evSlice P T (.slice (some ⟨i, off, none⟩) n c) (some (nS l)) none none = some (.slice (some ⟨i, off + l * w, none⟩) (n - l) (c - l)) := by
  unfold evSlice
  simp only [he, hz, obind_s, natOf_some hl, fN_eq, show natOf none c c = some c from rfl, show natOf none n c = some n from rfl]
  show ocond true (Bool.rec (motive := fun _ => Option Value) (some (.slice (some ⟨i, off + l * w, none⟩) (n - l) (c - l))) (some (.slice (some ⟨i, off, none⟩) (n - l) (c - l))) (Nat.beq c l)) = _
  cases hb : Nat.beq c l with
  | true => have := Nat.eq_of_beq_eq_true hb; omega
  | false => rfl
theorem ss_lo {i off eo n c C l : Nat} (hC : mx2 n c = C) (hl : l ≤ n) (hc : l < C) : evSlice P T (.slice (some ⟨i, off, some eo⟩) n c) (some (nS l)) none none = some (.slice (some ⟨i, off + l * w, some (eo + l)⟩) (n - l) (C - l)) := by
  unfold evSlice
  simp only [he, hz, obind_s, natOf_some hl, fN_eq, hC, show natOf none n C = some n from rfl]
  rw [Nat.ble_eq_true_of_le (show Nat.succ l ≤ C from hc)]; rfl
theorem ss_hi {i off eo n c C k : Nat} (hC : mx2 n c = C) (hk : k ≤ C) (hc : 0 < C) : evSlice P T (.slice (some ⟨i, off, some eo⟩) n c) none (some (nS k)) none = some (.slice (some ⟨i, off, some eo⟩) k C) := by
  unfold evSlice
  simp only [he, hz, obind_s, natOf_some hk, fN_eq, hC, show natOf none 0 k = some 0 from rfl]
  rw [Nat.ble_eq_true_of_le (show Nat.succ 0 ≤ C from hc)]
  show some (Value.slice (some ⟨i, off + 0 * w, some (eo + 0)⟩) (k - 0) (C - 0)) = _
  rw [Nat.zero_mul]; rfl
end
theorem sl_nil {P : Program} {T e w : Nat} (he : elemOf P T = some e) (hz : sizeB P e = some w) : evSlice P T (.slice none 0 0) (some (nS 0)) none none = some (.slice none 0 0) := by
  unfold evSlice
  simp only [he, hz, obind_s]
  rfl
section
variable {α : Type} [Rwc α] {P : Program} {T el : Nat}
theorem wr_c {h : Tr Ob} {i off E : Nat} {xs vs : List Value} (hg : h.get i = some (.c xs E)) (hl : off + vs.length ≤ xs.length) : evWrite h i off vs = some (h.set (some (.c (xs.take off ++ vs ++ xs.drop (off + vs.length)) E)) i) := by
  unfold evWrite; rw [hg]
  show ocond (Nat.ble (off + len vs) (len xs)) (some (h.set (some (.c (lay xs vs off) E)) i)) = _
  rw [len_eq, len_eq, Nat.ble_eq_true_of_le hl, lay_sub hl]; rfl
theorem wr_g {h : Tr Ob} {i off E z : Nat} {xs vs : List Value} (hg : h.get i = some (.g xs E z)) (hl : off + vs.length ≤ xs.length) : evWrite h i off vs = some (h.set (some (.g (xs.take off ++ vs ++ xs.drop (off + vs.length)) E z)) i) := by
  unfold evWrite; rw [hg]
  show ocond (Nat.ble (off + len vs) (len xs)) (some (h.set (some (.g (lay xs vs off) E z)) i)) = _
  rw [len_eq, len_eq, Nat.ble_eq_true_of_le hl, lay_sub hl]; rfl
theorem reps_encs (z : α) : ∀ k, reps (Rwc.enc z) k = encs (List.replicate k z)
  | 0 => rfl
  | k + 1 => by rw [reps_s, app_eq, reps_encs z k, List.replicate_succ, encs_cons]
theorem sizeB_of {w : Nat} (ha : appT P T = some (el, w)) : elemOf P T = some el ∧ sizeB P el = some w := by
  obtain ⟨el', he, h⟩ := obind_some ha
  obtain ⟨⟨z, zs⟩, hz, h⟩ := obind_some h
  obtain ⟨by_, hb, h⟩ := obind_some h
  obtain ⟨hb2, h⟩ := ocond_some h
  cases h
  exact ⟨he, (elz_ok hz).1⟩

/-! ### Clone -/
noncomputable def cloneF (P : Program) (T k : Nat) (call : CallF) (a0 : Value) (h : Tr Ob) (N : Nat) : OpR :=
  (obind (Ev.evBin P .eql T (.tmp k) (.const (.slice none 0 0)) a0 (.slice none 0 0)) (fun v0 => (Ev.cnd v0 (some ((.slice none 0 0), (h, N))) (orun (Ev.evBuildSlice P T 0 [] h N) (fun v1 h2 N3 => (orun (Ev.evAppend P T v1 a0 h2 N3) (fun v4 h5 N6 => (some (v4, (h5, N6))))))))))
theorem clone_ok {k : Nat} (call : CallF) (hn1 : evBin P .eql T (.tmp k) (.const (.slice none 0 0)) (.slice none 0 0) (.slice none 0 0) = some (.bool true))
    (hn2 : ∀ a n c, evBin P .eql T (.tmp k) (.const (.slice none 0 0)) (.slice (some a) n c) (.slice none 0 0) = some (.bool false))
    (hb : ∀ h N, evBuildSlice P T 0 [] h N = some (.slice (some ⟨N, 0, none⟩) 0 0, h.set (some (.c [] el)) N, N + 1)) (ha : appT P T = some (el, Rwc.w α))
    {v : Value} {L : List α} {h : Tr Ob} {N : Nat} (hl : L.length ≤ 100000) (hs : Sl h N v L) : Rn (cloneF P T k call v h N) fun v' h' N' => OwR N N' h' el v' L ∧ Gw h N h' N' := by
  unfold cloneF
  obtain ⟨p, c, rfl⟩ := hs.sl
  cases p with
  | none =>
    obtain ⟨h1, h2⟩ := hs.nil_ _ _ rfl
    have hL : L = [] := List.length_eq_zero_iff.1 h1
    subst hL; subst h2
    refine Rn.bind hn1 (Rn.cndBT rfl (Rn.ret ⟨OwR.nil _ _ _ _, Gw.of (Fr.refl _ _) (Nat.le_refl _)⟩))
  | some a =>
    refine Rn.bind (hn2 _ _ _) (Rn.cndBF rfl (Rn.runE (hb _ _) ?_))
    refine Rn.call (OwR.app (lo := N) (L := []) ha (.inr ⟨N, Nat.le_refl _, by omega, .inr (.inl ⟨rfl, by rw [Tr.get_same]; rfl⟩)⟩) (by omega) hs ((Fr_set (Nat.le_refl _)).2 (Fr.refl _ _)) (by simp; omega)) ?_
    rintro v' h' N' ⟨o, g1, g2, g3⟩
    refine Rn.ret ⟨by simpa using o, Gw.of ((g1 (Nat.le_refl _)).2 ((Fr_set (Nat.le_refl _)).2 (Fr.refl _ _))) (by omega)⟩

/-! ### IndexFunc of rows of more than one cell -/
noncomputable def idxF (w : Nat) (call : CallF) (a0 a1 : Value) (h : Tr Ob) (N : Nat) : OpR :=
  (obind (Ev.lenS a0) (fun v0 => (lpR (α := C4) (fun v1 v2 v3 v4 d5 h6 N7 => none) (fun g8 v9 v10 v11 v12 d13 h14 N15 => (obind (Ev.iop .lss v12 v11) (fun v16 => (Ev.cnd v16 (obind (Ev.iadS w v9 v12) (fun v17 => (obind (Ev.ldN w h14 v17) (fun v18 => (orun (Ev.callW [] call v10 [v18] h14 N15) (fun v19 h20 N21 => (Ev.cnd v19 (obind (Ev.unmark d13 h20) (fun h22 => (some (v12, (h22, N21))))) (obind (Ev.iop .add v12 (.int .i64 1)) (fun v23 => (g8 v9 v10 v11 v23 d13 h20 N21)))))))))) (obind (Ev.unmark d13 h14) (fun h24 => (some ((.int .i64 (-1)), (h24, N15))))))))) a0 a1 v0 (.int .i64 0) [] h N)))
/-- The index of the first thing that is so, -1 if there is none. -/
def idxP (p : α → Bool) : List α → Int → Int
  | [], _ => -1
  | y :: l, k => if p y = true then k else idxP p l (k + 1)
theorem idxP_spec (p : α → Bool) : ∀ (L : List α) (k : Int), (idxP p L k = -1 ∧ L.any p = false) ∨ ∃ j : Nat, idxP p L k = k + j ∧ j < L.length ∧ (∃ x, L[j]? = some x ∧ p x = true) ∧ ∀ y ∈ L.take j, p y = false
  | [], k => .inl ⟨rfl, rfl⟩
  | y :: l, k => by
    by_cases e : p y = true
    · exact .inr ⟨0, by simp [idxP, e], by simp, ⟨y, rfl, e⟩, by simp⟩
    · have e' : p y = false := by simpa using e
      rcases idxP_spec p l (k + 1) with ⟨h1, h2⟩ | ⟨j, h1, h2, ⟨x, h3, h4⟩, h5⟩
      · exact .inl ⟨by simp [idxP, e', h1], by simp [e', h2]⟩
      · refine .inr ⟨j + 1, by simp only [idxP, e', h1]; simp; omega, by simp; omega, ⟨x, by simpa using h3, h4⟩, ?_⟩
        intro z hz
        rw [List.take_succ_cons] at hz
        rcases List.mem_cons.1 hz with h6 | h6
        · rw [h6]; exact e'
        · exact h5 z h6
theorem idxF_ok {w : Nat} (hw : w = Rwc.w α) (call : CallF) {fv v : Value} {L : List α} {h : Tr Ob} {N : Nat} (p : α → Bool) (hl : L.length < 100000) (hs : Sl h N v L)
    (hp : ∀ x ∈ L, ∀ h1 N1, Fr h N h1 → N ≤ N1 → Rn (callW [] call fv [.agg ⟨Rwc.enc x⟩] h1 N1) fun u h2 N2 => u = .bool (p x) ∧ Gw h1 N1 h2 N2) :
    Rn (idxF w call v fv h N) fun u h' N' => u = iS (idxP p L 0) ∧ Gw h N h' N' := by
  unfold idxF
  refine Rn.bind hs.len ?_
  refine Rn.loop4 (fun n u y l k g M => ∃ i : Nat, u = v ∧ y = fv ∧ l = nS L.length ∧ k = nS i ∧ i + n = L.length ∧ Fr h N g ∧ N ≤ M ∧ idxP p (L.drop i) i = idxP p L 0) L.length (by omega) ⟨0, rfl, rfl, rfl, rfl, by omega, Fr.refl _ _, Nat.le_refl _, rfl⟩ ?_
  rintro n g ih _ _ _ _ h1 N1 ⟨i, rfl, rfl, rfl, rfl, e1, f1, l1, q1⟩
  refine Rn.bind (iop_lss _ _) (Rn.cnd (fun hlt => ?_) (fun hge => ?_))
  · obtain ⟨x, hx⟩ := at_of (L := L) (k := i) (by omega)
    rw [drop_at hx] at q1
    refine Rn.bind (hs.iad hw (by omega)) (Rn.bind (hs.ldN (zs := Rwc.enc x) f1 hw hx (by rw [Nat.zero_add]; exact Nat.ble_eq_true_of_le (Nat.le_refl _)) (by rw [tak_eq, drp_eq, List.drop_zero, hw, ← Rwc.len x, List.take_length])) ?_)
    refine Rn.call (hp x (List.mem_of_getElem? hx) h1 N1 f1 l1) ?_
    rintro _ h2 N2 ⟨rfl, g2, o2, l2⟩
    refine Rn.cndB (fun hb => ?_) (fun hb => ?_)
    · refine Rn.unm (Rn.ret ⟨?_, Gw.of ((g2 l1).2 f1) (by omega)⟩)
      simp only [idxP, hb, if_true] at q1
      rw [← q1]
    · refine Rn.bind (zadd1 (by omega)) (ih (n - 1) (by omega) _ _ _ _ _ _ ⟨i + 1, rfl, rfl, rfl, rfl, by omega, (g2 l1).2 f1, by omega, ?_⟩)
      simp only [idxP, hb] at q1
      exact q1
  · rw [List.drop_eq_nil_of_le (by omega)] at q1
    exact Rn.unm (Rn.ret ⟨by rw [← q1]; rfl, Gw.of f1 l1⟩)

/-! ### Lists that may be written -/
/-- A block that begins with rows. -/
def Bl (h : Tr Ob) (i : Nat) (L : List α) (rest : List Value) : Prop := (∃ E, h.get i = some (.c (encs L ++ rest) E)) ∨ ∃ E z, h.get i = some (.g (encs L ++ rest) E z)
theorem Bl.keep {h h' : Tr Ob} {i : Nat} {L : List α} {rest : List Value} (b : Bl h i L rest) (e : h'.get i = h.get i) : Bl h' i L rest := by unfold Bl; rw [e]; exact b
theorem Bl.cells {h : Tr Ob} {i : Nat} {L : List α} {rest : List Value} (b : Bl h i L rest) (off : Nat) : cellsFrom h i off = some ((encs L ++ rest).drop off) := by
  rcases b with ⟨E, b⟩ | ⟨E, z, b⟩
  · exact cellsFrom_c b off
  · exact cellsFrom_g b off
theorem Bl.sl {h : Tr Ob} {i : Nat} {L : List α} {rest : List Value} (b : Bl h i L rest) {N c : Nat} {sp : Option Nat} (hi : i < N) : Sl h N (.slice (some ⟨i, 0, sp⟩) L.length c) L :=
  ⟨⟨encs_len L, _, _, rfl, .inr ⟨i, 0, sp, _, rfl, hi, b.cells 0, by rw [List.drop_zero, ← encs_len, List.take_left']; rfl⟩⟩, fun n c e => by cases e⟩
theorem Bl.wr {h : Tr Ob} {i off : Nat} {L M : List α} {rest rest' vs : List Value} (b : Bl h i L rest) (hl : off + vs.length ≤ (encs L ++ rest).length) (he : (encs L ++ rest).take off ++ vs ++ (encs L ++ rest).drop (off + vs.length) = encs M ++ rest') :
    ∃ ob, evWrite h i off vs = some (h.set ob i) ∧ Bl (h.set ob i) i M rest' := by
  rcases b with ⟨E, b⟩ | ⟨E, z, b⟩
  · have hw := wr_c b hl
    rw [he] at hw
    exact ⟨_, hw, .inl ⟨E, Tr.get_same _ _ _⟩⟩
  · have hw := wr_g b hl
    rw [he] at hw
    exact ⟨_, hw, .inr ⟨E, z, Tr.get_same _ _ _⟩⟩
/-- Some cells of a row are written. -/
theorem Bl.sto {w m k d i n c : Nat} {sp : Option Nat} {h : Tr Ob} {u : Value} {L : List α} {rest : List Value} {x y : α} (b : Bl h i L rest) (hw : w = Rwc.w α) (hx : L[k]? = some x) (hm : Nat.beq (len (cel u)) m = true) (hf : flatL (cel u) = true)
    (hd : Nat.ble (d + m) w = true) (hy : lay (Rwc.enc x) (cel u) d = Rwc.enc y) : ∃ ob, Go.Ev.sto m (ptr w (.slice (some ⟨i, 0, sp⟩) n c) k d) u h = some (h.set ob i) ∧ Bl (h.set ob i) i (L.set k y) rest := by
  subst hw
  have hk := lt_of_at hx
  have hd := Nat.le_of_ble_eq_true hd
  have hm := Nat.eq_of_beq_eq_true hm
  rw [len_eq] at hm
  have h3 : (k + 1) * Rwc.w α ≤ L.length * Rwc.w α := Nat.mul_le_mul_right _ hk
  rw [Nat.add_mul, Nat.one_mul] at h3
  have hlen : k * Rwc.w α + d + (cel u).length ≤ (encs L ++ rest).length := by rw [List.length_append, encs_len]; omega
  have key : (encs L ++ rest).take (k * Rwc.w α + d) ++ cel u ++ (encs L ++ rest).drop (k * Rwc.w α + d + (cel u).length) = encs (L.set k y) ++ rest := by
    have hsplit : encs L = encs (L.take k) ++ (Rwc.enc x ++ encs (L.drop (k + 1))) := by
      rw [← encs_cons, ← drop_at hx, ← encs_app, List.take_append_drop]
    have hset : encs (L.set k y) = encs (L.take k) ++ (Rwc.enc y ++ encs (L.drop (k + 1))) := by
      rw [List.set_eq_take_append_cons_drop, if_pos hk, encs_app, encs_cons]
    have hl0 : (encs (L.take k)).length = k * Rwc.w α := by rw [encs_len, List.length_take, Nat.min_eq_left (by omega)]
    have hye : Rwc.enc y = (Rwc.enc x).take d ++ cel u ++ (Rwc.enc x).drop (d + (cel u).length) := by
      rw [← hy, lay_sub (by rw [Rwc.len]; omega)]
    have hxl := Rwc.len x
    rw [hset, hye, hsplit]
    simp only [List.append_assoc]
    rw [List.take_append, hl0, List.take_of_length_le (by rw [hl0]; omega), Nat.add_sub_cancel_left, List.take_append_of_le_length (by rw [hxl]; omega)]
    rw [List.drop_append, hl0, List.drop_eq_nil_of_le (by rw [hl0]; omega), List.nil_append, show k * Rwc.w α + d + (cel u).length - k * Rwc.w α = d + (cel u).length by omega, List.drop_append_of_le_length (by rw [hxl]; omega)]
    simp only [List.append_assoc]
  obtain ⟨ob, h5, h6⟩ := b.wr hlen key
  refine ⟨ob, ?_, h6⟩
  show ocond (Nat.beq (len (cel u)) m) (ocond (allF (cel u)) (evWrite h i (0 + k * Rwc.w α + d) (cel u))) = _
  rw [len_eq, hm, Nat.beq_refl, flatL_all hf, Nat.zero_add, h5]; rfl
/-- A list whose block, one of those from lo on and below hi, may be written. -/
def WrR (lo hi : Nat) (h : Tr Ob) (v : Value) (L : List α) : Prop := (v = .slice none 0 0 ∧ L = []) ∨ ∃ i sp c rest, lo ≤ i ∧ i < hi ∧ v = .slice (some ⟨i, 0, sp⟩) L.length c ∧ Bl h i L rest
theorem WrR.of {lo hi : Nat} {h : Tr Ob} {el : Nat} {v : Value} {L : List α} (o : OwR lo hi h el v L) : WrR lo hi h v L := by
  rcases o with e | ⟨i, h1, h2, e | ⟨e1, e2⟩ | ⟨e1, e2⟩⟩
  · exact .inl e
  · exact .inl e
  · exact .inr ⟨i, none, L.length, [], h1, h2, e1, .inl ⟨el, by rw [List.append_nil]; exact e2⟩⟩
  · exact .inr ⟨i, some 0, 0, [], h1, h2, e1, .inr ⟨el, _, by rw [List.append_nil]; exact e2⟩⟩
theorem WrR.keep {lo hi : Nat} {h h' : Tr Ob} {v : Value} {L : List α} (o : WrR lo hi h v L) (hk : ∀ j, lo ≤ j → j < hi → h'.get j = h.get j) : WrR lo hi h' v L := by
  rcases o with e | ⟨i, sp, c, rest, h1, h2, h3, h4⟩
  · exact .inl e
  · exact .inr ⟨i, sp, c, rest, h1, h2, h3, h4.keep (hk i h1 h2)⟩
theorem WrR.wide {lo hi lo' hi' : Nat} {h : Tr Ob} {v : Value} {L : List α} (o : WrR lo hi h v L) (g1 : lo' ≤ lo) (g2 : hi ≤ hi') : WrR lo' hi' h v L := by
  rcases o with e | ⟨i, sp, c, rest, h1, h2, h3, h4⟩
  · exact .inl e
  · exact .inr ⟨i, sp, c, rest, by omega, by omega, h3, h4⟩
theorem WrR.sl {lo hi : Nat} {h : Tr Ob} {v : Value} {L : List α} {N : Nat} (o : WrR lo hi h v L) (hN : hi ≤ N) : Sl h N v L := by
  rcases o with ⟨rfl, rfl⟩ | ⟨i, sp, c, rest, h1, h2, rfl, h4⟩
  · exact Sl.nil _ _
  · exact h4.sl (by omega)
theorem WrR.sto {lo hi w m k d : Nat} {h : Tr Ob} {v u : Value} {L : List α} {x y : α} {N : Nat} (o : WrR lo hi h v L) (hw : w = Rwc.w α) (hx : L[k]? = some x) (hm : Nat.beq (len (cel u)) m = true) (hf : flatL (cel u) = true)
    (hd : Nat.ble (d + m) w = true) (hy : lay (Rwc.enc x) (cel u) d = Rwc.enc y) : ∃ h', Go.Ev.sto m (ptr w v k d) u h = some h' ∧ WrR lo hi h' v (L.set k y) ∧ Gl' lo h N h' N ∧ ∀ j, hi ≤ j → h'.get j = h.get j := by
  rcases o with ⟨rfl, rfl⟩ | ⟨i, sp, c, rest, h1, h2, rfl, h4⟩
  · simp at hx
  obtain ⟨ob, h5, h6⟩ := h4.sto (n := L.length) (c := c) (sp := sp) hw hx hm hf hd hy
  exact ⟨_, h5, .inr ⟨i, sp, c, rest, h1, h2, by rw [List.length_set], h6⟩, Gl'.of ((Fr_set h1).2 (Fr.refl _ _)) (Nat.le_refl _), fun j hj => Tr.get_other _ _ (by omega)⟩

/-! ### DeleteFunc of rows of more than one cell -/
noncomputable def delF (P : Program) (T E w : Nat) (zs : List Value) (st : Ev.St) (call : CallF) (a0 a1 : Value) (h : Tr Ob) (N : Nat) : OpR :=
  (orun (idxF w call a0 a1 h N) (fun v0 h1 N2 => (obind (Ev.iop .eql v0 (.int .i64 (-1))) (fun v3 => (Ev.cnd v3 (some (a0, (h1, N2))) (obind (Ev.iop .add v0 (.int .i64 1)) (fun v4 => (lpR (α := C4) (fun v5 v6 v7 v8 d9 h10 N11 => none) (fun g12 v13 v14 v15 v16 d17 h18 N19 => (obind (Ev.lenS v13) (fun v20 => (obind (Ev.iop .lss v16 v20) (fun v21 => (Ev.cnd v21 (obind (Ev.iadS w v13 v16) (fun v22 => (obind (Ev.ldN w h18 v22) (fun v23 => (fN (.succ N19) (fun N24 => (obind (Ev.sto w (.pointer (some ⟨N19, 0, none⟩)) v23 (Tr.set h18 (some (.c zs E)) N19)) (fun h25 => (obind (Ev.ldN w h25 (.pointer (some ⟨N19, 0, none⟩))) (fun v26 => (orun (Ev.callW st call v14 [v26] h25 N24) (fun v27 h28 N29 => (obind (Ev.unV P .not v27) (fun v30 => (jnR (α := C4) (fun v31 v32 v33 v34 d35 h36 N37 => (obind (Ev.iop .add v34 (.int .i64 1)) (fun v38 => (g12 v31 v32 v33 v38 d35 h36 N37)))) (fun g39 => (Ev.cnd v30 (obind (Ev.ldN w h28 (.pointer (some ⟨N19, 0, none⟩))) (fun v40 => (obind (Ev.iadS w v13 v15) (fun v41 => (obind (Ev.sto w v41 v40 h28) (fun h42 => (obind (Ev.iop .add v15 (.int .i64 1)) (fun v43 => (g39 v13 v14 v43 v16 d17 h42 N29))))))))) (g39 v13 v14 v15 v16 d17 h28 N29)))))))))))))))))) (obind (Ev.evSlice P T v13 (some v15) none none) (fun v44 => (orun (Ev.evClear P T v44 h18 N19) (fun v45 h46 N47 => (obind (Ev.evSlice P T v13 none (some v15) none) (fun v48 => (obind (Ev.unmark d17 h46) (fun h49 => (some (v48, (h49, N47))))))))))))))))) a0 a1 v0 v4 [] h1 N2))))))))
theorem ldN_enc {h : Tr Ob} {i T w : Nat} {x : α} (hg : h.get i = some (.c (Rwc.enc x) T)) (hw : w = Rwc.w α) : Go.Ev.ldN w h (.pointer (some ⟨i, 0, none⟩)) = some (.agg ⟨Rwc.enc x⟩) := by
  rw [ldN_c hg (by rw [hw, Rwc.len]; omega), List.drop_zero, hw, ← Rwc.len x, List.take_length]
theorem sto_enc {h : Tr Ob} {i T w : Nat} {zs : List Value} {x : α} (hg : h.get i = some (.c zs T)) (hz : zs.length = w) (hw : w = Rwc.w α) : Go.Ev.sto w (.pointer (some ⟨i, 0, none⟩)) (.agg ⟨Rwc.enc x⟩) h = some (h.set (some (.c (Rwc.enc x) T)) i) := by
  subst hw
  rw [sto_c (v := .agg ⟨Rwc.enc x⟩) hg (show (Rwc.enc x).length = _ from Rwc.len x) (flatL_all (Rwc.flat x)) (by rw [hz]; omega)]
  show some (h.set (some (.c (lay zs (Rwc.enc x) 0) T)) i) = _
  rw [lay_sub (by rw [Rwc.len, hz]; omega), List.take_zero, List.nil_append, List.drop_eq_nil_of_le (by rw [Rwc.len, hz]; omega), List.append_nil]
theorem filter_all {p : α → Bool} : ∀ {l : List α}, (∀ y ∈ l, p y = false) → l.filter (fun x => !p x) = l
  | [], _ => rfl
  | y :: l, h => by
    rw [List.filter_cons, if_pos (by rw [h y List.mem_cons_self]; rfl), filter_all fun z hz => h z (List.mem_cons_of_mem _ hz)]
/-! ### Insert of one row -/
end
end Go.Ev
end

section
namespace Go.Ev
open Go.RowKit Go.Sx
set_option linter.unusedVariables false
set_option linter.unusedSimpArgs false
set_option linter.unusedSectionVars false
section
variable {P : Program}
theorem still_bool {d : Nat} {T : TypeId} {i j : Bool} (hT : P.underlying T = some .bool) : still P (Op.equalIn (d + 1) T (.bool i) (.bool j)) = some (decide (i = j)) := by
  rw [Op.equalIn, still_bnd, still_undl hT, obind_s]
  simp only []
  first
  | rfl
  | (cases i <;> cases j <;> rfl)
end
/-- A slice that came in: nil, or with room told. -/
def Pl (v : Value) (n : Nat) : Prop := (v = .slice none 0 0 ∧ n = 0) ∨ ∃ i off c, v = .slice (some ⟨i, off, none⟩) n c ∧ n ≤ c
section
variable {α : Type} [Rwc α] {P : Program} {T e : Nat}
theorem Sl.to {h : Tr Ob} {N k : Nat} {v : Value} {L : List α} (s : Sl h N v L) (w : Pl v L.length) (he : elemOf P T = some e) (hz : sizeB P e = some (Rwc.w α)) (hk : k ≤ L.length) :
    ∃ v', evSlice P T v none (some (nS k)) none = some v' ∧ Sl h N v' (L.take k) ∧ Pl v' k := by
  rcases w with ⟨rfl, h1⟩ | ⟨i, off, c, rfl, h1⟩
  · have hL : L = [] := List.length_eq_zero_iff.1 h1
    subst hL
    have hk0 : k = 0 := by simpa using hk
    subst hk0
    refine ⟨.slice none 0 0, ?_, Sl.nil _ _, .inl ⟨rfl, rfl⟩⟩
    unfold evSlice
    simp only [he, hz, obind_s]
    rfl
  · refine ⟨_, sl_hi he hz (by omega), ?_, .inr ⟨i, off, c, rfl, by omega⟩⟩
    obtain ⟨p, c', e1, hh⟩ := s.sh.at_
    cases e1
    have hl : (L.take k).length = k := by rw [List.length_take, Nat.min_eq_left hk]
    refine ⟨⟨encs_len _, _, _, by rw [hl], ?_⟩, fun n c e => by cases e⟩
    rcases hh with hh | ⟨i', off', sp, ys, e2, k2, k3, k4⟩
    · left; omega
    · cases e2
      refine .inr ⟨_, _, _, ys, rfl, k2, k3, ?_⟩
      rw [← encs_take, ← k4, List.take_take, hl, Nat.min_eq_left (Nat.mul_le_mul_right _ hk)]
theorem Sl.from {h : Tr Ob} {N k : Nat} {v : Value} {L : List α} (s : Sl h N v L) (w : Pl v L.length) (he : elemOf P T = some e) (hz : sizeB P e = some (Rwc.w α)) (hk : k ≤ L.length) :
    ∃ v', evSlice P T v (some (nS k)) none none = some v' ∧ Sl h N v' (L.drop k) ∧ Pl v' (L.length - k) := by
  rcases w with ⟨rfl, h1⟩ | ⟨i, off, c, rfl, h1⟩
  · have hL : L = [] := List.length_eq_zero_iff.1 h1
    subst hL
    have hk0 : k = 0 := by simpa using hk
    subst hk0
    exact ⟨.slice none 0 0, sl_nil he hz, Sl.nil _ _, .inl ⟨rfl, rfl⟩⟩
  · have hd : (L.drop k).length = L.length - k := List.length_drop
    obtain ⟨p, c', e1, hh⟩ := s.sh.at_
    cases e1
    by_cases hc : k < c
    · refine ⟨_, sl_lo he hz hk h1 hc, ⟨⟨encs_len _, _, _, by rw [hd], ?_⟩, fun n c e => by cases e⟩, .inr ⟨i, _, _, rfl, by omega⟩⟩
      rcases hh with hh | ⟨i', off', sp, ys, e2, k2, k3, k4⟩
      · left; omega
      · cases e2
        refine .inr ⟨_, _, _, _, rfl, k2, cellsFrom_add k3 _, ?_⟩
        rw [← encs_drop, ← k4, List.drop_take, hd, Nat.sub_mul]
    · have hk' : k = L.length := by omega
      subst hk'
      refine ⟨.slice (some ⟨i, off, none⟩) 0 (c - L.length), ?_, by rw [List.drop_length]; exact Sl.empty _ _ _ _, .inr ⟨i, off, _, by rw [Nat.sub_self], by omega⟩⟩
      unfold evSlice
      simp only [he, hz, obind_s, natOf_some (Nat.le_refl _), fN_eq, show natOf none c c = some c from rfl, show natOf none L.length c = some L.length from rfl]
      have hb : Nat.beq c L.length = true := by
        have : c = L.length := by omega
        rw [this]; exact Nat.beq_refl _
      show ocond true (Bool.rec (motive := fun _ => Option Value) (some (Value.slice (some ⟨i, off + L.length * Rwc.w α, none⟩) (L.length - L.length) (c - L.length))) (some (Value.slice (some ⟨i, off, none⟩) (L.length - L.length) (c - L.length))) (Nat.beq c L.length)) = _
      rw [hb, Nat.sub_self]; rfl
end
end Go.Ev
end

section
namespace Go.Ev
open Go.RowKit Go.Sx
set_option linter.unusedVariables false
section
variable {Q : Value → Tr Ob → Nat → Prop}
/-- What was not asked for is not wanted. -/
theorem wnt_u (c : Bool) (l : List Value) : wntV (.tuple ⟨l⟩) c = some false := rfl
end
end Go.Ev
end

section
namespace Go.Ev
open Go.RowKit Go.Sx Go.ChangeShapes Go.WideShapes Go.ChangeAt
set_option linter.unusedVariables false
set_option linter.unusedSimpArgs false
set_option linter.unusedSectionVars false
theorem RlL.agg {σ : Sg} {as bs : List Value} (t : RlL σ as bs) : Rl σ (.agg ⟨as⟩) (.agg ⟨bs⟩) := .agg t.1 t.2
theorem RlL.plain {σ : Sg} : ∀ {as : List Value}, (∀ v ∈ as, plain v = true) → RlL σ as as := fun h => flat_rl σ h
section
variable {α : Type} [Rwc α] {P : Program} {w : World} {v : Value}
/-- The capacity of a list that came in. -/
theorem in_pl {t e : TypeId} {b0 : Nat} {K : List α} (ht : P.underlying t = some (.slice e)) (hv : Cell.okWide P w .any b0 t v) (hin : In w v K) : Pl v K.length := by
  rcases hin with ⟨rfl, rfl⟩ | ⟨b, off, cap, rfl, _, _⟩
  · exact .inl ⟨rfl, rfl⟩
  · unfold Cell.okWide Cell.ok at hv
    rw [ht] at hv
    exact .inr ⟨b, off, cap, rfl, hv.1⟩
end
section
variable {α : Type} [Rwc α]
/-- A list that came in is told, its capacity too. -/
theorem tell2 {W : World} {v : Value} {K : List α} (hin : In W v K) (hp : ∀ u ∈ encs K, plain u = true) {σ : Sg} {h : Tr Ob} {i : Nat} (T0 : Told W σ h i) :
    ∃ σ' h' v', Told W σ' h' (i + 1) ∧ SLe σ σ' ∧ Fr h i h' ∧ Rl σ' v' v ∧ Sl h' (i + 1) v' K ∧ (Pl v K.length → Pl v' K.length) := by
  obtain ⟨Hr, hw, hs⟩ := T0
  rcases hin with ⟨rfl, rfl⟩ | ⟨b, off, cap, rfl, hb, hc⟩
  · exact ⟨σ, h, .slice none 0 0, ⟨Hr, hw, fun j hj => hs j (by omega)⟩, SLe.refl σ, Fr.refl h i, .sc rfl, Sl.nil _ _, fun h => h⟩
  · have hle : SLe σ (upd σ i (b, 0)) := by
      intro j x hj
      unfold upd
      by_cases e : j = i
      · subst e; rw [hs j (Nat.le_refl _)] at hj; cases hj
      · rw [if_neg e]; exact hj
    have hup : ∀ j, i + 1 ≤ j → upd σ i (b, 0) j = none := fun j hj => by unfold upd; rw [if_neg (by omega)]; exact hs j (by omega)
    have hlow : ∀ j b' r, upd σ i (b, 0) j = some (b', r) → b' < W.heap.size := by
      intro j b' r hj
      unfold upd at hj
      by_cases e : j = i
      · rw [if_pos e] at hj; cases hj; exact hb
      · rw [if_neg e] at hj; exact Hr.low j b' r hj
    have mk : ∀ o : Option Ob, (∀ x, o = some x → OR (upd σ i (b, 0)) W b 0 x) → wrB o = false → HR (.all W) (upd σ i (b, 0)) (h.set o i) W ∧ (∀ j, wrB ((h.set o i).get j) = false) := by
      intro o ho hwo
      have hww : ∀ j, wrB ((h.set o i).get j) = false := by
        intro j
        by_cases e : j = i
        · subst e; rw [Tr.get_same]; exact hwo
        · rw [Tr.get_other _ _ e]; exact hw j
      refine ⟨⟨Hr.bel, hlow, fun j b' r x hj hx => ?_, fun j _ _ _ _ _ _ h1 _ => (by rw [hww j] at h1; cases h1), fun j _ _ _ h1 => (by rw [hww j] at h1; cases h1)⟩, hww⟩
      by_cases e : j = i
      · subst e
        rw [Tr.get_same] at hx
        unfold upd at hj
        rw [if_pos rfl] at hj
        cases hj
        exact ho x hx
      · rw [Tr.get_other _ _ e] at hx
        unfold upd at hj
        rw [if_neg e] at hj
        exact (Hr.ob j b' r x hj hx).mono hle rfl
    have fr : ∀ o : Option Ob, Fr h i (h.set o i) := fun o j hj => Tr.get_other _ _ (by omega)
    by_cases hK : K = []
    · subst hK
      obtain ⟨m1, m2⟩ := mk none (fun x hx => by cases hx) rfl
      exact ⟨_, _, .slice (some ⟨i, off, none⟩) 0 cap, ⟨m1, m2, hup⟩, hle, fr _, .sl (r := 0) (by unfold upd; rw [if_pos rfl]), Sl.empty _ _ _ _, fun _ => .inr ⟨i, off, cap, rfl, Nat.zero_le _⟩⟩
    · obtain ⟨pre, rest, T, fz, h1, h2⟩ := hc hK
      have hpl : Pl (.slice (some ⟨b, off, none⟩) K.length cap) K.length → Pl (.slice (some ⟨i, off, none⟩) K.length cap) K.length := by
        rintro (⟨e, _⟩ | ⟨_, _, _, e, h⟩)
        · cases e
        · cases e; exact .inr ⟨i, off, cap, rfl, h⟩
      obtain ⟨m1, m2⟩ := mk (some (.r off (encs K))) (fun x hx => by cases hx; exact ⟨pre, _, rest, T, fz, h1, flat_rl _ hp, h2⟩) rfl
      refine ⟨_, _, .slice (some ⟨i, off, none⟩) K.length cap, ⟨m1, m2, hup⟩, hle, fr _, .sl (r := 0) (by unfold upd; rw [if_pos rfl]), ⟨⟨encs_len K, _, _, rfl, .inr ⟨i, off, none, _, rfl, by omega, cellsFrom_r (Tr.get_same _ _ _) (Nat.le_refl _), ?_⟩⟩, fun n c e => (by cases e)⟩, hpl⟩
      rw [Nat.sub_self, List.drop_zero, ← encs_len, List.take_length]
end
end Go.Ev
end

section
namespace Go.Ev
open Go.RowKit Go.Sx
set_option linter.unusedVariables false
def Im (R P : Prop) : Prop := R → P
theorem Im.id {R : Prop} : Im R R := fun h => h
theorem Im.go {R P : Prop} (h : Im R P) (r : R) : P := h r
section
variable {α : Type} {R : Prop} {Q : Value → Tr Ob → Nat → Prop}
theorem Im.runS {a : Value} {b : Tr Ob} {c : Nat} {f : Value → Tr Ob → Nat → OpR} (k : Im R (Rn (f a b c) Q)) : Im R (Rn (orun (some (a, b, c)) f) Q) := fun r => Rn.runS (k r)
theorem Im.runE {x : OpR} {a : Value} {b : Tr Ob} {c : Nat} {f : Value → Tr Ob → Nat → OpR} (e : x = some (a, b, c)) (k : Im R (Rn (f a b c) Q)) : Im R (Rn (orun x f) Q) := fun r => Rn.runE e (k r)
theorem Im.num {n m : Nat} {f : Nat → OpR} (e : n = m) (k : Im R (Rn (f m) Q)) : Im R (Rn (fN n f) Q) := fun r => Rn.num e (k r)
theorem Im.unm {h : Tr Ob} {f : Tr Ob → OpR} (k : Im R (Rn (f h) Q)) : Im R (Rn (obind (unmark [] h) f) Q) := fun r => Rn.unm (k r)
theorem Im.selT {x y : OpR} {g : Value → Tr Ob → Nat → OpR} (k : Im R (Rn (orun y g) Q)) : Im R (Rn (orun (sel true x y) g) Q) := fun r => Rn.selT (k r)
theorem Im.selF {x y : OpR} {g : Value → Tr Ob → Nat → OpR} (k : Im R (Rn (orun x g) Q)) : Im R (Rn (orun (sel false x y) g) Q) := fun r => Rn.selF (k r)
theorem Im.cndT {p : Prop} {d : Decidable p} {x y : OpR} (hp : p) (t : Im R (Rn x Q)) : Im R (Rn (cnd (.bool (@decide p d)) x y) Q) := fun r => Rn.cndT hp (t r)
theorem Im.cndF {p : Prop} {d : Decidable p} {x y : OpR} (hp : ¬ p) (t : Im R (Rn y Q)) : Im R (Rn (cnd (.bool (@decide p d)) x y) Q) := fun r => Rn.cndF hp (t r)
theorem Im.cndBT {b : Bool} {x y : OpR} (hb : b = true) (t : Im R (Rn x Q)) : Im R (Rn (Go.Ev.cnd (.bool b) x y) Q) := fun r => Rn.cndBT hb (t r)
theorem Im.cndBF {b : Bool} {x y : OpR} (hb : b = false) (t : Im R (Rn y Q)) : Im R (Rn (Go.Ev.cnd (.bool b) x y) Q) := fun r => Rn.cndBF hb (t r)
theorem Im.cndNT {b : Bool} {x y : OpR} (hb : b = false) (t : Im R (Rn x Q)) : Im R (Rn (Go.Ev.cnd (.bool (!b)) x y) Q) := fun r => Rn.cndNT hb (t r)
theorem Im.cndNF {b : Bool} {x y : OpR} (hb : b = true) (t : Im R (Rn y Q)) : Im R (Rn (Go.Ev.cnd (.bool (!b)) x y) Q) := fun r => Rn.cndNF hb (t r)
theorem Im.bind {x : Option α} {a : α} {f : α → OpR} (e : x = some a) (k : Im R (Rn (f a) Q)) : Im R (Rn (obind x f) Q) := fun r => Rn.bind e (k r)
theorem Im.cond {b : Bool} {x : OpR} (e : b = true) (k : Im R (Rn x Q)) : Im R (Rn (ocond b x) Q) := fun r => Rn.cond e (k r)
theorem Im.runB {x : Option α} {f : α → OpR} {g : Value → Tr Ob → Nat → OpR} {a : α} (e : x = some a) (k : Im R (Rn (orun (f a) g) Q)) : Im R (Rn (orun (obind x f) g) Q) := fun r => Rn.runB e (k r)
theorem Im.runC {b : Bool} {x : OpR} {g : Value → Tr Ob → Nat → OpR} (e : b = true) (k : Im R (Rn (orun x g) Q)) : Im R (Rn (orun (ocond b x) g) Q) := fun r => Rn.runC e (k r)
theorem Im.runN {n m : Nat} {f : Nat → OpR} {g : Value → Tr Ob → Nat → OpR} (e : n = m) (k : Im R (Rn (orun (f m) g) Q)) : Im R (Rn (orun (fN n f) g) Q) := fun r => Rn.runN e (k r)
theorem Im.runR {x : OpR} {f g : Value → Tr Ob → Nat → OpR} (k : Im R (Rn (orun x (fun a b c => orun (f a b c) g)) Q)) : Im R (Rn (orun (orun x f) g) Q) := fun r => Rn.runR (k r)
end
end Go.Ev
end

section
namespace Go.Ev
open Go.RowKit Go.Sx
set_option linter.unusedVariables false
set_option linter.unusedSimpArgs false
/-- A closed call, known by now. -/
theorem FOk.row {P : Program} {f : Nat} {v : Value} (hcal : callable P f) (hv : plain v = true) (hc : ∀ w, Calls P f #[] w fun e w' => e = .returned v ∧ Below w.heap.size w w') : FOk P f (fun _ args h N => ar0 args (some (v, h, N))) := by
  intro call hcall t0 h' N v2 h2 N2 hr
  cases t0 with
  | cons _ _ => cases hr
  | nil =>
    cases hr
    refine ⟨hcal, Nat.le_refl _, fun w0 σ w args' H ha hf => ?_⟩
    rw [ha.of_nil]
    refine (hc w).mono ?_
    rintro e w' ⟨rfl, hb⟩
    exact ⟨v, rfl, σ, Ext.refl _ _ _, H.ext hb, .sc hv⟩
noncomputable def bV (v : Value) : Bool := match v with | .bool b => b | _ => false
theorem bV_true {v : Value} (h : bV v = true) : v = .bool true := by
  unfold bV at h
  split at h
  · rw [h]
  · cases h
noncomputable def isT (r : OpR) : Bool := Option.rec (motive := fun _ => Bool) false (fun x => bV x.1) r
theorem isT_some {r : OpR} (h : isT r = true) : ∃ h' N', r = some (.bool true, h', N') := by
  cases r with
  | none => cases h
  | some x =>
    obtain ⟨v, h', N'⟩ := x
    have h2 : bV v = true := h
    exact ⟨h', N', by rw [bV_true h2]⟩
theorem FOk.rowT {P : Program} {f : Nat} {s : CallF → Tr Ob → Nat → OpR} (hF : FOk P f (fun call args h N => ar0 args (s call h N))) {call : CallF} (hcall : CallOk P call) (h : isT (s call .nil 0) = true) : FOk P f (fun _ args h N => ar0 args (some (.bool true, h, N))) := by
  obtain ⟨h', N', hr⟩ := isT_some h
  exact FOk.row (hF call hcall [] .nil 0 _ _ _ hr).1 rfl fun w => hF.closed hcall (v := .bool true) (h' := h') (N' := N') hr rfl w

/-! ### Numbers -/
theorem zaddI {i j : Int} (h1 : -9000000000000000000 ≤ i + j) (h2 : i + j ≤ 9000000000000000000) : iop .add (.int .i64 i) (.int .i64 j) = some (.int .i64 (i + j)) := iop_add (by unfold In64; omega)
theorem zsubI {i j : Int} (h1 : -9000000000000000000 ≤ i - j) (h2 : i - j ≤ 9000000000000000000) : iop .sub (.int .i64 i) (.int .i64 j) = some (.int .i64 (i - j)) := iop_sub (by unfold In64; omega)
theorem zmulI {i j : Int} (h : In64 (i * j)) : iop .mul (.int .i64 i) (.int .i64 j) = some (.int .i64 (i * j)) := iop_mul h
theorem zmulK {i j : Int} (h1 : -9000000000000000000 ≤ i * j) (h2 : i * j ≤ 9000000000000000000) : iop .mul (.int .i64 i) (.int .i64 j) = some (.int .i64 (i * j)) := iop_mul (by unfold In64; omega)
theorem quo_z {P : Program} {T : TypeId} {x y : Operand} {i j : Int} (h1 : 0 ≤ i) (h2 : i ≤ 9000000000000000000) (h3 : 0 < j) : evBin P .quo T x y (.int .i64 i) (.int .i64 j) = some (.int .i64 (i / j)) := by
  have e0 : (j == 0) = false := by rw [beq_eq_false_iff_ne]; omega
  have g : still P (do eqGuard .quo T x y (.int .i64 i) (.int .i64 j); binOp .quo T (.int .i64 i) (.int .i64 j)) = some (.int .i64 (i / j)) := by
    have h5 := Int.ediv_nonneg h1 (by omega : 0 ≤ j)
    have h6 := Int.ediv_le_self j h1
    have e : i.tdiv j = i / j := Int.tdiv_eq_ediv_of_nonneg h1
    have hw : IntKind.i64.wrap (i / j) = i / j := wrap_in (by omega)
    simp [still_bnd, eqGuard, binOp, Op.intArith, Op.intDiv, e0, e, hw, still_pure, obind_s]
    try rw [if_neg (by omega)]
    try rfl
  show oor (ibin .quo i j) (ocond true (ocond true (obind (still P _) fun r => ocond (scal r) (some r)))) = _
  rw [g]
  rfl
theorem min_z {P : Program} {ts : Array TypeId} {T : TypeId} {i j : Int} : mnV P ts T [.int .i64 i, .int .i64 j] = some (.int .i64 (min i j)) := by
  have g : still P (Builtin.min_ ts T ⟨[.int .i64 i, .int .i64 j]⟩) = some (.int .i64 (min i j)) := by
    simp [Builtin.min_, Builtin.min2, still_pure]
    split <;> omega
  show ocond true (obind (still P _) fun r => ocond (scal r) (some r)) = _
  rw [g]
  rfl
theorem max_z {P : Program} {ts : Array TypeId} {T : TypeId} {i j : Int} : mxV P ts T [.int .i64 i, .int .i64 j] = some (.int .i64 (max i j)) := by
  have g : still P (Builtin.max_ ts T ⟨[.int .i64 i, .int .i64 j]⟩) = some (.int .i64 (max i j)) := by
    simp [Builtin.max_, Builtin.max2, still_pure]
    split <;> omega
  show ocond true (obind (still P _) fun r => ocond (scal r) (some r)) = _
  rw [g]
  rfl
end Go.Ev
end

section
namespace Go.Ev
open Go.RowKit Go.Sx
set_option linter.unusedVariables false
set_option linter.unusedSimpArgs false
section
variable {h : Tr Ob} {l nt df : Nat} {pe : Ex} {e : Tr Value} {ps : List Nat} {asg body : Code} {s : LoopState}
theorem rEnd_n {kn kr : Tr Ob → OpR} {kx : Nat → Tr Ob → OpR} (hg : h.get l = some (.l .ready .n nt e ps asg body df)) : rEnd kn kx kr l h = kn (h.set (some (.l .exhausted .n nt e ps asg body df)) l) := by
  unfold rEnd; rw [hg]
theorem rEnd_r {kn kr : Tr Ob → OpR} {kx : Nat → Tr Ob → OpR} (hg : h.get l = some (.l .done .r nt e ps asg body df)) : rEnd kn kx kr l h = kr (h.set (some (.l .exhausted .r nt e ps asg body df)) l) := by
  unfold rEnd; rw [hg]
theorem yld {P : Program} {st : Ev.St} {tab : Nat → Option Fs} {rd : Nat → Code → Code → Option Rs} {d N : Nat} {args : List Value} {F : Rs} (hg : h.get l = some (.l .ready pe nt e ps asg body df)) (hr : rd nt asg body = some F)
    (hl : Nat.beq (len args) (len ps) = true) (hp : allLt nt ps = true) : callW st (cAll P tab rd (d + 1)) (.func (.yield l) ⟨[]⟩ ⟨[]⟩) args h N = F (cAll P tab rd d) l (putAll ps args e) h N := by
  show cRound P rd (cAll P tab rd d) l args h N = _
  unfold cRound
  rw [hg]
  show ocond (Nat.beq (len args) (len ps)) (ocond (allLt nt ps) (Option.rec (motive := fun _ => OpR) _ _ (rd nt asg body))) = _
  rw [hl, hp, hr]
  rfl
end
noncomputable def stO (h : Tr Ob) (l : Nat) (ok : LoopState → Bool) (st : LoopState) (pe : Option Ex) (o : Option Ob) : Option (Tr Ob) :=
  match o with
  | some (.l st0 pe0 nt e ps asg body df) => ocond (ok st0) (some (h.set (some (.l st (Option.rec (motive := fun _ => Ex) pe0 (fun x => x) pe) nt e ps asg body df)) l))
  | _ => none
theorem setSt_e (h : Tr Ob) (l : Nat) (ok : LoopState → Bool) (st : LoopState) (pe : Option Ex) : setSt h l ok st pe = stO h l ok st pe (h.get l) := by unfold setSt stO; rfl
theorem stO_n (h : Tr Ob) (l : Nat) (ok : LoopState → Bool) (st s : LoopState) (pe : Ex) (nt : Nat) (e : Tr Value) (ps : List Nat) (asg body : Code) (df : Nat) : stO h l ok st none (some (.l s pe nt e ps asg body df)) = ocond (ok s) (some (h.set (some (.l st pe nt e ps asg body df)) l)) := rfl
theorem stO_s (h : Tr Ob) (l : Nat) (ok : LoopState → Bool) (st s : LoopState) (pe x : Ex) (nt : Nat) (e : Tr Value) (ps : List Nat) (asg body : Code) (df : Nat) : stO h l ok st (some x) (some (.l s pe nt e ps asg body df)) = ocond (ok s) (some (h.set (some (.l st x nt e ps asg body df)) l)) := rfl
theorem isReady_r : isReady .ready = true := rfl
theorem anySt_t (s : LoopState) : anySt s = true := rfl
noncomputable def unO (h : Tr Ob) (n : Nat) (o : Option Ob) : Option (Tr Ob) := match o with | some .d => some (h.set none n) | _ => none
theorem unmark_e (h : Tr Ob) (n : Nat) : unmark [n] h = unO h n (h.get n) := rfl
theorem unO_d (h : Tr Ob) (n : Nat) : unO h n (some .d) = some (h.set none n) := rfl
theorem putAll_c (p : Nat) (ps : List Nat) (v : Value) (vs : List Value) (e : Tr Value) : putAll (p :: ps) (v :: vs) e = putAll ps vs (e.set (some v) p) := rfl
theorem putAll_n (e : Tr Value) : putAll [] [] e = e := rfl
theorem rem_z {P : Program} {T : TypeId} {x y : Operand} {i j : Int} (h1 : 0 ≤ i) (h2 : i ≤ 9000000000000000000) (h3 : 0 < j) : evBin P .rem T x y (.int .i64 i) (.int .i64 j) = some (.int .i64 (i % j)) := by
  have e0 : (j == 0) = false := by rw [beq_eq_false_iff_ne]; omega
  have g : still P (do eqGuard .rem T x y (.int .i64 i) (.int .i64 j); binOp .rem T (.int .i64 i) (.int .i64 j)) = some (.int .i64 (i % j)) := by
    have e : i.tmod j = i % j := Int.tmod_eq_emod_of_nonneg h1
    simp [still_bnd, eqGuard, binOp, Op.intArith, Op.intDiv, e0, e, still_pure, obind_s]
    try rw [if_neg (by omega)]
    try rfl
  show oor (ibin .rem i j) (ocond true (ocond true (obind (still P _) fun r => ocond (scal r) (some r)))) = _
  rw [g]
  rfl
theorem neq_bool {P : Program} {T : TypeId} {x y : Operand} {a b : Bool} (hT : P.underlying T = some .bool) : evBin P .neq T x y (.bool a) (.bool b) = some (.bool (!decide (a = b))) := by
  have g : still P (do eqGuard .neq T x y (.bool a) (.bool b); binOp .neq T (.bool a) (.bool b)) = some (.bool (!decide (a = b))) := by
    have h1 := still_bool (P := P) (d := 9999) (i := a) (j := b) hT
    show obind (some ()) (fun _ => still P ((fun b => Value.bool !b) <$> Op.equalIn (9999 + 1) T _ _)) = _
    rw [obind_s, map_eq_pure_bind, still_bnd, h1]
    rfl
  show oor (ocond (scal _) (ocond (scal _) (obind (still P _) fun r => ocond (scal r) (some r)))) _ = _
  rw [g]
  rfl
/-- A list that is read one by one has these first. -/
theorem Rn.and {r : OpR} {Q R : Value → Tr Ob → Nat → Prop} (a : Rn r Q) (b : ∀ v h N, r = some (v, h, N) → Q v h N → R v h N) : Rn r R := by
  obtain ⟨v, h, N, e, q⟩ := a
  exact ⟨v, h, N, e, b v h N e q⟩
end Go.Ev
end

section
namespace Go.Ev
open Go.RowKit Go.Sx
set_option linter.unusedSimpArgs false
theorem eql_u8 {P : Program} {T : TypeId} {x y : Operand} {a b : Int} : evBin P .eql T x y (.int .u8 a) (.int .u8 b) = some (.bool (decide (a = b))) := by
  have g : still P (do eqGuard .eql T x y (.int .u8 a) (.int .u8 b); binOp .eql T (.int .u8 a) (.int .u8 b)) = some (.bool (decide (a = b))) := by
    simp only [still_bnd, eqGuard, binOp, Op.intCmp, still_pure, obind_s]
    congr 2
  have e : evBin P .eql T x y (.int .u8 a) (.int .u8 b) = oor (sbin P .eql T x y (.int .u8 a) (.int .u8 b)) (oor (nbin P .eql T (.int .u8 a) (.int .u8 b)) (lbin .eql (.int .u8 a) (.int .u8 b))) := by
    unfold evBin; rfl
  rw [e]
  unfold sbin
  rw [g]
  rfl
end Go.Ev
end

section
namespace Go.Ev
open Go.RowKit Go.Sx
set_option linter.unusedVariables false
set_option linter.unusedSimpArgs false
/-- Where a number stands in a list. -/
def posI (z : Int) : List Int → Option Nat
  | [] => none
  | y :: l => if z = y then some 0 else (posI z l).map (· + 1)
theorem posI_none {z : Int} : ∀ {L : List Int}, posI z L = none → z ∉ L
  | [], _ => by simp
  | y :: l, h => by
    simp only [posI] at h
    split at h
    · cases h
    · rename_i hne
      cases hp : posI z l with
      | none =>
        have := posI_none hp
        simp [hne, this]
      | some j => rw [hp] at h; cases h
theorem posI_some {z : Int} : ∀ {L : List Int} {j : Nat}, posI z L = some j → L[j]? = some z ∧ L.eraseIdx j = L.erase z
  | [], _, h => by cases h
  | y :: l, j, h => by
    simp only [posI] at h
    split at h
    · rename_i he
      cases h; subst he; simp
    · rename_i hne
      cases hp : posI z l with
      | none => rw [hp] at h; cases h
      | some i =>
        rw [hp] at h; cases h
        obtain ⟨h1, h2⟩ := posI_some hp
        refine ⟨by simpa using h1, ?_⟩
        have : ¬ (y == z) = true := by simp; omega
        simp only [List.eraseIdx_cons_succ, h2]
        rw [List.erase_cons_tail (by simpa using this)]
theorem map_out {α β : Type} (f : α → β) : ∀ (l : List α) (j : Nat), (l.eraseIdx j).map f = (l.map f).eraseIdx j
  | [], _ => rfl
  | _ :: _, 0 => rfl
  | x :: l, j + 1 => by
    show f x :: (l.eraseIdx j).map f = f x :: (l.map f).eraseIdx j
    rw [map_out f l j]
section
variable {P : Program} {kt et T : TypeId} {h : Tr Ob} {N i : Nat} {K : List Int} {z : Int}
theorem chk_int {em : Bool} (hk : P.underlying kt = some (.int .i64)) : chk P em kt (.int .i64 z) = some () := by
  show still P (Instr.checkKey em (9999 + 1) kt (.int .i64 z)) = some ()
  unfold Instr.checkKey
  rw [still_bnd, still_undl hk]
  rfl
theorem findNow_z : ∀ (es : List (Value × Value × Nat)) (K : List Int) (n : Nat), es.map (·.1) = K.map (fun z => Value.int .i64 z) →
    Instr.findNow (.int .i64) (.int .i64 z) (keysOf es) n = some ((posI z K).map fun j => (n + j, Value.bool false))
  | [], [], _, _ => rfl
  | x :: es, y :: K, n, h => by
    simp only [List.map_cons, List.cons.injEq] at h
    have e : keysOf (x :: es) = { key := x.1, val := .bool false, born := 0 } :: keysOf es := rfl
    rw [e]
    simp only [Instr.findNow, h.1, Instr.sameNow, if_pos rfl]
    by_cases hz : z = y
    · subst hz; simp [posI]
    · have hb : (z == y) = false := by simpa using hz
      have ih := findNow_z es K (n + 1) h.2
      simp only [hb, ih, posI, if_neg hz]
      cases posI z K with
      | none => rfl
      | some j => simp; omega
  | [], _ :: _, _, h => by cases h
  | _ :: _, [], _, h => by cases h
theorem keysP_z : ∀ (es : List (Value × Value × Nat)) (K : List Int), es.map (·.1) = K.map (fun z => Value.int .i64 z) → keysP es = true
  | [], _, _ => rfl
  | x :: es, y :: K, h => by
    simp only [List.map_cons, List.cons.injEq] at h
    have ih := keysP_z es K h.2
    show Bool.rec (motive := fun _ => Bool) false (keysP es) (scal x.1) = true
    rw [h.1]; exact ih
  | _ :: _, [], h => by cases h
theorem evFind_z (hk : P.underlying kt = some (.int .i64)) {es : List (Value × Value × Nat)} (he : es.map (·.1) = K.map (fun z => Value.int .i64 z)) : evFind P kt (.int .i64 z) es = some (posI z K) := by
  unfold evFind
  have e1 : scal (.int .i64 z) = true := rfl
  rw [e1, keysP_z es K he, ocond_t, ocond_t]
  unfold Instr.findKey
  rw [still_bnd, still_undl hk, obind_s, findNow_z es K 0 he]
  cases posI z K with
  | none => rfl
  | some j => show some (some (0 + j)) = _; rw [Nat.zero_add]
/-- A set of numbers. -/
def Mp (h : Tr Ob) (i : Nat) (K : List Int) : Prop := ∃ es c, h.get i = some (.m es c) ∧ es.map (fun e => (e.1, e.2.1)) = K.map fun z => (Value.int .i64 z, Value.bool true)
theorem Mp.keep {h' : Tr Ob} (m : Mp h i K) (e : h'.get i = h.get i) : Mp h' i K := by
  obtain ⟨es, c, h1, h2⟩ := m
  exact ⟨es, c, e.trans h1, h2⟩
theorem Mp.nil {c : Nat} (e : h.get i = some (.m [] c)) : Mp h i [] := ⟨[], c, e, rfl⟩
theorem keys_of {es : List (Value × Value × Nat)} (h2 : es.map (fun e => (e.1, e.2.1)) = K.map fun z => (Value.int .i64 z, Value.bool true)) : es.map (·.1) = K.map (fun z => Value.int .i64 z) := by
  have := congrArg (List.map Prod.fst) h2
  rw [List.map_map, List.map_map] at this
  exact this
theorem mapAt_m {es : List (Value × Value × Nat)} {c : Nat} (e : h.get i = some (.m es c)) : mapAt h (.map (some i)) = some (i, es, c) := by
  unfold mapAt; simp [e]
theorem put_z (hT : mapT P T = some (kt, et)) (hk : P.underlying kt = some (.int .i64)) (m : Mp h i K) :
    ∃ ob, evMapPut P T (.map (some i)) (.int .i64 z) (.bool true) h N = some (.tuple ⟨[]⟩, h.set (some ob) i, N) ∧ ∀ h' : Tr Ob, h'.get i = some ob → Mp h' i (if z ∈ K then K else K ++ [z]) := by
  obtain ⟨es, c, h1, h2⟩ := m
  have hf := evFind_z (z := z) hk (keys_of h2)
  unfold evMapPut
  rw [hT, obind_s, mapAt_m h1, obind_s]
  dsimp only
  rw [chk_int hk, obind_s, hf, obind_s]
  cases hp : posI z K with
  | none =>
    have hn := posI_none hp
    refine ⟨.m (app es [(.int .i64 z, .bool true, c)]) (c + 1), by show fN (Nat.succ c) _ = _; rw [fN_eq], fun h' e => ⟨_, _, e, ?_⟩⟩
    rw [if_neg hn, app_eq]
    simp [h2]
  | some j =>
    obtain ⟨g1, g2⟩ := posI_some hp
    have hj : (es.map (fun e => (e.1, e.2.1)))[j]? = some (Value.int .i64 z, Value.bool true) := by rw [h2]; simp [g1]
    rw [List.getElem?_map] at hj
    cases hx : es[j]? with
    | none => rw [hx] at hj; cases hj
    | some x =>
      rw [hx] at hj
      simp only [Option.map_some, Option.some.injEq, Prod.mk.injEq] at hj
      refine ⟨.m (setVal es (.int .i64 z) (.bool true) j) c, ?_, fun h' e => ⟨_, _, e, ?_⟩⟩
      · dsimp only
        rw [nth_eq, hx, obind_s, hj.1]
        have : Instr.sameBits 10000 (.int .i64 z) (.int .i64 z) = true := by simp [Instr.sameBits]
        rw [this, ocond_t]
      · have hmem : z ∈ K := List.mem_of_getElem? g1
        rw [if_pos hmem, ← h2]
        have key : ∀ (es : List (Value × Value × Nat)) (j : Nat) (x : Value × Value × Nat), es[j]? = some x → x.1 = .int .i64 z → x.2.1 = .bool true → (setVal es (.int .i64 z) (.bool true) j).map (fun e => (e.1, e.2.1)) = es.map (fun e => (e.1, e.2.1)) := by
          intro es
          induction es with
          | nil => intro j x h; cases h
          | cons y es ih =>
            intro j x h h1 h2
            cases j with
            | zero =>
              simp only [List.getElem?_cons_zero, Option.some.injEq] at h
              subst h
              have e1 : setVal (y :: es) (.int .i64 z) (.bool true) 0 = (.int .i64 z, .bool true, y.2.2) :: es := rfl
              rw [e1]; simp [h1, h2]
            | succ j =>
              have e1 : setVal (y :: es) (.int .i64 z) (.bool true) (j + 1) = y :: setVal es (.int .i64 z) (.bool true) j := rfl
              rw [e1, List.map_cons, List.map_cons, ih j x (by simpa using h) h1 h2]
        exact key es j x hx hj.1 hj.2
theorem del_z (hT : mapT P T = some (kt, et)) (hk : P.underlying kt = some (.int .i64)) (m : Mp h i K) :
    ∃ h', evDelete P T (.map (some i)) (.int .i64 z) h N = some (.tuple ⟨[]⟩, h', N) ∧ (∀ j, j ≠ i → h'.get j = h.get j) ∧ Mp h' i (K.erase z) := by
  have m0 := m
  obtain ⟨es, c, h1, h2⟩ := m
  have hf := evFind_z (z := z) hk (keys_of h2)
  unfold evDelete
  rw [hT, obind_s, mapAt_m h1, obind_s]
  dsimp only
  rw [chk_int hk, obind_s, hf, obind_s]
  cases hp : posI z K with
  | none =>
    have hn := posI_none hp
    refine ⟨h, rfl, fun _ _ => rfl, ?_⟩
    rw [List.erase_of_not_mem hn]; exact m0
  | some j =>
    obtain ⟨g1, g2⟩ := posI_some hp
    refine ⟨_, rfl, fun k hk => Tr.get_other _ _ hk, _, _, Tr.get_same _ _ _, ?_⟩
    rw [dropAt_eq, ← g2, map_out, h2, map_out]
theorem get_z (hT : mapT P T = some (kt, et)) (hk : P.underlying kt = some (.int .i64)) (hz : zval P et = some (.bool false)) (m : Mp h i K) : evLookup P T (.map (some i)) (.int .i64 z) false h = some (.bool (decide (z ∈ K))) := by
  obtain ⟨es, c, h1, h2⟩ := m
  have hf := evFind_z (z := z) hk (keys_of h2)
  unfold evLookup
  rw [hT, obind_s, mapAt_m h1, obind_s]
  dsimp only
  rw [chk_int hk, obind_s, hf, obind_s]
  cases hp : posI z K with
  | none =>
    have hn := posI_none hp
    dsimp only
    rw [hz, obind_s, decide_eq_false hn]
  | some j =>
    obtain ⟨g1, g2⟩ := posI_some hp
    have hj : (es.map (fun e => (e.1, e.2.1)))[j]? = some (Value.int .i64 z, Value.bool true) := by rw [h2]; simp [g1]
    rw [List.getElem?_map] at hj
    cases hx : es[j]? with
    | none => rw [hx] at hj; cases hj
    | some x =>
      rw [hx] at hj
      simp only [Option.map_some, Option.some.injEq, Prod.mk.injEq] at hj
      dsimp only
      rw [nth_eq, hx, obind_s, decide_eq_true (List.mem_of_getElem? g1), hj.2]
end
end Go.Ev
end

section
namespace Go.Ev
open Go.RowKit Go.Sx
set_option linter.unusedVariables false
set_option linter.unusedSimpArgs false
set_option maxHeartbeats 1000000
section
variable {α : Type} [Rwc α] {P : Program} {T el : Nat}
theorem delX_ok {E w : Nat} {st : Ev.St} (hw : w = Rwc.w α) (ha : appT P T = some (el, w)) (z : α) (hz : elz P el = some (w, Rwc.enc z)) (call : CallF) {fv v : Value} {L : List α} {h : Tr Ob} {N i : Nat} (p : α → Bool) (hl : L.length < 100000) (o : Ow h el v L i) (hi : i < N)
    (hp0 : ∀ x ∈ L, ∀ h1 N1, (∀ j, j < N → j ≠ i → h1.get j = h.get j) → N ≤ N1 → Rn (callW [] call fv [.agg ⟨Rwc.enc x⟩] h1 N1) fun u h2 N2 => u = .bool (p x) ∧ Gw h1 N1 h2 N2)
    (hp : ∀ x ∈ L, ∀ h1 N1, (∀ j, j < N → j ≠ i → h1.get j = h.get j) → N ≤ N1 → Rn (callW st call fv [.agg ⟨Rwc.enc x⟩] h1 N1) fun u h2 N2 => u = .bool (p x) ∧ Gw h1 N1 h2 N2) :
    Rn (delF P T E w (Rwc.enc z) st call v fv h N) fun u h' N' => WrR i (i + 1) h' u (L.filter fun x => !p x) ∧ Gx i h N h' N' := by
  unfold delF
  have hs := o.sl hi
  refine Rn.call (idxF_ok hw call p hl hs (fun x hx h1 N1 f1 l1 => hp0 x hx h1 N1 (fun j g1 _ => f1 j g1) l1)) ?_
  rintro _ h1 N1 ⟨rfl, f1, o1, l1⟩
  refine Rn.bind (iop_eql _ _) ?_
  rcases idxP_spec p L 0 with ⟨e1, e2⟩ | ⟨j, e1, e2, ⟨x0, e3, e4⟩, e5⟩
  · rw [e1]
    refine Rn.cndT rfl (Rn.ret ⟨?_, Gx.of (fun j g1 _ => o1 g1) l1⟩)
    have hf : L.filter (fun x => !p x) = L := filter_all (by
      intro y hy
      have := List.any_eq_false.1 e2 y hy
      simpa using this)
    rw [hf]
    exact (WrR.of (.inr ⟨i, Nat.le_refl _, by omega, o⟩)).keep fun j _ h2 => o1 (by omega)
  · rw [e1, Int.zero_add]
    refine Rn.cndF (by omega) (Rn.bind (zadd1 (by omega)) ?_)
    obtain ⟨he, hzz⟩ := sizeB_of ha
    have hzs : zer P el = some (Rwc.enc z) := by
      obtain ⟨_, h2, _⟩ := elz_ok hz
      exact h2
    -- the block
    have main : ∀ (sp : Option Nat) (c : Nat), v = .slice (some ⟨i, 0, sp⟩) L.length c → Bl h i L [] →
        (∀ k, k < L.length → ∃ sp' c', evSlice P T v (some (nS k)) none none = some (.slice (some ⟨i, k * w, sp'⟩) (L.length - k) c')) → (∀ k, k < L.length → ∃ c', evSlice P T v none (some (nS k)) none = some (.slice (some ⟨i, 0, sp⟩) k c')) →
        Rn (lpR (α := C4) (fun v5 v6 v7 v8 d9 h10 N11 => none) (fun g12 v13 v14 v15 v16 d17 h18 N19 => (obind (Ev.lenS v13) (fun v20 => (obind (Ev.iop .lss v16 v20) (fun v21 => (Ev.cnd v21 (obind (Ev.iadS w v13 v16) (fun v22 => (obind (Ev.ldN w h18 v22) (fun v23 => (fN (.succ N19) (fun N24 => (obind (Ev.sto w (.pointer (some ⟨N19, 0, none⟩)) v23 (Tr.set h18 (some (.c (Rwc.enc z) E)) N19)) (fun h25 => (obind (Ev.ldN w h25 (.pointer (some ⟨N19, 0, none⟩))) (fun v26 => (orun (Ev.callW st call v14 [v26] h25 N24) (fun v27 h28 N29 => (obind (Ev.unV P .not v27) (fun v30 => (jnR (α := C4) (fun v31 v32 v33 v34 d35 h36 N37 => (obind (Ev.iop .add v34 (.int .i64 1)) (fun v38 => (g12 v31 v32 v33 v38 d35 h36 N37)))) (fun g39 => (Ev.cnd v30 (obind (Ev.ldN w h28 (.pointer (some ⟨N19, 0, none⟩))) (fun v40 => (obind (Ev.iadS w v13 v15) (fun v41 => (obind (Ev.sto w v41 v40 h28) (fun h42 => (obind (Ev.iop .add v15 (.int .i64 1)) (fun v43 => (g39 v13 v14 v43 v16 d17 h42 N29))))))))) (g39 v13 v14 v15 v16 d17 h28 N29)))))))))))))))))) (obind (Ev.evSlice P T v13 (some v15) none none) (fun v44 => (orun (Ev.evClear P T v44 h18 N19) (fun v45 h46 N47 => (obind (Ev.evSlice P T v13 none (some v15) none) (fun v48 => (obind (Ev.unmark d17 h46) (fun h49 => (some (v48, (h49, N47))))))))))))))))) v fv (nS j) (nS (j + 1)) [] h1 N1)
          fun u h' N' => WrR i (i + 1) h' u (L.filter fun x => !p x) ∧ Gx i h N h' N' := by
      intro sp c hv hb hsl hhi
      subst hv
      refine Rn.loop4 (fun n u y k q g M => ∃ (a b : Nat) (K : List α), u = .slice (some ⟨i, 0, sp⟩) L.length c ∧ y = fv ∧ k = nS a ∧ q = nS b ∧ b + n = L.length ∧ a < b ∧ (∀ j, j < N → j ≠ i → g.get j = h.get j) ∧ N ≤ M ∧ K.length = L.length ∧ Bl g i K [] ∧
          K.take a = (L.take b).filter (fun x => !p x) ∧ K.drop b = L.drop b) (L.length - (j + 1)) (by omega) ⟨j, j + 1, L, rfl, rfl, rfl, rfl, by omega, by omega, fun j g1 _ => o1 g1, l1, rfl, hb.keep (o1 hi), ?_, rfl⟩ ?_
      · rw [List.take_add_one, e3, List.filter_append, filter_all e5]
        simp [e4]
      rintro n g ih _ y0 _ _ h2 N2 ⟨a, b, K, rfl, rfl, rfl, rfl, q1, q2, q3, q4, q5, q6, q7, q8⟩
      have hs2 : Sl h2 N2 (.slice (some ⟨i, 0, sp⟩) L.length c) K := by rw [← q5]; exact q6.sl (by omega)
      refine Rn.bind (lenS_s _ _ _) (Rn.bind (iop_lss _ _) (Rn.cnd (fun hlt => ?_) (fun hge => ?_)))
      · obtain ⟨x, hx⟩ := at_of (L := K) (k := b) (by omega)
        have hxL : L[b]? = some x := by
          have h9 := congrArg (fun l => l[0]?) q8
          simp only [List.getElem?_drop, Nat.add_zero] at h9
          rw [← h9]; exact hx
        refine Rn.bind (hs2.iad hw (by omega)) (Rn.bind (hs2.ldN (zs := Rwc.enc x) (Fr.refl _ _) hw hx (by rw [Nat.zero_add]; exact Nat.ble_eq_true_of_le (Nat.le_refl _)) (by rw [tak_eq, drp_eq, List.drop_zero, hw, ← Rwc.len x, List.take_length])) ?_)
        refine Rn.num rfl (Rn.bind (sto_enc (x := x) (Tr.get_same _ _ _) (by rw [Rwc.len, hw]) hw) (Rn.bind (ldN_enc (Tr.get_same _ _ _) hw) ?_))
        refine Rn.call (hp x (List.mem_of_getElem? hxL) _ _ (fun j w1 w2 => by rw [Tr.get_other _ _ (by omega), Tr.get_other _ _ (by omega)]; exact q3 j w1 w2) (by omega)) ?_
        rintro _ h3 N3 ⟨rfl, f3, o3, l3⟩
        have gi : h3.get i = h2.get i := by rw [o3 (by omega), Tr.get_other _ _ (by omega), Tr.get_other _ _ (by omega)]
        have f3' : (∀ j, j < N → j ≠ i → h3.get j = h.get j) := fun j w1 w2 => by rw [o3 (by omega), Tr.get_other _ _ (by omega), Tr.get_other _ _ (by omega)]; exact q3 j w1 w2
        refine Rn.bind (unot P _) (Rn.join (fun J => ∀ (a' : Nat) (K' : List α) h4, a' < b + 1 → (∀ j, j < N → j ≠ i → h4.get j = h.get j) → K'.length = L.length → Bl h4 i K' [] → K'.take a' = (L.take (b + 1)).filter (fun x => !p x) → K'.drop (b + 1) = L.drop (b + 1) → Rn (J (.slice (some ⟨i, 0, sp⟩) L.length c) y0 (nS a') (nS b) [] h4 N3) fun u h' N' => WrR i (i + 1) h' u (L.filter fun x => !p x) ∧ Gx i h N h' N') ?_ ?_)
        · intro a' K' h4 w1 w2 w3 w4 w5 w6
          exact Rn.bind (zadd1 (by omega)) (ih (n - 1) (by omega) _ _ _ _ _ _ ⟨a', b + 1, K', rfl, rfl, rfl, rfl, by omega, w1, w2, by omega, w3, w4, w5, w6⟩)
        · intro J hJ
          have hdrop : K.drop (b + 1) = L.drop (b + 1) := by
            have h9 := congrArg (fun l => l.drop 1) q8
            simpa [List.drop_drop] using h9
          refine Rn.cndN (fun hpx => ?_) (fun hpx => ?_)
          · refine Rn.bind (ldN_enc (x := x) (by rw [o3 (by omega), Tr.get_same]) hw) (Rn.bind (hs2.iad hw (by omega)) ?_)
            obtain ⟨xa, hxa⟩ := at_of (L := K) (k := a) (by omega)
            have q6' := q6.keep gi
            obtain ⟨ob, s1, s2⟩ := q6'.sto (n := L.length) (c := c) (sp := sp) (u := .agg ⟨Rwc.enc x⟩) (m := w) (d := 0) (y := x) hw hxa (by show Nat.beq (len (Rwc.enc x)) w = true; rw [len_eq, Rwc.len, hw]; exact Nat.beq_refl _) (Rwc.flat x) (by rw [Nat.zero_add]; exact Nat.ble_eq_true_of_le (Nat.le_refl _))
              (by show lay (Rwc.enc xa) (Rwc.enc x) 0 = _
                  rw [lay_sub (by rw [Rwc.len, Rwc.len]; omega), List.take_zero, List.nil_append, List.drop_eq_nil_of_le (by rw [Rwc.len, Rwc.len]; omega), List.append_nil])
            refine Rn.bind s1 (Rn.bind (zadd1 (by omega)) (hJ (a + 1) (K.set a x) _ (by omega) (fun j w1 w2 => by rw [Tr.get_other _ _ w2]; exact f3' j w1 w2) (by rw [List.length_set]; exact q5) s2 ?_ ?_))
            · rw [List.take_add_one, List.getElem?_set_self (by omega), List.take_add_one, hxL, List.filter_append]
              have h8 : (K.set a x).take a = K.take a := by
                rw [List.take_set_of_le (by omega)]
              rw [h8, q7]
              simp [hpx]
            · rw [List.drop_set, if_pos (by omega)]; exact hdrop
          · refine hJ a K h3 (by omega) f3' q5 (q6.keep gi) ?_ hdrop
            rw [q7, List.take_add_one, hxL, List.filter_append]
            simp [hpx]
      · have hbl : b = L.length := by omega
        obtain ⟨sp', c', t1⟩ := hsl a (by omega)
        obtain ⟨c'', t2⟩ := hhi a (by omega)
        have lk : (encs K ++ ([] : List Value)).length = L.length * Rwc.w α := by rw [List.append_nil, encs_len, q5]
        have hrl : (encs (List.replicate (L.length - a) z)).length = (L.length - a) * Rwc.w α := by rw [encs_len, List.length_replicate]
        have hmul : a * Rwc.w α + (L.length - a) * Rwc.w α = L.length * Rwc.w α := by rw [← Nat.add_mul]; congr 1; omega
        obtain ⟨ob, s1, s2⟩ := q6.wr (off := a * w) (vs := encs (List.replicate (L.length - a) z)) (M := K.take a) (rest' := encs (List.replicate (L.length - a) z)) (by rw [hrl, lk, hw]; omega)
          (by rw [hrl, hw, hmul, List.drop_eq_nil_of_le (by rw [lk]; omega), List.append_nil, List.append_nil, encs_take])
        have hcl : evClear P T (.slice (some ⟨i, a * w, sp'⟩) (L.length - a) c') h2 N2 = some (.tuple ⟨[]⟩, h2.set ob i, N2) := by
          unfold evClear
          show obind (elemOf P T) _ = _
          rw [he, obind_s, hz, obind_s]
          show ocond (allF (Rwc.enc z)) (obind (evWrite h2 i (a * w) (reps (Rwc.enc z) (L.length - a))) fun h' => some (Value.tuple ⟨[]⟩, h', N2)) = _
          rw [flatL_all (Rwc.flat z), reps_encs, s1]; rfl
        refine Rn.bind t1 (Rn.runE hcl (Rn.bind t2 (Rn.unm (Rn.ret ⟨.inr ⟨i, sp, c'', encs (List.replicate (L.length - a) z), Nat.le_refl _, by omega, ?_, ?_⟩, Gx.of (fun j w1 w2 => by rw [Tr.get_other _ _ w2]; exact q3 j w1 w2) q4⟩))))
        · have h9 := congrArg List.length q7
          rw [hbl, List.take_length, List.length_take, Nat.min_eq_left (by omega)] at h9
          rw [← h9]
        · rw [q7, hbl, List.take_length] at s2
          exact s2
    rcases o with ⟨_, rfl⟩ | ⟨hv, hg⟩ | ⟨hv, hg⟩
    · simp at e2
    · refine main none L.length hv (.inl ⟨el, by rw [List.append_nil]; exact hg⟩) (fun k hk => ?_) (fun k hk => ?_)
      · rw [hv, sl_lo he hzz (by omega) (Nat.le_refl _) hk, Nat.zero_add]; exact ⟨_, _, rfl⟩
      · rw [hv, sl_hi he hzz (by omega)]; exact ⟨_, rfl⟩
    · have hC : mx2 L.length 0 = L.length := by
        unfold mx2
        cases hb : Nat.ble L.length 0 with
        | true => have := Nat.le_of_ble_eq_true hb; omega
        | false => rfl
      refine main (some 0) 0 hv (.inr ⟨el, _, by rw [List.append_nil]; exact hg⟩) (fun k hk => ?_) (fun k hk => ?_)
      · rw [hv, ss_lo he hzz hC (by omega) hk, Nat.zero_add]; exact ⟨_, _, rfl⟩
      · rw [hv, ss_hi he hzz hC (by omega) (by omega)]; exact ⟨_, rfl⟩

end
end Go.Ev
end

section
namespace Go.Ev
open Go.RowKit Go.Sx
set_option linter.unusedVariables false
set_option linter.unusedSimpArgs false
section
variable {P : Program} {T el : Nat} {h : Tr Ob} {v : Value} {K : List Int} {i N : Nat}
/-- A list of numbers of one's own; its block may hold more. -/
def Wx (h : Tr Ob) (el : Nat) (v : Value) (K : List Int) (i : Nat) : Prop :=
  (v = .slice none 0 0 ∧ K = []) ∨ ∃ c rest, v = .slice (some ⟨i, 0, some 0⟩) K.length c ∧ h.get i = some (.g (encs K ++ rest) el 1)
theorem Wx.keep {h' : Tr Ob} (o : Wx h el v K i) (e : h'.get i = h.get i) : Wx h' el v K i := by
  rcases o with o | ⟨c, rest, h1, h2⟩
  · exact .inl o
  · exact .inr ⟨c, rest, h1, e.trans h2⟩
theorem Wx.sl (o : Wx h el v K i) (hi : i < N) : Sl h N v K := by
  rcases o with ⟨rfl, rfl⟩ | ⟨c, rest, rfl, h2⟩
  · exact Sl.nil _ _
  · exact Bl.sl (.inr ⟨el, 1, h2⟩) hi
theorem Wx.nil (h : Tr Ob) (el i : Nat) : Wx h el (.slice none 0 0) [] i := .inl ⟨rfl, rfl⟩
theorem Wx.app (ha : appT P T = some (el, 1)) {h0 : Tr Ob} {u : Value} {x : Int} {N0 : Nat} (o : Wx h el v K i) (hi : i < N) (hu : Sl h0 N0 u [x]) (f : Fr h0 N0 h) (hl : K.length ≤ 1000) :
    Rn (evAppend P T v u h N) fun v' h' N' => ∃ i', Wx h' el v' (K ++ [x]) i' ∧ (i' = i ∨ i' = N) ∧ i' < N' ∧ Gx i h N h' N' := by
  unfold evAppend
  refine Rn.bind ha ?_
  refine Rn.bind hu.lenV ?_
  refine Rn.num rfl ?_
  refine Rn.bind (hu.seg f rfl) ?_
  have hw : Rwc.w Int = 1 := rfl
  have lk : (encs K).length = K.length := by rw [encs_len, hw, Nat.mul_one]
  rcases o with ⟨rfl, rfl⟩ | ⟨c, rest, rfl, h2⟩
  · refine Rn.cond rfl (Rn.cond rfl (Rn.cond rfl ?_))
    exact Rn.ret ⟨N, .inr ⟨0, [], rfl, by rw [Tr.get_same, List.append_nil]; rfl⟩, .inr rfl, by omega, Gx.of (fun j hj _ => Tr.get_other _ _ (by omega)) (by omega)⟩
  · refine Rn.num rfl (Rn.num rfl ?_)
    show Rn (match h.get i with
        | some (.g xs E z') => ocond (Nat.beq z' 1) (ocond (Nat.beq E el) (ocond (Nat.beq 0 (Nat.mul 0 1)) (Bool.rec (motive := fun _ => OpR)
            (ocond (Nat.beq 0 0) (ocond (Nat.beq (Nat.mul K.length 1) (len xs)) (ocond (Nat.ble (Nat.add K.length 1) 1000000) (ocond (allF (encs [x])) (some (.slice (some ⟨N, 0, some 0⟩) (Nat.add K.length 1) 0, (h.set none i).set (some (.g (app xs (encs [x])) E z')) N, Nat.succ N))))))
            (inPlace i 0 (Nat.add 0 (Nat.mul K.length 1)) (some 0) (Nat.add K.length 1) 0 (encs [x]) h N) (Nat.ble (Nat.add 0 (Nat.add (Nat.mul K.length 1) (Nat.mul 1 1))) (len xs)))))
        | _ => none) _
    rw [h2]
    dsimp only
    refine Rn.cond rfl (Rn.cond (Nat.beq_refl _) (Rn.cond rfl ?_))
    have e1 : len (encs K ++ rest) = K.length + rest.length := by rw [len_eq, List.length_append, lk]
    rw [e1]
    cases rest with
    | nil =>
      have hb : Nat.ble (Nat.add 0 (Nat.add (Nat.mul K.length 1) (Nat.mul 1 1))) (K.length + ([] : List Value).length) = false := by
        cases hb : Nat.ble (Nat.add 0 (Nat.add (Nat.mul K.length 1) (Nat.mul 1 1))) (K.length + ([] : List Value).length) with
        | false => rfl
        | true =>
          have := Nat.le_of_ble_eq_true hb
          have h3 : 0 + (K.length * 1 + 1 * 1) ≤ K.length + 0 := this
          omega
      rw [hb]
      refine Rn.cond rfl (Rn.cond (by show Nat.beq (K.length * 1) (K.length + 0) = true; rw [Nat.mul_one]; exact Nat.beq_refl _) (Rn.cond (Nat.ble_eq_true_of_le (show K.length + 1 ≤ 1000000 by omega)) (Rn.cond rfl ?_)))
      refine Rn.ret ⟨N, .inr ⟨0, [], by rw [List.length_append]; rfl, ?_⟩, .inr rfl, by omega, Gx.of (fun j hj hji => (Tr.get_other _ _ (by omega)).trans (Tr.get_other _ _ hji)) (by omega)⟩
      rw [Tr.get_same, app_eq, List.append_nil, List.append_nil, encs_app]
    | cons y rest =>
      have hb : Nat.ble (Nat.add 0 (Nat.add (Nat.mul K.length 1) (Nat.mul 1 1))) (K.length + (y :: rest).length) = true := Nat.ble_eq_true_of_le (by show 0 + (K.length * 1 + 1 * 1) ≤ K.length + (rest.length + 1); omega)
      rw [hb]
      show Rn (inPlace i 0 (Nat.add 0 (Nat.mul K.length 1)) (some 0) (Nat.add K.length 1) 0 (encs [x]) h N) _
      unfold inPlace
      refine Rn.cond rfl ?_
      have e2 : Nat.add 0 (Nat.mul K.length 1) = K.length := by show 0 + K.length * 1 = _; omega
      rw [e2]
      refine Rn.bind (wr_g h2 (by show K.length + 1 ≤ _; rw [List.length_append, lk]; simp)) ?_
      refine Rn.ret ⟨i, .inr ⟨0, rest, by rw [List.length_append]; rfl, ?_⟩, .inl rfl, by omega, Gx.of (fun j hj hji => Tr.get_other _ _ hji) (by omega)⟩
      rw [Tr.get_same, encs_app]
      have t1 : (encs K ++ y :: rest).take K.length = encs K := by rw [← lk, List.take_left']; rfl
      have t2 : (encs K ++ y :: rest).drop (K.length + (encs [x]).length) = rest := by
        show (encs K ++ y :: rest).drop (K.length + 1) = rest
        rw [← lk, List.drop_append]; simp
      rw [t1, t2]
theorem Wx.cut (he : elemOf P T = some el) (hz : sizeB P el = some 1) {x : Int} (o : Wx h el v (K ++ [x]) i) : ∃ v', evSlice P T v none (some (nS K.length)) none = some v' ∧ Wx h el v' K i := by
  rcases o with ⟨_, e⟩ | ⟨c, rest, rfl, h2⟩
  · exact absurd e (by simp)
  · refine ⟨_, ss_hi (C := mx2 (K ++ [x]).length c) he hz rfl ?_ ?_, .inr ⟨_, encs [x] ++ rest, rfl, by rw [h2, encs_app, List.append_assoc]⟩⟩
    · have : K.length + 1 ≤ mx2 (K ++ [x]).length c := by
        rw [List.length_append]
        unfold mx2
        cases hb : Nat.ble (K.length + [x].length) c with
        | true => exact Nat.le_of_ble_eq_true hb
        | false => exact Nat.le_refl _
      omega
    · have : K.length + 1 ≤ mx2 (K ++ [x]).length c := by
        rw [List.length_append]
        unfold mx2
        cases hb : Nat.ble (K.length + [x].length) c with
        | true => exact Nat.le_of_ble_eq_true hb
        | false => exact Nat.le_refl _
      omega
end
end Go.Ev
end

section
namespace Go.Ev
open Go.RowKit Go.Sx
set_option linter.unusedSimpArgs false
variable {P : Program} {T : TypeId} {x y : Operand} {a b : Int}
theorem shr_u16 (hb : 0 ≤ b) : ∃ z : Int, evBin P .shr T x y (.int .u16 a) (.int .i64 b) = some (.int .u16 z) := by
  have g : still P (do eqGuard .shr T x y (.int .u16 a) (.int .i64 b); binOp .shr T (.int .u16 a) (.int .i64 b)) = some (.int .u16 (a.fdiv (2 ^ (min b.toNat IntKind.u16.bits)))) := by
    have hne : ¬ b < 0 := by omega
    simp only [still_bnd, eqGuard, binOp, Op.shift, if_neg hne]
    rfl
  have e : evBin P .shr T x y (.int .u16 a) (.int .i64 b) = oor (sbin P .shr T x y (.int .u16 a) (.int .i64 b)) (oor (nbin P .shr T (.int .u16 a) (.int .i64 b)) (lbin .shr (.int .u16 a) (.int .i64 b))) := by
    unfold evBin; rfl
  refine ⟨a.fdiv (2 ^ (min b.toNat IntKind.u16.bits)), ?_⟩
  rw [e]
  unfold sbin
  rw [g]
  rfl
theorem and_u16 : ∃ z : Int, evBin P .and T x y (.int .u16 a) (.int .u16 b) = some (.int .u16 z) := by
  have g : ∃ z : Int, still P (do eqGuard .and T x y (.int .u16 a) (.int .u16 b); binOp .and T (.int .u16 a) (.int .u16 b)) = some (.int .u16 z) := by
    refine ⟨IntKind.u16.wrap ((BitVec.ofInt IntKind.u16.bits a &&& BitVec.ofInt IntKind.u16.bits b).toNat), ?_⟩
    simp only [still_bnd, eqGuard, binOp, Op.intBits]
    rfl
  obtain ⟨z, g⟩ := g
  have e : evBin P .and T x y (.int .u16 a) (.int .u16 b) = oor (sbin P .and T x y (.int .u16 a) (.int .u16 b)) (oor (nbin P .and T (.int .u16 a) (.int .u16 b)) (lbin .and (.int .u16 a) (.int .u16 b))) := by
    unfold evBin; rfl
  refine ⟨z, ?_⟩
  rw [e]
  unfold sbin
  rw [g]
  rfl
theorem eql_u16 : evBin P .eql T x y (.int .u16 a) (.int .u16 b) = some (.bool (decide (a = b))) := by
  have g : still P (do eqGuard .eql T x y (.int .u16 a) (.int .u16 b); binOp .eql T (.int .u16 a) (.int .u16 b)) = some (.bool (decide (a = b))) := by
    simp only [still_bnd, eqGuard, binOp, Op.intCmp, still_pure, obind_s]
    congr 2
  have e : evBin P .eql T x y (.int .u16 a) (.int .u16 b) = oor (sbin P .eql T x y (.int .u16 a) (.int .u16 b)) (oor (nbin P .eql T (.int .u16 a) (.int .u16 b)) (lbin .eql (.int .u16 a) (.int .u16 b))) := by
    unfold evBin; rfl
  rw [e]
  unfold sbin
  rw [g]
  rfl
end Go.Ev
end

