/-
  An evaluator over the model's code, and why it holds, part 5.
  Conditions: none; generic over the program.
-/
import Derived.Test.YtpilgokdbliklaaEv4
import Derived.Lib.SmallJoins
import Derived.ProofKit

set_option linter.unusedVariables false
set_option linter.unusedSimpArgs false

section
namespace Go.Ev
open Go.RowKit Go.Sx
set_option linter.unusedVariables false
set_option linter.unusedSimpArgs false
set_option linter.unusedSectionVars false
theorem lay_sub {xs vs : List Value} {off : Nat} (h : off + vs.length ≤ xs.length) : lay xs vs off = xs.take off ++ vs ++ xs.drop (off + vs.length) := by rw [lay_eq, Go.Sx.setL_eq _ _ _ h]
theorem natOf_some {k hi d : Nat} (h : k ≤ hi) : natOf (some (nS k)) d hi = some k := natOf_i h
section
variable {P : Program} {T e w : Nat} (he : elemOf P T = some e) (hz : sizeB P e = some w)
include he hz
theorem sl_hi {i off n c k : Nat} (hk : k ≤ c) : evSlice P T (.slice (some ⟨i, off, none⟩) n c) none (some (nS k)) none = some (.slice (some ⟨i, off, none⟩) k c) := by
  unfold evSlice
  simp only [he, hz, obind_s, natOf_some hk, fN_eq, show natOf none c c = some c from rfl, show natOf none 0 k = some 0 from rfl]
  show ocond true (Bool.rec (motive := fun _ => Option Value) (some (.slice (some ⟨i, off + 0 * w, none⟩) (k - 0) (c - 0))) (some (.slice (some ⟨i, off, none⟩) (k - 0) (c - 0))) (Nat.beq c 0)) = _
  rw [Nat.zero_mul, Nat.add_zero, Nat.sub_zero, Nat.sub_zero]
  cases Nat.beq c 0 <;> rfl
theorem sl_lo {i off n c l : Nat} (hl : l ≤ n) (hn : n ≤ c) (hc : l < c) : evSlice P T (.slice (some ⟨i, off, none⟩) n c) (some (nS l)) none none = some (.slice (some ⟨i, off + l * w, none⟩) (n - l) (c - l)) := by
  unfold evSlice
  simp only [he, hz, obind_s, natOf_some hl, fN_eq, show natOf none c c = some c from rfl, show natOf none n c = some n from rfl]
  show ocond true (Bool.rec (motive := fun _ => Option Value) (some (.slice (some ⟨i, off + l * w, none⟩) (n - l) (c - l))) (some (.slice (some ⟨i, off, none⟩) (n - l) (c - l))) (Nat.beq c l)) = _
  cases hb : Nat.beq c l with
  | true => have := Nat.eq_of_beq_eq_true hb; omega
  | false => rfl
theorem ss_hi {i off eo n c C k : Nat} (hC : mx2 n c = C) (hk : k ≤ C) (hc : 0 < C) : evSlice P T (.slice (some ⟨i, off, some eo⟩) n c) none (some (nS k)) none = some (.slice (some ⟨i, off, some eo⟩) k C) := by
  unfold evSlice
  simp only [he, hz, obind_s, natOf_some hk, fN_eq, hC, show natOf none 0 k = some 0 from rfl]
  rw [Nat.ble_eq_true_of_le (show Nat.succ 0 ≤ C from hc)]
  show some (Value.slice (some ⟨i, off + 0 * w, some (eo + 0)⟩) (k - 0) (C - 0)) = _
  rw [Nat.zero_mul]; rfl
end
theorem sl_nil {P : Program} {T e w : Nat} (he : elemOf P T = some e) (hz : sizeB P e = some w) : evSlice P T (.slice none 0 0) (some (nS 0)) none none = some (.slice none 0 0) := by
  unfold evSlice
  simp only [he, hz, obind_s]
  rfl
section
variable {α : Type} [Rwc α] {P : Program} {T el : Nat}
theorem wr_c {h : Tr Ob} {i off E : Nat} {xs vs : List Value} (hg : h.get i = some (.c xs E)) (hl : off + vs.length ≤ xs.length) : evWrite h i off vs = some (h.set (some (.c (xs.take off ++ vs ++ xs.drop (off + vs.length)) E)) i) := by
  unfold evWrite; rw [hg]
  show ocond (Nat.ble (off + len vs) (len xs)) (some (h.set (some (.c (lay xs vs off) E)) i)) = _
  rw [len_eq, len_eq, Nat.ble_eq_true_of_le hl, lay_sub hl]; rfl
theorem wr_g {h : Tr Ob} {i off E z : Nat} {xs vs : List Value} (hg : h.get i = some (.g xs E z)) (hl : off + vs.length ≤ xs.length) : evWrite h i off vs = some (h.set (some (.g (xs.take off ++ vs ++ xs.drop (off + vs.length)) E z)) i) := by
  unfold evWrite; rw [hg]
  show ocond (Nat.ble (off + len vs) (len xs)) (some (h.set (some (.g (lay xs vs off) E z)) i)) = _
  rw [len_eq, len_eq, Nat.ble_eq_true_of_le hl, lay_sub hl]; rfl
/-! ### Clone -/
/-! ### IndexFunc of rows of more than one cell -/
/-! ### Lists that may be written -/
/-- A block that begins with rows. -/
def Bl (h : Tr Ob) (i : Nat) (L : List α) (rest : List Value) : Prop := (∃ E, h.get i = some (.c (encs L ++ rest) E)) ∨ ∃ E z, h.get i = some (.g (encs L ++ rest) E z)
theorem Bl.keep {h h' : Tr Ob} {i : Nat} {L : List α} {rest : List Value} (b : Bl h i L rest) (e : h'.get i = h.get i) : Bl h' i L rest := by unfold Bl; rw [e]; exact b
theorem Bl.cells {h : Tr Ob} {i : Nat} {L : List α} {rest : List Value} (b : Bl h i L rest) (off : Nat) : cellsFrom h i off = some ((encs L ++ rest).drop off) := by
  rcases b with ⟨E, b⟩ | ⟨E, z, b⟩
  · exact cellsFrom_c b off
  · exact cellsFrom_g b off
theorem Bl.sl {h : Tr Ob} {i : Nat} {L : List α} {rest : List Value} (b : Bl h i L rest) {N c : Nat} {sp : Option Nat} (hi : i < N) : Sl h N (.slice (some ⟨i, 0, sp⟩) L.length c) L :=
  ⟨⟨encs_len L, _, _, rfl, .inr ⟨i, 0, sp, _, rfl, hi, b.cells 0, by rw [List.drop_zero, ← encs_len, List.take_left']; rfl⟩⟩, fun n c e => by cases e⟩
theorem Bl.wr {h : Tr Ob} {i off : Nat} {L M : List α} {rest rest' vs : List Value} (b : Bl h i L rest) (hl : off + vs.length ≤ (encs L ++ rest).length) (he : (encs L ++ rest).take off ++ vs ++ (encs L ++ rest).drop (off + vs.length) = encs M ++ rest') :
    ∃ ob, evWrite h i off vs = some (h.set ob i) ∧ Bl (h.set ob i) i M rest' := by
  rcases b with ⟨E, b⟩ | ⟨E, z, b⟩
  · have hw := wr_c b hl
    rw [he] at hw
    exact ⟨_, hw, .inl ⟨E, Tr.get_same _ _ _⟩⟩
  · have hw := wr_g b hl
    rw [he] at hw
    exact ⟨_, hw, .inr ⟨E, z, Tr.get_same _ _ _⟩⟩
/-- Some cells of a row are written. -/
theorem Bl.sto {w m k d i n c : Nat} {sp : Option Nat} {h : Tr Ob} {u : Value} {L : List α} {rest : List Value} {x y : α} (b : Bl h i L rest) (hw : w = Rwc.w α) (hx : L[k]? = some x) (hm : Nat.beq (len (cel u)) m = true) (hf : flatL (cel u) = true)
    (hd : Nat.ble (d + m) w = true) (hy : lay (Rwc.enc x) (cel u) d = Rwc.enc y) : ∃ ob, Go.Ev.sto m (ptr w (.slice (some ⟨i, 0, sp⟩) n c) k d) u h = some (h.set ob i) ∧ Bl (h.set ob i) i (L.set k y) rest := by
  subst hw
  have hk := lt_of_at hx
  have hd := Nat.le_of_ble_eq_true hd
  have hm := Nat.eq_of_beq_eq_true hm
  rw [len_eq] at hm
  have h3 : (k + 1) * Rwc.w α ≤ L.length * Rwc.w α := Nat.mul_le_mul_right _ hk
  rw [Nat.add_mul, Nat.one_mul] at h3
  have hlen : k * Rwc.w α + d + (cel u).length ≤ (encs L ++ rest).length := by rw [List.length_append, encs_len]; omega
  have key : (encs L ++ rest).take (k * Rwc.w α + d) ++ cel u ++ (encs L ++ rest).drop (k * Rwc.w α + d + (cel u).length) = encs (L.set k y) ++ rest := by
    have hsplit : encs L = encs (L.take k) ++ (Rwc.enc x ++ encs (L.drop (k + 1))) := by
      rw [← encs_cons, ← drop_at hx, ← encs_app, List.take_append_drop]
    have hset : encs (L.set k y) = encs (L.take k) ++ (Rwc.enc y ++ encs (L.drop (k + 1))) := by
      rw [List.set_eq_take_append_cons_drop, if_pos hk, encs_app, encs_cons]
    have hl0 : (encs (L.take k)).length = k * Rwc.w α := by rw [encs_len, List.length_take, Nat.min_eq_left (by omega)]
    have hye : Rwc.enc y = (Rwc.enc x).take d ++ cel u ++ (Rwc.enc x).drop (d + (cel u).length) := by
      rw [← hy, lay_sub (by rw [Rwc.len]; omega)]
    have hxl := Rwc.len x
    rw [hset, hye, hsplit]
    simp only [List.append_assoc]
    rw [List.take_append, hl0, List.take_of_length_le (by rw [hl0]; omega), Nat.add_sub_cancel_left, List.take_append_of_le_length (by rw [hxl]; omega)]
    rw [List.drop_append, hl0, List.drop_eq_nil_of_le (by rw [hl0]; omega), List.nil_append, show k * Rwc.w α + d + (cel u).length - k * Rwc.w α = d + (cel u).length by omega, List.drop_append_of_le_length (by rw [hxl]; omega)]
    simp only [List.append_assoc]
  obtain ⟨ob, h5, h6⟩ := b.wr hlen key
  refine ⟨ob, ?_, h6⟩
  show ocond (Nat.beq (len (cel u)) m) (ocond (allF (cel u)) (evWrite h i (0 + k * Rwc.w α + d) (cel u))) = _
  rw [len_eq, hm, Nat.beq_refl, flatL_all hf, Nat.zero_add, h5]; rfl
/-- A list whose block, one of those from lo on and below hi, may be written. -/
def WrR (lo hi : Nat) (h : Tr Ob) (v : Value) (L : List α) : Prop := (v = .slice none 0 0 ∧ L = []) ∨ ∃ i sp c rest, lo ≤ i ∧ i < hi ∧ v = .slice (some ⟨i, 0, sp⟩) L.length c ∧ Bl h i L rest
theorem WrR.of {lo hi : Nat} {h : Tr Ob} {el : Nat} {v : Value} {L : List α} (o : OwR lo hi h el v L) : WrR lo hi h v L := by
  rcases o with e | ⟨i, h1, h2, e | ⟨e1, e2⟩ | ⟨e1, e2⟩⟩
  · exact .inl e
  · exact .inl e
  · exact .inr ⟨i, none, L.length, [], h1, h2, e1, .inl ⟨el, by rw [List.append_nil]; exact e2⟩⟩
  · exact .inr ⟨i, some 0, 0, [], h1, h2, e1, .inr ⟨el, _, by rw [List.append_nil]; exact e2⟩⟩
theorem WrR.keep {lo hi : Nat} {h h' : Tr Ob} {v : Value} {L : List α} (o : WrR lo hi h v L) (hk : ∀ j, lo ≤ j → j < hi → h'.get j = h.get j) : WrR lo hi h' v L := by
  rcases o with e | ⟨i, sp, c, rest, h1, h2, h3, h4⟩
  · exact .inl e
  · exact .inr ⟨i, sp, c, rest, h1, h2, h3, h4.keep (hk i h1 h2)⟩
theorem WrR.wide {lo hi lo' hi' : Nat} {h : Tr Ob} {v : Value} {L : List α} (o : WrR lo hi h v L) (g1 : lo' ≤ lo) (g2 : hi ≤ hi') : WrR lo' hi' h v L := by
  rcases o with e | ⟨i, sp, c, rest, h1, h2, h3, h4⟩
  · exact .inl e
  · exact .inr ⟨i, sp, c, rest, by omega, by omega, h3, h4⟩
theorem WrR.sl {lo hi : Nat} {h : Tr Ob} {v : Value} {L : List α} {N : Nat} (o : WrR lo hi h v L) (hN : hi ≤ N) : Sl h N v L := by
  rcases o with ⟨rfl, rfl⟩ | ⟨i, sp, c, rest, h1, h2, rfl, h4⟩
  · exact Sl.nil _ _
  · exact h4.sl (by omega)
theorem WrR.sto {lo hi w m k d : Nat} {h : Tr Ob} {v u : Value} {L : List α} {x y : α} {N : Nat} (o : WrR lo hi h v L) (hw : w = Rwc.w α) (hx : L[k]? = some x) (hm : Nat.beq (len (cel u)) m = true) (hf : flatL (cel u) = true)
    (hd : Nat.ble (d + m) w = true) (hy : lay (Rwc.enc x) (cel u) d = Rwc.enc y) : ∃ h', Go.Ev.sto m (ptr w v k d) u h = some h' ∧ WrR lo hi h' v (L.set k y) ∧ Gl' lo h N h' N ∧ ∀ j, hi ≤ j → h'.get j = h.get j := by
  rcases o with ⟨rfl, rfl⟩ | ⟨i, sp, c, rest, h1, h2, rfl, h4⟩
  · simp at hx
  obtain ⟨ob, h5, h6⟩ := h4.sto (n := L.length) (c := c) (sp := sp) hw hx hm hf hd hy
  exact ⟨_, h5, .inr ⟨i, sp, c, rest, h1, h2, by rw [List.length_set], h6⟩, Gl'.of ((Fr_set h1).2 (Fr.refl _ _)) (Nat.le_refl _), fun j hj => Tr.get_other _ _ (by omega)⟩

/-! ### DeleteFunc of rows of more than one cell -/
/-! ### Insert of one row -/
end
end Go.Ev
end

section
namespace Go.Ev
open Go.RowKit Go.Sx
set_option linter.unusedVariables false
set_option linter.unusedSimpArgs false
set_option linter.unusedSectionVars false
section
variable {P : Program}
/-- A field's two values, and whether they are alike. -/
structure FE where
  f : Field
  a : Value
  b : Value
  r : Bool
theorem still_struct {T : TypeId} {d : Nat} {fs : Array Field} {xs ys : List Value} (hT : P.underlying T = some (.struct fs)) (hst : P.stoodInHeld T = false) (rs : List FE) (hfs : fs.toList = rs.map (·.f))
    (h : ∀ q ∈ rs, q.f.name ≠ "_" ∧ still P (part q.f.type ⟨xs⟩ q.f.offset) = some q.a ∧ still P (part q.f.type ⟨ys⟩ q.f.offset) = some q.b ∧ still P (Op.equalIn d q.f.type q.a q.b) = some q.r) :
    still P (Op.equalIn (d + 1) T (.agg ⟨xs⟩) (.agg ⟨ys⟩)) = some (rs.all (·.r)) := by
  rw [Op.equalIn, still_bnd, still_undl hT, obind_s]
  simp only []
  rw [still_bnd, show still P program = some P from rfl, obind_s]
  simp only [hst, Bool.false_eq_true, if_false]
  rw [← Array.forIn_toList, hfs]
  clear hT hfs
  induction rs with
  | nil => rfl
  | cons q rs ih =>
    obtain ⟨h1, h2, h3, h4⟩ := h q List.mem_cons_self
    have ih' := ih fun p hp => h p (List.mem_cons_of_mem _ hp)
    simp only [List.map_cons, List.forIn_cons, if_pos h1, bind_assoc]
    rw [still_bnd, h2, obind_s, still_bnd, h3, obind_s, still_bnd, h4, obind_s]
    cases hr : q.r with
    | false => simp only [Bool.not_false, if_true, pure_bind, List.all_cons, hr, Bool.false_and, still_pure]
    | true =>
      simp only [Bool.not_true, Bool.false_eq_true, if_false, pure_bind, List.all_cons, hr, Bool.true_and]
      exact ih'
theorem still_int {d : Nat} {T : TypeId} {k : IntKind} {i j : Int} (hT : P.underlying T = some (.int k)) : still P (Op.equalIn (d + 1) T (.int k i) (.int k j)) = some (decide (i = j)) := by
  rw [Op.equalIn, still_bnd, still_undl hT, obind_s]
  simp only []
  first
  | rfl
  | (show some (i == j) = _; congr 1)
theorem still_bool {d : Nat} {T : TypeId} {i j : Bool} (hT : P.underlying T = some .bool) : still P (Op.equalIn (d + 1) T (.bool i) (.bool j)) = some (decide (i = j)) := by
  rw [Op.equalIn, still_bnd, still_undl hT, obind_s]
  simp only []
  first
  | rfl
  | (cases i <;> cases j <;> rfl)
theorem eql_agg {T : TypeId} {x y : Operand} {xs ys : List Value} {r : Bool} (hg : still P (eqGuard .eql T x y (.agg ⟨xs⟩) (.agg ⟨ys⟩)) = some ()) (h1 : scal (.agg ⟨xs⟩) = true) (h2 : scal (.agg ⟨ys⟩) = true) (h : still P (Op.equalIn (9999 + 1) T (.agg ⟨xs⟩) (.agg ⟨ys⟩)) = some r) :
    evBin P .eql T x y (.agg ⟨xs⟩) (.agg ⟨ys⟩) = some (.bool r) := by
  have g : still P (do eqGuard .eql T x y (.agg ⟨xs⟩) (.agg ⟨ys⟩); binOp .eql T (.agg ⟨xs⟩) (.agg ⟨ys⟩)) = some (.bool r) := by
    rw [still_bnd, hg, obind_s]
    show still P (Value.bool <$> Op.equalIn (9999 + 1) T _ _) = _
    rw [map_eq_pure_bind, still_bnd, h]
    rfl
  show oor (ocond (scal _) (ocond (scal _) (obind (still P _) fun r => ocond (scal r) (some r)))) _ = _
  rw [g, h1, h2]
  rfl
theorem neq_agg {T : TypeId} {x y : Operand} {xs ys : List Value} {r : Bool} (hg : still P (eqGuard .neq T x y (.agg ⟨xs⟩) (.agg ⟨ys⟩)) = some ()) (h1 : scal (.agg ⟨xs⟩) = true) (h2 : scal (.agg ⟨ys⟩) = true) (h : still P (Op.equalIn (9999 + 1) T (.agg ⟨xs⟩) (.agg ⟨ys⟩)) = some r) :
    evBin P .neq T x y (.agg ⟨xs⟩) (.agg ⟨ys⟩) = some (.bool (!r)) := by
  have g : still P (do eqGuard .neq T x y (.agg ⟨xs⟩) (.agg ⟨ys⟩); binOp .neq T (.agg ⟨xs⟩) (.agg ⟨ys⟩)) = some (.bool (!r)) := by
    rw [still_bnd, hg, obind_s]
    show still P ((fun b => Value.bool !b) <$> Op.equalIn (9999 + 1) T _ _) = _
    rw [map_eq_pure_bind, still_bnd, h]
    rfl
  show oor (ocond (scal _) (ocond (scal _) (obind (still P _) fun r => ocond (scal r) (some r)))) _ = _
  rw [g, h1, h2]
  rfl
end
/-- A slice that came in: nil, or with room told. -/
def Pl (v : Value) (n : Nat) : Prop := (v = .slice none 0 0 ∧ n = 0) ∨ ∃ i off c, v = .slice (some ⟨i, off, none⟩) n c ∧ n ≤ c
section
variable {α : Type} [Rwc α] {P : Program} {T e : Nat}
theorem Sl.to {h : Tr Ob} {N k : Nat} {v : Value} {L : List α} (s : Sl h N v L) (w : Pl v L.length) (he : elemOf P T = some e) (hz : sizeB P e = some (Rwc.w α)) (hk : k ≤ L.length) :
    ∃ v', evSlice P T v none (some (nS k)) none = some v' ∧ Sl h N v' (L.take k) ∧ Pl v' k := by
  rcases w with ⟨rfl, h1⟩ | ⟨i, off, c, rfl, h1⟩
  · have hL : L = [] := List.length_eq_zero_iff.1 h1
    subst hL
    have hk0 : k = 0 := by simpa using hk
    subst hk0
    refine ⟨.slice none 0 0, ?_, Sl.nil _ _, .inl ⟨rfl, rfl⟩⟩
    unfold evSlice
    simp only [he, hz, obind_s]
    rfl
  · refine ⟨_, sl_hi he hz (by omega), ?_, .inr ⟨i, off, c, rfl, by omega⟩⟩
    obtain ⟨p, c', e1, hh⟩ := s.sh.at_
    cases e1
    have hl : (L.take k).length = k := by rw [List.length_take, Nat.min_eq_left hk]
    refine ⟨⟨encs_len _, _, _, by rw [hl], ?_⟩, fun n c e => by cases e⟩
    rcases hh with hh | ⟨i', off', sp, ys, e2, k2, k3, k4⟩
    · left; omega
    · cases e2
      refine .inr ⟨_, _, _, ys, rfl, k2, k3, ?_⟩
      rw [← encs_take, ← k4, List.take_take, hl, Nat.min_eq_left (Nat.mul_le_mul_right _ hk)]
theorem Sl.from {h : Tr Ob} {N k : Nat} {v : Value} {L : List α} (s : Sl h N v L) (w : Pl v L.length) (he : elemOf P T = some e) (hz : sizeB P e = some (Rwc.w α)) (hk : k ≤ L.length) :
    ∃ v', evSlice P T v (some (nS k)) none none = some v' ∧ Sl h N v' (L.drop k) ∧ Pl v' (L.length - k) := by
  rcases w with ⟨rfl, h1⟩ | ⟨i, off, c, rfl, h1⟩
  · have hL : L = [] := List.length_eq_zero_iff.1 h1
    subst hL
    have hk0 : k = 0 := by simpa using hk
    subst hk0
    exact ⟨.slice none 0 0, sl_nil he hz, Sl.nil _ _, .inl ⟨rfl, rfl⟩⟩
  · have hd : (L.drop k).length = L.length - k := List.length_drop
    obtain ⟨p, c', e1, hh⟩ := s.sh.at_
    cases e1
    by_cases hc : k < c
    · refine ⟨_, sl_lo he hz hk h1 hc, ⟨⟨encs_len _, _, _, by rw [hd], ?_⟩, fun n c e => by cases e⟩, .inr ⟨i, _, _, rfl, by omega⟩⟩
      rcases hh with hh | ⟨i', off', sp, ys, e2, k2, k3, k4⟩
      · left; omega
      · cases e2
        refine .inr ⟨_, _, _, _, rfl, k2, cellsFrom_add k3 _, ?_⟩
        rw [← encs_drop, ← k4, List.drop_take, hd, Nat.sub_mul]
    · have hk' : k = L.length := by omega
      subst hk'
      refine ⟨.slice (some ⟨i, off, none⟩) 0 (c - L.length), ?_, by rw [List.drop_length]; exact Sl.empty _ _ _ _, .inr ⟨i, off, _, by rw [Nat.sub_self], by omega⟩⟩
      unfold evSlice
      simp only [he, hz, obind_s, natOf_some (Nat.le_refl _), fN_eq, show natOf none c c = some c from rfl, show natOf none L.length c = some L.length from rfl]
      have hb : Nat.beq c L.length = true := by
        have : c = L.length := by omega
        rw [this]; exact Nat.beq_refl _
      show ocond true (Bool.rec (motive := fun _ => Option Value) (some (Value.slice (some ⟨i, off + L.length * Rwc.w α, none⟩) (L.length - L.length) (c - L.length))) (some (Value.slice (some ⟨i, off, none⟩) (L.length - L.length) (c - L.length))) (Nat.beq c L.length)) = _
      rw [hb, Nat.sub_self]; rfl
end
end Go.Ev
end

section
namespace Go.Ev
open Go.RowKit Go.Sx
set_option linter.unusedVariables false
section
variable {Q : Value → Tr Ob → Nat → Prop}
abbrev L11 := Value → L10
theorem Rn.loop11 {z : L11} {step : L11 → L11} (I : Nat → Value → Value → Value → Value → Value → Value → Value → Value → Value → Value → Value → Tr Ob → Nat → Prop) (n : Nat) (hn : n < 1000000) {a1 a2 a3 a4 a5 a6 a7 a8 a9 a10 a11 : Value} {h : Tr Ob} {N : Nat} (init : I n a1 a2 a3 a4 a5 a6 a7 a8 a9 a10 a11 h N)
    (body : ∀ n (g : L11), (∀ m, m < n → ∀ a1 a2 a3 a4 a5 a6 a7 a8 a9 a10 a11 h N, I m a1 a2 a3 a4 a5 a6 a7 a8 a9 a10 a11 h N → Rn (g a1 a2 a3 a4 a5 a6 a7 a8 a9 a10 a11 [] h N) Q) → ∀ a1 a2 a3 a4 a5 a6 a7 a8 a9 a10 a11 h N, I n a1 a2 a3 a4 a5 a6 a7 a8 a9 a10 a11 h N → Rn (step g a1 a2 a3 a4 a5 a6 a7 a8 a9 a10 a11 [] h N) Q) : Rn (lpR z step a1 a2 a3 a4 a5 a6 a7 a8 a9 a10 a11 [] h N) Q := by
  rw [lpR_eq]
  exact lp_rule (fun (g : L11) (x : Value × Value × Value × Value × Value × Value × Value × Value × Value × Value × Value × Tr Ob × Nat) => g x.1 x.2.1 x.2.2.1 x.2.2.2.1 x.2.2.2.2.1 x.2.2.2.2.2.1 x.2.2.2.2.2.2.1 x.2.2.2.2.2.2.2.1 x.2.2.2.2.2.2.2.2.1 x.2.2.2.2.2.2.2.2.2.1 x.2.2.2.2.2.2.2.2.2.2.1 [] x.2.2.2.2.2.2.2.2.2.2.2.1 x.2.2.2.2.2.2.2.2.2.2.2.2) (fun n x => I n x.1 x.2.1 x.2.2.1 x.2.2.2.1 x.2.2.2.2.1 x.2.2.2.2.2.1 x.2.2.2.2.2.2.1 x.2.2.2.2.2.2.2.1 x.2.2.2.2.2.2.2.2.1 x.2.2.2.2.2.2.2.2.2.1 x.2.2.2.2.2.2.2.2.2.2.1 x.2.2.2.2.2.2.2.2.2.2.2.1 x.2.2.2.2.2.2.2.2.2.2.2.2)
    (fun n g ih x hx => body n g (fun m hm a1 a2 a3 a4 a5 a6 a7 a8 a9 a10 a11 h N hI => ih m hm (a1, a2, a3, a4, a5, a6, a7, a8, a9, a10, a11, h, N) hI) _ _ _ _ _ _ _ _ _ _ _ _ _ hx) rounds n (by unfold rounds; exact hn) (a1, a2, a3, a4, a5, a6, a7, a8, a9, a10, a11, h, N) init
abbrev L12 := Value → L11
theorem Rn.loop12 {z : L12} {step : L12 → L12} (I : Nat → Value → Value → Value → Value → Value → Value → Value → Value → Value → Value → Value → Value → Tr Ob → Nat → Prop) (n : Nat) (hn : n < 1000000) {a1 a2 a3 a4 a5 a6 a7 a8 a9 a10 a11 a12 : Value} {h : Tr Ob} {N : Nat} (init : I n a1 a2 a3 a4 a5 a6 a7 a8 a9 a10 a11 a12 h N)
    (body : ∀ n (g : L12), (∀ m, m < n → ∀ a1 a2 a3 a4 a5 a6 a7 a8 a9 a10 a11 a12 h N, I m a1 a2 a3 a4 a5 a6 a7 a8 a9 a10 a11 a12 h N → Rn (g a1 a2 a3 a4 a5 a6 a7 a8 a9 a10 a11 a12 [] h N) Q) → ∀ a1 a2 a3 a4 a5 a6 a7 a8 a9 a10 a11 a12 h N, I n a1 a2 a3 a4 a5 a6 a7 a8 a9 a10 a11 a12 h N → Rn (step g a1 a2 a3 a4 a5 a6 a7 a8 a9 a10 a11 a12 [] h N) Q) : Rn (lpR z step a1 a2 a3 a4 a5 a6 a7 a8 a9 a10 a11 a12 [] h N) Q := by
  rw [lpR_eq]
  exact lp_rule (fun (g : L12) (x : Value × Value × Value × Value × Value × Value × Value × Value × Value × Value × Value × Value × Tr Ob × Nat) => g x.1 x.2.1 x.2.2.1 x.2.2.2.1 x.2.2.2.2.1 x.2.2.2.2.2.1 x.2.2.2.2.2.2.1 x.2.2.2.2.2.2.2.1 x.2.2.2.2.2.2.2.2.1 x.2.2.2.2.2.2.2.2.2.1 x.2.2.2.2.2.2.2.2.2.2.1 x.2.2.2.2.2.2.2.2.2.2.2.1 [] x.2.2.2.2.2.2.2.2.2.2.2.2.1 x.2.2.2.2.2.2.2.2.2.2.2.2.2) (fun n x => I n x.1 x.2.1 x.2.2.1 x.2.2.2.1 x.2.2.2.2.1 x.2.2.2.2.2.1 x.2.2.2.2.2.2.1 x.2.2.2.2.2.2.2.1 x.2.2.2.2.2.2.2.2.1 x.2.2.2.2.2.2.2.2.2.1 x.2.2.2.2.2.2.2.2.2.2.1 x.2.2.2.2.2.2.2.2.2.2.2.1 x.2.2.2.2.2.2.2.2.2.2.2.2.1 x.2.2.2.2.2.2.2.2.2.2.2.2.2)
    (fun n g ih x hx => body n g (fun m hm a1 a2 a3 a4 a5 a6 a7 a8 a9 a10 a11 a12 h N hI => ih m hm (a1, a2, a3, a4, a5, a6, a7, a8, a9, a10, a11, a12, h, N) hI) _ _ _ _ _ _ _ _ _ _ _ _ _ _ hx) rounds n (by unfold rounds; exact hn) (a1, a2, a3, a4, a5, a6, a7, a8, a9, a10, a11, a12, h, N) init
/-- What was not asked for is not wanted. -/
theorem wnt_u (c : Bool) (l : List Value) : wntV (.tuple ⟨l⟩) c = some false := rfl
end
end Go.Ev
end

section
namespace Go.Ev
open Go.RowKit Go.Sx Go.ChangeShapes Go.WideShapes Go.ChangeAt
set_option linter.unusedVariables false
set_option linter.unusedSimpArgs false
set_option linter.unusedSectionVars false
theorem RlL.agg {σ : Sg} {as bs : List Value} (t : RlL σ as bs) : Rl σ (.agg ⟨as⟩) (.agg ⟨bs⟩) := .agg t.1 t.2
theorem RlL.plain {σ : Sg} : ∀ {as : List Value}, (∀ v ∈ as, plain v = true) → RlL σ as as := fun h => flat_rl σ h
section
variable {α : Type} [Rwc α] {P : Program} {w : World} {v : Value}
/-- The capacity of a list that came in. -/
theorem in_pl {t e : TypeId} {b0 : Nat} {K : List α} (ht : P.underlying t = some (.slice e)) (hv : Cell.okWide P w .any b0 t v) (hin : In w v K) : Pl v K.length := by
  rcases hin with ⟨rfl, rfl⟩ | ⟨b, off, cap, rfl, _, _⟩
  · exact .inl ⟨rfl, rfl⟩
  · unfold Cell.okWide Cell.ok at hv
    rw [ht] at hv
    exact .inr ⟨b, off, cap, rfl, hv.1⟩
end
section
variable {α : Type} [Rwc α]
/-- A list that came in is told, its capacity too. -/
theorem tell2 {W : World} {v : Value} {K : List α} (hin : In W v K) (hp : ∀ u ∈ encs K, plain u = true) {σ : Sg} {h : Tr Ob} {i : Nat} (T0 : Told W σ h i) :
    ∃ σ' h' v', Told W σ' h' (i + 1) ∧ SLe σ σ' ∧ Fr h i h' ∧ Rl σ' v' v ∧ Sl h' (i + 1) v' K ∧ (Pl v K.length → Pl v' K.length) := by
  obtain ⟨Hr, hw, hs⟩ := T0
  rcases hin with ⟨rfl, rfl⟩ | ⟨b, off, cap, rfl, hb, hc⟩
  · exact ⟨σ, h, .slice none 0 0, ⟨Hr, hw, fun j hj => hs j (by omega)⟩, SLe.refl σ, Fr.refl h i, .sc rfl, Sl.nil _ _, fun h => h⟩
  · have hle : SLe σ (upd σ i (b, 0)) := by
      intro j x hj
      unfold upd
      by_cases e : j = i
      · subst e; rw [hs j (Nat.le_refl _)] at hj; cases hj
      · rw [if_neg e]; exact hj
    have hup : ∀ j, i + 1 ≤ j → upd σ i (b, 0) j = none := fun j hj => by unfold upd; rw [if_neg (by omega)]; exact hs j (by omega)
    have hlow : ∀ j b' r, upd σ i (b, 0) j = some (b', r) → b' < W.heap.size := by
      intro j b' r hj
      unfold upd at hj
      by_cases e : j = i
      · rw [if_pos e] at hj; cases hj; exact hb
      · rw [if_neg e] at hj; exact Hr.low j b' r hj
    have mk : ∀ o : Option Ob, (∀ x, o = some x → OR (upd σ i (b, 0)) W b 0 x) → wrB o = false → HR (.all W) (upd σ i (b, 0)) (h.set o i) W ∧ (∀ j, wrB ((h.set o i).get j) = false) := by
      intro o ho hwo
      have hww : ∀ j, wrB ((h.set o i).get j) = false := by
        intro j
        by_cases e : j = i
        · subst e; rw [Tr.get_same]; exact hwo
        · rw [Tr.get_other _ _ e]; exact hw j
      refine ⟨⟨Hr.bel, hlow, fun j b' r x hj hx => ?_, fun j _ _ _ _ _ _ h1 _ => (by rw [hww j] at h1; cases h1), fun j _ _ _ h1 => (by rw [hww j] at h1; cases h1)⟩, hww⟩
      by_cases e : j = i
      · subst e
        rw [Tr.get_same] at hx
        unfold upd at hj
        rw [if_pos rfl] at hj
        cases hj
        exact ho x hx
      · rw [Tr.get_other _ _ e] at hx
        unfold upd at hj
        rw [if_neg e] at hj
        exact (Hr.ob j b' r x hj hx).mono hle rfl
    have fr : ∀ o : Option Ob, Fr h i (h.set o i) := fun o j hj => Tr.get_other _ _ (by omega)
    by_cases hK : K = []
    · subst hK
      obtain ⟨m1, m2⟩ := mk none (fun x hx => by cases hx) rfl
      exact ⟨_, _, .slice (some ⟨i, off, none⟩) 0 cap, ⟨m1, m2, hup⟩, hle, fr _, .sl (r := 0) (by unfold upd; rw [if_pos rfl]), Sl.empty _ _ _ _, fun _ => .inr ⟨i, off, cap, rfl, Nat.zero_le _⟩⟩
    · obtain ⟨pre, rest, T, fz, h1, h2⟩ := hc hK
      have hpl : Pl (.slice (some ⟨b, off, none⟩) K.length cap) K.length → Pl (.slice (some ⟨i, off, none⟩) K.length cap) K.length := by
        rintro (⟨e, _⟩ | ⟨_, _, _, e, h⟩)
        · cases e
        · cases e; exact .inr ⟨i, off, cap, rfl, h⟩
      obtain ⟨m1, m2⟩ := mk (some (.r off (encs K))) (fun x hx => by cases hx; exact ⟨pre, _, rest, T, fz, h1, flat_rl _ hp, h2⟩) rfl
      refine ⟨_, _, .slice (some ⟨i, off, none⟩) K.length cap, ⟨m1, m2, hup⟩, hle, fr _, .sl (r := 0) (by unfold upd; rw [if_pos rfl]), ⟨⟨encs_len K, _, _, rfl, .inr ⟨i, off, none, _, rfl, by omega, cellsFrom_r (Tr.get_same _ _ _) (Nat.le_refl _), ?_⟩⟩, fun n c e => (by cases e)⟩, hpl⟩
      rw [Nat.sub_self, List.drop_zero, ← encs_len, List.take_length]
end
end Go.Ev
end

section
namespace Go.Ev
open Go.RowKit Go.Sx
set_option linter.unusedVariables false
def Im (R P : Prop) : Prop := R → P
theorem Im.id {R : Prop} : Im R R := fun h => h
theorem Im.go {R P : Prop} (h : Im R P) (r : R) : P := h r
section
variable {α : Type} {R : Prop} {Q : Value → Tr Ob → Nat → Prop}
theorem Im.runS {a : Value} {b : Tr Ob} {c : Nat} {f : Value → Tr Ob → Nat → OpR} (k : Im R (Rn (f a b c) Q)) : Im R (Rn (orun (some (a, b, c)) f) Q) := fun r => Rn.runS (k r)
theorem Im.runE {x : OpR} {a : Value} {b : Tr Ob} {c : Nat} {f : Value → Tr Ob → Nat → OpR} (e : x = some (a, b, c)) (k : Im R (Rn (f a b c) Q)) : Im R (Rn (orun x f) Q) := fun r => Rn.runE e (k r)
theorem Im.num {n m : Nat} {f : Nat → OpR} (e : n = m) (k : Im R (Rn (f m) Q)) : Im R (Rn (fN n f) Q) := fun r => Rn.num e (k r)
theorem Im.unm {h : Tr Ob} {f : Tr Ob → OpR} (k : Im R (Rn (f h) Q)) : Im R (Rn (obind (unmark [] h) f) Q) := fun r => Rn.unm (k r)
theorem Im.selT {x y : OpR} {g : Value → Tr Ob → Nat → OpR} (k : Im R (Rn (orun y g) Q)) : Im R (Rn (orun (sel true x y) g) Q) := fun r => Rn.selT (k r)
theorem Im.selF {x y : OpR} {g : Value → Tr Ob → Nat → OpR} (k : Im R (Rn (orun x g) Q)) : Im R (Rn (orun (sel false x y) g) Q) := fun r => Rn.selF (k r)
theorem Im.cndT {p : Prop} {d : Decidable p} {x y : OpR} (hp : p) (t : Im R (Rn x Q)) : Im R (Rn (cnd (.bool (@decide p d)) x y) Q) := fun r => Rn.cndT hp (t r)
theorem Im.cndF {p : Prop} {d : Decidable p} {x y : OpR} (hp : ¬ p) (t : Im R (Rn y Q)) : Im R (Rn (cnd (.bool (@decide p d)) x y) Q) := fun r => Rn.cndF hp (t r)
theorem Im.cndBT {b : Bool} {x y : OpR} (hb : b = true) (t : Im R (Rn x Q)) : Im R (Rn (Go.Ev.cnd (.bool b) x y) Q) := fun r => Rn.cndBT hb (t r)
theorem Im.cndBF {b : Bool} {x y : OpR} (hb : b = false) (t : Im R (Rn y Q)) : Im R (Rn (Go.Ev.cnd (.bool b) x y) Q) := fun r => Rn.cndBF hb (t r)
theorem Im.cndNT {b : Bool} {x y : OpR} (hb : b = false) (t : Im R (Rn x Q)) : Im R (Rn (Go.Ev.cnd (.bool (!b)) x y) Q) := fun r => Rn.cndNT hb (t r)
theorem Im.cndNF {b : Bool} {x y : OpR} (hb : b = true) (t : Im R (Rn y Q)) : Im R (Rn (Go.Ev.cnd (.bool (!b)) x y) Q) := fun r => Rn.cndNF hb (t r)
theorem Im.bind {x : Option α} {a : α} {f : α → OpR} (e : x = some a) (k : Im R (Rn (f a) Q)) : Im R (Rn (obind x f) Q) := fun r => Rn.bind e (k r)
theorem Im.cond {b : Bool} {x : OpR} (e : b = true) (k : Im R (Rn x Q)) : Im R (Rn (ocond b x) Q) := fun r => Rn.cond e (k r)
theorem Im.runB {x : Option α} {f : α → OpR} {g : Value → Tr Ob → Nat → OpR} {a : α} (e : x = some a) (k : Im R (Rn (orun (f a) g) Q)) : Im R (Rn (orun (obind x f) g) Q) := fun r => Rn.runB e (k r)
theorem Im.runC {b : Bool} {x : OpR} {g : Value → Tr Ob → Nat → OpR} (e : b = true) (k : Im R (Rn (orun x g) Q)) : Im R (Rn (orun (ocond b x) g) Q) := fun r => Rn.runC e (k r)
theorem Im.runN {n m : Nat} {f : Nat → OpR} {g : Value → Tr Ob → Nat → OpR} (e : n = m) (k : Im R (Rn (orun (f m) g) Q)) : Im R (Rn (orun (fN n f) g) Q) := fun r => Rn.runN e (k r)
theorem Im.runR {x : OpR} {f g : Value → Tr Ob → Nat → OpR} (k : Im R (Rn (orun x (fun a b c => orun (f a b c) g)) Q)) : Im R (Rn (orun (orun x f) g) Q) := fun r => Rn.runR (k r)
end
end Go.Ev
end

section
namespace Go.Ev
open Go.RowKit Go.Sx
set_option linter.unusedVariables false
set_option linter.unusedSimpArgs false
/-- A closed call, known by now. -/
theorem FOk.row {P : Program} {f : Nat} {v : Value} (hcal : callable P f) (hv : plain v = true) (hc : ∀ w, Calls P f #[] w fun e w' => e = .returned v ∧ Below w.heap.size w w') : FOk P f (fun _ args h N => ar0 args (some (v, h, N))) := by
  intro call hcall t0 h' N v2 h2 N2 hr
  cases t0 with
  | cons _ _ => cases hr
  | nil =>
    cases hr
    refine ⟨hcal, Nat.le_refl _, fun w0 σ w args' H ha hf => ?_⟩
    rw [ha.of_nil]
    refine (hc w).mono ?_
    rintro e w' ⟨rfl, hb⟩
    exact ⟨v, rfl, σ, Ext.refl _ _ _, H.ext hb, .sc hv⟩
/-! ### Numbers -/
theorem zaddI {i j : Int} (h1 : -9000000000000000000 ≤ i + j) (h2 : i + j ≤ 9000000000000000000) : iop .add (.int .i64 i) (.int .i64 j) = some (.int .i64 (i + j)) := iop_add (by unfold In64; omega)
theorem zsubI {i j : Int} (h1 : -9000000000000000000 ≤ i - j) (h2 : i - j ≤ 9000000000000000000) : iop .sub (.int .i64 i) (.int .i64 j) = some (.int .i64 (i - j)) := iop_sub (by unfold In64; omega)
theorem zmulI {i j : Int} (h : In64 (i * j)) : iop .mul (.int .i64 i) (.int .i64 j) = some (.int .i64 (i * j)) := iop_mul h
theorem zmulK {i j : Int} (h1 : -9000000000000000000 ≤ i * j) (h2 : i * j ≤ 9000000000000000000) : iop .mul (.int .i64 i) (.int .i64 j) = some (.int .i64 (i * j)) := iop_mul (by unfold In64; omega)
theorem quo_z {P : Program} {T : TypeId} {x y : Operand} {i j : Int} (h1 : 0 ≤ i) (h2 : i ≤ 9000000000000000000) (h3 : 0 < j) : evBin P .quo T x y (.int .i64 i) (.int .i64 j) = some (.int .i64 (i / j)) := by
  have e0 : (j == 0) = false := by rw [beq_eq_false_iff_ne]; omega
  have g : still P (do eqGuard .quo T x y (.int .i64 i) (.int .i64 j); binOp .quo T (.int .i64 i) (.int .i64 j)) = some (.int .i64 (i / j)) := by
    have h5 := Int.ediv_nonneg h1 (by omega : 0 ≤ j)
    have h6 := Int.ediv_le_self j h1
    have e : i.tdiv j = i / j := Int.tdiv_eq_ediv_of_nonneg h1
    have hw : IntKind.i64.wrap (i / j) = i / j := wrap_in (by omega)
    simp [still_bnd, eqGuard, binOp, Op.intArith, Op.intDiv, e0, e, hw, still_pure, obind_s]
    try rw [if_neg (by omega)]
    try rfl
  show oor (ibin .quo i j) (ocond true (ocond true (obind (still P _) fun r => ocond (scal r) (some r)))) = _
  rw [g]
  rfl
theorem min_z {P : Program} {ts : Array TypeId} {T : TypeId} {i j : Int} : mnV P ts T [.int .i64 i, .int .i64 j] = some (.int .i64 (min i j)) := by
  have g : still P (Builtin.min_ ts T ⟨[.int .i64 i, .int .i64 j]⟩) = some (.int .i64 (min i j)) := by
    simp [Builtin.min_, Builtin.min2, still_pure]
    split <;> omega
  show ocond true (obind (still P _) fun r => ocond (scal r) (some r)) = _
  rw [g]
  rfl
theorem max_z {P : Program} {ts : Array TypeId} {T : TypeId} {i j : Int} : mxV P ts T [.int .i64 i, .int .i64 j] = some (.int .i64 (max i j)) := by
  have g : still P (Builtin.max_ ts T ⟨[.int .i64 i, .int .i64 j]⟩) = some (.int .i64 (max i j)) := by
    simp [Builtin.max_, Builtin.max2, still_pure]
    split <;> omega
  show ocond true (obind (still P _) fun r => ocond (scal r) (some r)) = _
  rw [g]
  rfl
end Go.Ev
end

section
namespace Go.Ev
open Go.RowKit Go.Sx
set_option linter.unusedVariables false
set_option linter.unusedSimpArgs false
section
variable {h : Tr Ob} {l nt df : Nat} {pe : Ex} {e : Tr Value} {ps : List Nat} {asg body : Code} {s : LoopState}
theorem rEnd_n {kn kr : Tr Ob → OpR} {kx : Nat → Tr Ob → OpR} (hg : h.get l = some (.l .ready .n nt e ps asg body df)) : rEnd kn kx kr l h = kn (h.set (some (.l .exhausted .n nt e ps asg body df)) l) := by
  unfold rEnd; rw [hg]
theorem rEnd_r {kn kr : Tr Ob → OpR} {kx : Nat → Tr Ob → OpR} (hg : h.get l = some (.l .done .r nt e ps asg body df)) : rEnd kn kx kr l h = kr (h.set (some (.l .exhausted .r nt e ps asg body df)) l) := by
  unfold rEnd; rw [hg]
theorem yld {P : Program} {st : Ev.St} {tab : Nat → Option Fs} {rd : Nat → Code → Code → Option Rs} {d N : Nat} {args : List Value} {F : Rs} (hg : h.get l = some (.l .ready pe nt e ps asg body df)) (hr : rd nt asg body = some F)
    (hl : Nat.beq (len args) (len ps) = true) (hp : allLt nt ps = true) : callW st (cAll P tab rd (d + 1)) (.func (.yield l) ⟨[]⟩ ⟨[]⟩) args h N = F (cAll P tab rd d) l (putAll ps args e) h N := by
  show cRound P rd (cAll P tab rd d) l args h N = _
  unfold cRound
  rw [hg]
  show ocond (Nat.beq (len args) (len ps)) (ocond (allLt nt ps) (Option.rec (motive := fun _ => OpR) _ _ (rd nt asg body))) = _
  rw [hl, hp, hr]
  rfl
end
noncomputable def stO (h : Tr Ob) (l : Nat) (ok : LoopState → Bool) (st : LoopState) (pe : Option Ex) (o : Option Ob) : Option (Tr Ob) :=
  match o with
  | some (.l st0 pe0 nt e ps asg body df) => ocond (ok st0) (some (h.set (some (.l st (Option.rec (motive := fun _ => Ex) pe0 (fun x => x) pe) nt e ps asg body df)) l))
  | _ => none
theorem setSt_e (h : Tr Ob) (l : Nat) (ok : LoopState → Bool) (st : LoopState) (pe : Option Ex) : setSt h l ok st pe = stO h l ok st pe (h.get l) := by unfold setSt stO; rfl
theorem stO_n (h : Tr Ob) (l : Nat) (ok : LoopState → Bool) (st s : LoopState) (pe : Ex) (nt : Nat) (e : Tr Value) (ps : List Nat) (asg body : Code) (df : Nat) : stO h l ok st none (some (.l s pe nt e ps asg body df)) = ocond (ok s) (some (h.set (some (.l st pe nt e ps asg body df)) l)) := rfl
theorem stO_s (h : Tr Ob) (l : Nat) (ok : LoopState → Bool) (st s : LoopState) (pe x : Ex) (nt : Nat) (e : Tr Value) (ps : List Nat) (asg body : Code) (df : Nat) : stO h l ok st (some x) (some (.l s pe nt e ps asg body df)) = ocond (ok s) (some (h.set (some (.l st x nt e ps asg body df)) l)) := rfl
theorem isReady_r : isReady .ready = true := rfl
theorem anySt_t (s : LoopState) : anySt s = true := rfl
noncomputable def unO (h : Tr Ob) (n : Nat) (o : Option Ob) : Option (Tr Ob) := match o with | some .d => some (h.set none n) | _ => none
theorem unmark_e (h : Tr Ob) (n : Nat) : unmark [n] h = unO h n (h.get n) := rfl
theorem unO_d (h : Tr Ob) (n : Nat) : unO h n (some .d) = some (h.set none n) := rfl
theorem putAll_c (p : Nat) (ps : List Nat) (v : Value) (vs : List Value) (e : Tr Value) : putAll (p :: ps) (v :: vs) e = putAll ps vs (e.set (some v) p) := rfl
theorem putAll_n (e : Tr Value) : putAll [] [] e = e := rfl
theorem rem_z {P : Program} {T : TypeId} {x y : Operand} {i j : Int} (h1 : 0 ≤ i) (h2 : i ≤ 9000000000000000000) (h3 : 0 < j) : evBin P .rem T x y (.int .i64 i) (.int .i64 j) = some (.int .i64 (i % j)) := by
  have e0 : (j == 0) = false := by rw [beq_eq_false_iff_ne]; omega
  have g : still P (do eqGuard .rem T x y (.int .i64 i) (.int .i64 j); binOp .rem T (.int .i64 i) (.int .i64 j)) = some (.int .i64 (i % j)) := by
    have e : i.tmod j = i % j := Int.tmod_eq_emod_of_nonneg h1
    simp [still_bnd, eqGuard, binOp, Op.intArith, Op.intDiv, e0, e, still_pure, obind_s]
    try rw [if_neg (by omega)]
    try rfl
  show oor (ibin .rem i j) (ocond true (ocond true (obind (still P _) fun r => ocond (scal r) (some r)))) = _
  rw [g]
  rfl
theorem neq_bool {P : Program} {T : TypeId} {x y : Operand} {a b : Bool} (hT : P.underlying T = some .bool) : evBin P .neq T x y (.bool a) (.bool b) = some (.bool (!decide (a = b))) := by
  have g : still P (do eqGuard .neq T x y (.bool a) (.bool b); binOp .neq T (.bool a) (.bool b)) = some (.bool (!decide (a = b))) := by
    have h1 := still_bool (P := P) (d := 9999) (i := a) (j := b) hT
    show obind (some ()) (fun _ => still P ((fun b => Value.bool !b) <$> Op.equalIn (9999 + 1) T _ _)) = _
    rw [obind_s, map_eq_pure_bind, still_bnd, h1]
    rfl
  show oor (ocond (scal _) (ocond (scal _) (obind (still P _) fun r => ocond (scal r) (some r)))) _ = _
  rw [g]
  rfl
/-- A list that is read one by one has these first. -/
theorem Rn.and {r : OpR} {Q R : Value → Tr Ob → Nat → Prop} (a : Rn r Q) (b : ∀ v h N, r = some (v, h, N) → Q v h N → R v h N) : Rn r R := by
  obtain ⟨v, h, N, e, q⟩ := a
  exact ⟨v, h, N, e, b v h N e q⟩
end Go.Ev
end

section
namespace Go.Ev
open Go.RowKit Go.Sx
set_option linter.unusedSimpArgs false
theorem eql_u8 {P : Program} {T : TypeId} {x y : Operand} {a b : Int} : evBin P .eql T x y (.int .u8 a) (.int .u8 b) = some (.bool (decide (a = b))) := by
  have g : still P (do eqGuard .eql T x y (.int .u8 a) (.int .u8 b); binOp .eql T (.int .u8 a) (.int .u8 b)) = some (.bool (decide (a = b))) := by
    simp only [still_bnd, eqGuard, binOp, Op.intCmp, still_pure, obind_s]
    congr 2
  have e : evBin P .eql T x y (.int .u8 a) (.int .u8 b) = oor (sbin P .eql T x y (.int .u8 a) (.int .u8 b)) (oor (nbin P .eql T (.int .u8 a) (.int .u8 b)) (lbin .eql (.int .u8 a) (.int .u8 b))) := by
    unfold evBin; rfl
  rw [e]
  unfold sbin
  rw [g]
  rfl
end Go.Ev
end

section
namespace Go.Ev
open Go.RowKit Go.Sx
set_option linter.unusedVariables false
set_option linter.unusedSimpArgs false
section
variable {P : Program} {kt et T : TypeId} {h : Tr Ob} {N i : Nat} {K : List Int} {z : Int}
/-- A set of numbers. -/
def Mp (h : Tr Ob) (i : Nat) (K : List Int) : Prop := ∃ es c, h.get i = some (.m es c) ∧ es.map (fun e => (e.1, e.2.1)) = K.map fun z => (Value.int .i64 z, Value.bool true)
theorem Mp.keep {h' : Tr Ob} (m : Mp h i K) (e : h'.get i = h.get i) : Mp h' i K := by
  obtain ⟨es, c, h1, h2⟩ := m
  exact ⟨es, c, e.trans h1, h2⟩
theorem Mp.nil {c : Nat} (e : h.get i = some (.m [] c)) : Mp h i [] := ⟨[], c, e, rfl⟩
end
end Go.Ev
end

section
namespace Go.Ev
open Go.RowKit Go.Sx
set_option linter.unusedVariables false
set_option linter.unusedSimpArgs false
set_option maxHeartbeats 1000000
section
variable {α : Type} [Rwc α] {P : Program} {T el : Nat}
end
end Go.Ev
end

section
namespace Go.Ev
open Go.RowKit Go.Sx
set_option linter.unusedVariables false
set_option linter.unusedSimpArgs false
section
variable {P : Program} {T el : Nat} {h : Tr Ob} {v : Value} {K : List Int} {i N : Nat}
/-- A list of numbers of one's own; its block may hold more. -/
def Wx (h : Tr Ob) (el : Nat) (v : Value) (K : List Int) (i : Nat) : Prop :=
  (v = .slice none 0 0 ∧ K = []) ∨ ∃ c rest, v = .slice (some ⟨i, 0, some 0⟩) K.length c ∧ h.get i = some (.g (encs K ++ rest) el 1)
theorem Wx.keep {h' : Tr Ob} (o : Wx h el v K i) (e : h'.get i = h.get i) : Wx h' el v K i := by
  rcases o with o | ⟨c, rest, h1, h2⟩
  · exact .inl o
  · exact .inr ⟨c, rest, h1, e.trans h2⟩
theorem Wx.sl (o : Wx h el v K i) (hi : i < N) : Sl h N v K := by
  rcases o with ⟨rfl, rfl⟩ | ⟨c, rest, rfl, h2⟩
  · exact Sl.nil _ _
  · exact Bl.sl (.inr ⟨el, 1, h2⟩) hi
theorem Wx.nil (h : Tr Ob) (el i : Nat) : Wx h el (.slice none 0 0) [] i := .inl ⟨rfl, rfl⟩
theorem Wx.app (ha : appT P T = some (el, 1)) {h0 : Tr Ob} {u : Value} {x : Int} {N0 : Nat} (o : Wx h el v K i) (hi : i < N) (hu : Sl h0 N0 u [x]) (f : Fr h0 N0 h) (hl : K.length ≤ 1000) :
    Rn (evAppend P T v u h N) fun v' h' N' => ∃ i', Wx h' el v' (K ++ [x]) i' ∧ (i' = i ∨ i' = N) ∧ i' < N' ∧ Gx i h N h' N' := by
  unfold evAppend
  refine Rn.bind ha ?_
  refine Rn.bind hu.lenV ?_
  refine Rn.num rfl ?_
  refine Rn.bind (hu.seg f rfl) ?_
  have hw : Rwc.w Int = 1 := rfl
  have lk : (encs K).length = K.length := by rw [encs_len, hw, Nat.mul_one]
  rcases o with ⟨rfl, rfl⟩ | ⟨c, rest, rfl, h2⟩
  · refine Rn.cond rfl (Rn.cond rfl (Rn.cond rfl ?_))
    exact Rn.ret ⟨N, .inr ⟨0, [], rfl, by rw [Tr.get_same, List.append_nil]; rfl⟩, .inr rfl, by omega, Gx.of (fun j hj _ => Tr.get_other _ _ (by omega)) (by omega)⟩
  · refine Rn.num rfl (Rn.num rfl ?_)
    show Rn (match h.get i with
        | some (.g xs E z') => ocond (Nat.beq z' 1) (ocond (Nat.beq E el) (ocond (Nat.beq 0 (Nat.mul 0 1)) (Bool.rec (motive := fun _ => OpR)
            (ocond (Nat.beq 0 0) (ocond (Nat.beq (Nat.mul K.length 1) (len xs)) (ocond (Nat.ble (Nat.add K.length 1) 1000000) (ocond (allF (encs [x])) (some (.slice (some ⟨N, 0, some 0⟩) (Nat.add K.length 1) 0, (h.set none i).set (some (.g (app xs (encs [x])) E z')) N, Nat.succ N))))))
            (inPlace i 0 (Nat.add 0 (Nat.mul K.length 1)) (some 0) (Nat.add K.length 1) 0 (encs [x]) h N) (Nat.ble (Nat.add 0 (Nat.add (Nat.mul K.length 1) (Nat.mul 1 1))) (len xs)))))
        | _ => none) _
    rw [h2]
    dsimp only
    refine Rn.cond rfl (Rn.cond (Nat.beq_refl _) (Rn.cond rfl ?_))
    have e1 : len (encs K ++ rest) = K.length + rest.length := by rw [len_eq, List.length_append, lk]
    rw [e1]
    cases rest with
    | nil =>
      have hb : Nat.ble (Nat.add 0 (Nat.add (Nat.mul K.length 1) (Nat.mul 1 1))) (K.length + ([] : List Value).length) = false := by
        cases hb : Nat.ble (Nat.add 0 (Nat.add (Nat.mul K.length 1) (Nat.mul 1 1))) (K.length + ([] : List Value).length) with
        | false => rfl
        | true =>
          have := Nat.le_of_ble_eq_true hb
          have h3 : 0 + (K.length * 1 + 1 * 1) ≤ K.length + 0 := this
          omega
      rw [hb]
      refine Rn.cond rfl (Rn.cond (by show Nat.beq (K.length * 1) (K.length + 0) = true; rw [Nat.mul_one]; exact Nat.beq_refl _) (Rn.cond (Nat.ble_eq_true_of_le (show K.length + 1 ≤ 1000000 by omega)) (Rn.cond rfl ?_)))
      refine Rn.ret ⟨N, .inr ⟨0, [], by rw [List.length_append]; rfl, ?_⟩, .inr rfl, by omega, Gx.of (fun j hj hji => (Tr.get_other _ _ (by omega)).trans (Tr.get_other _ _ hji)) (by omega)⟩
      rw [Tr.get_same, app_eq, List.append_nil, List.append_nil, encs_app]
    | cons y rest =>
      have hb : Nat.ble (Nat.add 0 (Nat.add (Nat.mul K.length 1) (Nat.mul 1 1))) (K.length + (y :: rest).length) = true := Nat.ble_eq_true_of_le (by show 0 + (K.length * 1 + 1 * 1) ≤ K.length + (rest.length + 1); omega)
      rw [hb]
      show Rn (inPlace i 0 (Nat.add 0 (Nat.mul K.length 1)) (some 0) (Nat.add K.length 1) 0 (encs [x]) h N) _
      unfold inPlace
      refine Rn.cond rfl ?_
      have e2 : Nat.add 0 (Nat.mul K.length 1) = K.length := by show 0 + K.length * 1 = _; omega
      rw [e2]
      refine Rn.bind (wr_g h2 (by show K.length + 1 ≤ _; rw [List.length_append, lk]; simp)) ?_
      refine Rn.ret ⟨i, .inr ⟨0, rest, by rw [List.length_append]; rfl, ?_⟩, .inl rfl, by omega, Gx.of (fun j hj hji => Tr.get_other _ _ hji) (by omega)⟩
      rw [Tr.get_same, encs_app]
      have t1 : (encs K ++ y :: rest).take K.length = encs K := by rw [← lk, List.take_left']; rfl
      have t2 : (encs K ++ y :: rest).drop (K.length + (encs [x]).length) = rest := by
        show (encs K ++ y :: rest).drop (K.length + 1) = rest
        rw [← lk, List.drop_append]; simp
      rw [t1, t2]
theorem Wx.cut (he : elemOf P T = some el) (hz : sizeB P el = some 1) {x : Int} (o : Wx h el v (K ++ [x]) i) : ∃ v', evSlice P T v none (some (nS K.length)) none = some v' ∧ Wx h el v' K i := by
  rcases o with ⟨_, e⟩ | ⟨c, rest, rfl, h2⟩
  · exact absurd e (by simp)
  · refine ⟨_, ss_hi (C := mx2 (K ++ [x]).length c) he hz rfl ?_ ?_, .inr ⟨_, encs [x] ++ rest, rfl, by rw [h2, encs_app, List.append_assoc]⟩⟩
    · have : K.length + 1 ≤ mx2 (K ++ [x]).length c := by
        rw [List.length_append]
        unfold mx2
        cases hb : Nat.ble (K.length + [x].length) c with
        | true => exact Nat.le_of_ble_eq_true hb
        | false => exact Nat.le_refl _
      omega
    · have : K.length + 1 ≤ mx2 (K ++ [x]).length c := by
        rw [List.length_append]
        unfold mx2
        cases hb : Nat.ble (K.length + [x].length) c with
        | true => exact Nat.le_of_ble_eq_true hb
        | false => exact Nat.le_refl _
      omega
end
end Go.Ev
end

section
namespace Go.Ev
open Go.RowKit Go.Sx
set_option linter.unusedSimpArgs false
variable {P : Program} {T : TypeId} {x y : Operand} {a b : Int}
end Go.Ev
end

section
namespace Go.Ev
open Go.RowKit Go.Sx
set_option linter.unusedVariables false
set_option linter.unusedSimpArgs false
set_option linter.unusedSectionVars false
section
variable {P : Program}
theorem still_array {T el n w d : Nat} {xs ys : List Value} (hT : P.underlying T = some (.array n el)) (hw : still P (sizeOf el) = some w) (r : Nat → Bool) (a b : Nat → Value)
    (h : ∀ i, i < n → still P (part el ⟨xs⟩ (i * w)) = some (a i) ∧ still P (part el ⟨ys⟩ (i * w)) = some (b i) ∧ still P (Op.equalIn d el (a i) (b i)) = some (r i)) :
    still P (Op.equalIn (d + 1) T (.agg ⟨xs⟩) (.agg ⟨ys⟩)) = some ((List.range n).all r) := by
  rw [Op.equalIn, still_bnd, still_undl hT, obind_s]
  simp only []
  rw [still_bnd, hw, obind_s]
  simp only [Std.Legacy.Range.forIn_eq_forIn_range', Std.Legacy.Range.size, Nat.sub_zero, Nat.add_one_sub_one, Nat.div_one, ← List.range_eq_range']
  have hL : ∀ i ∈ List.range n, i < n := fun i hi => List.mem_range.1 hi
  generalize List.range n = L at hL
  clear hT hw
  induction L with
  | nil => rfl
  | cons q rs ih =>
    obtain ⟨h2, h3, h4⟩ := h q (hL q List.mem_cons_self)
    have ih' := ih fun p hp => hL p (List.mem_cons_of_mem _ hp)
    simp only [List.forIn_cons, bind_assoc]
    rw [still_bnd, h2, obind_s, still_bnd, h3, obind_s, still_bnd, h4, obind_s]
    cases hr : r q with
    | false => simp only [Bool.not_false, if_true, pure_bind, List.all_cons, hr, Bool.false_and, still_pure]
    | true =>
      simp only [Bool.not_true, Bool.false_eq_true, if_false, pure_bind, List.all_cons, hr, Bool.true_and]
      exact ih'
end
end Go.Ev
end

