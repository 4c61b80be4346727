/-
  An evaluator over the model's code, and why it holds, part 4.
  Conditions: none; generic over the program.
-/
import Derived.Test.YtpilgokdbliklaaEv3
import Derived.Deep.Slices
import Derived.ProofKit
import Derived.Lib.SmallJoins
import Derived.ChangeMaps5

set_option linter.unusedVariables false
set_option linter.unusedSimpArgs false

section
namespace Go.Ev
open Go.RowKit Go.Sx
set_option linter.unusedVariables false
set_option linter.unusedSimpArgs false

theorem StOk.nil {P : Program} : StOk P [] := fun x hx => by cases hx
theorem StOk.cons {P : Program} {st : St} {f : Nat} {F : Fs} (h : FOk P f F) (hs : StOk P st) : StOk P ((f, F) :: st) := fun x hx => by
  rcases List.mem_cons.1 hx with e | e
  · subst e; exact h
  · exact hs x e

/-- The bodies of ranges over functions within a code, in its order. -/
noncomputable def rgs (c : Code) : List (Code × Code) :=
  Code.rec (motive := fun _ => List (Code × Code)) [] (fun _ _ _ => []) (fun _ _ a b => app a b) (fun _ _ _ a b => app a b) (fun _ _ a => a) (fun _ a => a) (fun _ _ asg body a b => (asg, body) :: app a b) (fun _ => []) (fun _ a => a) (fun _ => []) (fun _ => []) [] (fun _ => []) c
noncomputable def rgN (P : Program) (f k : Nat) : Code × Code := Option.rec (motive := fun _ => Code × Code) (.skip, .skip) (fun x => x) (nth (rgs (bodyOf P f)) k)
noncomputable def rgA (P : Program) (f k : Nat) : Code := (rgN P f k).1
noncomputable def rgB (P : Program) (f k : Nat) : Code := (rgN P f k).2
theorem ROk.congr {P : Program} {nt : Nat} {asg body : Code} {F G : Rs} (h : ∀ call l e h N, F call l e h N = G call l e h N) (hF : ROk P nt asg body F) : ROk P nt asg body G := by
  have : F = G := by funext call l e h' N; exact h call l e h' N
  rw [← this]; exact hF

abbrev C0 : Type := Ct
abbrev C1 : Type := Value → Ct
abbrev C2 : Type := Value → Value → Ct
abbrev C3 : Type := Value → Value → Value → Ct
abbrev C4 : Type := Value → Value → Value → Value → Ct
abbrev C5 : Type := Value → Value → Value → Value → Value → Ct
abbrev C6 : Type := Value → Value → Value → Value → Value → Value → Ct
abbrev C7 : Type := Value → Value → Value → Value → Value → Value → Value → Ct
abbrev C8 : Type := Value → Value → Value → Value → Value → Value → Value → Value → Ct
abbrev C9 : Type := Value → Value → Value → Value → Value → Value → Value → Value → Value → Ct
abbrev C11 : Type := Value → Value → Value → Value → Value → Value → Value → Value → Value → Value → Value → Ct
abbrev C12 : Type := Value → Value → Value → Value → Value → Value → Value → Value → Value → Value → Value → Value → Ct
noncomputable abbrev ar0 (t : List Value) (k : OpR) : OpR := List.rec (motive := fun _ => OpR) (k) (fun _ _ _ => none) t
theorem ar0_ok {P : Program} {f : Nat} {F : Fs} {s : CallF → Tr Ob → Nat → OpR} (h : ∀ call  h N, F call [] h N = s call  h N) (hF : FOk P f F) : FOk P f (fun call args h N => ar0 args (s call h N)) := by
  intro call hc t0 h' N v h2 N2 hr
  cases t0 with
  | nil => exact hF call hc _ _ _ _ _ _ ((h call  h' N).trans hr)
  | cons _ _ => cases hr
noncomputable abbrev ar1 (t : List Value) (k : Value → OpR) : OpR := List.rec (motive := fun _ => OpR) none (fun a0 t _ => List.rec (motive := fun _ => OpR) (k a0) (fun _ _ _ => none) t) t
theorem ar1_ok {P : Program} {f : Nat} {F : Fs} {s : CallF → Value → Tr Ob → Nat → OpR} (h : ∀ call a0 h N, F call [a0] h N = s call a0 h N) (hF : FOk P f F) : FOk P f (fun call args h N => ar1 args (fun a0 => s call a0 h N)) := by
  intro call hc t0 h' N v h2 N2 hr
  cases t0 with
  | nil => cases hr
  | cons x0 t1 =>
    cases t1 with
    | nil => exact hF call hc _ _ _ _ _ _ ((h call x0 h' N).trans hr)
    | cons _ _ => cases hr
noncomputable abbrev ar2 (t : List Value) (k : Value → Value → OpR) : OpR := List.rec (motive := fun _ => OpR) none (fun a0 t _ => List.rec (motive := fun _ => OpR) none (fun a1 t _ => List.rec (motive := fun _ => OpR) (k a0 a1) (fun _ _ _ => none) t) t) t
theorem ar2_ok {P : Program} {f : Nat} {F : Fs} {s : CallF → Value → Value → Tr Ob → Nat → OpR} (h : ∀ call a0 a1 h N, F call [a0, a1] h N = s call a0 a1 h N) (hF : FOk P f F) : FOk P f (fun call args h N => ar2 args (fun a0 a1 => s call a0 a1 h N)) := by
  intro call hc t0 h' N v h2 N2 hr
  cases t0 with
  | nil => cases hr
  | cons x0 t1 =>
    cases t1 with
    | nil => cases hr
    | cons x1 t2 =>
      cases t2 with
      | nil => exact hF call hc _ _ _ _ _ _ ((h call x0 x1 h' N).trans hr)
      | cons _ _ => cases hr
noncomputable abbrev ar3 (t : List Value) (k : Value → Value → Value → OpR) : OpR := List.rec (motive := fun _ => OpR) none (fun a0 t _ => List.rec (motive := fun _ => OpR) none (fun a1 t _ => List.rec (motive := fun _ => OpR) none (fun a2 t _ => List.rec (motive := fun _ => OpR) (k a0 a1 a2) (fun _ _ _ => none) t) t) t) t
theorem ar3_ok {P : Program} {f : Nat} {F : Fs} {s : CallF → Value → Value → Value → Tr Ob → Nat → OpR} (h : ∀ call a0 a1 a2 h N, F call [a0, a1, a2] h N = s call a0 a1 a2 h N) (hF : FOk P f F) : FOk P f (fun call args h N => ar3 args (fun a0 a1 a2 => s call a0 a1 a2 h N)) := by
  intro call hc t0 h' N v h2 N2 hr
  cases t0 with
  | nil => cases hr
  | cons x0 t1 =>
    cases t1 with
    | nil => cases hr
    | cons x1 t2 =>
      cases t2 with
      | nil => cases hr
      | cons x2 t3 =>
        cases t3 with
        | nil => exact hF call hc _ _ _ _ _ _ ((h call x0 x1 x2 h' N).trans hr)
        | cons _ _ => cases hr
noncomputable abbrev ar4 (t : List Value) (k : Value → Value → Value → Value → OpR) : OpR := List.rec (motive := fun _ => OpR) none (fun a0 t _ => List.rec (motive := fun _ => OpR) none (fun a1 t _ => List.rec (motive := fun _ => OpR) none (fun a2 t _ => List.rec (motive := fun _ => OpR) none (fun a3 t _ => List.rec (motive := fun _ => OpR) (k a0 a1 a2 a3) (fun _ _ _ => none) t) t) t) t) t
theorem ar4_ok {P : Program} {f : Nat} {F : Fs} {s : CallF → Value → Value → Value → Value → Tr Ob → Nat → OpR} (h : ∀ call a0 a1 a2 a3 h N, F call [a0, a1, a2, a3] h N = s call a0 a1 a2 a3 h N) (hF : FOk P f F) : FOk P f (fun call args h N => ar4 args (fun a0 a1 a2 a3 => s call a0 a1 a2 a3 h N)) := by
  intro call hc t0 h' N v h2 N2 hr
  cases t0 with
  | nil => cases hr
  | cons x0 t1 =>
    cases t1 with
    | nil => cases hr
    | cons x1 t2 =>
      cases t2 with
      | nil => cases hr
      | cons x2 t3 =>
        cases t3 with
        | nil => cases hr
        | cons x3 t4 =>
          cases t4 with
          | nil => exact hF call hc _ _ _ _ _ _ ((h call x0 x1 x2 x3 h' N).trans hr)
          | cons _ _ => cases hr
noncomputable abbrev ar5 (t : List Value) (k : Value → Value → Value → Value → Value → OpR) : OpR := List.rec (motive := fun _ => OpR) none (fun a0 t _ => List.rec (motive := fun _ => OpR) none (fun a1 t _ => List.rec (motive := fun _ => OpR) none (fun a2 t _ => List.rec (motive := fun _ => OpR) none (fun a3 t _ => List.rec (motive := fun _ => OpR) none (fun a4 t _ => List.rec (motive := fun _ => OpR) (k a0 a1 a2 a3 a4) (fun _ _ _ => none) t) t) t) t) t) t
theorem ar5_ok {P : Program} {f : Nat} {F : Fs} {s : CallF → Value → Value → Value → Value → Value → Tr Ob → Nat → OpR} (h : ∀ call a0 a1 a2 a3 a4 h N, F call [a0, a1, a2, a3, a4] h N = s call a0 a1 a2 a3 a4 h N) (hF : FOk P f F) : FOk P f (fun call args h N => ar5 args (fun a0 a1 a2 a3 a4 => s call a0 a1 a2 a3 a4 h N)) := by
  intro call hc t0 h' N v h2 N2 hr
  cases t0 with
  | nil => cases hr
  | cons x0 t1 =>
    cases t1 with
    | nil => cases hr
    | cons x1 t2 =>
      cases t2 with
      | nil => cases hr
      | cons x2 t3 =>
        cases t3 with
        | nil => cases hr
        | cons x3 t4 =>
          cases t4 with
          | nil => cases hr
          | cons x4 t5 =>
            cases t5 with
            | nil => exact hF call hc _ _ _ _ _ _ ((h call x0 x1 x2 x3 x4 h' N).trans hr)
            | cons _ _ => cases hr
end Go.Ev
end

section
namespace Go.Ev
open Go.RowKit Go.Sx
set_option linter.unusedVariables false
set_option linter.unusedSimpArgs false

section
variable {P : Program} {call : CallF} {v : Goal}
end
end Go.Ev
end

section
namespace Go.Ev
open Go.RowKit Go.Sx
set_option linter.unusedVariables false
set_option linter.unusedSimpArgs false

/-- What lay there stays; numbers grow. -/
structure Gr (h : Tr Ob) (N : Nat) (h' : Tr Ob) (N' : Nat) : Prop where
  le : N ≤ N'
  old : ∀ j, j < N → h'.get j = h.get j
theorem Gr.refl (h : Tr Ob) (N : Nat) : Gr h N h N := ⟨Nat.le_refl _, fun _ _ => rfl⟩
theorem Gr.trans {h h1 h2 : Tr Ob} {N N1 N2 : Nat} (a : Gr h N h1 N1) (b : Gr h1 N1 h2 N2) : Gr h N h2 N2 :=
  ⟨Nat.le_trans a.le b.le, fun j hj => (b.old j (Nat.lt_of_lt_of_le hj a.le)).trans (a.old j hj)⟩
/-- A block of one's own is written. -/
theorem Gr.set {h h1 : Tr Ob} {N N1 : Nat} (a : Gr h N h1 N1) {i N2 : Nat} (hi : N ≤ i) (h2 : N1 ≤ N2) (o : Option Ob) : Gr h N (h1.set o i) N2 :=
  ⟨Nat.le_trans a.le h2, fun j hj => by rw [Tr.get_set, if_neg (by omega)]; exact a.old j hj⟩
theorem Gr.num {h h1 : Tr Ob} {N N1 : Nat} (a : Gr h N h1 N1) {N2 : Nat} (h2 : N1 ≤ N2) : Gr h N h1 N2 := ⟨Nat.le_trans a.le h2, a.old⟩

section
variable {α β γ δ : Type}
theorem obind_s (a : α) (f : α → Option β) : obind (some a) f = f a := rfl
theorem orun_s (a : α) (b : β) (c : γ) (f : α → β → γ → Option δ) : orun (some (a, b, c)) f = f a b c := rfl
theorem ocond_t (x : Option β) : ocond true x = x := rfl
theorem wntV_t (b : Bool) : wntV (.bool b) true = some b := by cases b <;> rfl
theorem wntV_f (b : Bool) : wntV (.bool b) false = some (!b) := by cases b <;> rfl
theorem iop_lss (i j : Int) : iop .lss (.int .i64 i) (.int .i64 j) = some (.bool (decide (i < j))) := by
  show some (Value.bool (bnot (ileB j i))) = _
  rw [ileB_eq, bnot_eq]; congr 2
  rw [Bool.eq_iff_iff]; simp
theorem iop_leq (i j : Int) : iop .leq (.int .i64 i) (.int .i64 j) = some (.bool (decide (i ≤ j))) := by
  show some (Value.bool (ileB i j)) = _
  rw [ileB_eq]
theorem iop_gtr (i j : Int) : iop .gtr (.int .i64 i) (.int .i64 j) = some (.bool (decide (j < i))) := by
  show some (Value.bool (bnot (ileB i j))) = _
  rw [ileB_eq, bnot_eq]; congr 2
  rw [Bool.eq_iff_iff]; simp
theorem iop_geq (i j : Int) : iop .geq (.int .i64 i) (.int .i64 j) = some (.bool (decide (j ≤ i))) := by
  show some (Value.bool (ileB j i)) = _
  rw [ileB_eq]
theorem iop_eql (i j : Int) : iop .eql (.int .i64 i) (.int .i64 j) = some (.bool (decide (i = j))) := by
  show some (Value.bool (ieqB i j)) = _
  rw [ieqB_eq]
theorem iop_neq (i j : Int) : iop .neq (.int .i64 i) (.int .i64 j) = some (.bool (decide (i ≠ j))) := by
  show some (Value.bool (bnot (ieqB i j))) = _
  rw [ieqB_eq, bnot_eq]; congr 2
  rw [Bool.eq_iff_iff]; simp
def In64 (z : Int) : Prop := -9223372036854775808 ≤ z ∧ z ≤ 9223372036854775807
theorem inI64_of {z : Int} (h : In64 z) : inI64 z = true := by
  obtain ⟨h1, h2⟩ := h
  cases z with
  | ofNat n => exact Nat.ble_eq_true_of_le (by have : (Int.ofNat n : Int) = (n : Int) := rfl; omega)
  | negSucc n => exact Nat.ble_eq_true_of_le (by omega)
theorem iop_add {i j : Int} (h : In64 (i + j)) : iop .add (.int .i64 i) (.int .i64 j) = some (.int .i64 (i + j)) := by
  show fI (Int.add i j) (fun r => ocond (inI64 r) (some (Value.int .i64 r))) = _
  rw [fI_eq]
  show ocond (inI64 (i + j)) _ = _
  rw [inI64_of h]; rfl
theorem iop_sub {i j : Int} (h : In64 (i - j)) : iop .sub (.int .i64 i) (.int .i64 j) = some (.int .i64 (i - j)) := by
  show fI (Int.sub i j) (fun r => ocond (inI64 r) (some (Value.int .i64 r))) = _
  rw [fI_eq]
  show ocond (inI64 (i - j)) _ = _
  rw [inI64_of h]; rfl
theorem iop_mul {i j : Int} (h : In64 (i * j)) : iop .mul (.int .i64 i) (.int .i64 j) = some (.int .i64 (i * j)) := by
  show fI (Int.mul i j) (fun r => ocond (inI64 r) (some (Value.int .i64 r))) = _
  rw [fI_eq]
  show ocond (inI64 (i * j)) _ = _
  rw [inI64_of h]; rfl
theorem Tr.get_same (t : Tr α) (v : Option α) (n : Nat) : (t.set v n).get n = v := by rw [Tr.get_set, if_pos rfl]
theorem Tr.get_other (t : Tr α) (v : Option α) {n k : Nat} (h : k ≠ n) : (t.set v n).get k = t.get k := by rw [Tr.get_set, if_neg h]
end

end Go.Ev
end

section
namespace Go.Ev
open Go.RowKit Go.Sx
set_option linter.unusedVariables false
set_option linter.unusedSimpArgs false

section
variable {P : Program}
theorem natOf_i {i d hi : Nat} (h : i ≤ hi) : natOf (some (.int .i64 (i : Int))) d hi = some i := by
  show ocond (Nat.ble i hi) (some i) = _
  rw [Nat.ble_eq_true_of_le h]; rfl
theorem cellsFrom_c {h : Tr Ob} {i T : Nat} {xs : List Value} (hi : h.get i = some (.c xs T)) (off : Nat) : cellsFrom h i off = some (xs.drop off) := by
  unfold cellsFrom; rw [hi]; show some (drp xs off) = _; rw [drp_eq]
theorem cellsFrom_g {h : Tr Ob} {i T z : Nat} {xs : List Value} (hi : h.get i = some (.g xs T z)) (off : Nat) : cellsFrom h i off = some (xs.drop off) := by
  unfold cellsFrom; rw [hi]; show some (drp xs off) = _; rw [drp_eq]
theorem cellsFrom_r {h : Tr Ob} {i lo : Nat} {xs : List Value} (hi : h.get i = some (.r lo xs)) {off : Nat} (hl : lo ≤ off) : cellsFrom h i off = some (xs.drop (off - lo)) := by
  unfold cellsFrom; rw [hi]; show ocond (Nat.ble lo off) (some (drp xs (off - lo))) = _; rw [Nat.ble_eq_true_of_le hl, drp_eq]; rfl
theorem ld1_f {h : Tr Ob} {i off : Nat} {ys : List Value} (hi : cellsFrom h i off = some ys) : ld1 h (.pointer (some ⟨i, off, none⟩)) = ys[0]? := by
  show obind (cellsFrom h i off) (fun xs => nth xs 0) = _
  rw [hi]; show nth ys 0 = _; rw [nth_eq]
theorem ldN_f {h : Tr Ob} {i off m : Nat} {ys : List Value} (hi : cellsFrom h i off = some ys) (hl : m ≤ ys.length) : ldN m h (.pointer (some ⟨i, off, none⟩)) = some (.agg ⟨ys.take m⟩) := by
  show obind (cellsFrom h i off) (fun xs => ocond (Nat.ble (Nat.add 0 m) (len xs)) (some (Value.agg ⟨tak (drp xs 0) m⟩))) = _
  rw [hi]
  show ocond (Nat.ble (0 + m) (len ys)) _ = _
  rw [len_eq, Nat.zero_add, Nat.ble_eq_true_of_le hl, tak_eq, drp_eq]; rfl
theorem fad_p (δ i off : Nat) : fad δ (.pointer (some ⟨i, off, none⟩)) = some (.pointer (some ⟨i, off + δ, none⟩)) := by
  show fN (Nat.add off δ) (fun p => some (Value.pointer (some ⟨i, p, none⟩))) = _
  rw [fN_eq]; rfl
theorem iadA_p {n m i off k : Nat} (hk : k < n) : iadA n m (.pointer (some ⟨i, off, none⟩)) (.int .i64 (k : Int)) = some (.pointer (some ⟨i, off + k * m, none⟩)) := by
  show ocond (Nat.ble (Nat.succ k) n) (fN (Nat.add off (Nat.mul k m)) fun p => some (Value.pointer (some ⟨i, p, none⟩))) = _
  rw [Nat.ble_eq_true_of_le hk, fN_eq]; rfl
theorem iadS_p {n m i off k c : Nat} {sp : Option Nat} (hk : k < n) : iadS m (.slice (some ⟨i, off, sp⟩) n c) (.int .i64 (k : Int)) = some (.pointer (some ⟨i, off + k * m, none⟩)) := by
  show ocond (Nat.ble (Nat.succ k) n) (fN (Nat.add off (Nat.mul k m)) fun p => some (Value.pointer (some ⟨i, p, none⟩))) = _
  rw [Nat.ble_eq_true_of_le hk, fN_eq]; rfl
theorem lenS_s (p : Option Addr) (n c : Nat) : lenS (.slice p n c) = some (.int .i64 (n : Int)) := rfl
theorem valEq_int (d : Nat) (k : IntKind) (z : Int) : valEq (d + 1) (.int k z) (.int k z) = true := by
  show band (decide (k = k)) (decide (z = z)) = true
  rw [decide_eq_true rfl, decide_eq_true rfl]; rfl
theorem valEq_str (d : Nat) (s : ByteArray) : valEq (d + 1) (.string s) (.string s) = true := decide_eq_true rfl
theorem valEq_nil (d : Nat) : valEq (d + 2) (.agg ⟨[]⟩) (.agg ⟨[]⟩) = true := rfl
theorem valEq_cons {d : Nat} {x : Value} {l : List Value} (h1 : valEq d x x = true) (h2 : valEq (d + 1) (.agg ⟨l⟩) (.agg ⟨l⟩) = true) : valEq (d + 1) (.agg ⟨x :: l⟩) (.agg ⟨x :: l⟩) = true := by
  show band (valEq d x x) (listEq (valEq d) l l) = true
  rw [h1]
  exact h2
theorem still_pure {α : Type} (a : α) : still P (pure a : Sem α) = some a := rfl
theorem still_bnd {α β : Type} (f : α → Sem β) : ∀ s : Sem α, still P (s >>= f) = obind (still P s) fun a => still P (f a)
  | .pure a => rfl
  | .program k => still_bnd f (k P)
  | .mark m k => still_bnd f k
  | .load _ _ _ => rfl
  | .store _ _ _ _ => rfl
  | .new _ _ => rfl
  | .shape _ _ => rfl
  | .freeze _ _ _ => rfl
  | .frozen _ _ => rfl
  | .getObj _ _ => rfl
  | .setObj _ _ _ => rfl
  | .choose _ _ => rfl
  | .sys _ _ => rfl
  | .halt _ => rfl
theorem still_undl {T : TypeId} {d : TypeDesc} (hT : P.underlying T = some d) : still P (underlying T) = some d := by
  unfold underlying
  rw [still_bnd]
  show obind (some P) _ = _
  rw [obind_s]
  rw [hT]
  rfl
end
end Go.Ev
end

section
namespace Go.Ev
open Go.RowKit Go.Sx
set_option linter.unusedVariables false
set_option linter.unusedSimpArgs false

abbrev nS (n : Nat) : Value := .int .i64 (n : Int)
abbrev iS (n : Int) : Value := .int .i64 n
theorem wnt_tt : wntV (.bool true) true = some true := rfl
theorem wnt_tf : wntV (.bool true) false = some false := rfl
theorem wnt_ft : wntV (.bool false) true = some false := rfl
theorem wnt_ff : wntV (.bool false) false = some true := rfl
theorem pck_t (x y : Option Value) : pck (.bool true) x y = x := by cases x <;> rfl
theorem pck_f (x y : Option Value) : pck (.bool false) x y = y := by cases y <;> rfl
theorem cellsFrom_get {h h' : Tr Ob} {i : Nat} (he : h'.get i = h.get i) (off : Nat) : cellsFrom h' i off = cellsFrom h i off := by
  unfold cellsFrom; rw [he]
theorem cellsFrom_add {h : Tr Ob} {i off : Nat} {ys : List Value} (hi : cellsFrom h i off = some ys) (k : Nat) : cellsFrom h i (off + k) = some (ys.drop k) := by
  unfold cellsFrom at hi ⊢
  cases hg : h.get i with
  | none => rw [hg] at hi; cases hi
  | some o =>
    rw [hg] at hi
    cases o with
    | c xs T =>
      have h1 : some (drp xs off) = some ys := hi
      show some (drp xs (off + k)) = _
      rw [← Option.some.inj h1, drp_eq, drp_eq, List.drop_drop]
    | g xs T z =>
      have h1 : some (drp xs off) = some ys := hi
      show some (drp xs (off + k)) = _
      rw [← Option.some.inj h1, drp_eq, drp_eq, List.drop_drop]
    | r lo xs =>
      have h1 : ocond (Nat.ble lo off) (some (drp xs (off - lo))) = some ys := hi
      obtain ⟨h2, h3⟩ := ocond_some h1
      have hlo := Nat.le_of_ble_eq_true h2
      show ocond (Nat.ble lo (off + k)) (some (drp xs (off + k - lo))) = _
      rw [Nat.ble_eq_true_of_le (by omega), ← Option.some.inj h3, drp_eq, drp_eq, List.drop_drop]
      show some _ = some _
      congr 2
      omega
    | d => cases hi
    | l _ _ _ _ _ _ _ _ => cases hi
    | m _ _ => cases hi

/-- Cells that a slice shows: w of them an element, n elements. -/
structure Shows (h : Tr Ob) (N : Nat) (v : Value) (n w : Nat) (L : List Value) : Prop where
  len : L.length = n * w
  at_ : ∃ p c, v = .slice p n c ∧ (n = 0 ∨ ∃ i off sp ys, p = some ⟨i, off, sp⟩ ∧ i < N ∧ cellsFrom h i off = some ys ∧ ys.take (n * w) = L)
theorem Shows.gr {h h' : Tr Ob} {N N' n w : Nat} {v : Value} {L : List Value} (s : Shows h N v n w L) (g : Gr h N h' N') : Shows h' N' v n w L := by
  obtain ⟨p, c, e, k⟩ := s.at_
  refine ⟨s.len, p, c, e, ?_⟩
  rcases k with k | ⟨i, off, sp, ys, k1, k2, k3, k4⟩
  · exact .inl k
  · exact .inr ⟨i, off, sp, ys, k1, Nat.lt_of_lt_of_le k2 g.le, by rw [cellsFrom_get (g.old i k2)]; exact k3, k4⟩
theorem Shows.lenS {h : Tr Ob} {N n w : Nat} {v : Value} {L : List Value} (s : Shows h N v n w L) : lenS v = some (nS n) := by
  obtain ⟨p, c, rfl, _⟩ := s.at_; rfl
/-- An element's place. -/
theorem Shows.elem {h : Tr Ob} {N n w : Nat} {v : Value} {L : List Value} (s : Shows h N v n w L) {k : Nat} (hk : k < n) :
    ∃ i off, i < N ∧ iadS w v (nS k) = some (.pointer (some ⟨i, off, none⟩)) ∧ ∃ ys, cellsFrom h i off = some ys ∧ ys.take w = (L.drop (k * w)).take w := by
  obtain ⟨p, c, rfl, hh⟩ := s.at_
  rcases hh with hh | ⟨i, off, sp, ys, rfl, k2, k3, k4⟩
  · omega
  · refine ⟨i, off + k * w, k2, iadS_p hk, ys.drop (k * w), cellsFrom_add k3 _, ?_⟩
    rw [← k4, List.drop_take]
    rw [List.take_take]
    congr 1
    have h1 : (k + 1) * w ≤ n * w := Nat.mul_le_mul_right _ hk
    rw [Nat.add_mul] at h1
    omega
/-- A list of numbers. -/
abbrev Ints (h : Tr Ob) (N : Nat) (v : Value) (L : List Int) : Prop := Shows h N v L.length 1 (L.map iS)
theorem Ints.get {h : Tr Ob} {N : Nat} {v : Value} {L : List Int} (s : Ints h N v L) {k : Nat} (hk : k < L.length) :
    ∃ i off, i < N ∧ iadS 1 v (nS k) = some (.pointer (some ⟨i, off, none⟩)) ∧ ld1 h (.pointer (some ⟨i, off, none⟩)) = some (iS L[k]) := by
  obtain ⟨i, off, h1, h2, ys, h3, h4⟩ := s.elem hk
  refine ⟨i, off, h1, h2, ?_⟩
  rw [ld1_f h3]
  have e := congrArg (fun l => l[0]?) h4
  simp only [List.getElem?_take, List.getElem?_drop, Nat.mul_one, Nat.add_zero, Nat.zero_lt_one, if_true, List.getElem?_map] at e
  rw [e, List.getElem?_eq_getElem hk]
  rfl
theorem Ints.nil (h : Tr Ob) (N c : Nat) (p : Option Addr) : Ints h N (.slice p 0 c) [] := ⟨rfl, p, c, rfl, .inl rfl⟩
theorem agL1_self {h : Tr Ob} {p v : Value} (hl : ld1 h p = some v) (he : valEq 3 v v = true) : agL1 h p v = true := by
  unfold agL1; rw [hl]; exact he
theorem agLN_self {m : Nat} {h : Tr Ob} {p v : Value} (hl : ldN m h p = some v) (he : valEq 3 v v = true) : agLN m h p v = true := by
  unfold agLN; rw [hl]; exact he
theorem valEq_sl (d : Nat) (p : Option Addr) (n c : Nat) : valEq (d + 1) (.slice p n c) (.slice p n c) = true := by
  cases p with
  | none =>
    show band (Nat.beq n n) (Nat.beq c c) = true
    rw [Nat.beq_refl, Nat.beq_refl]; rfl
  | some a =>
    obtain ⟨b, o, s⟩ := a
    show band (addrEq ⟨b, o, s⟩ ⟨b, o, s⟩) (band (Nat.beq n n) (Nat.beq c c)) = true
    have e : addrEq ⟨b, o, s⟩ ⟨b, o, s⟩ = true := by
      unfold addrEq
      cases s <;> simp [band, Nat.beq_refl, optN]
    rw [e, Nat.beq_refl, Nat.beq_refl]; rfl
end Go.Ev
end

section
namespace Go.Ev
open Go.RowKit Go.Sx
set_option linter.unusedVariables false
set_option linter.unusedSimpArgs false

/-- A list of one's own: the block i is its alone, and it may be appended to. -/
def Own (h : Tr Ob) (el : Nat) (v : Value) (L : List Int) (i : Nat) : Prop :=
  (v = .slice none 0 0 ∧ L = []) ∨ (v = .slice (some ⟨i, 0, none⟩) 0 0 ∧ L = [] ∧ h.get i = some (.c [] el)) ∨ (v = .slice (some ⟨i, 0, some 0⟩) L.length 0 ∧ h.get i = some (.g (L.map iS) el 1))
theorem Own.keep {h h' : Tr Ob} {el : Nat} {v : Value} {L : List Int} {i : Nat} (o : Own h el v L i) (he : h'.get i = h.get i) : Own h' el v L i := by
  rcases o with ⟨h1, h2⟩ | ⟨h1, h2, h3⟩ | ⟨h1, h2⟩
  · exact .inl ⟨h1, h2⟩
  · exact .inr (.inl ⟨h1, h2, by rw [he]; exact h3⟩)
  · exact .inr (.inr ⟨h1, by rw [he]; exact h2⟩)
theorem lay_nil (xs : List Value) (n : Nat) (hn : n ≤ xs.length) : lay xs [] n = xs := by
  rw [lay_eq]; rfl

end Go.Ev
end

section
namespace Go.Ev
open Go.RowKit Go.Sx
set_option linter.unusedVariables false
set_option linter.unusedSimpArgs false

/-- The second, if it is so. -/
noncomputable def sel (b : Bool) (x y : OpR) : OpR := Bool.rec (motive := fun _ => OpR) x y b
/-- A run that ends, with a value and a memory that are so. -/
def Rn (r : OpR) (Q : Value → Tr Ob → Nat → Prop) : Prop := ∃ v h N, r = some (v, h, N) ∧ Q v h N
section
variable {α β γ : Type} {Q R : Value → Tr Ob → Nat → Prop}
theorem Rn.ret {v : Value} {h : Tr Ob} {N : Nat} (q : Q v h N) : Rn (some (v, h, N)) Q := ⟨v, h, N, rfl, q⟩
theorem Rn.bind {x : Option α} {a : α} {f : α → OpR} (e : x = some a) (k : Rn (f a) Q) : Rn (obind x f) Q := by rw [e]; exact k
theorem Rn.cond {b : Bool} {x : OpR} (e : b = true) (k : Rn x Q) : Rn (ocond b x) Q := by rw [e]; exact k
theorem Rn.num {n m : Nat} {f : Nat → OpR} (e : n = m) (k : Rn (f m) Q) : Rn (fN n f) Q := by rw [fN_eq, e]; exact k
theorem Rn.runS {a : Value} {b : Tr Ob} {c : Nat} {f : Value → Tr Ob → Nat → OpR} (k : Rn (f a b c) Q) : Rn (orun (some (a, b, c)) f) Q := k
theorem Rn.runE {x : OpR} {a : Value} {b : Tr Ob} {c : Nat} {f : Value → Tr Ob → Nat → OpR} (e : x = some (a, b, c)) (k : Rn (f a b c) Q) : Rn (orun x f) Q := by rw [e]; exact k
theorem Rn.call {x : OpR} {f : Value → Tr Ob → Nat → OpR} (c : Rn x R) (k : ∀ v h N, R v h N → Rn (f v h N) Q) : Rn (orun x f) Q := by
  obtain ⟨v, h, N, e, r⟩ := c
  rw [e]; exact k v h N r
theorem Rn.mono {x : OpR} (c : Rn x R) (k : ∀ v h N, R v h N → Q v h N) : Rn x Q := by
  obtain ⟨v, h, N, e, r⟩ := c
  exact ⟨v, h, N, e, k v h N r⟩
theorem Rn.eq {x y : OpR} (e : x = y) (k : Rn y Q) : Rn x Q := e ▸ k
/-- An operation that is tried ahead in one run, and then goes on. -/
theorem Rn.runB {x : Option α} {f : α → OpR} {g : Value → Tr Ob → Nat → OpR} {a : α} (e : x = some a) (k : Rn (orun (f a) g) Q) : Rn (orun (obind x f) g) Q := by rw [e]; exact k
theorem Rn.runC {b : Bool} {x : OpR} {g : Value → Tr Ob → Nat → OpR} (e : b = true) (k : Rn (orun x g) Q) : Rn (orun (ocond b x) g) Q := by rw [e]; exact k
theorem Rn.runN {n m : Nat} {f : Nat → OpR} {g : Value → Tr Ob → Nat → OpR} (e : n = m) (k : Rn (orun (f m) g) Q) : Rn (orun (fN n f) g) Q := by rw [fN_eq, e]; exact k
theorem Rn.runR {x : OpR} {f g : Value → Tr Ob → Nat → OpR} (k : Rn (orun x (fun a b c => orun (f a b c) g)) Q) : Rn (orun (orun x f) g) Q := by
  cases x with
  | none => exact k
  | some p => exact k
-- ways
theorem Rn.cndT {p : Prop} {d : Decidable p} {x y : OpR} (hp : p) (t : Rn x Q) : Rn (cnd (.bool (@decide p d)) x y) Q := by
  rw [show @decide p d = true from decide_eq_true hp]; exact t
theorem Rn.cndF {p : Prop} {d : Decidable p} {x y : OpR} (hp : ¬ p) (t : Rn y Q) : Rn (cnd (.bool (@decide p d)) x y) Q := by
  rw [show @decide p d = false from decide_eq_false hp]; exact t
theorem Rn.cnd {p : Prop} {d : Decidable p} {x y : OpR} (t : p → Rn x Q) (e : ¬ p → Rn y Q) : Rn (cnd (.bool (@decide p d)) x y) Q := by
  by_cases hp : p
  · exact Rn.cndT hp (t hp)
  · exact Rn.cndF hp (e hp)
theorem Rn.cndB {b : Bool} {x y : OpR} (t : b = true → Rn x Q) (e : b = false → Rn y Q) : Rn (Go.Ev.cnd (.bool b) x y) Q := by
  cases b with
  | true => exact t rfl
  | false => exact e rfl
theorem Rn.cndBT {b : Bool} {x y : OpR} (hb : b = true) (t : Rn x Q) : Rn (Go.Ev.cnd (.bool b) x y) Q := by subst hb; exact t
theorem Rn.cndBF {b : Bool} {x y : OpR} (hb : b = false) (t : Rn y Q) : Rn (Go.Ev.cnd (.bool b) x y) Q := by subst hb; exact t
theorem Rn.cndN {b : Bool} {x y : OpR} (t : b = false → Rn x Q) (e : b = true → Rn y Q) : Rn (Go.Ev.cnd (.bool (!b)) x y) Q := by
  cases b with
  | true => exact e rfl
  | false => exact t rfl
theorem Rn.cndNT {b : Bool} {x y : OpR} (hb : b = false) (t : Rn x Q) : Rn (Go.Ev.cnd (.bool (!b)) x y) Q := by subst hb; exact t
theorem Rn.cndNF {b : Bool} {x y : OpR} (hb : b = true) (t : Rn y Q) : Rn (Go.Ev.cnd (.bool (!b)) x y) Q := by subst hb; exact t
theorem wntB_tt {b : Bool} (h : b = true) : wntV (.bool b) true = some true := by subst h; rfl
theorem wntB_tf {b : Bool} (h : b = true) : wntV (.bool b) false = some false := by subst h; rfl
theorem wntB_ft {b : Bool} (h : b = false) : wntV (.bool b) true = some false := by subst h; rfl
theorem wntB_ff {b : Bool} (h : b = false) : wntV (.bool b) false = some true := by subst h; rfl
theorem wntN_tt {b : Bool} (h : b = true) : wntV (.bool (!b)) true = some false := by subst h; rfl
theorem wntN_tf {b : Bool} (h : b = true) : wntV (.bool (!b)) false = some true := by subst h; rfl
theorem wntN_ft {b : Bool} (h : b = false) : wntV (.bool (!b)) true = some true := by subst h; rfl
theorem wntN_ff {b : Bool} (h : b = false) : wntV (.bool (!b)) false = some false := by subst h; rfl
theorem Rn.partN {c : Bool} {t : Bool} {f : Bool → OpR} (a : c = true → Rn (obind (wntV (.bool (!c)) t) f) Q) (b : c = false → Rn (obind (wntV (.bool (!c)) t) f) Q) : Rn (obind (wntV (.bool (!c)) t) f) Q := by
  cases c with
  | true => exact a rfl
  | false => exact b rfl
theorem pckNT {b : Bool} {x y : Option Value} (hb : b = false) : pck (.bool (!b)) x y = x := by subst hb; exact pck_t _ _
theorem pckNF {b : Bool} {x y : Option Value} (hb : b = true) : pck (.bool (!b)) x y = y := by subst hb; exact pck_f _ _
theorem wntT_t {p : Prop} {d : Decidable p} (hp : p) : wntV (.bool (@decide p d)) true = some true := by rw [wntV_t, decide_eq_true hp]
theorem wntT_f {p : Prop} {d : Decidable p} (hp : ¬ p) : wntV (.bool (@decide p d)) true = some false := by rw [wntV_t, decide_eq_false hp]
theorem wntF_t {p : Prop} {d : Decidable p} (hp : p) : wntV (.bool (@decide p d)) false = some false := by rw [wntV_f, decide_eq_true hp]; rfl
theorem wntF_f {p : Prop} {d : Decidable p} (hp : ¬ p) : wntV (.bool (@decide p d)) false = some true := by rw [wntV_f, decide_eq_false hp]; rfl
/-- Ways part at a guard. -/
theorem Rn.part {p : Prop} {d : Decidable p} {t : Bool} {f : Bool → OpR} (a : p → Rn (obind (wntV (.bool (@decide p d)) t) f) Q) (b : ¬ p → Rn (obind (wntV (.bool (@decide p d)) t) f) Q) : Rn (obind (wntV (.bool (@decide p d)) t) f) Q := by
  by_cases hp : p
  · exact a hp
  · exact b hp
theorem Rn.partB {c : Bool} {t : Bool} {f : Bool → OpR} (a : c = true → Rn (obind (wntV (.bool c) t) f) Q) (b : c = false → Rn (obind (wntV (.bool c) t) f) Q) : Rn (obind (wntV (.bool c) t) f) Q := by
  cases c with
  | true => exact a rfl
  | false => exact b rfl
theorem Rn.selT {x y : OpR} {g : Value → Tr Ob → Nat → OpR} (k : Rn (orun y g) Q) : Rn (orun (sel true x y) g) Q := k
theorem Rn.selF {x y : OpR} {g : Value → Tr Ob → Nat → OpR} (k : Rn (orun x g) Q) : Rn (orun (sel false x y) g) Q := k
theorem pckT {p : Prop} {d : Decidable p} {x y : Option Value} (hp : p) : pck (.bool (@decide p d)) x y = x := by rw [decide_eq_true hp]; exact pck_t _ _
theorem pckF {p : Prop} {d : Decidable p} {x y : Option Value} (hp : ¬ p) : pck (.bool (@decide p d)) x y = y := by rw [decide_eq_false hp]; exact pck_f _ _
theorem pckBT {b : Bool} {x y : Option Value} (hb : b = true) : pck (.bool b) x y = x := by subst hb; exact pck_t _ _
theorem pckBF {b : Bool} {x y : Option Value} (hb : b = false) : pck (.bool b) x y = y := by subst hb; exact pck_f _ _
theorem Rn.unm {h : Tr Ob} {f : Tr Ob → OpR} (k : Rn (f h) Q) : Rn (obind (unmark [] h) f) Q := k
end

/-! ### What stays -/
/-- The blocks below a number are as they were. -/
def Fr (h : Tr Ob) (N : Nat) (h' : Tr Ob) : Prop := ∀ j, j < N → h'.get j = h.get j
theorem Fr.refl (h : Tr Ob) (N : Nat) : Fr h N h := fun _ _ => rfl
theorem Fr_refl (h : Tr Ob) (N : Nat) : Fr h N h ↔ True := ⟨fun _ => trivial, fun _ => Fr.refl h N⟩
theorem Fr_set {h h1 : Tr Ob} {N i : Nat} {o : Option Ob} (hi : N ≤ i) : Fr h N (h1.set o i) ↔ Fr h N h1 := by
  constructor
  · intro f j hj; rw [← f j hj, Tr.get_other _ _ (by omega)]
  · intro f j hj; rw [Tr.get_other _ _ (by omega), f j hj]
theorem Fr.trans {h h1 h2 : Tr Ob} {N M : Nat} (a : Fr h N h1) (b : Fr h1 M h2) (hm : N ≤ M) : Fr h N h2 := fun j hj => (b j (by omega)).trans (a j hj)
theorem Fr.sub {h h1 : Tr Ob} {N M : Nat} (a : Fr h N h1) (hm : M ≤ N) : Fr h M h1 := fun j hj => a j (by omega)

/-- What a call leaves: the blocks below N are as they were, but those that are told. -/
structure Gw (h : Tr Ob) (N : Nat) (h' : Tr Ob) (N' : Nat) : Prop where
  fr : ∀ {h0 : Tr Ob} {N0 : Nat}, N0 ≤ N → (Fr h0 N0 h' ↔ Fr h0 N0 h)
  old : ∀ {j : Nat}, j < N → h'.get j = h.get j
  le : N ≤ N'
theorem Gw.of {h h' : Tr Ob} {N N' : Nat} (f : Fr h N h') (l : N ≤ N') : Gw h N h' N' :=
  ⟨fun hn => ⟨fun g j hj => by rw [← g j hj, f j (by omega)], fun g j hj => by rw [f j (by omega), g j hj]⟩, fun hj => f _ hj, l⟩
theorem Gw.f {h h' : Tr Ob} {N N' : Nat} (g : Gw h N h' N') : Fr h N h' := fun _ hj => g.old hj
theorem Gw.gr {h h' : Tr Ob} {N N' : Nat} (g : Gw h N h' N') : Gr h N h' N' := ⟨g.le, fun _ hj => g.old hj⟩
/-- One block of those below N is written. -/
structure Gx (i : Nat) (h : Tr Ob) (N : Nat) (h' : Tr Ob) (N' : Nat) : Prop where
  fr : ∀ {h0 : Tr Ob} {N0 : Nat}, N0 ≤ N → N0 ≤ i → (Fr h0 N0 h' ↔ Fr h0 N0 h)
  old : ∀ {j : Nat}, j < N → j ≠ i → h'.get j = h.get j
  le : N ≤ N'
theorem Gx.of {i : Nat} {h h' : Tr Ob} {N N' : Nat} (f : ∀ j, j < N → j ≠ i → h'.get j = h.get j) (l : N ≤ N') : Gx i h N h' N' :=
  ⟨fun hn hi => ⟨fun g j hj => by rw [← g j hj, f j (by omega) (by omega)], fun g j hj => by rw [f j (by omega) (by omega), g j hj]⟩, fun hj hi => f _ hj hi, l⟩

/-! ### Loads and stores in blocks that are told -/
section
variable {h : Tr Ob} {i off T m : Nat} {xs : List Value} {v : Value}
end

/-! ### Loops: what is so each time, and a number that falls -/
section
variable {Q : Value → Tr Ob → Nat → Prop}
abbrev L0 := Ct
abbrev L1 := Value → L0
abbrev L2 := Value → L1
abbrev L3 := Value → L2
abbrev L4 := Value → L3
abbrev L5 := Value → L4
abbrev L6 := Value → L5
abbrev L7 := Value → L6
abbrev L8 := Value → L7
abbrev L9 := Value → L8
abbrev L10 := Value → L9
theorem lp_rule {α σ : Type} (run : α → σ → OpR) {z : α} {step : α → α} (I : Nat → σ → Prop)
    (body : ∀ n g, (∀ m, m < n → ∀ x, I m x → Rn (run g x) Q) → ∀ x, I n x → Rn (run (step g) x) Q) :
    ∀ k n, n < k → ∀ x, I n x → Rn (run (lpN z step k) x) Q := by
  intro k
  induction k with
  | zero => intro n hn; omega
  | succ k ih =>
    intro n hn x hI
    rw [lpN_succ]
    exact body n _ (fun m hm x hx => ih m (by omega) x hx) x hI
theorem Rn.loop3 {z : L3} {step : L3 → L3} (I : Nat → Value → Value → Value → Tr Ob → Nat → Prop) (n : Nat) (hn : n < 1000000) {a b c : Value} {h : Tr Ob} {N : Nat} (init : I n a b c h N)
    (body : ∀ n (g : L3), (∀ m, m < n → ∀ a b c h N, I m a b c h N → Rn (g a b c [] h N) Q) → ∀ a b c h N, I n a b c h N → Rn (step g a b c [] h N) Q) : Rn (lpR z step a b c [] h N) Q := by
  rw [lpR_eq]
  exact lp_rule (fun (g : L3) (x : Value × Value × Value × Tr Ob × Nat) => g x.1 x.2.1 x.2.2.1 [] x.2.2.2.1 x.2.2.2.2) (fun n x => I n x.1 x.2.1 x.2.2.1 x.2.2.2.1 x.2.2.2.2)
    (fun n g ih x hx => body n g (fun m hm a b c h N hI => ih m hm (a, b, c, h, N) hI) _ _ _ _ _ hx) rounds n (by unfold rounds; exact hn) (a, b, c, h, N) init
theorem Rn.loop4 {z : L4} {step : L4 → L4} (I : Nat → Value → Value → Value → Value → Tr Ob → Nat → Prop) (n : Nat) (hn : n < 1000000) {a b c d : Value} {h : Tr Ob} {N : Nat} (init : I n a b c d h N)
    (body : ∀ n (g : L4), (∀ m, m < n → ∀ a b c d h N, I m a b c d h N → Rn (g a b c d [] h N) Q) → ∀ a b c d h N, I n a b c d h N → Rn (step g a b c d [] h N) Q) : Rn (lpR z step a b c d [] h N) Q := by
  rw [lpR_eq]
  exact lp_rule (fun (g : L4) (x : Value × Value × Value × Value × Tr Ob × Nat) => g x.1 x.2.1 x.2.2.1 x.2.2.2.1 [] x.2.2.2.2.1 x.2.2.2.2.2) (fun n x => I n x.1 x.2.1 x.2.2.1 x.2.2.2.1 x.2.2.2.2.1 x.2.2.2.2.2)
    (fun n g ih x hx => body n g (fun m hm a b c d h N hI => ih m hm (a, b, c, d, h, N) hI) _ _ _ _ _ _ hx) rounds n (by unfold rounds; exact hn) (a, b, c, d, h, N) init
theorem Rn.loop5 {z : L5} {step : L5 → L5} (I : Nat → Value → Value → Value → Value → Value → Tr Ob → Nat → Prop) (n : Nat) (hn : n < 1000000) {a b c d e : Value} {h : Tr Ob} {N : Nat} (init : I n a b c d e h N)
    (body : ∀ n (g : L5), (∀ m, m < n → ∀ a b c d e h N, I m a b c d e h N → Rn (g a b c d e [] h N) Q) → ∀ a b c d e h N, I n a b c d e h N → Rn (step g a b c d e [] h N) Q) : Rn (lpR z step a b c d e [] h N) Q := by
  rw [lpR_eq]
  exact lp_rule (fun (g : L5) (x : Value × Value × Value × Value × Value × Tr Ob × Nat) => g x.1 x.2.1 x.2.2.1 x.2.2.2.1 x.2.2.2.2.1 [] x.2.2.2.2.2.1 x.2.2.2.2.2.2) (fun n x => I n x.1 x.2.1 x.2.2.1 x.2.2.2.1 x.2.2.2.2.1 x.2.2.2.2.2.1 x.2.2.2.2.2.2)
    (fun n g ih x hx => body n g (fun m hm a b c d e h N hI => ih m hm (a, b, c, d, e, h, N) hI) _ _ _ _ _ _ _ hx) rounds n (by unfold rounds; exact hn) (a, b, c, d, e, h, N) init
theorem Rn.loop6 {z : L6} {step : L6 → L6} (I : Nat → Value → Value → Value → Value → Value → Value → Tr Ob → Nat → Prop) (n : Nat) (hn : n < 1000000) {a b c d e f : Value} {h : Tr Ob} {N : Nat} (init : I n a b c d e f h N)
    (body : ∀ n (g : L6), (∀ m, m < n → ∀ a b c d e f h N, I m a b c d e f h N → Rn (g a b c d e f [] h N) Q) → ∀ a b c d e f h N, I n a b c d e f h N → Rn (step g a b c d e f [] h N) Q) : Rn (lpR z step a b c d e f [] h N) Q := by
  rw [lpR_eq]
  exact lp_rule (fun (g : L6) (x : Value × Value × Value × Value × Value × Value × Tr Ob × Nat) => g x.1 x.2.1 x.2.2.1 x.2.2.2.1 x.2.2.2.2.1 x.2.2.2.2.2.1 [] x.2.2.2.2.2.2.1 x.2.2.2.2.2.2.2) (fun n x => I n x.1 x.2.1 x.2.2.1 x.2.2.2.1 x.2.2.2.2.1 x.2.2.2.2.2.1 x.2.2.2.2.2.2.1 x.2.2.2.2.2.2.2)
    (fun n g ih x hx => body n g (fun m hm a b c d e f h N hI => ih m hm (a, b, c, d, e, f, h, N) hI) _ _ _ _ _ _ _ _ hx) rounds n (by unfold rounds; exact hn) (a, b, c, d, e, f, h, N) init
theorem Rn.loop7 {z : L7} {step : L7 → L7} (I : Nat → Value → Value → Value → Value → Value → Value → Value → Tr Ob → Nat → Prop) (n : Nat) (hn : n < 1000000) {a b c d e f k : Value} {h : Tr Ob} {N : Nat} (init : I n a b c d e f k h N)
    (body : ∀ n (g : L7), (∀ m, m < n → ∀ a b c d e f k h N, I m a b c d e f k h N → Rn (g a b c d e f k [] h N) Q) → ∀ a b c d e f k h N, I n a b c d e f k h N → Rn (step g a b c d e f k [] h N) Q) : Rn (lpR z step a b c d e f k [] h N) Q := by
  rw [lpR_eq]
  exact lp_rule (fun (g : L7) (x : Value × Value × Value × Value × Value × Value × Value × Tr Ob × Nat) => g x.1 x.2.1 x.2.2.1 x.2.2.2.1 x.2.2.2.2.1 x.2.2.2.2.2.1 x.2.2.2.2.2.2.1 [] x.2.2.2.2.2.2.2.1 x.2.2.2.2.2.2.2.2) (fun n x => I n x.1 x.2.1 x.2.2.1 x.2.2.2.1 x.2.2.2.2.1 x.2.2.2.2.2.1 x.2.2.2.2.2.2.1 x.2.2.2.2.2.2.2.1 x.2.2.2.2.2.2.2.2)
    (fun n g ih x hx => body n g (fun m hm a b c d e f k h N hI => ih m hm (a, b, c, d, e, f, k, h, N) hI) _ _ _ _ _ _ _ _ _ hx) rounds n (by unfold rounds; exact hn) (a, b, c, d, e, f, k, h, N) init
theorem Rn.loop8 {z : L8} {step : L8 → L8} (I : Nat → Value → Value → Value → Value → Value → Value → Value → Value → Tr Ob → Nat → Prop) (n : Nat) (hn : n < 1000000) {a b c d e f k l : Value} {h : Tr Ob} {N : Nat} (init : I n a b c d e f k l h N)
    (body : ∀ n (g : L8), (∀ m, m < n → ∀ a b c d e f k l h N, I m a b c d e f k l h N → Rn (g a b c d e f k l [] h N) Q) → ∀ a b c d e f k l h N, I n a b c d e f k l h N → Rn (step g a b c d e f k l [] h N) Q) : Rn (lpR z step a b c d e f k l [] h N) Q := by
  rw [lpR_eq]
  exact lp_rule (fun (g : L8) (x : Value × Value × Value × Value × Value × Value × Value × Value × Tr Ob × Nat) => g x.1 x.2.1 x.2.2.1 x.2.2.2.1 x.2.2.2.2.1 x.2.2.2.2.2.1 x.2.2.2.2.2.2.1 x.2.2.2.2.2.2.2.1 [] x.2.2.2.2.2.2.2.2.1 x.2.2.2.2.2.2.2.2.2) (fun n x => I n x.1 x.2.1 x.2.2.1 x.2.2.2.1 x.2.2.2.2.1 x.2.2.2.2.2.1 x.2.2.2.2.2.2.1 x.2.2.2.2.2.2.2.1 x.2.2.2.2.2.2.2.2.1 x.2.2.2.2.2.2.2.2.2)
    (fun n g ih x hx => body n g (fun m hm a b c d e f k l h N hI => ih m hm (a, b, c, d, e, f, k, l, h, N) hI) _ _ _ _ _ _ _ _ _ _ hx) rounds n (by unfold rounds; exact hn) (a, b, c, d, e, f, k, l, h, N) init
theorem Rn.loop9 {z : L9} {step : L9 → L9} (I : Nat → Value → Value → Value → Value → Value → Value → Value → Value → Value → Tr Ob → Nat → Prop) (n : Nat) (hn : n < 1000000) {a b c d e f k l r : Value} {h : Tr Ob} {N : Nat} (init : I n a b c d e f k l r h N)
    (body : ∀ n (g : L9), (∀ m, m < n → ∀ a b c d e f k l r h N, I m a b c d e f k l r h N → Rn (g a b c d e f k l r [] h N) Q) → ∀ a b c d e f k l r h N, I n a b c d e f k l r h N → Rn (step g a b c d e f k l r [] h N) Q) : Rn (lpR z step a b c d e f k l r [] h N) Q := by
  rw [lpR_eq]
  exact lp_rule (fun (g : L9) (x : Value × Value × Value × Value × Value × Value × Value × Value × Value × Tr Ob × Nat) => g x.1 x.2.1 x.2.2.1 x.2.2.2.1 x.2.2.2.2.1 x.2.2.2.2.2.1 x.2.2.2.2.2.2.1 x.2.2.2.2.2.2.2.1 x.2.2.2.2.2.2.2.2.1 [] x.2.2.2.2.2.2.2.2.2.1 x.2.2.2.2.2.2.2.2.2.2) (fun n x => I n x.1 x.2.1 x.2.2.1 x.2.2.2.1 x.2.2.2.2.1 x.2.2.2.2.2.1 x.2.2.2.2.2.2.1 x.2.2.2.2.2.2.2.1 x.2.2.2.2.2.2.2.2.1 x.2.2.2.2.2.2.2.2.2.1 x.2.2.2.2.2.2.2.2.2.2)
    (fun n g ih x hx => body n g (fun m hm a b c d e f k l r h N hI => ih m hm (a, b, c, d, e, f, k, l, r, h, N) hI) _ _ _ _ _ _ _ _ _ _ _ hx) rounds n (by unfold rounds; exact hn) (a, b, c, d, e, f, k, l, r, h, N) init
end
end Go.Ev
end

section
namespace Go.Ev
open Go.RowKit Go.Sx
set_option linter.unusedVariables false
set_option linter.unusedSimpArgs false
set_option linter.unusedSectionVars false

/-- A value of one cell that is compared by itself. -/
def flatW : Value → Bool
  | .int _ _ => true
  | .bool _ => true
  | .string _ => true
  | .slice _ _ _ => true
  | .pointer _ => true
  | .map _ => true
  | .nilFunc => true
  | _ => false
def flatWs : List Value → Bool
  | [] => true
  | v :: l => flatW v && flatWs l
def flatV : Value → Bool
  | .func (.func _) ⟨fs⟩ ⟨cs⟩ => flatWs fs && flatWs cs
  | v => flatW v
def flatL : List Value → Bool
  | [] => true
  | v :: l => flatV v && flatL l
theorem flatV_one {v : Value} (h : flatV v = true) : v.oneCell' = true := by
  cases v <;> first | rfl | cases h
theorem flatL_all : ∀ {l : List Value}, flatL l = true → allF l = true
  | [], _ => rfl
  | v :: l, h => by
    obtain ⟨h1, h2⟩ := (Bool.and_eq_true _ _).mp h
    show Bool.rec (motive := fun _ => Bool) false (allF l) v.oneCell' = true
    rw [flatV_one h1]; exact flatL_all h2
theorem valEq_ptr (d : Nat) (p : Option Addr) : valEq (d + 1) (.pointer p) (.pointer p) = true := by
  cases p with
  | none => rfl
  | some a =>
    obtain ⟨b, o, s⟩ := a
    show addrEq ⟨b, o, s⟩ ⟨b, o, s⟩ = true
    unfold addrEq
    cases s <;> simp [band, Nat.beq_refl, optN]
theorem flatW_self {v : Value} (h : flatW v = true) (d : Nat) : valEq (d + 1) v v = true := by
  cases v with
  | int k z => exact valEq_int d k z
  | bool b => exact decide_eq_true rfl
  | string s => exact valEq_str d s
  | slice p n c => exact valEq_sl d p n c
  | pointer p => exact valEq_ptr d p
  | map p =>
    show optN p p = true
    cases p <;> simp [optN, Nat.beq_refl]
  | nilFunc => rfl
  | _ => cases h
theorem flatWs_self : ∀ {l : List Value}, flatWs l = true → ∀ d, listEq (valEq (d + 1)) l l = true
  | [], _, d => rfl
  | v :: l, h, d => by
    obtain ⟨h1, h2⟩ := (Bool.and_eq_true _ _).mp h
    show band (valEq (d + 1) v v) (listEq (valEq (d + 1)) l l) = true
    rw [flatW_self h1 d, flatWs_self h2 d]; rfl
theorem flatV_self {v : Value} (h : flatV v = true) (d : Nat) : valEq (d + 2) v v = true := by
  cases v with
  | func f fs cs =>
    cases f with
    | func n =>
      obtain ⟨fs⟩ := fs
      obtain ⟨cs⟩ := cs
      obtain ⟨h1, h2⟩ := (Bool.and_eq_true _ _).mp h
      show band (Nat.beq n n) (band (listEq (valEq (d + 1)) fs fs) (listEq (valEq (d + 1)) cs cs)) = true
      rw [Nat.beq_refl, flatWs_self h1 d, flatWs_self h2 d]; rfl
    | _ => cases h
  | int k z => exact flatW_self (v := .int k z) rfl _
  | bool b => exact flatW_self (v := .bool b) rfl _
  | string s => exact flatW_self (v := .string s) rfl _
  | slice p n c => exact flatW_self (v := .slice p n c) rfl _
  | pointer p => exact flatW_self (v := .pointer p) rfl _
  | map p => exact flatW_self (v := .map p) rfl _
  | nilFunc => rfl
  | _ => cases h
theorem flatL_self : ∀ {l : List Value}, flatL l = true → ∀ d, valEq (d + 3) (.agg ⟨l⟩) (.agg ⟨l⟩) = true
  | [], _, d => valEq_nil _
  | v :: l, h, d => by
    obtain ⟨h1, h2⟩ := (Bool.and_eq_true _ _).mp h
    exact valEq_cons (flatV_self h1 d) (flatL_self h2 d)
theorem flatL_k {v : Value} {l : List Value} (h1 : flatV v = true) (h2 : flatL l = true) : flatL (v :: l) = true := (Bool.and_eq_true _ _).mpr ⟨h1, h2⟩
theorem flatL_app : ∀ {l r : List Value}, flatL l = true → flatL r = true → flatL (l ++ r) = true
  | [], _, _, h => h
  | v :: l, r, h, h3 => by
    obtain ⟨h1, h2⟩ := (Bool.and_eq_true _ _).mp h
    show (flatV v && flatL (l ++ r)) = true
    rw [h1, flatL_app h2 h3]; rfl
theorem flatL_take : ∀ {l : List Value} (n : Nat), flatL l = true → flatL (l.take n) = true
  | [], n, _ => by rw [List.take_nil]; rfl
  | v :: l, 0, _ => rfl
  | v :: l, n + 1, h => by
    obtain ⟨h1, h2⟩ := (Bool.and_eq_true _ _).mp h
    show (flatV v && flatL (l.take n)) = true
    rw [h1, flatL_take n h2]; rfl
theorem flatL_drop : ∀ {l : List Value} (n : Nat), flatL l = true → flatL (l.drop n) = true
  | l, 0, h => h
  | [], n + 1, h => h
  | v :: l, n + 1, h => flatL_drop n ((Bool.and_eq_true _ _).mp h).2

/-- Things that lie in cells one behind the other. -/
class Rwc (α : Type) where
  w : Nat
  enc : α → List Value
  len : ∀ a, (enc a).length = w
  flat : ∀ a, flatL (enc a) = true
  pos : 0 < w
instance : Rwc Int := ⟨1, fun z => [.int .i64 z], fun _ => rfl, fun _ => rfl, Nat.zero_lt_one⟩
instance : Rwc ByteArray := ⟨1, fun s => [.string s], fun _ => rfl, fun _ => rfl, Nat.zero_lt_one⟩
instance : Rwc UInt8 := ⟨1, fun s => [.int .u8 (s.toNat : Int)], fun _ => rfl, fun _ => rfl, Nat.zero_lt_one⟩
instance : Rwc Bool := ⟨1, fun b => [.bool b], fun _ => rfl, fun _ => rfl, Nat.zero_lt_one⟩
theorem enc_int (z : Int) : Rwc.enc z = [iS z] := rfl
theorem enc_str (s : ByteArray) : Rwc.enc s = [.string s] := rfl
theorem enc_u8 (s : UInt8) : Rwc.enc s = [.int .u8 (s.toNat : Int)] := rfl
theorem enc_bool (b : Bool) : Rwc.enc b = [.bool b] := rfl
section
variable {α : Type} [Rwc α] {P : Program}
def encs (L : List α) : List Value := L.flatMap Rwc.enc
theorem encs_cons (a : α) (L : List α) : encs (a :: L) = Rwc.enc a ++ encs L := rfl
theorem encs_app (L M : List α) : encs (L ++ M) = encs L ++ encs M := List.flatMap_append ..
theorem encs_len : ∀ L : List α, (encs L).length = L.length * Rwc.w α
  | [] => by simp [encs]
  | a :: L => by rw [encs_cons, List.length_append, Rwc.len, encs_len L, List.length_cons, Nat.add_mul]; omega
theorem encs_flat : ∀ L : List α, flatL (encs L) = true
  | [] => rfl
  | a :: L => by rw [encs_cons]; exact flatL_app (Rwc.flat a) (encs_flat L)
theorem encs_drop : ∀ (L : List α) (k : Nat), (encs L).drop (k * Rwc.w α) = encs (L.drop k)
  | [], k => by simp [encs]
  | a :: L, 0 => by simp
  | a :: L, k + 1 => by
    have e : (Rwc.enc a ++ encs L).drop (Rwc.w α) = encs L := List.drop_left' (Rwc.len a)
    rw [encs_cons, Nat.add_mul, Nat.one_mul, Nat.add_comm, ← List.drop_drop, e, encs_drop L k]; rfl
theorem encs_take : ∀ (L : List α) (k : Nat), (encs L).take (k * Rwc.w α) = encs (L.take k)
  | [], k => by simp [encs]
  | a :: L, 0 => by simp [encs]
  | a :: L, k + 1 => by
    rw [encs_cons, Nat.add_mul, Nat.one_mul, Nat.add_comm, List.take_append, Rwc.len, Nat.add_sub_cancel_left, encs_take L k,
      List.take_of_length_le (by rw [Rwc.len]; omega)]; rfl
theorem drop_at {L : List α} {k : Nat} {x : α} (hx : L[k]? = some x) : L.drop k = x :: L.drop (k + 1) := by
  obtain ⟨hk, e⟩ := List.getElem?_eq_some_iff.1 hx
  rw [List.drop_eq_getElem_cons hk, e]
theorem at_of {L : List α} {k : Nat} (hk : k < L.length) : ∃ x, L[k]? = some x := ⟨_, List.getElem?_eq_getElem hk⟩
theorem lt_of_at {L : List α} {k : Nat} {x : α} (hx : L[k]? = some x) : k < L.length := (List.getElem?_eq_some_iff.1 hx).1

/-- A slice of things. -/
structure Sl (h : Tr Ob) (N : Nat) (v : Value) (L : List α) : Prop where
  sh : Shows h N v L.length (Rwc.w α) (encs L)
  nil_ : ∀ n c, v = .slice none n c → n = 0 ∧ c = 0
theorem Fr.gr {h h' : Tr Ob} {N : Nat} (f : Fr h N h') {N' : Nat} (l : N ≤ N') : Gr h N h' N' := ⟨l, f⟩
theorem Sl.up {h h' : Tr Ob} {N N' : Nat} {v : Value} {L : List α} (s : Sl h N v L) (f : Fr h N h') (l : N ≤ N') : Sl h' N' v L := ⟨Shows.gr s.sh (f.gr l), s.nil_⟩
theorem Sl.nil (h : Tr Ob) (N : Nat) : Sl h N (.slice none 0 0) ([] : List α) := ⟨⟨by simp [encs], none, 0, rfl, .inl rfl⟩, fun n c e => by cases e; exact ⟨rfl, rfl⟩⟩
theorem Sl.empty (h : Tr Ob) (N c : Nat) (a : Addr) : Sl h N (.slice (some a) 0 c) ([] : List α) := ⟨⟨by simp [encs], some a, c, rfl, .inl rfl⟩, fun n c e => by cases e⟩
theorem Sl.len {h : Tr Ob} {N : Nat} {v : Value} {L : List α} (s : Sl h N v L) : lenS v = some (nS L.length) := Shows.lenS s.sh
theorem Sl.sl {h : Tr Ob} {N : Nat} {v : Value} {L : List α} (s : Sl h N v L) : ∃ p c, v = .slice p L.length c := by
  obtain ⟨p, c, e, _⟩ := Shows.at_ s.sh
  exact ⟨p, c, e⟩
theorem Sl.flat {h : Tr Ob} {N : Nat} {v : Value} {L : List α} (s : Sl h N v L) : flatV v = true := by
  obtain ⟨p, c, rfl⟩ := s.sl; rfl
/-- An element's place. -/
def ptr (w : Nat) (v : Value) (k d : Nat) : Value :=
  match v with
  | .slice (some ⟨i, off, _⟩) _ _ => .pointer (some ⟨i, off + k * w + d, none⟩)
  | _ => .pointer none
theorem Sl.iad {h : Tr Ob} {N w k : Nat} {v : Value} {L : List α} (s : Sl h N v L) (hw : w = Rwc.w α) (hk : k < L.length) : iadS w v (nS k) = some (ptr w v k 0) := by
  obtain ⟨p, c, rfl, hh⟩ := Shows.at_ s.sh
  rcases hh with hh | ⟨i, off, sp, ys, rfl, k2, k3, k4⟩
  · omega
  · exact iadS_p hk
theorem Sl.fad {h : Tr Ob} {N w k d e : Nat} {v : Value} {L : List α} (s : Sl h N v L) (hk : k < L.length) : Go.Ev.fad d (ptr w v k e) = some (ptr w v k (e + d)) := by
  obtain ⟨p, c, rfl, hh⟩ := Shows.at_ s.sh
  rcases hh with hh | ⟨i, off, sp, ys, rfl, k2, k3, k4⟩
  · omega
  · show Go.Ev.fad d (.pointer (some ⟨i, off + k * w + e, none⟩)) = some (.pointer (some ⟨i, off + k * w + (e + d), none⟩))
    rw [fad_p, Nat.add_assoc]
theorem Sl.cells {h0 h : Tr Ob} {N0 w k d : Nat} {v : Value} {L : List α} {x : α} (s : Sl h0 N0 v L) (f : Fr h0 N0 h) (hw : w = Rwc.w α) (hx : L[k]? = some x) :
    ∃ i o, ptr w v k d = .pointer (some ⟨i, o, none⟩) ∧ ∃ ys, cellsFrom h i o = some ys ∧ ys.take (w - d) = (Rwc.enc x).drop d := by
  subst hw
  have hk := lt_of_at hx
  obtain ⟨p, c, rfl, hh⟩ := Shows.at_ s.sh
  rcases hh with hh | ⟨i, off, sp, ys, rfl, k2, k3, k4⟩
  · omega
  refine ⟨i, off + k * Rwc.w α + d, rfl, (ys.drop (k * Rwc.w α)).drop d, ?_, ?_⟩
  · exact cellsFrom_add (cellsFrom_add (by rw [cellsFrom_get (f i k2)]; exact k3) _) _
  · have h1 : (encs L).drop (k * Rwc.w α) = Rwc.enc x ++ encs (L.drop (k + 1)) := by rw [encs_drop, drop_at hx, encs_cons]
    rw [← k4, List.drop_take] at h1
    have h2 := congrArg (fun l => List.take (Rwc.w α) l) h1
    have h3 : (k + 1) * Rwc.w α ≤ L.length * Rwc.w α := Nat.mul_le_mul_right _ hk
    rw [Nat.add_mul] at h3
    simp only [List.take_take] at h2
    rw [Nat.min_eq_left (by omega), List.take_append_of_le_length (by rw [Rwc.len]; exact Nat.le_refl _), List.take_of_length_le (l := Rwc.enc x) (by rw [Rwc.len]; exact Nat.le_refl _)] at h2
    rw [← h2, List.drop_take]
theorem Sl.ld1 {h0 h : Tr Ob} {N0 w k d : Nat} {v y : Value} {L : List α} {x : α} (s : Sl h0 N0 v L) (f : Fr h0 N0 h) (hw : w = Rwc.w α) (hx : L[k]? = some x) (e : nth (Rwc.enc x) d = some y) : Go.Ev.ld1 h (ptr w v k d) = some y := by
  obtain ⟨i, o, e1, ys, e2, e3⟩ := s.cells (d := d) f hw hx
  rw [e1, ld1_f e2]
  rw [nth_eq] at e
  have h1 := congrArg (fun l => l[0]?) e3
  simp only [List.getElem?_drop, Nat.add_zero, e] at h1
  rw [List.getElem?_take] at h1
  split at h1
  · exact h1
  · cases h1
theorem Sl.ldN {h0 h : Tr Ob} {N0 w k d m : Nat} {v : Value} {zs : List Value} {L : List α} {x : α} (s : Sl h0 N0 v L) (f : Fr h0 N0 h) (hw : w = Rwc.w α) (hx : L[k]? = some x) (hd : Nat.ble (d + m) w = true) (e : tak (drp (Rwc.enc x) d) m = zs) :
    Go.Ev.ldN m h (ptr w v k d) = some (.agg ⟨zs⟩) := by
  obtain ⟨i, o, e1, ys, e2, e3⟩ := s.cells (d := d) f hw hx
  have hd := Nat.le_of_ble_eq_true hd
  have hl : w - d ≤ ys.length := by
    have := congrArg List.length e3
    rw [List.length_take, List.length_drop, Rwc.len, ← hw] at this
    omega
  rw [e1, ldN_f e2 (by omega), ← e, tak_eq, drp_eq, ← e3, List.take_take, Nat.min_eq_left (by omega)]
theorem Sl.ag1 {h0 h : Tr Ob} {N0 w k d : Nat} {v y : Value} {L : List α} {x : α} (s : Sl h0 N0 v L) (f : Fr h0 N0 h) (hw : w = Rwc.w α) (hx : L[k]? = some x) (e : nth (Rwc.enc x) d = some y) : agL1 h (ptr w v k d) y = true := by
  refine agL1_self (s.ld1 f hw hx e) (flatV_self ?_ 1)
  have h1 := Rwc.flat x
  rw [nth_eq] at e
  have h2 := flatL_drop d h1
  obtain ⟨hd, e2⟩ := List.getElem?_eq_some_iff.1 e
  rw [List.drop_eq_getElem_cons hd, e2] at h2
  exact ((Bool.and_eq_true _ _).mp h2).1
theorem Sl.agN {h0 h : Tr Ob} {N0 w k d m : Nat} {v : Value} {zs : List Value} {L : List α} {x : α} (s : Sl h0 N0 v L) (f : Fr h0 N0 h) (hw : w = Rwc.w α) (hx : L[k]? = some x) (hd : Nat.ble (d + m) w = true) (e : tak (drp (Rwc.enc x) d) m = zs) :
    agLN m h (ptr w v k d) (.agg ⟨zs⟩) = true :=
  agLN_self (s.ldN f hw hx hd e) (flatL_self (by rw [← e, tak_eq, drp_eq]; exact flatL_take _ (flatL_drop _ (Rwc.flat x))) 0)
theorem Sl.seg {h0 h : Tr Ob} {N0 : Nat} {v : Value} {L : List α} (s : Sl h0 N0 v L) (f : Fr h0 N0 h) {n : Nat} (hn : n = L.length * Rwc.w α) : Go.Ev.seg h v n = some (encs L) := by
  subst hn
  obtain ⟨p, c, rfl, hh⟩ := Shows.at_ s.sh
  rcases hh with hh | ⟨i, off, sp, ys, rfl, k2, k3, k4⟩
  · have hL : L = [] := List.length_eq_zero_iff.1 hh
    subst hL
    simp only [List.length_nil, Nat.zero_mul]
    cases p <;> rfl
  · show Bool.rec (motive := fun _ => Option (List Value)) (obind (cellsFrom h i off) fun xs => ocond (Nat.ble (L.length * Rwc.w α) (Go.Ev.len xs)) (some (tak xs (L.length * Rwc.w α)))) (some []) (Nat.beq (L.length * Rwc.w α) 0) = _
    cases hb : Nat.beq (L.length * Rwc.w α) 0 with
    | true =>
      have h1 := Nat.eq_of_beq_eq_true hb
      rw [← encs_len] at h1
      rw [List.length_eq_zero_iff.1 h1]
    | false =>
      show obind (cellsFrom h i off) _ = _
      rw [cellsFrom_get (f i k2), k3]
      show ocond (Nat.ble (L.length * Rwc.w α) (Go.Ev.len ys)) (some (tak ys (L.length * Rwc.w α))) = _
      have hle : L.length * Rwc.w α ≤ ys.length := by
        have := congrArg List.length k4
        rw [List.length_take, encs_len] at this
        omega
      rw [len_eq, Nat.ble_eq_true_of_le hle, tak_eq, k4]; rfl
theorem Sl.lenV {h : Tr Ob} {N : Nat} {v : Value} {L : List α} (s : Sl h N v L) : Go.Ev.lenV v = some L.length := by
  obtain ⟨p, c, rfl⟩ := s.sl; rfl

theorem Sl.lit {h : Tr Ob} {N i T n m : Nat} {cs : List Value} (L : List α) (hg : h.get i = some (.c cs T)) (hi : i < N) (hc : cs = encs L) (hn : n = L.length) : Sl h N (.slice (some ⟨i, 0, none⟩) n m) L := by
  subst hn
  refine ⟨⟨encs_len L, _, _, rfl, .inr ⟨i, 0, none, _, rfl, hi, cellsFrom_c hg 0, ?_⟩⟩, fun n c e => by cases e⟩
  rw [List.drop_zero, hc, ← encs_len, List.take_length]
/-- A list of one's own: the block i is its alone, and it may be appended to. -/
def Ow (h : Tr Ob) (el : Nat) (v : Value) (L : List α) (i : Nat) : Prop :=
  (v = .slice none 0 0 ∧ L = []) ∨ (v = .slice (some ⟨i, 0, none⟩) L.length L.length ∧ h.get i = some (.c (encs L) el)) ∨ (v = .slice (some ⟨i, 0, some 0⟩) L.length 0 ∧ h.get i = some (.g (encs L) el (Rwc.w α)))
theorem Ow.keep {h h' : Tr Ob} {el : Nat} {v : Value} {L : List α} {i : Nat} (o : Ow h el v L i) (he : h'.get i = h.get i) : Ow h' el v L i := by
  rcases o with ⟨h1, h2⟩ | ⟨h1, h2⟩ | ⟨h1, h2⟩
  · exact .inl ⟨h1, h2⟩
  · exact .inr (.inl ⟨h1, by rw [he]; exact h2⟩)
  · exact .inr (.inr ⟨h1, by rw [he]; exact h2⟩)
theorem Ow.sl {h : Tr Ob} {el : Nat} {v : Value} {L : List α} {i N : Nat} (o : Ow h el v L i) (hi : i < N) : Sl h N v L := by
  have e : L.length * Rwc.w α = (encs L).length := (encs_len L).symm
  rcases o with ⟨rfl, rfl⟩ | ⟨rfl, h2⟩ | ⟨rfl, h2⟩
  · exact Sl.nil _ _
  · refine ⟨⟨encs_len L, _, _, rfl, .inr ⟨i, 0, none, _, rfl, hi, cellsFrom_c h2 0, ?_⟩⟩, fun n c e => by cases e⟩
    rw [List.drop_zero, e, List.take_length]
  · refine ⟨⟨encs_len L, _, _, rfl, .inr ⟨i, 0, some 0, _, rfl, hi, cellsFrom_g h2 0, ?_⟩⟩, fun n c e => by cases e⟩
    rw [List.drop_zero, e, List.take_length]
theorem Ow.nil (h : Tr Ob) (el i : Nat) : Ow h el (.slice none 0 0) ([] : List α) i := .inl ⟨rfl, rfl⟩
theorem lay_self (xs : List Value) (n : Nat) (hn : n ≤ xs.length) : lay xs [] n = xs := lay_nil xs n hn

theorem Ow.app {T el : Nat} (ha : appT P T = some (el, Rwc.w α)) {h h0 : Tr Ob} {v u : Value} {L K : List α} {i N N0 : Nat} (o : Ow h el v L i) (hi : i < N) (hu : Sl h0 N0 u K) (f : Fr h0 N0 h) (hl : L.length + K.length ≤ 1000000) :
    Rn (evAppend P T v u h N) fun v' h' N' => ∃ i', Ow h' el v' (L ++ K) i' ∧ (i' = i ∨ N ≤ i') ∧ i' < N' ∧ Gx i h N h' N' := by
  unfold evAppend
  refine Rn.bind ha ?_
  refine Rn.bind hu.lenV ?_
  refine Rn.num rfl ?_
  refine Rn.bind (hu.seg f rfl) ?_
  have gx : ∀ (o : Option Ob), Gx i h N (h.set o N) (N + 1) := fun o => Gx.of (fun j hj _ => Tr.get_other _ _ (by omega)) (by omega)
  have gi : ∀ (o : Option Ob), Gx i h N (h.set o i) (N + 1) := fun o => Gx.of (fun j hj hji => Tr.get_other _ _ hji) (by omega)
  have hz : ∀ M : List α, encs M = [] → M = [] := fun M hM => by
    have := congrArg List.length hM
    rw [encs_len] at this
    have hp := Rwc.pos (α := α)
    cases M with
    | nil => rfl
    | cons a M => rw [List.length_cons, Nat.add_mul, Nat.one_mul] at this; simp at this; omega
  rcases o with ⟨rfl, rfl⟩ | ⟨rfl, h2⟩ | ⟨rfl, h2⟩
  · refine Rn.cond rfl (Rn.cond rfl (Rn.cond (Nat.ble_eq_true_of_le (by simp at hl; omega)) ?_))
    cases hb : Nat.beq K.length 0 with
    | true =>
      have hK : K = [] := List.length_eq_zero_iff.1 (Nat.eq_of_beq_eq_true hb)
      subst hK
      exact Rn.ret ⟨i, .inl ⟨rfl, rfl⟩, .inl rfl, by omega, Gx.of (fun j _ _ => rfl) (by omega)⟩
    | false => exact Rn.ret ⟨N, .inr (.inr ⟨by rw [List.nil_append], by rw [Tr.get_same, List.nil_append]⟩), .inr (Nat.le_refl _), by omega, gx _⟩
  · refine Rn.num rfl (Rn.num rfl ?_)
    cases hb : Nat.ble (Nat.add L.length K.length) L.length with
    | true =>
      have h3 : L.length + K.length ≤ L.length := Nat.le_of_ble_eq_true hb
      have hK : K = [] := List.length_eq_zero_iff.1 (by omega)
      subst hK
      show Rn (inPlace i 0 (Nat.add 0 (Nat.mul L.length (Rwc.w α))) none (Nat.add L.length 0) L.length [] h N) _
      have e0 : Nat.add 0 (Nat.mul L.length (Rwc.w α)) = (encs L).length := by rw [encs_len]; exact Nat.zero_add _
      have hw : evWrite h i (Nat.add 0 (Nat.mul L.length (Rwc.w α))) [] = some (h.set (some (.c (encs L) el)) i) := by
        unfold evWrite; rw [h2, e0]
        show ocond (Nat.ble ((encs L).length + 0) (Go.Ev.len (encs L))) (some (h.set (some (.c (lay (encs L) [] (encs L).length) el)) i)) = _
        rw [len_eq, lay_self _ _ (Nat.le_refl _), Nat.ble_eq_true_of_le (by omega)]; rfl
      unfold inPlace
      refine Rn.cond rfl (Rn.bind hw (Rn.ret ⟨i, .inr (.inl ⟨by rw [List.append_nil]; rfl, by rw [Tr.get_same, List.append_nil]⟩), .inl rfl, by omega, gi _⟩))
    | false =>
      show Rn (ocond (Nat.ble (Nat.add L.length K.length) 1000000) (obind (Go.Ev.seg h (.slice (some ⟨i, 0, none⟩) L.length L.length) (Nat.mul L.length (Rwc.w α))) fun olds => growTo el (Rwc.w α) (Nat.add L.length K.length) (Go.Ev.app olds (encs K)) h N)) _
      have s0 : Sl h (i + 1) (.slice (some ⟨i, 0, none⟩) L.length L.length) L := Ow.sl (.inr (.inl ⟨rfl, h2⟩)) (by omega)
      refine Rn.cond (Nat.ble_eq_true_of_le hl) (Rn.bind (s0.seg (Fr.refl _ _) rfl) (Rn.ret ⟨N, .inr (.inr ⟨by rw [List.length_append]; rfl, by rw [Tr.get_same, app_eq, encs_app]⟩), .inr (Nat.le_refl _), by omega, gx _⟩))
  · refine Rn.num rfl (Rn.num rfl ?_)
    show Rn (match h.get i with
        | some (.g xs E z') => ocond (Nat.beq z' (Rwc.w α)) (ocond (Nat.beq E el) (ocond (Nat.beq 0 (Nat.mul 0 (Rwc.w α))) (Bool.rec (motive := fun _ => OpR)
            (ocond (Nat.beq 0 0) (ocond (Nat.beq (Nat.mul L.length (Rwc.w α)) (Go.Ev.len xs)) (ocond (Nat.ble (Nat.add L.length K.length) 1000000) (ocond (allF (encs K)) (some (.slice (some ⟨N, 0, some 0⟩) (Nat.add L.length K.length) 0, (h.set none i).set (some (.g (Go.Ev.app xs (encs K)) E z')) N, Nat.succ N))))))
            (inPlace i 0 (Nat.add 0 (Nat.mul L.length (Rwc.w α))) (some 0) (Nat.add L.length K.length) 0 (encs K) h N) (Nat.ble (Nat.add 0 (Nat.add (Nat.mul L.length (Rwc.w α)) (Nat.mul K.length (Rwc.w α)))) (Go.Ev.len xs)))))
        | _ => none) _
    rw [h2]
    refine Rn.cond (Nat.beq_refl _) (Rn.cond (Nat.beq_refl _) (Rn.cond (by rw [show Nat.mul 0 (Rwc.w α) = 0 from Nat.zero_mul _]; rfl) ?_))
    have eL : Nat.mul L.length (Rwc.w α) = (encs L).length := (encs_len L).symm
    have eK : Nat.mul K.length (Rwc.w α) = (encs K).length := (encs_len K).symm
    rw [eL, eK, len_eq, show Nat.add 0 (Nat.add (encs L).length (encs K).length) = (encs L).length + (encs K).length from Nat.zero_add _]
    cases hb : Nat.ble ((encs L).length + (encs K).length) (encs L).length with
    | true =>
      have h3 := Nat.le_of_ble_eq_true hb
      have hK : K = [] := hz K (List.length_eq_zero_iff.1 (by omega))
      subst hK
      have hw : evWrite h i (Nat.add 0 (encs L).length) [] = some (h.set (some (.g (encs L) el (Rwc.w α))) i) := by
        unfold evWrite; rw [h2, show Nat.add 0 (encs L).length = (encs L).length from Nat.zero_add _]
        show ocond (Nat.ble ((encs L).length + 0) (Go.Ev.len (encs L))) (some (h.set (some (.g (lay (encs L) [] (encs L).length) el (Rwc.w α))) i)) = _
        rw [len_eq, lay_self _ _ (Nat.le_refl _), Nat.ble_eq_true_of_le (by omega)]; rfl
      show Rn (inPlace i 0 (Nat.add 0 (encs L).length) (some 0) (Nat.add L.length 0) 0 [] h N) _
      unfold inPlace
      refine Rn.cond rfl (Rn.bind hw (Rn.ret ⟨i, .inr (.inr ⟨by rw [List.append_nil]; rfl, by rw [Tr.get_same, List.append_nil]⟩), .inl rfl, by omega, gi _⟩))
    | false =>
      refine Rn.cond rfl (Rn.cond (Nat.beq_refl _) (Rn.cond (Nat.ble_eq_true_of_le hl) (Rn.cond (flatL_all (encs_flat K)) (Rn.ret ⟨N, .inr (.inr ⟨by rw [List.length_append]; rfl, by rw [Tr.get_same, app_eq, encs_app]⟩), .inr (Nat.le_refl _), by omega, ?_⟩))))
      exact Gx.of (fun j hj hji => (Tr.get_other _ _ (by omega : j ≠ N)).trans (Tr.get_other _ _ hji)) (by omega)
/-- A list of one's own: its block is one of those from lo on, below hi. -/
def OwR (lo hi : Nat) (h : Tr Ob) (el : Nat) (v : Value) (L : List α) : Prop := (v = .slice none 0 0 ∧ L = []) ∨ ∃ i, lo ≤ i ∧ i < hi ∧ Ow h el v L i
theorem OwR.nil (lo hi : Nat) (h : Tr Ob) (el : Nat) : OwR lo hi h el (.slice none 0 0) ([] : List α) := .inl ⟨rfl, rfl⟩
theorem OwR.lit {lo hi : Nat} {h : Tr Ob} {el i n m : Nat} {cs : List Value} (L : List α) (hg : h.get i = some (.c cs el)) (h1 : lo ≤ i) (h2 : i < hi) (hc : cs = encs L) (hn : n = L.length) (hm : m = n) : OwR lo hi h el (.slice (some ⟨i, 0, none⟩) n m) L := by
  subst hn; subst hm; subst hc
  exact .inr ⟨i, h1, h2, .inr (.inl ⟨rfl, hg⟩)⟩
theorem OwR.keep {lo hi : Nat} {h h' : Tr Ob} {el : Nat} {v : Value} {L : List α} (o : OwR lo hi h el v L) (hk : ∀ j, lo ≤ j → j < hi → h'.get j = h.get j) : OwR lo hi h' el v L := by
  rcases o with e | ⟨i, h1, h2, o⟩
  · exact .inl e
  · exact .inr ⟨i, h1, h2, o.keep (hk i h1 h2)⟩
theorem OwR.wide {lo hi lo' hi' : Nat} {h : Tr Ob} {el : Nat} {v : Value} {L : List α} (o : OwR lo hi h el v L) (h1 : lo' ≤ lo) (h2 : hi ≤ hi') : OwR lo' hi' h el v L := by
  rcases o with e | ⟨i, g1, g2, o⟩
  · exact .inl e
  · exact .inr ⟨i, by omega, by omega, o⟩
theorem OwR.sl {lo hi : Nat} {h : Tr Ob} {el : Nat} {v : Value} {L : List α} {N : Nat} (o : OwR lo hi h el v L) (hN : hi ≤ N) : Sl h N v L := by
  rcases o with ⟨rfl, rfl⟩ | ⟨i, g1, g2, o⟩
  · exact Sl.nil _ _
  · exact o.sl (by omega)
/-- What a call leaves that writes blocks from lo on alone. -/
structure Gl' (lo : Nat) (h : Tr Ob) (N : Nat) (h' : Tr Ob) (N' : Nat) : Prop where
  fr : ∀ {h0 : Tr Ob} {N0 : Nat}, N0 ≤ lo → (Fr h0 N0 h' ↔ Fr h0 N0 h)
  old : ∀ {j : Nat}, j < lo → h'.get j = h.get j
  le : N ≤ N'
theorem Gl'.of {lo : Nat} {h h' : Tr Ob} {N N' : Nat} (f : Fr h lo h') (l : N ≤ N') : Gl' lo h N h' N' :=
  ⟨fun hn => ⟨fun g j hj => by rw [← g j hj, f j (by omega)], fun g j hj => by rw [f j (by omega), g j hj]⟩, fun hj => f _ hj, l⟩
theorem OwR.app {T el : Nat} (ha : appT P T = some (el, Rwc.w α)) {lo : Nat} {h h0 : Tr Ob} {v u : Value} {L K : List α} {N N0 : Nat} (o : OwR lo N h el v L) (hlo : lo ≤ N) (hu : Sl h0 N0 u K) (f : Fr h0 N0 h) (hl : L.length + K.length ≤ 1000000) :
    Rn (evAppend P T v u h N) fun v' h' N' => OwR lo N' h' el v' (L ++ K) ∧ Gl' lo h N h' N' := by
  rcases o with ⟨rfl, rfl⟩ | ⟨i, g1, g2, o⟩
  · unfold evAppend
    refine Rn.bind ha ?_
    refine Rn.bind hu.lenV ?_
    refine Rn.num rfl ?_
    refine Rn.bind (hu.seg f rfl) ?_
    refine Rn.cond rfl (Rn.cond rfl (Rn.cond (Nat.ble_eq_true_of_le (by simp at hl; omega)) ?_))
    cases hb : Nat.beq K.length 0 with
    | true =>
      have hK : K = [] := List.length_eq_zero_iff.1 (Nat.eq_of_beq_eq_true hb)
      subst hK
      exact Rn.ret ⟨.inl ⟨rfl, rfl⟩, Gl'.of (Fr.refl _ _) (by omega)⟩
    | false =>
      exact Rn.ret ⟨.inr ⟨N, hlo, by omega, .inr (.inr ⟨by rw [List.nil_append], by rw [Tr.get_same, List.nil_append]⟩)⟩, Gl'.of (fun j hj => Tr.get_other _ _ (by omega)) (by omega)⟩
  · refine (Ow.app ha o (by omega) hu f hl).mono ?_
    rintro v' h' N' ⟨i', o', k1, k2, ⟨k3, k4, k5⟩⟩
    exact ⟨.inr ⟨i', by omega, by omega, o'⟩, Gl'.of (fun j hj => k4 (by omega) (by omega)) (by omega)⟩
end
end Go.Ev
end

section
namespace Go.Ev
open Go.RowKit Go.Sx
set_option linter.unusedVariables false
set_option linter.unusedSimpArgs false
set_option linter.unusedSectionVars false
section
variable {α : Type}
theorem nth_0 (a : α) (l : List α) : nth (a :: l) 0 = some a := rfl
theorem nth_s (a : α) (l : List α) (n : Nat) : nth (a :: l) (n + 1) = nth l n := rfl
theorem drp_0 (l : List α) : drp l 0 = l := by rw [drp_eq]; rfl
theorem drp_s (a : α) (l : List α) (n : Nat) : drp (a :: l) (n + 1) = drp l n := rfl
theorem drp_n (n : Nat) : drp ([] : List α) n = [] := rfl
theorem tak_0 (l : List α) : tak l 0 = [] := by rw [tak_eq]; rfl
theorem tak_s (a : α) (l : List α) (n : Nat) : tak (a :: l) (n + 1) = a :: tak l n := rfl
theorem tak_n (n : Nat) : tak ([] : List α) n = [] := rfl
theorem over_n (cs : List α) : over [] cs = cs := rfl
theorem over_c (v c : α) (vs cs : List α) : over (v :: vs) (c :: cs) = v :: over vs cs := rfl
theorem lay_0 (c : α) (cs vs : List α) : lay (c :: cs) vs 0 = over vs (c :: cs) := rfl
theorem lay_s (c : α) (cs vs : List α) (n : Nat) : lay (c :: cs) vs (n + 1) = c :: lay cs vs n := rfl
theorem lay_n (vs : List α) (n : Nat) : lay [] vs n = [] := rfl
theorem len_n : len ([] : List α) = 0 := rfl
theorem len_c (a : α) (l : List α) : len (a :: l) = len l + 1 := rfl
theorem app_n (l : List α) : app [] l = l := rfl
theorem app_c (a : α) (l r : List α) : app (a :: l) r = a :: app l r := rfl
theorem reps_0 (zs : List Value) : reps zs 0 = [] := rfl
theorem reps_s (zs : List Value) (n : Nat) : reps zs (n + 1) = app zs (reps zs n) := rfl
theorem cel_agg (l : List Value) : cel (.agg ⟨l⟩) = l := rfl
theorem cel_int (k : IntKind) (z : Int) : cel (.int k z) = [.int k z] := rfl
theorem cel_bool (b : Bool) : cel (.bool b) = [.bool b] := rfl
theorem cel_str (s : ByteArray) : cel (.string s) = [.string s] := rfl
theorem cel_sl (p : Option Addr) (n c : Nat) : cel (.slice p n c) = [.slice p n c] := rfl
theorem cel_map (p : Option Nat) : cel (.map p) = [.map p] := rfl
theorem cel_func (f : _) (fs cs : Array Value) : cel (.func f fs cs) = [.func f fs cs] := rfl
theorem cel_nilf : cel .nilFunc = [.nilFunc] := rfl
theorem cel_ptr (p : Option Addr) : cel (.pointer p) = [.pointer p] := rfl
theorem cel_flat {v : Value} (h : flatV v = true) : cel v = [v] := by cases v <;> first | rfl | cases h
theorem fil_n (pl : Nat → Option (Nat × Nat)) (cs : List Value) : fil pl [] cs = some cs := rfl
theorem fil_c (pl : Nat → Option (Nat × Nat)) (i : Nat) (v : Value) (ps : List (Nat × Value)) (cs : List Value) :
    fil pl ((i, v) :: ps) cs = obind (pl i) fun on => ocond (Nat.beq (len (cel v)) on.2) (ocond (Nat.ble (Nat.add on.1 on.2) (len cs)) (fil pl ps (lay cs (cel v) on.1))) := rfl
theorem beq_r (n : Nat) : Nat.beq n n = true := Nat.beq_refl n
theorem ble_d (a b : Nat) : Nat.ble a b = decide (a ≤ b) := by
  by_cases h : a ≤ b
  · rw [Nat.ble_eq_true_of_le h, decide_eq_true h]
  · rw [decide_eq_false h]
    cases hb : Nat.ble a b with
    | true => exact absurd (Nat.le_of_ble_eq_true hb) h
    | false => rfl
theorem ocond_d {p : Prop} {d : Decidable p} {x : Option α} (hp : p) : ocond (@decide p d) x = x := by rw [decide_eq_true hp]; rfl
theorem fl1_a (l : List Value) (n : Nat) : fl1 n (.agg ⟨l⟩) = nth l n := rfl
theorem flN_a (l : List Value) (n m : Nat) : flN n m (.agg ⟨l⟩) = ocond (Nat.ble (Nat.add n m) (len l)) (some (.agg ⟨tak (drp l n) m⟩)) := rfl
theorem extr_t (l : List Value) (n : Nat) : extr n (.tuple ⟨l⟩) = nth l n := rfl
theorem unot (P : Program) (b : Bool) : unV P .not (.bool b) = some (.bool (!b)) := rfl
theorem not_d (p : Prop) [Decidable p] : (!decide p) = decide (¬ p) := by
  by_cases h : p
  · rw [decide_eq_true h, decide_eq_false (fun g => g h)]; rfl
  · rw [decide_eq_false h, decide_eq_true h]; rfl
end

/-- The cells of a block, from an offset on. -/
noncomputable def cellO (o : Option Ob) (off : Nat) : Option (List Value) :=
  match o with
  | some (.c xs _) => some (drp xs off)
  | some (.g xs _ _) => some (drp xs off)
  | some (.r lo xs) => ocond (Nat.ble lo off) (some (drp xs (Nat.sub off lo)))
  | _ => none
theorem cellO_eq (h : Tr Ob) (i off : Nat) : cellsFrom h i off = cellO (h.get i) off := by unfold cellsFrom cellO; rfl
theorem cellO_c (xs : List Value) (T off : Nat) : cellO (some (.c xs T)) off = some (drp xs off) := rfl
theorem ld1_e (h : Tr Ob) (i off : Nat) : ld1 h (.pointer (some ⟨i, off, none⟩)) = obind (cellO (h.get i) off) fun xs => nth xs 0 := by rw [← cellO_eq]; rfl
theorem ldN_e (m : Nat) (h : Tr Ob) (i off : Nat) : ldN m h (.pointer (some ⟨i, off, none⟩)) = obind (cellO (h.get i) off) fun xs => ocond (Nat.ble m (len xs)) (some (.agg ⟨tak xs m⟩)) := by
  rw [← cellO_eq]
  show obind (cellsFrom h i off) (fun xs => ocond (Nat.ble (0 + m) (len xs)) (some (Value.agg ⟨tak (drp xs 0) m⟩))) = _
  rw [Nat.zero_add]
  simp only [drp_0]
/-- A block after its cells from off on are written. -/
noncomputable def wrO (h : Tr Ob) (i off : Nat) (vs : List Value) (o : Option Ob) : Option (Tr Ob) :=
  match o with
  | some (.c xs T) => ocond (Nat.ble (Nat.add off (len vs)) (len xs)) (some (h.set (some (.c (lay xs vs off) T)) i))
  | some (.g xs T z) => ocond (Nat.ble (Nat.add off (len vs)) (len xs)) (some (h.set (some (.g (lay xs vs off) T z)) i))
  | _ => none
theorem wrO_eq (h : Tr Ob) (i off : Nat) (vs : List Value) : evWrite h i off vs = wrO h i off vs (h.get i) := by unfold evWrite wrO; rfl
theorem wrO_c (h : Tr Ob) (i off : Nat) (vs xs : List Value) (T : Nat) : wrO h i off vs (some (.c xs T)) = ocond (Nat.ble (off + len vs) (len xs)) (some (h.set (some (.c (lay xs vs off) T)) i)) := rfl
theorem sto_e (m i off : Nat) (v : Value) (h : Tr Ob) : sto m (.pointer (some ⟨i, off, none⟩)) v h = ocond (Nat.beq (len (cel v)) m) (ocond (allF (cel v)) (wrO h i off (cel v) (h.get i))) := by rw [← wrO_eq]; rfl
theorem allF_n : allF [] = true := rfl
theorem allF_c (v : Value) (l : List Value) : allF (v :: l) = (v.oneCell' && allF l) := by
  show Bool.rec (motive := fun _ => Bool) false (allF l) v.oneCell' = _
  cases v.oneCell' <;> rfl
theorem one_int (k : IntKind) (z : Int) : (Value.int k z).oneCell' = true := rfl
theorem one_bool (b : Bool) : (Value.bool b).oneCell' = true := rfl
theorem one_str (s : ByteArray) : (Value.string s).oneCell' = true := rfl
theorem one_sl (p : Option Addr) (n c : Nat) : (Value.slice p n c).oneCell' = true := rfl
theorem one_map (p : Option Nat) : (Value.map p).oneCell' = true := rfl
theorem one_func (f : _) (fs cs : Array Value) : (Value.func f fs cs).oneCell' = true := rfl
theorem one_nilf : Value.nilFunc.oneCell' = true := rfl
theorem one_ptr (p : Option Addr) : (Value.pointer p).oneCell' = true := rfl
theorem agL1_e {h : Tr Ob} {p v : Value} (hl : ld1 h p = some v) (hf : flatV v = true) : agL1 h p v = true := agL1_self hl (flatV_self hf 1)
theorem agLN_e {m : Nat} {h : Tr Ob} {p : Value} {l : List Value} (hl : ldN m h p = some (.agg ⟨l⟩)) (hf : flatL l = true) : agLN m h p (.agg ⟨l⟩) = true := agLN_self hl (flatL_self hf 0)
theorem zadd1 {k : Nat} (hk : k < 1000000000) : iop .add (nS k) (.int .i64 1) = some (nS (k + 1)) := by
  rw [iop_add (by constructor <;> omega)]
  rfl
theorem zsub1 {k : Nat} (hk : k < 1000000000) (h0 : 0 < k) : iop .sub (nS k) (.int .i64 1) = some (nS (k - 1)) := by
  rw [iop_sub (by constructor <;> omega)]
  congr 2
  omega
theorem impB_1 (x : Bool) : impB true x = x := rfl
theorem impB_0 (x : Bool) : impB false x = true := rfl
theorem offB_1 (x : Bool) : offB x true = false := rfl
theorem offB_0 (x : Bool) : offB x false = x := rfl
theorem flatL_listEq : ∀ {l : List Value}, flatL l = true → listEq (valEq 3) l l = true
  | [], _ => rfl
  | v :: l, h => by
    obtain ⟨h1, h2⟩ := (Bool.and_eq_true _ _).mp h
    show band (valEq 3 v v) (listEq (valEq 3) l l) = true
    rw [flatV_self h1 1, flatL_listEq h2]; rfl
section
variable {P : Program} {h : Tr Ob} {i lo T el m : Nat} {cs : List Value} {R : Tr Value} {d : Option Nat} {t : TypeId} {s : String} {a : Array Edge} {g : Option (Nat × Bool)}
theorem ag_al (hg : h.get lo = some (.c cs T)) (hz : zer P T = some cs) (hf : flatL cs = true) : again P h (.mk i (.mk d (.alloc T) t s a g) R (.pointer (some ⟨lo, 0, none⟩)) lo true) = true := by
  have e : evPas P (.mk d (.alloc T) t s a g) R h lo = some (.pointer (some ⟨lo, 0, none⟩), some (.c cs T)) := by
    show obind (zer P T) _ = _
    rw [hz]; rfl
  unfold again
  rw [e]
  show band (valEq 3 (.pointer (some ⟨lo, 0, none⟩)) (.pointer (some ⟨lo, 0, none⟩))) (band true (obEq (h.get lo) (.c cs T))) = true
  rw [hg, valEq_ptr 2]
  show band true (band true (band (Nat.beq T T) (listEq (valEq 3) cs cs))) = true
  rw [Nat.beq_refl, flatL_listEq hf]; rfl
theorem ag_bx {x : Operand} {v : Value} (hg : h.get lo = some (.c cs T)) (hz : evo R x = some v) (hc : cel v = cs) (hf : flatL cs = true) : again P h (.mk i (.mk d (.box T x) t s a g) R (.pointer (some ⟨lo, 0, none⟩)) lo true) = true := by
  have e : evPas P (.mk d (.box T x) t s a g) R h lo = some (.pointer (some ⟨lo, 0, none⟩), some (.c cs T)) := by
    show obind (evo R x) _ = _
    rw [hz, obind_s, hc]
  unfold again
  rw [e]
  show band (valEq 3 (.pointer (some ⟨lo, 0, none⟩)) (.pointer (some ⟨lo, 0, none⟩))) (band true (obEq (h.get lo) (.c cs T))) = true
  rw [hg, valEq_ptr 2]
  show band true (band true (band (Nat.beq T T) (listEq (valEq 3) cs cs))) = true
  rw [Nat.beq_refl, flatL_listEq hf]; rfl
theorem ag_bs {ps : List (Nat × Operand)} {qs : List (Nat × Value)} (hg : h.get lo = some (.c cs el)) (hp : evParts R ps = some qs) (hb : evBuildSlice P T m qs h lo = some (.slice (some ⟨lo, 0, none⟩) m m, h.set (some (.c cs el)) lo, Nat.succ lo)) (hf : flatL cs = true) :
    again P h (.mk i (.mk d (.buildSlice T m ⟨ps⟩) t s a g) R (.slice (some ⟨lo, 0, none⟩) m m) lo true) = true := by
  have e : evPas P (.mk d (.buildSlice T m ⟨ps⟩) t s a g) R h lo = some (.slice (some ⟨lo, 0, none⟩) m m, some (.c cs el)) := by
    show obind (evParts R ps) _ = _
    rw [hp]
    show newOf lo (evBuildSlice P T m qs h lo) = _
    rw [hb]
    show some (_, (h.set (some (.c cs el)) lo).get lo) = _
    rw [Tr.get_same]
  unfold again
  rw [e]
  show band (valEq 3 (.slice (some ⟨lo, 0, none⟩) m m) (.slice (some ⟨lo, 0, none⟩) m m)) (band true (obEq (h.get lo) (.c cs el))) = true
  rw [hg, valEq_sl 2]
  show band true (band true (band (Nat.beq el el) (listEq (valEq 3) cs cs))) = true
  rw [Nat.beq_refl, flatL_listEq hf]; rfl
theorem ag_bd {ps : List (Nat × Operand)} {qs : List (Nat × Value)} {l : List Value} (hp : evParts R ps = some qs) (hb : evBuild P T qs = some (.agg ⟨l⟩)) (hf : flatL l = true) :
    again P h (.mk i (.mk d (.build T ⟨ps⟩) t s a g) R (.agg ⟨l⟩) lo false) = true := by
  have e : evPas P (.mk d (.build T ⟨ps⟩) t s a g) R h lo = some (.agg ⟨l⟩, none) := by
    show obind (evParts R ps) _ = _
    rw [hp]
    show obind (evBuild P T qs) _ = _
    rw [hb]; rfl
  unfold again
  rw [e]
  show band (valEq 3 (.agg ⟨l⟩) (.agg ⟨l⟩)) true = true
  rw [flatL_self hf 0]; rfl
end
theorem iadA_z {n m i off : Nat} {z : Int} (h0 : 0 ≤ z) (h1 : z < n) : iadA n m (.pointer (some ⟨i, off, none⟩)) (.int .i64 z) = some (.pointer (some ⟨i, off + z.toNat * m, none⟩)) := by
  obtain ⟨k, rfl⟩ := Int.eq_ofNat_of_zero_le h0
  exact iadA_p (by omega)
end Go.Ev
end

section
namespace Go.Ev
open Go.RowKit Go.Sx Go.ChangeShapes Go.WideShapes Go.ChangeAt
set_option linter.unusedVariables false
set_option linter.unusedSimpArgs false
set_option linter.unusedSectionVars false
section
variable {H : Type} {enc : TypeId × Value → H} {P : Program} {w : World} {base fuel : Nat} {spare : Nat → Bool} {held : Bool} {x : DataW H × List MemPlace} {cs : List Value}
theorem mapM_at {α β : Type} {f : α → Option β} : ∀ {l : List α} {r : List β}, l.mapM f = some r → r.length = l.length ∧ ∀ (i : Nat) (a : α), l[i]? = some a → ∃ b, f a = some b ∧ r[i]? = some b
  | [], r, h => by
    simp at h; subst h
    exact ⟨rfl, fun i a h => by simp at h⟩
  | a :: l, r, h => by
    rw [List.mapM_cons] at h
    cases ha : f a with
    | none => simp [ha] at h
    | some b =>
      cases hl : l.mapM f with
      | none => simp [ha, hl] at h
      | some r' =>
        simp [ha, hl] at h
        subst h
        obtain ⟨h1, h2⟩ := mapM_at hl
        refine ⟨by simp [h1], fun i c hc => ?_⟩
        cases i with
        | zero => simp at hc; subst hc; exact ⟨b, ha, by simp⟩
        | succ i => obtain ⟨b', h3, h4⟩ := h2 i c (by simpa using hc); exact ⟨b', h3, by simpa using h4⟩
/-- Cells that are read lie in one block, one behind the other. -/
theorem cells_row {a : Addr} {n : Nat} (hn : 0 < n) (h : w.cells? base a n = some cs) : a.spot = none ∧ cs.length = n ∧ ∃ row, reads w a.block row ∧ ∀ j, j < n → row[a.off + j]? = cs[j]? := by
  unfold World.cells? at h
  split at h
  · obtain ⟨h1, h2⟩ := mapM_at h
    simp only [List.length_range] at h1
    have each : ∀ j, j < n → ∃ b, w.cell? (a.add j) = some b ∧ cs[j]? = some b := fun j hj => h2 j j (by simp [hj])
    obtain ⟨b, h3, _⟩ := each 0 hn
    have e0 : a.add 0 = a := by simp [Addr.add]
    rw [e0] at h3
    unfold World.cell? at h3
    cases hb : w.heap[a.block]? with
    | none => rw [hb] at h3; cases h3
    | some o =>
      rw [hb] at h3
      cases o with
      | cells c e f =>
        have hs : a.spot = none := by
          cases hs : a.spot with
          | none => rfl
          | some s => simp [hs] at h3
        refine ⟨hs, h1, c.toList, ⟨e, f, by simpa using hb⟩, fun j hj => ?_⟩
        obtain ⟨b', h4, h5⟩ := each j hj
        rw [h5]
        have e1 : (a.add j).block = a.block ∧ (a.add j).spot = none ∧ (a.add j).off = a.off + j := by
          unfold Addr.add
          split
          · rename_i h6; subst h6; exact ⟨rfl, hs, rfl⟩
          · exact ⟨rfl, rfl, rfl⟩
        unfold World.cell? at h4
        rw [e1.1, hb] at h4
        simp only [e1.2.1, e1.2.2] at h4
        simpa using h4
      | _ => simp at h3
  · cases h
theorem list_of {α : Type} {R : Nat → α → Prop} : ∀ n : Nat, (∀ i, i < n → ∃ a, R i a) → ∃ L : List α, L.length = n ∧ ∀ (i : Nat) (a : α), L[i]? = some a → R i a
  | 0, _ => ⟨[], rfl, fun i a h => by simp at h⟩
  | n + 1, h => by
    obtain ⟨L, h1, h2⟩ := list_of n (fun i hi => h i (by omega))
    obtain ⟨a, ha⟩ := h n (by omega)
    refine ⟨L ++ [a], by simp [h1], fun i b hb => ?_⟩
    rcases Nat.lt_or_ge i n with hi | hi
    · rw [List.getElem?_append_left (by omega)] at hb; exact h2 i b hb
    · rw [List.getElem?_append_right (by omega)] at hb
      have : i = n := by
        rcases Nat.lt_or_ge (i - L.length) 1 with h3 | h3
        · omega
        · rw [List.getElem?_eq_none (by simpa using h3)] at hb; cases hb
      subst this
      simp [h1] at hb
      subst hb; exact ha
/-- A part of a list. -/
def sub (l : List Value) (o m : Nat) : List Value := (l.drop o).take m
/-- A slice of rows that came in. -/
theorem open_rows {α : Type} [Rwc α] {t e : TypeId} (hc : P.cellsOf e = Rwc.w α) (ht : P.underlying t = some (.slice e))
    (hrow : ∀ fuel cs x, DataW.trod enc P w base spare held fuel e cs = some x → ∃ r : α, cs = Rwc.enc r) (h : DataW.trod enc P w base spare held fuel t cs = some x) :
    ∃ (p : Option Addr) (L : List α) (cap : Nat), cs = [.slice p L.length cap] ∧ ∃ (b off : Nat) (row : List Value), L ≠ [] → p = some ⟨b, off, none⟩ ∧ reads w b row ∧ ∀ (i : Nat) (r : α), L[i]? = some r → sub row (off + i * Rwc.w α) (Rwc.w α) = Rwc.enc r := by
  have hm := Rwc.pos (α := α)
  rcases Deep.open_slice ht h with ⟨rfl, _⟩ | ⟨a, len, cap, mm, n, D, Pl, rfl, _, hlc, _, hmm, _, hel⟩
  · exact ⟨none, [], 0, rfl, 0, 0, [], fun h => absurd rfl h⟩
  · have hle : len ≤ mm := by rw [hmm]; split <;> omega
    have each : ∀ i, i < len → ∃ r : α, w.cells? base (a.add (i * Rwc.w α)) (Rwc.w α) = some (Rwc.enc r) := fun i hi => by
      obtain ⟨cs', h1, h2⟩ := hel i (by omega)
      obtain ⟨r, rfl⟩ := hrow _ _ _ h2
      rw [hc] at h1; exact ⟨r, h1⟩
    obtain ⟨L, hL, hR⟩ := list_of (R := fun i r => w.cells? base (a.add (i * Rwc.w α)) (Rwc.w α) = some (Rwc.enc r)) len each
    refine ⟨some a, L, cap, by rw [hL], ?_⟩
    cases L with
    | nil => exact ⟨0, 0, [], fun h => absurd rfl h⟩
    | cons r0 L0 =>
      have h0 := hR 0 r0 rfl
      rw [Nat.zero_mul, show a.add 0 = a by simp [Addr.add]] at h0
      obtain ⟨hs, _, row, hrd, _⟩ := cells_row hm h0
      refine ⟨a.block, a.off, row, fun _ => ⟨?_, hrd, fun i r hr => ?_⟩⟩
      · cases a; simp at hs; subst hs; rfl
      · have h1 := hR i r hr
        obtain ⟨_, _, row', hrd', hcell⟩ := cells_row hm h1
        have e1 : (a.add (i * Rwc.w α)).block = a.block ∧ (a.add (i * Rwc.w α)).off = a.off + i * Rwc.w α := by
          unfold Addr.add
          split
          · rename_i h6; rw [h6]; exact ⟨rfl, rfl⟩
          · exact ⟨rfl, rfl⟩
        rw [e1.1] at hrd'
        have hrow' : row = row' := by
          obtain ⟨T, fr, g1⟩ := hrd
          obtain ⟨T', fr', g2⟩ := hrd'
          rw [g1] at g2
          simp only [Option.some.injEq, Obj.cells.injEq] at g2
          have := congrArg Array.toList g2.1
          simpa using this
        subst hrow'
        rw [e1.2] at hcell
        apply List.ext_getElem?
        intro j
        unfold sub
        rw [List.getElem?_take]
        split
        · rename_i hj
          rw [List.getElem?_drop]; exact hcell j hj
        · rename_i hj
          rw [List.getElem?_eq_none (by rw [Rwc.len]; omega)]
theorem row_split {α : Type} [Rwc α] (row : List Value) : ∀ (L : List α) (off : Nat), (∀ (i : Nat) (r : α), L[i]? = some r → sub row (off + i * Rwc.w α) (Rwc.w α) = Rwc.enc r) → row.drop off = encs L ++ row.drop (off + L.length * Rwc.w α)
  | [], off, _ => by simp [encs]
  | r :: L, off, h => by
    have h0 := h 0 r rfl
    unfold sub at h0
    rw [Nat.zero_mul, Nat.add_zero] at h0
    have h1 : row.drop off = Rwc.enc r ++ row.drop (off + Rwc.w α) := by
      rw [← h0, ← List.drop_drop, List.take_append_drop]
    rw [h1, row_split row L (off + Rwc.w α) (fun i r' hi => by
      have := h (i + 1) r' (by simpa using hi)
      rw [show off + Rwc.w α + i * Rwc.w α = off + (i + 1) * Rwc.w α by rw [Nat.add_mul]; omega]; exact this)]
    rw [encs_cons, List.append_assoc, List.length_cons]
    rw [show off + Rwc.w α + L.length * Rwc.w α = off + (L.length + 1) * Rwc.w α by rw [Nat.add_mul]; omega]
end

/-- A list in the world. -/
def In {α : Type} [Rwc α] (W : World) (v : Value) (K : List α) : Prop :=
  (K = [] ∧ v = .slice none 0 0) ∨ ∃ b off cap, v = .slice (some ⟨b, off, none⟩) K.length cap ∧ b < W.heap.size ∧ (K ≠ [] → ∃ pre rest T fr, pre.length = off ∧ W.heap[b]? = some (.cells ⟨pre ++ (encs K ++ rest)⟩ T fr))
section
variable {α : Type} [Rwc α] {P : Program} {w : World} {enc : TypeId × Value → Type} {v : Value}
theorem slice_has {t e : TypeId} (ht : P.underlying t = some (.slice e)) {a : Addr} {len cap : Nat} {b0 : Nat} (h : Cell.okWide P w .any b0 t (.slice (some a) len cap)) : a.spot = none ∧ a.block < w.heap.size := by
  unfold Cell.okWide Cell.ok at h
  rw [ht] at h
  obtain ⟨_, _, _, hs, row, cells, hsh, _⟩ := h
  refine ⟨hs, ?_⟩
  unfold World.shape? at hsh
  cases hb : w.heap[a.block]? with
  | none => rw [hb] at hsh; cases hsh
  | some o => exact (Array.getElem?_eq_some_iff.1 hb).1
theorem slice_nil {t e : TypeId} (ht : P.underlying t = some (.slice e)) {len cap : Nat} {b0 : Nat} (h : Cell.okWide P w .any b0 t (.slice none len cap)) : len = 0 ∧ cap = 0 := by
  unfold Cell.okWide Cell.ok at h
  rw [ht] at h
  match len, cap, h with
  | 0, 0, _ => exact ⟨rfl, rfl⟩
theorem open_in {H : Type} {enc : TypeId × Value → H} {base fuel : Nat} {spare : Nat → Bool} {held : Bool} {y : DataW H × List MemPlace} {t e : TypeId} {b0 : Nat} (hc : P.cellsOf e = Rwc.w α) (ht : P.underlying t = some (.slice e))
    (hrow : ∀ fuel cs x, DataW.trod enc P w base spare held fuel e cs = some x → ∃ r : α, cs = Rwc.enc r) (hv : Cell.okWide P w .any b0 t v) (h : DataW.trod enc P w base spare held fuel t [v] = some y) : ∃ K : List α, In w v K := by
  obtain ⟨p, L, cap, he, b, off, row, hr⟩ := open_rows (α := α) hc ht hrow h
  simp only [List.cons.injEq, and_true] at he
  subst he
  refine ⟨L, ?_⟩
  cases p with
  | none =>
    obtain ⟨h1, h2⟩ := slice_nil ht hv
    have h3 : L = [] := List.length_eq_zero_iff.1 h1
    subst h3; subst h2
    exact .inl ⟨rfl, rfl⟩
  | some a =>
    obtain ⟨h1, h2⟩ := slice_has ht hv
    obtain ⟨ab, ao, asp⟩ := a
    dsimp only at h1 h2
    subst h1
    refine .inr ⟨ab, ao, cap, rfl, h2, fun hL => ?_⟩
    obtain ⟨e1, ⟨T, fr, e2⟩, e3⟩ := hr hL
    cases e1
    have hs := row_split row L off e3
    have hlen : off ≤ row.length := by
      rcases Nat.lt_or_ge row.length off with hlt | hge
      · rw [List.drop_eq_nil_of_le (by omega)] at hs
        cases L with
        | nil => exact absurd rfl hL
        | cons r L =>
          have h9 := congrArg List.length hs
          rw [List.length_append, encs_len, List.length_cons, Nat.add_mul, Nat.one_mul] at h9
          have := Rwc.pos (α := α)
          simp at h9
          omega
      · exact hge
    refine ⟨row.take off, row.drop (off + L.length * Rwc.w α), T, fr, by rw [List.length_take]; omega, ?_⟩
    rw [← hs, List.take_append_drop]
    exact e2
theorem flat_rl (σ : Sg) : ∀ {L : List Value}, (∀ v ∈ L, plain v = true) → RlL σ L L := by
  intro L h
  refine ⟨rfl, fun i a b ha hb => ?_⟩
  rw [ha] at hb
  cases hb
  exact .sc (h a (List.mem_of_getElem? ha))
/-- What is told so far of lists that came in. -/
structure Told (W : World) (σ : Sg) (h : Tr Ob) (i : Nat) : Prop where
  hr : HR (.all W) σ h W
  ro : ∀ j, wrB (h.get j) = false
  no : ∀ j, i ≤ j → σ j = none
theorem Told.start (W : World) : Told W (fun _ => none) (.nil : Tr Ob) 0 :=
  ⟨⟨Kept.all W, fun i b r h => (by simp at h), fun i b r o h => (by simp at h), fun i j b r r' h => (by simp at h), fun i b r h => (by simp at h)⟩, fun j => by rw [Tr.get_nil]; rfl, fun _ _ => rfl⟩
theorem tell {W : World} {v : Value} {K : List α} (hin : In W v K) (hp : ∀ u ∈ encs K, plain u = true) {σ : Sg} {h : Tr Ob} {i : Nat} (T0 : Told W σ h i) :
    ∃ σ' h' v', Told W σ' h' (i + 1) ∧ SLe σ σ' ∧ Fr h i h' ∧ Rl σ' v' v ∧ Sl h' (i + 1) v' K := by
  obtain ⟨Hr, hw, hs⟩ := T0
  rcases hin with ⟨rfl, rfl⟩ | ⟨b, off, cap, rfl, hb, hc⟩
  · exact ⟨σ, h, .slice none 0 0, ⟨Hr, hw, fun j hj => hs j (by omega)⟩, SLe.refl σ, Fr.refl h i, .sc rfl, Sl.nil _ _⟩
  · have hle : SLe σ (upd σ i (b, 0)) := by
      intro j x hj
      unfold upd
      by_cases e : j = i
      · subst e; rw [hs j (Nat.le_refl _)] at hj; cases hj
      · rw [if_neg e]; exact hj
    have hup : ∀ j, i + 1 ≤ j → upd σ i (b, 0) j = none := fun j hj => by unfold upd; rw [if_neg (by omega)]; exact hs j (by omega)
    have hlow : ∀ j b' r, upd σ i (b, 0) j = some (b', r) → b' < W.heap.size := by
      intro j b' r hj
      unfold upd at hj
      by_cases e : j = i
      · rw [if_pos e] at hj; cases hj; exact hb
      · rw [if_neg e] at hj; exact Hr.low j b' r hj
    have mk : ∀ o : Option Ob, (∀ x, o = some x → OR (upd σ i (b, 0)) W b 0 x) → wrB o = false → HR (.all W) (upd σ i (b, 0)) (h.set o i) W ∧ (∀ j, wrB ((h.set o i).get j) = false) := by
      intro o ho hwo
      have hww : ∀ j, wrB ((h.set o i).get j) = false := by
        intro j
        by_cases e : j = i
        · subst e; rw [Tr.get_same]; exact hwo
        · rw [Tr.get_other _ _ e]; exact hw j
      refine ⟨⟨Hr.bel, hlow, fun j b' r x hj hx => ?_, fun j _ _ _ _ _ _ h1 _ => (by rw [hww j] at h1; cases h1), fun j _ _ _ h1 => (by rw [hww j] at h1; cases h1)⟩, hww⟩
      by_cases e : j = i
      · subst e
        rw [Tr.get_same] at hx
        unfold upd at hj
        rw [if_pos rfl] at hj
        cases hj
        exact ho x hx
      · rw [Tr.get_other _ _ e] at hx
        unfold upd at hj
        rw [if_neg e] at hj
        exact (Hr.ob j b' r x hj hx).mono hle rfl
    have fr : ∀ o : Option Ob, Fr h i (h.set o i) := fun o j hj => Tr.get_other _ _ (by omega)
    by_cases hK : K = []
    · subst hK
      obtain ⟨m1, m2⟩ := mk none (fun x hx => by cases hx) rfl
      exact ⟨_, _, .slice (some ⟨i, off, none⟩) 0 cap, ⟨m1, m2, hup⟩, hle, fr _, .sl (r := 0) (by unfold upd; rw [if_pos rfl]), Sl.empty _ _ _ _⟩
    · obtain ⟨pre, rest, T, fz, h1, h2⟩ := hc hK
      obtain ⟨m1, m2⟩ := mk (some (.r off (encs K))) (fun x hx => by cases hx; exact ⟨pre, _, rest, T, fz, h1, flat_rl _ hp, h2⟩) rfl
      refine ⟨_, _, .slice (some ⟨i, off, none⟩) K.length cap, ⟨m1, m2, hup⟩, hle, fr _, .sl (r := 0) (by unfold upd; rw [if_pos rfl]), ⟨encs_len K, _, _, rfl, .inr ⟨i, off, none, _, rfl, by omega, cellsFrom_r (Tr.get_same _ _ _) (Nat.le_refl _), ?_⟩⟩, fun n c e => by cases e⟩
      rw [Nat.sub_self, List.drop_zero, ← encs_len, List.take_length]
end
end Go.Ev
end

