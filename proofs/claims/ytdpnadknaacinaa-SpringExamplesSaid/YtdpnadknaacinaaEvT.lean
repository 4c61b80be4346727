/-
  The evaluator, part T: a region that draws: the order in which it is gone through, what is held against other orders, the run.
  Conditions: none; generic over the program.
-/
import Derived.Test.YtdpnadknaacinaaEvS
namespace Go.Ev
open Go.RowKit Go.Sx
set_option linter.unusedVariables false
set_option linter.unusedSimpArgs false

/-! ### The order, and what is asked of it once and for all -/
structure It where
  i : Nat
  anc : Nat
  lk : List Nat
  eff : Bool

noncomputable def isEff (o : Oper) : Bool :=
  match o.op with
  | .store _ _ _ => true
  | .mapUpdate _ _ _ _ => true
  | .insert _ _ _ _ => true
  | .call { callee := .value _, .. } => true
  | .call { callee := .builtin .append, .. } => true
  | .call { callee := .builtin .copy, .. } => true
  | .call { callee := .builtin .delete, .. } => true
  | .call { callee := .builtin .clear, .. } => true
  | _ => false

noncomputable def lookN (tbl : List (Nat × Nat)) (i : Nat) : Option Nat :=
  List.rec (motive := fun _ => Option Nat) none (fun x _ ih => Bool.rec (motive := fun _ => Option Nat) ih (some x.2) (Nat.beq x.1 i)) tbl
theorem lookN_cons (x : Nat × Nat) (tbl : List (Nat × Nat)) (i : Nat) : lookN (x :: tbl) i = if x.1 = i then some x.2 else lookN tbl i := by
  show Bool.rec (motive := fun _ => Option Nat) (lookN tbl i) (some x.2) (Nat.beq x.1 i) = _
  cases h : Nat.beq x.1 i with
  | true => rw [if_pos (Nat.eq_of_beq_eq_true h)]
  | false => rw [if_neg (fun e => by rw [e, Nat.beq_refl] at h; cases h)]
/-- All operations that must come ahead: what the edges name, and what must come ahead of those. -/
noncomputable def ancF (tbl : List (Nat × Nat)) (gs : List Edge) : Option Nat :=
  List.rec (motive := fun _ => Option Nat) (some 0) (fun g _ ih => Bool.rec (motive := fun _ => Option Nat) ih (obind (lookN tbl g.on) fun m => obind ih fun r => some (Nat.lor (Nat.lor (Nat.pow 2 g.on) m) r)) (Region.binds .any g)) gs

/-- Which operation writes which slot. -/
noncomputable def dtab (l : List Oper) : Nat → List (Nat × Nat) :=
  List.rec (motive := fun _ => Nat → List (Nat × Nat)) (fun _ => []) (fun o _ ih i => Option.rec (motive := fun _ => List (Nat × Nat)) (ih (Nat.succ i)) (fun t => (i, t) :: ih (Nat.succ i)) o.dst) l
noncomputable def allB {α : Type} (f : α → Bool) (l : List α) : Bool := List.rec (motive := fun _ => Bool) true (fun x _ ih => band (f x) ih) l
theorem allB_ok {α : Type} {f : α → Bool} : ∀ {l : List α}, allB f l = true → ∀ x ∈ l, f x = true
  | [], _, x, hx => by cases hx
  | y :: l, h, x, hx => by
    have h' : band (f y) (allB f l) = true := h
    obtain ⟨h1, h2⟩ := band_ok h'
    rcases List.mem_cons.1 hx with e | e
    · subst e; exact h1
    · exact allB_ok h2 x e
noncomputable def nob (b : Bool) : Bool := Bool.rec (motive := fun _ => Bool) true false b
noncomputable def orb (a b : Bool) : Bool := Bool.rec (motive := fun _ => Bool) b true a

noncomputable def sItem (nt : Nat) (dt tbl rds : List (Nat × Nat)) (effs : List Nat) (it : It) (o : Oper) : Bool :=
  band (Option.rec (motive := fun _ => Bool) true (fun _ => false) (lookN tbl it.i))
  (band (optN (ancF tbl o.after.toList) (some it.anc))
  (band (allB (fun j => it.anc.testBit j) effs)
  (band (allB (fun t => allB (fun x => orb (nob (Nat.beq x.2 t)) (Option.rec (motive := fun _ => Bool) true (fun _ => it.anc.testBit x.1) (lookN tbl x.1))) dt) it.lk)
  (Option.rec (motive := fun _ => Bool) true (fun t => band (Nat.ble (Nat.succ t) nt) (band (allB (fun x => orb (nob (Nat.beq x.2 t)) (Nat.beq x.1 it.i)) dt)
    (band (allB (fun x => orb (nob (Nat.beq x.1 t)) (it.anc.testBit x.2)) rds) (allB (fun u => nob (Nat.beq u t)) it.lk)))) o.dst))))

noncomputable def addR (i : Nat) (lk : List Nat) (rds : List (Nat × Nat)) : List (Nat × Nat) := List.rec (motive := fun _ => List (Nat × Nat)) rds (fun t _ ih => (t, i) :: ih) lk
theorem addR_new {i t : Nat} {rds : List (Nat × Nat)} : ∀ {lk : List Nat}, t ∈ lk → (t, i) ∈ addR i lk rds
  | [], h => by cases h
  | u :: lk, h => by
    show (t, i) ∈ (u, i) :: addR i lk rds
    rcases List.mem_cons.1 h with e | e
    · subst e; exact List.mem_cons_self
    · exact List.mem_cons_of_mem _ (addR_new e)
theorem addR_old {i : Nat} {x : Nat × Nat} {rds : List (Nat × Nat)} (h : x ∈ rds) : ∀ {lk : List Nat}, x ∈ addR i lk rds
  | [] => h
  | u :: lk => List.mem_cons_of_mem _ (addR_old h (lk := lk))

noncomputable def schk (nt : Nat) (ops : List Oper) (dt : List (Nat × Nat)) (L : List It) : List (Nat × Nat) → List (Nat × Nat) → List Nat → Bool :=
  List.rec (motive := fun _ => List (Nat × Nat) → List (Nat × Nat) → List Nat → Bool)
    (fun tbl _ _ => List.rec (motive := fun _ => Nat → Bool) (fun _ => true) (fun _ _ ih i => band (Option.rec (motive := fun _ => Bool) false (fun _ => true) (lookN tbl i)) (ih (Nat.succ i))) ops 0)
    (fun it _ ih tbl rds effs => Option.rec (motive := fun _ => Bool) false (fun o => band (sItem nt dt tbl rds effs it o) (ih ((it.i, it.anc) :: tbl) (addR it.i it.lk rds) (Bool.rec (motive := fun _ => List Nat) effs (it.i :: effs) it.eff))) (nth ops it.i)) L

/-! ### The run -/
structure Pd where
  i : Nat
  o : Oper
  R : Tr Value
  v : Value
  lo : Nat
  nw : Bool
noncomputable def rst (lk : List Nat) (e : Tr Value) : Tr Value := List.rec (motive := fun _ => Tr Value) .nil (fun t _ ih => Option.rec (motive := fun _ => Tr Value) ih (fun v => ih.set (some v) t) (e.get t)) lk
noncomputable def again (P : Program) (h : Tr Ob) (pd : Pd) : Bool :=
  Option.rec (motive := fun _ => Bool) false (fun r => band (valEq 3 r.1 pd.v) (Option.rec (motive := fun _ => Bool) (nob pd.nw) (fun ob => band pd.nw (obEq (h.get pd.lo) ob)) r.2)) (evPas P pd.o pd.R h pd.lo)
noncomputable def prune (anc : Nat) (pend : List Pd) : List Pd := List.rec (motive := fun _ => List Pd) [] (fun pd _ ih => Bool.rec (motive := fun _ => List Pd) (pd :: ih) ih (anc.testBit pd.i)) pend

noncomputable def dRun (P : Program) (call : CallF) (ops : Array Oper) (L : List It) : Tr Value → Tr Ob → Nat → List Pd → RgR :=
  List.rec (motive := fun _ => Tr Value → Tr Ob → Nat → List Pd → RgR)
    (fun e h N pend => ocond (allB (again P h) pend) (some (e, h, N)))
    (fun it _ ih e h N pend => obind (nth ops.toList it.i) fun o => obind (evWants ops (rst it.lk e) o) fun b => Bool.rec (motive := fun _ => RgR)
      (ih (put e o.dst undef) h N pend)
      (Bool.rec (motive := fun _ => RgR)
        (Option.rec (motive := fun _ => RgR)
          (obind (evPas P o (rst it.lk e) h N) fun r => Option.rec (motive := fun _ => RgR)
            (ih (put e o.dst r.1) h N (⟨it.i, o, rst it.lk e, r.1, N, false⟩ :: pend))
            (fun ob => ih (put e o.dst r.1) (h.set (some ob) N) (Nat.succ N) (⟨it.i, o, rst it.lk e, r.1, N, true⟩ :: pend)) r.2)
          (fun v => ih (put e o.dst v) h N pend) (evPure P o (rst it.lk e) .nil))
        (ocond (allB (again P h) pend) (obind (evStep P call o (rst it.lk e) h N) fun r => ih (put e o.dst r.1) r.2.1 r.2.2 (prune it.anc pend)))
        it.eff) b) L

/-! ### The order: what may come as early as it may, what writes or calls one behind the other -/
noncomputable def bind_ (o : Oper) : List Nat := List.rec (motive := fun _ => List Nat) [] (fun g _ ih => Bool.rec (motive := fun _ => List Nat) ih (g.on :: ih) (Region.binds .any g)) o.after.toList
noncomputable def pick (eff : Bool) (dn : List (Nat × Nat)) (l : List (Nat × Oper)) : Option ((Nat × Oper) × List (Nat × Oper)) :=
  List.rec (motive := fun _ => Option ((Nat × Oper) × List (Nat × Oper))) none
    (fun x t ih => Bool.rec (motive := fun _ => Option ((Nat × Oper) × List (Nat × Oper)))
      (obind ih fun r => some (r.1, x :: r.2)) (some (x, t))
      (band (decide (isEff x.2 = eff)) (allB (fun j => Option.rec (motive := fun _ => Bool) false (fun _ => true) (lookN dn j)) (bind_ x.2)))) l
noncomputable def order (ops : Array Oper) (f : Nat) : List (Nat × Nat) → List (Nat × Oper) → List It :=
  Nat.rec (motive := fun _ => List (Nat × Nat) → List (Nat × Oper) → List It) (fun _ _ => [])
    (fun _ ih dn l => Option.rec (motive := fun _ => List It)
      (Option.rec (motive := fun _ => List It) []
        (fun r => Option.rec (motive := fun _ => List It) [] (fun an => ⟨r.1.1, an, r.1.2.looksAt ops, true⟩ :: ih ((r.1.1, an) :: dn) r.2) (ancF dn r.1.2.after.toList)) (pick true dn l))
      (fun r => Option.rec (motive := fun _ => List It) [] (fun an => ⟨r.1.1, an, r.1.2.looksAt ops, false⟩ :: ih ((r.1.1, an) :: dn) r.2) (ancF dn r.1.2.after.toList)) (pick false dn l)) f
noncomputable def number (l : List Oper) : Nat → List (Nat × Oper) := List.rec (motive := fun _ => Nat → List (Nat × Oper)) (fun _ => []) (fun o _ ih i => (i, o) :: ih (Nat.succ i)) l
/-- The order, if it holds all that is asked. -/
noncomputable def plan (nt : Nat) (ops : Array Oper) : Option (List It) :=
  (fun L => ocond (schk nt ops.toList (dtab ops.toList 0) L [] [] []) (some L)) (order ops (Nat.succ (len ops.toList)) [] (number ops.toList 0))

noncomputable def evDraw (P : Program) (call : CallF) : DrF := fun nt ops e h N =>
  obind (plan nt ops) fun L => dRun P call ops L e h N []

end Go.Ev
