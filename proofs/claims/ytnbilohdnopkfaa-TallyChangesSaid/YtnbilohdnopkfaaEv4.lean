/-
  An evaluator over the model's code, and why it holds, part 4.
  Conditions: none; generic over the program.
-/
import Derived.Test.YtnbilohdnopkfaaEv3

set_option linter.unusedVariables false
set_option linter.unusedSimpArgs false

section
namespace Go.Ev
open Go.RowKit Go.Sx
set_option linter.unusedVariables false
set_option linter.unusedSimpArgs false

theorem StOk.nil {P : Program} : StOk P [] := fun x hx => by cases hx
theorem StOk.cons {P : Program} {st : St} {f : Nat} {F : Fs} (h : FOk P f F) (hs : StOk P st) : StOk P ((f, F) :: st) := fun x hx => by
  rcases List.mem_cons.1 hx with e | e
  · subst e; exact h
  · exact hs x e

/-- The bodies of ranges over functions within a code, in its order. -/
noncomputable def rgs (c : Code) : List (Code × Code) :=
  Code.rec (motive := fun _ => List (Code × Code)) [] (fun _ _ _ => []) (fun _ _ a b => app a b) (fun _ _ _ a b => app a b) (fun _ _ a => a) (fun _ a => a) (fun _ _ asg body a b => (asg, body) :: app a b) (fun _ => []) (fun _ a => a) (fun _ => []) (fun _ => []) [] (fun _ => []) c
noncomputable def rgN (P : Program) (f k : Nat) : Code × Code := Option.rec (motive := fun _ => Code × Code) (.skip, .skip) (fun x => x) (nth (rgs (bodyOf P f)) k)
noncomputable def rgA (P : Program) (f k : Nat) : Code := (rgN P f k).1
noncomputable def rgB (P : Program) (f k : Nat) : Code := (rgN P f k).2
theorem ROk.congr {P : Program} {nt : Nat} {asg body : Code} {F G : Rs} (h : ∀ call l e h N, F call l e h N = G call l e h N) (hF : ROk P nt asg body F) : ROk P nt asg body G := by
  have : F = G := by funext call l e h' N; exact h call l e h' N
  rw [← this]; exact hF

abbrev C0 : Type := Ct
abbrev C1 : Type := Value → Ct
abbrev C2 : Type := Value → Value → Ct
abbrev C3 : Type := Value → Value → Value → Ct
abbrev C4 : Type := Value → Value → Value → Value → Ct
abbrev C5 : Type := Value → Value → Value → Value → Value → Ct
abbrev C6 : Type := Value → Value → Value → Value → Value → Value → Ct
abbrev C7 : Type := Value → Value → Value → Value → Value → Value → Value → Ct
abbrev C8 : Type := Value → Value → Value → Value → Value → Value → Value → Value → Ct
abbrev C9 : Type := Value → Value → Value → Value → Value → Value → Value → Value → Value → Ct
abbrev C10 : Type := Value → Value → Value → Value → Value → Value → Value → Value → Value → Value → Ct
abbrev C11 : Type := Value → Value → Value → Value → Value → Value → Value → Value → Value → Value → Value → Ct
abbrev C12 : Type := Value → Value → Value → Value → Value → Value → Value → Value → Value → Value → Value → Value → Ct
abbrev C13 : Type := Value → Value → Value → Value → Value → Value → Value → Value → Value → Value → Value → Value → Value → Ct
abbrev C14 : Type := Value → Value → Value → Value → Value → Value → Value → Value → Value → Value → Value → Value → Value → Value → Ct
abbrev C15 : Type := Value → Value → Value → Value → Value → Value → Value → Value → Value → Value → Value → Value → Value → Value → Value → Ct
abbrev C16 : Type := Value → Value → Value → Value → Value → Value → Value → Value → Value → Value → Value → Value → Value → Value → Value → Value → Ct
abbrev C17 : Type := Value → Value → Value → Value → Value → Value → Value → Value → Value → Value → Value → Value → Value → Value → Value → Value → Value → Ct
abbrev C18 : Type := Value → Value → Value → Value → Value → Value → Value → Value → Value → Value → Value → Value → Value → Value → Value → Value → Value → Value → Ct
abbrev C19 : Type := Value → Value → Value → Value → Value → Value → Value → Value → Value → Value → Value → Value → Value → Value → Value → Value → Value → Value → Value → Ct
abbrev C20 : Type := Value → Value → Value → Value → Value → Value → Value → Value → Value → Value → Value → Value → Value → Value → Value → Value → Value → Value → Value → Value → Ct
abbrev C21 : Type := Value → Value → Value → Value → Value → Value → Value → Value → Value → Value → Value → Value → Value → Value → Value → Value → Value → Value → Value → Value → Value → Ct
abbrev C22 : Type := Value → Value → Value → Value → Value → Value → Value → Value → Value → Value → Value → Value → Value → Value → Value → Value → Value → Value → Value → Value → Value → Value → Ct
abbrev C23 : Type := Value → Value → Value → Value → Value → Value → Value → Value → Value → Value → Value → Value → Value → Value → Value → Value → Value → Value → Value → Value → Value → Value → Value → Ct
abbrev C24 : Type := Value → Value → Value → Value → Value → Value → Value → Value → Value → Value → Value → Value → Value → Value → Value → Value → Value → Value → Value → Value → Value → Value → Value → Value → Ct
abbrev C25 : Type := Value → Value → Value → Value → Value → Value → Value → Value → Value → Value → Value → Value → Value → Value → Value → Value → Value → Value → Value → Value → Value → Value → Value → Value → Value → Ct
abbrev C26 : Type := Value → Value → Value → Value → Value → Value → Value → Value → Value → Value → Value → Value → Value → Value → Value → Value → Value → Value → Value → Value → Value → Value → Value → Value → Value → Value → Ct
abbrev C27 : Type := Value → Value → Value → Value → Value → Value → Value → Value → Value → Value → Value → Value → Value → Value → Value → Value → Value → Value → Value → Value → Value → Value → Value → Value → Value → Value → Value → Ct
abbrev C28 : Type := Value → Value → Value → Value → Value → Value → Value → Value → Value → Value → Value → Value → Value → Value → Value → Value → Value → Value → Value → Value → Value → Value → Value → Value → Value → Value → Value → Value → Ct
abbrev C29 : Type := Value → Value → Value → Value → Value → Value → Value → Value → Value → Value → Value → Value → Value → Value → Value → Value → Value → Value → Value → Value → Value → Value → Value → Value → Value → Value → Value → Value → Value → Ct
abbrev C30 : Type := Value → Value → Value → Value → Value → Value → Value → Value → Value → Value → Value → Value → Value → Value → Value → Value → Value → Value → Value → Value → Value → Value → Value → Value → Value → Value → Value → Value → Value → Value → Ct
noncomputable abbrev ar0 (t : List Value) (k : OpR) : OpR := List.rec (motive := fun _ => OpR) (k) (fun _ _ _ => none) t
theorem ar0_ok {P : Program} {f : Nat} {F : Fs} {s : CallF → Tr Ob → Nat → OpR} (h : ∀ call  h N, F call [] h N = s call  h N) (hF : FOk P f F) : FOk P f (fun call args h N => ar0 args (s call h N)) := by
  intro call hc t0 h' N v h2 N2 hr
  cases t0 with
  | nil => exact hF call hc _ _ _ _ _ _ ((h call  h' N).trans hr)
  | cons _ _ => cases hr
noncomputable abbrev ar1 (t : List Value) (k : Value → OpR) : OpR := List.rec (motive := fun _ => OpR) none (fun a0 t _ => List.rec (motive := fun _ => OpR) (k a0) (fun _ _ _ => none) t) t
theorem ar1_ok {P : Program} {f : Nat} {F : Fs} {s : CallF → Value → Tr Ob → Nat → OpR} (h : ∀ call a0 h N, F call [a0] h N = s call a0 h N) (hF : FOk P f F) : FOk P f (fun call args h N => ar1 args (fun a0 => s call a0 h N)) := by
  intro call hc t0 h' N v h2 N2 hr
  cases t0 with
  | nil => cases hr
  | cons x0 t1 =>
    cases t1 with
    | nil => exact hF call hc _ _ _ _ _ _ ((h call x0 h' N).trans hr)
    | cons _ _ => cases hr
noncomputable abbrev ar2 (t : List Value) (k : Value → Value → OpR) : OpR := List.rec (motive := fun _ => OpR) none (fun a0 t _ => List.rec (motive := fun _ => OpR) none (fun a1 t _ => List.rec (motive := fun _ => OpR) (k a0 a1) (fun _ _ _ => none) t) t) t
theorem ar2_ok {P : Program} {f : Nat} {F : Fs} {s : CallF → Value → Value → Tr Ob → Nat → OpR} (h : ∀ call a0 a1 h N, F call [a0, a1] h N = s call a0 a1 h N) (hF : FOk P f F) : FOk P f (fun call args h N => ar2 args (fun a0 a1 => s call a0 a1 h N)) := by
  intro call hc t0 h' N v h2 N2 hr
  cases t0 with
  | nil => cases hr
  | cons x0 t1 =>
    cases t1 with
    | nil => cases hr
    | cons x1 t2 =>
      cases t2 with
      | nil => exact hF call hc _ _ _ _ _ _ ((h call x0 x1 h' N).trans hr)
      | cons _ _ => cases hr
noncomputable abbrev ar3 (t : List Value) (k : Value → Value → Value → OpR) : OpR := List.rec (motive := fun _ => OpR) none (fun a0 t _ => List.rec (motive := fun _ => OpR) none (fun a1 t _ => List.rec (motive := fun _ => OpR) none (fun a2 t _ => List.rec (motive := fun _ => OpR) (k a0 a1 a2) (fun _ _ _ => none) t) t) t) t
theorem ar3_ok {P : Program} {f : Nat} {F : Fs} {s : CallF → Value → Value → Value → Tr Ob → Nat → OpR} (h : ∀ call a0 a1 a2 h N, F call [a0, a1, a2] h N = s call a0 a1 a2 h N) (hF : FOk P f F) : FOk P f (fun call args h N => ar3 args (fun a0 a1 a2 => s call a0 a1 a2 h N)) := by
  intro call hc t0 h' N v h2 N2 hr
  cases t0 with
  | nil => cases hr
  | cons x0 t1 =>
    cases t1 with
    | nil => cases hr
    | cons x1 t2 =>
      cases t2 with
      | nil => cases hr
      | cons x2 t3 =>
        cases t3 with
        | nil => exact hF call hc _ _ _ _ _ _ ((h call x0 x1 x2 h' N).trans hr)
        | cons _ _ => cases hr
noncomputable abbrev ar4 (t : List Value) (k : Value → Value → Value → Value → OpR) : OpR := List.rec (motive := fun _ => OpR) none (fun a0 t _ => List.rec (motive := fun _ => OpR) none (fun a1 t _ => List.rec (motive := fun _ => OpR) none (fun a2 t _ => List.rec (motive := fun _ => OpR) none (fun a3 t _ => List.rec (motive := fun _ => OpR) (k a0 a1 a2 a3) (fun _ _ _ => none) t) t) t) t) t
theorem ar4_ok {P : Program} {f : Nat} {F : Fs} {s : CallF → Value → Value → Value → Value → Tr Ob → Nat → OpR} (h : ∀ call a0 a1 a2 a3 h N, F call [a0, a1, a2, a3] h N = s call a0 a1 a2 a3 h N) (hF : FOk P f F) : FOk P f (fun call args h N => ar4 args (fun a0 a1 a2 a3 => s call a0 a1 a2 a3 h N)) := by
  intro call hc t0 h' N v h2 N2 hr
  cases t0 with
  | nil => cases hr
  | cons x0 t1 =>
    cases t1 with
    | nil => cases hr
    | cons x1 t2 =>
      cases t2 with
      | nil => cases hr
      | cons x2 t3 =>
        cases t3 with
        | nil => cases hr
        | cons x3 t4 =>
          cases t4 with
          | nil => exact hF call hc _ _ _ _ _ _ ((h call x0 x1 x2 x3 h' N).trans hr)
          | cons _ _ => cases hr
noncomputable abbrev ar5 (t : List Value) (k : Value → Value → Value → Value → Value → OpR) : OpR := List.rec (motive := fun _ => OpR) none (fun a0 t _ => List.rec (motive := fun _ => OpR) none (fun a1 t _ => List.rec (motive := fun _ => OpR) none (fun a2 t _ => List.rec (motive := fun _ => OpR) none (fun a3 t _ => List.rec (motive := fun _ => OpR) none (fun a4 t _ => List.rec (motive := fun _ => OpR) (k a0 a1 a2 a3 a4) (fun _ _ _ => none) t) t) t) t) t) t
theorem ar5_ok {P : Program} {f : Nat} {F : Fs} {s : CallF → Value → Value → Value → Value → Value → Tr Ob → Nat → OpR} (h : ∀ call a0 a1 a2 a3 a4 h N, F call [a0, a1, a2, a3, a4] h N = s call a0 a1 a2 a3 a4 h N) (hF : FOk P f F) : FOk P f (fun call args h N => ar5 args (fun a0 a1 a2 a3 a4 => s call a0 a1 a2 a3 a4 h N)) := by
  intro call hc t0 h' N v h2 N2 hr
  cases t0 with
  | nil => cases hr
  | cons x0 t1 =>
    cases t1 with
    | nil => cases hr
    | cons x1 t2 =>
      cases t2 with
      | nil => cases hr
      | cons x2 t3 =>
        cases t3 with
        | nil => cases hr
        | cons x3 t4 =>
          cases t4 with
          | nil => cases hr
          | cons x4 t5 =>
            cases t5 with
            | nil => exact hF call hc _ _ _ _ _ _ ((h call x0 x1 x2 x3 x4 h' N).trans hr)
            | cons _ _ => cases hr
noncomputable abbrev ar6 (t : List Value) (k : Value → Value → Value → Value → Value → Value → OpR) : OpR := List.rec (motive := fun _ => OpR) none (fun a0 t _ => List.rec (motive := fun _ => OpR) none (fun a1 t _ => List.rec (motive := fun _ => OpR) none (fun a2 t _ => List.rec (motive := fun _ => OpR) none (fun a3 t _ => List.rec (motive := fun _ => OpR) none (fun a4 t _ => List.rec (motive := fun _ => OpR) none (fun a5 t _ => List.rec (motive := fun _ => OpR) (k a0 a1 a2 a3 a4 a5) (fun _ _ _ => none) t) t) t) t) t) t) t
theorem ar6_ok {P : Program} {f : Nat} {F : Fs} {s : CallF → Value → Value → Value → Value → Value → Value → Tr Ob → Nat → OpR} (h : ∀ call a0 a1 a2 a3 a4 a5 h N, F call [a0, a1, a2, a3, a4, a5] h N = s call a0 a1 a2 a3 a4 a5 h N) (hF : FOk P f F) : FOk P f (fun call args h N => ar6 args (fun a0 a1 a2 a3 a4 a5 => s call a0 a1 a2 a3 a4 a5 h N)) := by
  intro call hc t0 h' N v h2 N2 hr
  cases t0 with
  | nil => cases hr
  | cons x0 t1 =>
    cases t1 with
    | nil => cases hr
    | cons x1 t2 =>
      cases t2 with
      | nil => cases hr
      | cons x2 t3 =>
        cases t3 with
        | nil => cases hr
        | cons x3 t4 =>
          cases t4 with
          | nil => cases hr
          | cons x4 t5 =>
            cases t5 with
            | nil => cases hr
            | cons x5 t6 =>
              cases t6 with
              | nil => exact hF call hc _ _ _ _ _ _ ((h call x0 x1 x2 x3 x4 x5 h' N).trans hr)
              | cons _ _ => cases hr
noncomputable abbrev ar7 (t : List Value) (k : Value → Value → Value → Value → Value → Value → Value → OpR) : OpR := List.rec (motive := fun _ => OpR) none (fun a0 t _ => List.rec (motive := fun _ => OpR) none (fun a1 t _ => List.rec (motive := fun _ => OpR) none (fun a2 t _ => List.rec (motive := fun _ => OpR) none (fun a3 t _ => List.rec (motive := fun _ => OpR) none (fun a4 t _ => List.rec (motive := fun _ => OpR) none (fun a5 t _ => List.rec (motive := fun _ => OpR) none (fun a6 t _ => List.rec (motive := fun _ => OpR) (k a0 a1 a2 a3 a4 a5 a6) (fun _ _ _ => none) t) t) t) t) t) t) t) t
theorem ar7_ok {P : Program} {f : Nat} {F : Fs} {s : CallF → Value → Value → Value → Value → Value → Value → Value → Tr Ob → Nat → OpR} (h : ∀ call a0 a1 a2 a3 a4 a5 a6 h N, F call [a0, a1, a2, a3, a4, a5, a6] h N = s call a0 a1 a2 a3 a4 a5 a6 h N) (hF : FOk P f F) : FOk P f (fun call args h N => ar7 args (fun a0 a1 a2 a3 a4 a5 a6 => s call a0 a1 a2 a3 a4 a5 a6 h N)) := by
  intro call hc t0 h' N v h2 N2 hr
  cases t0 with
  | nil => cases hr
  | cons x0 t1 =>
    cases t1 with
    | nil => cases hr
    | cons x1 t2 =>
      cases t2 with
      | nil => cases hr
      | cons x2 t3 =>
        cases t3 with
        | nil => cases hr
        | cons x3 t4 =>
          cases t4 with
          | nil => cases hr
          | cons x4 t5 =>
            cases t5 with
            | nil => cases hr
            | cons x5 t6 =>
              cases t6 with
              | nil => cases hr
              | cons x6 t7 =>
                cases t7 with
                | nil => exact hF call hc _ _ _ _ _ _ ((h call x0 x1 x2 x3 x4 x5 x6 h' N).trans hr)
                | cons _ _ => cases hr
noncomputable abbrev ar8 (t : List Value) (k : Value → Value → Value → Value → Value → Value → Value → Value → OpR) : OpR := List.rec (motive := fun _ => OpR) none (fun a0 t _ => List.rec (motive := fun _ => OpR) none (fun a1 t _ => List.rec (motive := fun _ => OpR) none (fun a2 t _ => List.rec (motive := fun _ => OpR) none (fun a3 t _ => List.rec (motive := fun _ => OpR) none (fun a4 t _ => List.rec (motive := fun _ => OpR) none (fun a5 t _ => List.rec (motive := fun _ => OpR) none (fun a6 t _ => List.rec (motive := fun _ => OpR) none (fun a7 t _ => List.rec (motive := fun _ => OpR) (k a0 a1 a2 a3 a4 a5 a6 a7) (fun _ _ _ => none) t) t) t) t) t) t) t) t) t
theorem ar8_ok {P : Program} {f : Nat} {F : Fs} {s : CallF → Value → Value → Value → Value → Value → Value → Value → Value → Tr Ob → Nat → OpR} (h : ∀ call a0 a1 a2 a3 a4 a5 a6 a7 h N, F call [a0, a1, a2, a3, a4, a5, a6, a7] h N = s call a0 a1 a2 a3 a4 a5 a6 a7 h N) (hF : FOk P f F) : FOk P f (fun call args h N => ar8 args (fun a0 a1 a2 a3 a4 a5 a6 a7 => s call a0 a1 a2 a3 a4 a5 a6 a7 h N)) := by
  intro call hc t0 h' N v h2 N2 hr
  cases t0 with
  | nil => cases hr
  | cons x0 t1 =>
    cases t1 with
    | nil => cases hr
    | cons x1 t2 =>
      cases t2 with
      | nil => cases hr
      | cons x2 t3 =>
        cases t3 with
        | nil => cases hr
        | cons x3 t4 =>
          cases t4 with
          | nil => cases hr
          | cons x4 t5 =>
            cases t5 with
            | nil => cases hr
            | cons x5 t6 =>
              cases t6 with
              | nil => cases hr
              | cons x6 t7 =>
                cases t7 with
                | nil => cases hr
                | cons x7 t8 =>
                  cases t8 with
                  | nil => exact hF call hc _ _ _ _ _ _ ((h call x0 x1 x2 x3 x4 x5 x6 x7 h' N).trans hr)
                  | cons _ _ => cases hr
noncomputable abbrev ar9 (t : List Value) (k : Value → Value → Value → Value → Value → Value → Value → Value → Value → OpR) : OpR := List.rec (motive := fun _ => OpR) none (fun a0 t _ => List.rec (motive := fun _ => OpR) none (fun a1 t _ => List.rec (motive := fun _ => OpR) none (fun a2 t _ => List.rec (motive := fun _ => OpR) none (fun a3 t _ => List.rec (motive := fun _ => OpR) none (fun a4 t _ => List.rec (motive := fun _ => OpR) none (fun a5 t _ => List.rec (motive := fun _ => OpR) none (fun a6 t _ => List.rec (motive := fun _ => OpR) none (fun a7 t _ => List.rec (motive := fun _ => OpR) none (fun a8 t _ => List.rec (motive := fun _ => OpR) (k a0 a1 a2 a3 a4 a5 a6 a7 a8) (fun _ _ _ => none) t) t) t) t) t) t) t) t) t) t
theorem ar9_ok {P : Program} {f : Nat} {F : Fs} {s : CallF → Value → Value → Value → Value → Value → Value → Value → Value → Value → Tr Ob → Nat → OpR} (h : ∀ call a0 a1 a2 a3 a4 a5 a6 a7 a8 h N, F call [a0, a1, a2, a3, a4, a5, a6, a7, a8] h N = s call a0 a1 a2 a3 a4 a5 a6 a7 a8 h N) (hF : FOk P f F) : FOk P f (fun call args h N => ar9 args (fun a0 a1 a2 a3 a4 a5 a6 a7 a8 => s call a0 a1 a2 a3 a4 a5 a6 a7 a8 h N)) := by
  intro call hc t0 h' N v h2 N2 hr
  cases t0 with
  | nil => cases hr
  | cons x0 t1 =>
    cases t1 with
    | nil => cases hr
    | cons x1 t2 =>
      cases t2 with
      | nil => cases hr
      | cons x2 t3 =>
        cases t3 with
        | nil => cases hr
        | cons x3 t4 =>
          cases t4 with
          | nil => cases hr
          | cons x4 t5 =>
            cases t5 with
            | nil => cases hr
            | cons x5 t6 =>
              cases t6 with
              | nil => cases hr
              | cons x6 t7 =>
                cases t7 with
                | nil => cases hr
                | cons x7 t8 =>
                  cases t8 with
                  | nil => cases hr
                  | cons x8 t9 =>
                    cases t9 with
                    | nil => exact hF call hc _ _ _ _ _ _ ((h call x0 x1 x2 x3 x4 x5 x6 x7 x8 h' N).trans hr)
                    | cons _ _ => cases hr
noncomputable abbrev ar10 (t : List Value) (k : Value → Value → Value → Value → Value → Value → Value → Value → Value → Value → OpR) : OpR := List.rec (motive := fun _ => OpR) none (fun a0 t _ => List.rec (motive := fun _ => OpR) none (fun a1 t _ => List.rec (motive := fun _ => OpR) none (fun a2 t _ => List.rec (motive := fun _ => OpR) none (fun a3 t _ => List.rec (motive := fun _ => OpR) none (fun a4 t _ => List.rec (motive := fun _ => OpR) none (fun a5 t _ => List.rec (motive := fun _ => OpR) none (fun a6 t _ => List.rec (motive := fun _ => OpR) none (fun a7 t _ => List.rec (motive := fun _ => OpR) none (fun a8 t _ => List.rec (motive := fun _ => OpR) none (fun a9 t _ => List.rec (motive := fun _ => OpR) (k a0 a1 a2 a3 a4 a5 a6 a7 a8 a9) (fun _ _ _ => none) t) t) t) t) t) t) t) t) t) t) t
theorem ar10_ok {P : Program} {f : Nat} {F : Fs} {s : CallF → Value → Value → Value → Value → Value → Value → Value → Value → Value → Value → Tr Ob → Nat → OpR} (h : ∀ call a0 a1 a2 a3 a4 a5 a6 a7 a8 a9 h N, F call [a0, a1, a2, a3, a4, a5, a6, a7, a8, a9] h N = s call a0 a1 a2 a3 a4 a5 a6 a7 a8 a9 h N) (hF : FOk P f F) : FOk P f (fun call args h N => ar10 args (fun a0 a1 a2 a3 a4 a5 a6 a7 a8 a9 => s call a0 a1 a2 a3 a4 a5 a6 a7 a8 a9 h N)) := by
  intro call hc t0 h' N v h2 N2 hr
  cases t0 with
  | nil => cases hr
  | cons x0 t1 =>
    cases t1 with
    | nil => cases hr
    | cons x1 t2 =>
      cases t2 with
      | nil => cases hr
      | cons x2 t3 =>
        cases t3 with
        | nil => cases hr
        | cons x3 t4 =>
          cases t4 with
          | nil => cases hr
          | cons x4 t5 =>
            cases t5 with
            | nil => cases hr
            | cons x5 t6 =>
              cases t6 with
              | nil => cases hr
              | cons x6 t7 =>
                cases t7 with
                | nil => cases hr
                | cons x7 t8 =>
                  cases t8 with
                  | nil => cases hr
                  | cons x8 t9 =>
                    cases t9 with
                    | nil => cases hr
                    | cons x9 t10 =>
                      cases t10 with
                      | nil => exact hF call hc _ _ _ _ _ _ ((h call x0 x1 x2 x3 x4 x5 x6 x7 x8 x9 h' N).trans hr)
                      | cons _ _ => cases hr
noncomputable abbrev ar11 (t : List Value) (k : Value → Value → Value → Value → Value → Value → Value → Value → Value → Value → Value → OpR) : OpR := List.rec (motive := fun _ => OpR) none (fun a0 t _ => List.rec (motive := fun _ => OpR) none (fun a1 t _ => List.rec (motive := fun _ => OpR) none (fun a2 t _ => List.rec (motive := fun _ => OpR) none (fun a3 t _ => List.rec (motive := fun _ => OpR) none (fun a4 t _ => List.rec (motive := fun _ => OpR) none (fun a5 t _ => List.rec (motive := fun _ => OpR) none (fun a6 t _ => List.rec (motive := fun _ => OpR) none (fun a7 t _ => List.rec (motive := fun _ => OpR) none (fun a8 t _ => List.rec (motive := fun _ => OpR) none (fun a9 t _ => List.rec (motive := fun _ => OpR) none (fun a10 t _ => List.rec (motive := fun _ => OpR) (k a0 a1 a2 a3 a4 a5 a6 a7 a8 a9 a10) (fun _ _ _ => none) t) t) t) t) t) t) t) t) t) t) t) t
theorem ar11_ok {P : Program} {f : Nat} {F : Fs} {s : CallF → Value → Value → Value → Value → Value → Value → Value → Value → Value → Value → Value → Tr Ob → Nat → OpR} (h : ∀ call a0 a1 a2 a3 a4 a5 a6 a7 a8 a9 a10 h N, F call [a0, a1, a2, a3, a4, a5, a6, a7, a8, a9, a10] h N = s call a0 a1 a2 a3 a4 a5 a6 a7 a8 a9 a10 h N) (hF : FOk P f F) : FOk P f (fun call args h N => ar11 args (fun a0 a1 a2 a3 a4 a5 a6 a7 a8 a9 a10 => s call a0 a1 a2 a3 a4 a5 a6 a7 a8 a9 a10 h N)) := by
  intro call hc t0 h' N v h2 N2 hr
  cases t0 with
  | nil => cases hr
  | cons x0 t1 =>
    cases t1 with
    | nil => cases hr
    | cons x1 t2 =>
      cases t2 with
      | nil => cases hr
      | cons x2 t3 =>
        cases t3 with
        | nil => cases hr
        | cons x3 t4 =>
          cases t4 with
          | nil => cases hr
          | cons x4 t5 =>
            cases t5 with
            | nil => cases hr
            | cons x5 t6 =>
              cases t6 with
              | nil => cases hr
              | cons x6 t7 =>
                cases t7 with
                | nil => cases hr
                | cons x7 t8 =>
                  cases t8 with
                  | nil => cases hr
                  | cons x8 t9 =>
                    cases t9 with
                    | nil => cases hr
                    | cons x9 t10 =>
                      cases t10 with
                      | nil => cases hr
                      | cons x10 t11 =>
                        cases t11 with
                        | nil => exact hF call hc _ _ _ _ _ _ ((h call x0 x1 x2 x3 x4 x5 x6 x7 x8 x9 x10 h' N).trans hr)
                        | cons _ _ => cases hr
noncomputable abbrev ar12 (t : List Value) (k : Value → Value → Value → Value → Value → Value → Value → Value → Value → Value → Value → Value → OpR) : OpR := List.rec (motive := fun _ => OpR) none (fun a0 t _ => List.rec (motive := fun _ => OpR) none (fun a1 t _ => List.rec (motive := fun _ => OpR) none (fun a2 t _ => List.rec (motive := fun _ => OpR) none (fun a3 t _ => List.rec (motive := fun _ => OpR) none (fun a4 t _ => List.rec (motive := fun _ => OpR) none (fun a5 t _ => List.rec (motive := fun _ => OpR) none (fun a6 t _ => List.rec (motive := fun _ => OpR) none (fun a7 t _ => List.rec (motive := fun _ => OpR) none (fun a8 t _ => List.rec (motive := fun _ => OpR) none (fun a9 t _ => List.rec (motive := fun _ => OpR) none (fun a10 t _ => List.rec (motive := fun _ => OpR) none (fun a11 t _ => List.rec (motive := fun _ => OpR) (k a0 a1 a2 a3 a4 a5 a6 a7 a8 a9 a10 a11) (fun _ _ _ => none) t) t) t) t) t) t) t) t) t) t) t) t) t
theorem ar12_ok {P : Program} {f : Nat} {F : Fs} {s : CallF → Value → Value → Value → Value → Value → Value → Value → Value → Value → Value → Value → Value → Tr Ob → Nat → OpR} (h : ∀ call a0 a1 a2 a3 a4 a5 a6 a7 a8 a9 a10 a11 h N, F call [a0, a1, a2, a3, a4, a5, a6, a7, a8, a9, a10, a11] h N = s call a0 a1 a2 a3 a4 a5 a6 a7 a8 a9 a10 a11 h N) (hF : FOk P f F) : FOk P f (fun call args h N => ar12 args (fun a0 a1 a2 a3 a4 a5 a6 a7 a8 a9 a10 a11 => s call a0 a1 a2 a3 a4 a5 a6 a7 a8 a9 a10 a11 h N)) := by
  intro call hc t0 h' N v h2 N2 hr
  cases t0 with
  | nil => cases hr
  | cons x0 t1 =>
    cases t1 with
    | nil => cases hr
    | cons x1 t2 =>
      cases t2 with
      | nil => cases hr
      | cons x2 t3 =>
        cases t3 with
        | nil => cases hr
        | cons x3 t4 =>
          cases t4 with
          | nil => cases hr
          | cons x4 t5 =>
            cases t5 with
            | nil => cases hr
            | cons x5 t6 =>
              cases t6 with
              | nil => cases hr
              | cons x6 t7 =>
                cases t7 with
                | nil => cases hr
                | cons x7 t8 =>
                  cases t8 with
                  | nil => cases hr
                  | cons x8 t9 =>
                    cases t9 with
                    | nil => cases hr
                    | cons x9 t10 =>
                      cases t10 with
                      | nil => cases hr
                      | cons x10 t11 =>
                        cases t11 with
                        | nil => cases hr
                        | cons x11 t12 =>
                          cases t12 with
                          | nil => exact hF call hc _ _ _ _ _ _ ((h call x0 x1 x2 x3 x4 x5 x6 x7 x8 x9 x10 x11 h' N).trans hr)
                          | cons _ _ => cases hr
end Go.Ev
end

section
namespace Go.Ev
open Go.RowKit Go.Sx
set_option linter.unusedVariables false
set_option linter.unusedSimpArgs false

section
variable {P : Program} {call : CallF} {v : Goal}
noncomputable def rowC (tab : Tab) (call : CallF) : CallF := fun fv args h N =>
  Option.rec (motive := fun _ => OpR) (call fv args h N) (fun x => some (x.v, h, x.E)) (lookF tab args h N fv)
theorem rowC_ok {tab : Tab} (ht : TabOk P tab) (hcall : CallOk P call) : CallOk P (rowC tab call) := by
  intro fv args h N v h' N' hr
  unfold rowC at hr
  cases hl : lookF tab args h N fv with
  | none =>
    rw [hl] at hr
    exact hcall _ _ _ _ _ _ _ hr
  | some x =>
    rw [hl] at hr
    cases hr
    unfold lookF at hl
    split at hl
    · rename_i f
      obtain ⟨hm, hfit⟩ := look_ok hl
      obtain ⟨⟨hc, hNE, hcl⟩, hpv, hold⟩ := ht _ hm
      obtain ⟨e1, hfit⟩ := band_ok hfit
      obtain ⟨e2, hfit⟩ := band_ok hfit
      obtain ⟨e3, hin⟩ := band_ok hfit
      have e1 := Nat.eq_of_beq_eq_true e1
      have e2 := Nat.eq_of_beq_eq_true e2
      have e3 := listEq_ok (valEq_ok 9) _ _ e3
      subst e1; subst e2; subst e3
      refine ⟨hNE, fun w0 σ w fv' args' H hfv ha hf => ?_⟩
      have hfv' : fv' = .func (.func x.f) ⟨[]⟩ ⟨[]⟩ := by
        cases hfv
        · rfl
        · rename_i gs ds h3 h4 h1 h2
          have e1 : gs = [] := List.length_eq_zero_iff.1 h3.symm
          have e2 : ds = [] := List.length_eq_zero_iff.1 h1.symm
          rw [e1, e2]
      subst hfv'
      refine ⟨_, ?_, .inr (.inl ⟨x.f, _, rfl, (hcl _ σ w args' (H.part (incH_ok hin)) ha hf).mono ?_⟩)⟩
      · have := run_callee (w := w) (args := (⟨args'⟩ : Array Value)) hc
        simp only [Deferred.ofValue, Sem.run_bind, Sem.run_pure, Result.andThen_ok, invoke]
        rw [← this]
        congr 2
        apply Array.ext'
        simp
      · rintro e w' ⟨rfl, σ', q1, q2⟩
        exact ⟨_, rfl, σ, Ext.refl _ _ _, H.whole (incH_ok hin) hf q1 q2 (fun i o ho => allB_ok hold _ (mkT_get ho)), scal_refl hpv⟩
    · cases hl

noncomputable def stepQ (P : Program) (call : CallF) (f : Nat) (s s' : Stt) : Bool :=
  runN P (ntOf P f) call (evDraw P call)
    (fun e ds h N => band (Nat.beq N s'.N) (band (listEq Nat.beq ds s'.ds) (band (incE e s'.e) (incH h s'.h)))) (Nat.sub s'.k s.k) (dropC s.k (bodyOf P f)) (mkT s.e) s.ds (mkT s.h) s.N
noncomputable def finQ (P : Program) (call : CallF) (f : Nat) (s : Stt) (g : Goal) : Bool :=
  opV (evTail P call (evDraw P call) (ntOf P f) (rsOf P f) g.hL g.E (dropC s.k (bodyOf P f)) (mkT s.e) s.ds (mkT s.h) s.N) g.v

theorem At.stepQ (hmix : P.follows .mixedOrders = true) (hcall : CallOk P call) {f : Nat} {s s' : Stt} (hk : Nat.ble s.k s'.k = true) (hc : isNone' (fnOf P f) = false) (hr : stepQ P call f s s' = true) (hn : At P f s' v) : At P f s v := by
  intro fn hf
  have hdr := evDraw_ok hmix hcall
  have hc' : fnOf P f ≠ none := fun e => by rw [e] at hc; cases hc
  obtain ⟨g1, g2, g3, g4⟩ := fnOf_all hc' hf
  unfold Go.Ev.stepQ at hr
  rw [← g2] at hr
  refine runN_ok hcall hdr _ _ _ _ _ _ hr ?_
  intro e ds h N hk2
  obtain ⟨q1, q2⟩ := band_ok hk2
  obtain ⟨q3, q4⟩ := band_ok q2
  obtain ⟨q5, q6⟩ := band_ok q4
  have e1 := Nat.eq_of_beq_eq_true q1
  have e2 := listEq_ok (fun x y => Nat.eq_of_beq_eq_true) _ _ q3
  subst e1
  subst e2
  have hle := Nat.le_of_ble_eq_true hk
  have e3 : s.k + (Nat.sub s'.k s.k) = s'.k := by show s.k + (s'.k - s.k) = s'.k; omega
  rw [dropC_add, e3]
  exact (hn fn hf).sub (incE_ok q5) (incH_ok q6)

theorem At.finQ (hmix : P.follows .mixedOrders = true) (hcall : CallOk P call) {f : Nat} {s : Stt} (hc : isNone' (fnOf P f) = false) (hr : finQ P call f s v = true) (hv : scal v.v = true) : At P f s v := by
  intro fn hf
  have hdr := evDraw_ok hmix hcall
  have hc' : fnOf P f ≠ none := fun e => by rw [e] at hc; cases hc
  obtain ⟨g1, g2, g3, g4⟩ := fnOf_all hc' hf
  unfold Go.Ev.finQ at hr
  rw [← g2, ← g3] at hr
  exact Left.last hcall hdr (opV_ok hr) hv
end
end Go.Ev
end

section
namespace Go.Ev
open Go.RowKit Go.Sx
set_option linter.unusedVariables false
set_option linter.unusedSimpArgs false

/-- What lay there stays; numbers grow. -/
structure Gr (h : Tr Ob) (N : Nat) (h' : Tr Ob) (N' : Nat) : Prop where
  le : N ≤ N'
  old : ∀ j, j < N → h'.get j = h.get j
theorem Gr.refl (h : Tr Ob) (N : Nat) : Gr h N h N := ⟨Nat.le_refl _, fun _ _ => rfl⟩
theorem Gr.trans {h h1 h2 : Tr Ob} {N N1 N2 : Nat} (a : Gr h N h1 N1) (b : Gr h1 N1 h2 N2) : Gr h N h2 N2 :=
  ⟨Nat.le_trans a.le b.le, fun j hj => (b.old j (Nat.lt_of_lt_of_le hj a.le)).trans (a.old j hj)⟩
/-- A block of one's own is written. -/
theorem Gr.set {h h1 : Tr Ob} {N N1 : Nat} (a : Gr h N h1 N1) {i N2 : Nat} (hi : N ≤ i) (h2 : N1 ≤ N2) (o : Option Ob) : Gr h N (h1.set o i) N2 :=
  ⟨Nat.le_trans a.le h2, fun j hj => by rw [Tr.get_set, if_neg (by omega)]; exact a.old j hj⟩
theorem Gr.num {h h1 : Tr Ob} {N N1 : Nat} (a : Gr h N h1 N1) {N2 : Nat} (h2 : N1 ≤ N2) : Gr h N h1 N2 := ⟨Nat.le_trans a.le h2, a.old⟩

section
variable {α β γ δ : Type}
theorem obind_s (a : α) (f : α → Option β) : obind (some a) f = f a := rfl
theorem orun_s (a : α) (b : β) (c : γ) (f : α → β → γ → Option δ) : orun (some (a, b, c)) f = f a b c := rfl
theorem ocond_t (x : Option β) : ocond true x = x := rfl
theorem cnd_t (x y : OpR) : cnd (.bool true) x y = x := rfl
theorem cnd_f (x y : OpR) : cnd (.bool false) x y = y := rfl
theorem cnd_d (p : Prop) [Decidable p] (x y : OpR) : cnd (.bool (decide p)) x y = if p then x else y := by
  by_cases h : p
  · rw [if_pos h, decide_eq_true h]; rfl
  · rw [if_neg h, decide_eq_false h]; rfl
theorem wntV_t (b : Bool) : wntV (.bool b) true = some b := by cases b <;> rfl
theorem wntV_f (b : Bool) : wntV (.bool b) false = some (!b) := by cases b <;> rfl
theorem brec_d (p : Prop) [Decidable p] (x y : α) : Bool.rec (motive := fun _ => α) y x (decide p) = if p then x else y := by
  by_cases h : p
  · rw [if_pos h, decide_eq_true h]
  · rw [if_neg h, decide_eq_false h]
theorem iop_lss (i j : Int) : iop .lss (.int .i64 i) (.int .i64 j) = some (.bool (decide (i < j))) := by
  show some (Value.bool (bnot (ileB j i))) = _
  rw [ileB_eq, bnot_eq]; congr 2
  rw [Bool.eq_iff_iff]; simp
theorem iop_leq (i j : Int) : iop .leq (.int .i64 i) (.int .i64 j) = some (.bool (decide (i ≤ j))) := by
  show some (Value.bool (ileB i j)) = _
  rw [ileB_eq]
theorem iop_gtr (i j : Int) : iop .gtr (.int .i64 i) (.int .i64 j) = some (.bool (decide (j < i))) := by
  show some (Value.bool (bnot (ileB i j))) = _
  rw [ileB_eq, bnot_eq]; congr 2
  rw [Bool.eq_iff_iff]; simp
theorem iop_geq (i j : Int) : iop .geq (.int .i64 i) (.int .i64 j) = some (.bool (decide (j ≤ i))) := by
  show some (Value.bool (ileB j i)) = _
  rw [ileB_eq]
theorem iop_eql (i j : Int) : iop .eql (.int .i64 i) (.int .i64 j) = some (.bool (decide (i = j))) := by
  show some (Value.bool (ieqB i j)) = _
  rw [ieqB_eq]
theorem iop_neq (i j : Int) : iop .neq (.int .i64 i) (.int .i64 j) = some (.bool (decide (i ≠ j))) := by
  show some (Value.bool (bnot (ieqB i j))) = _
  rw [ieqB_eq, bnot_eq]; congr 2
  rw [Bool.eq_iff_iff]; simp
def In64 (z : Int) : Prop := -9223372036854775808 ≤ z ∧ z ≤ 9223372036854775807
theorem inI64_of {z : Int} (h : In64 z) : inI64 z = true := by
  obtain ⟨h1, h2⟩ := h
  cases z with
  | ofNat n => exact Nat.ble_eq_true_of_le (by have : (Int.ofNat n : Int) = (n : Int) := rfl; omega)
  | negSucc n => exact Nat.ble_eq_true_of_le (by omega)
theorem iop_add {i j : Int} (h : In64 (i + j)) : iop .add (.int .i64 i) (.int .i64 j) = some (.int .i64 (i + j)) := by
  show fI (Int.add i j) (fun r => ocond (inI64 r) (some (Value.int .i64 r))) = _
  rw [fI_eq]
  show ocond (inI64 (i + j)) _ = _
  rw [inI64_of h]; rfl
theorem iop_sub {i j : Int} (h : In64 (i - j)) : iop .sub (.int .i64 i) (.int .i64 j) = some (.int .i64 (i - j)) := by
  show fI (Int.sub i j) (fun r => ocond (inI64 r) (some (Value.int .i64 r))) = _
  rw [fI_eq]
  show ocond (inI64 (i - j)) _ = _
  rw [inI64_of h]; rfl
theorem iop_mul {i j : Int} (h : In64 (i * j)) : iop .mul (.int .i64 i) (.int .i64 j) = some (.int .i64 (i * j)) := by
  show fI (Int.mul i j) (fun r => ocond (inI64 r) (some (Value.int .i64 r))) = _
  rw [fI_eq]
  show ocond (inI64 (i * j)) _ = _
  rw [inI64_of h]; rfl
theorem Tr.get_same (t : Tr α) (v : Option α) (n : Nat) : (t.set v n).get n = v := by rw [Tr.get_set, if_pos rfl]
theorem Tr.get_other (t : Tr α) (v : Option α) {n k : Nat} (h : k ≠ n) : (t.set v n).get k = t.get k := by rw [Tr.get_set, if_neg h]
end

/-- A call whose arguments bear no block, in whatever world. -/
theorem FOk.scalCalls {P : Program} {f : Nat} {F : Fs} (hF : FOk P f F) {call : CallF} (hcall : CallOk P call) {args : List Value} {v : Value} {h' : Tr Ob} {N' : Nat} (hs : ∀ x ∈ args, scal x = true)
    (hr : F call args .nil 0 = some (v, h', N')) (hv : scal v = true) (w : World) :
    Calls P f ⟨args⟩ w fun e w' => e = .returned v ∧ Below w.heap.size w w' := by
  obtain ⟨hcal, g1, g2⟩ := hF call hcall _ _ _ _ _ _ hr
  have H : HR (.all w) (fun _ => none) .nil w := ⟨Kept.all w, fun i b r h => by simp at h, fun i b r o h => by simp at h, fun i j b r r' h => by simp at h, fun i b r h => by simp at h⟩
  have ha : ∀ (l : List Value), (∀ x ∈ l, scal x = true) → RlL (fun _ => none) l l := by
    intro l
    induction l with
    | nil => intro _; exact .nil _
    | cons x l ih => intro h; exact .cons (scal_refl (h x List.mem_cons_self)) (ih fun y hy => h y (List.mem_cons_of_mem _ hy))
  refine (g2 (.all w) (fun _ => none) w args H (ha args hs) (fun i _ _ => rfl)).mono ?_
  rintro e w' ⟨v', rfl, σ', _, H', hv'⟩
  exact ⟨by rw [hv'.scal_eq hv], H'.bel.below⟩

theorem HR.grown {w0 : Fen} {σ : Sg} {h : Tr Ob} {w w' : World} (H : HR w0 σ h w) (hb : Below w.heap.size w w') : HR w0 σ h w' :=
  ⟨H.bel.ext hb, fun i b r hi => Nat.lt_of_lt_of_le (H.low i b r hi) hb.size, fun i b r o hi ho => (H.ob i b r o hi ho).mono (SLe.refl σ) (hb.block b (H.low i b r hi)), H.inj, H.own⟩
/-- A function of values that bear no block, told by what it returns. -/
theorem FOk.ofScal {P : Program} {f : Nat} (hcal : callable P f) (G : List Value → Option Value)
    (hG : ∀ args v, G args = some v → (∀ x ∈ args, scal x = true) ∧ scal v = true ∧ ∀ w : World, Calls P f ⟨args⟩ w fun e w' => e = .returned v ∧ Below w.heap.size w w') :
    FOk P f (fun _ args h N => obind (G args) fun v => some (v, h, N)) := by
  intro call hcall args h N v h' N' hr
  obtain ⟨u, hu, hr2⟩ := obind_some hr
  cases hr2
  obtain ⟨h1, h2, h3⟩ := hG args _ hu
  refine ⟨hcal, Nat.le_refl _, fun w0 σ w args' H ha hf => ?_⟩
  have e : args' = args := by
    have key : ∀ l l' : List Value, RlL σ l l' → (∀ x ∈ l, scal x = true) → l' = l := by
      intro l
      induction l with
      | nil => intro l' hl _; rw [hl.of_nil]
      | cons x l ih =>
        intro l' hl hx
        obtain ⟨x', l'', rfl, p1, p2⟩ := hl.uncons
        rw [ih l'' p2 fun y hy => hx y (List.mem_cons_of_mem _ hy), p1.scal_eq (hx x List.mem_cons_self)]
    exact key _ _ ha h1
  subst e
  refine (h3 w).mono ?_
  rintro e w' ⟨rfl, hb⟩
  exact ⟨_, rfl, σ, Ext.refl _ _ _, H.grown hb, scal_refl h2⟩
/-- A quick function of values that bear no block, told by what it returns. -/
theorem FOk.pureF {P : Program} {f : Nat} {F : Fs} (hF : FOk P f F) {call : CallF} (hcall : CallOk P call) (hcal : callable P f) (G : List Value → Option Value)
    (hG : ∀ args v, G args = some v → (∀ x ∈ args, scal x = true) ∧ scal v = true ∧ ∃ h' N', F call args .nil 0 = some (v, h', N')) :
    FOk P f (fun _ args h N => obind (G args) fun v => some (v, h, N)) :=
  FOk.ofScal hcal G fun args v hv =>
    let ⟨h1, h2, h', N', h3⟩ := hG args v hv
    ⟨h1, h2, fun w => hF.scalCalls hcall h1 h3 h2 w⟩
end Go.Ev
end

section
namespace Go.Ev
open Go.RowKit Go.Sx
set_option linter.unusedVariables false
set_option linter.unusedSimpArgs false

section
variable {P : Program}
/-- How far p holds, from k on, n at most. -/
def adv (p : Nat → Bool) : Nat → Nat → Nat
  | 0, k => k
  | n + 1, k => bif p k then adv p n (k + 1) else k
theorem adv_le (p : Nat → Bool) : ∀ n k, k ≤ adv p n k ∧ adv p n k ≤ k + n
  | 0, k => ⟨Nat.le_refl _, Nat.le_refl _⟩
  | n + 1, k => by
    show k ≤ (bif p k then adv p n (k + 1) else k) ∧ (bif p k then adv p n (k + 1) else k) ≤ k + (n + 1)
    cases p k with
    | true => have := adv_le p n (k + 1); exact ⟨by simp only [cond_true]; omega, by simp only [cond_true]; omega⟩
    | false => exact ⟨Nat.le_refl _, by simp only [cond_false]; omega⟩
theorem adv_t {p : Nat → Bool} {k : Nat} (h : p k = true) (n : Nat) : adv p (n + 1) k = adv p n (k + 1) := by
  show (bif p k then _ else _) = _
  rw [h]; rfl
theorem adv_f {p : Nat → Bool} {k : Nat} (h : p k = false) (n : Nat) : adv p n k = k := by
  cases n with
  | zero => rfl
  | succ n =>
    show (bif p k then _ else _) = _
    rw [h]; rfl
theorem jnR_eq {α : Type} (x : α) (f : α → OpR) : jnR x f = f x := rfl
theorem evLen_str {T : TypeId} (hT : P.underlying T = some .string) (h : Tr Ob) (s : ByteArray) : evLen P h T (.string s) = some (.int .i64 (s.size : Int)) := by
  unfold evLen
  simp only [hT, fN_eq]
  rfl
theorem evIdx_str {T : TypeId} (hT : P.underlying T = some .string) (s : ByteArray) {i : Nat} (hi : i < s.size) : evIdx P T (.string s) (.int .i64 (i : Int)) = some (.int .u8 ((s[i]'hi).toNat : Int)) := by
  have e : sAt s i = some (s[i]'hi) := by
    unfold sAt
    exact getElem?_pos s i hi
  have e2 : (i : Int) = Int.ofNat i := rfl
  rw [e2]
  unfold evIdx
  simp only [hT, e, obind_s, fN_eq]
  rfl
/-- A byte of a string as a number; 0 behind its end. -/
def bt (s : ByteArray) (i : Nat) : Int := if h : i < s.size then ((s[i]'h).toNat : Int) else 0
theorem evIdx_bt {T : TypeId} (hT : P.underlying T = some .string) (s : ByteArray) {i : Nat} (hi : i < s.size) : evIdx P T (.string s) (.int .i64 (i : Int)) = some (.int .u8 (bt s i)) := by
  rw [evIdx_str hT s hi, bt, dif_pos hi]
theorem natOf_i {i d hi : Nat} (h : i ≤ hi) : natOf (some (.int .i64 (i : Int))) d hi = some i := by
  show ocond (Nat.ble i hi) (some i) = _
  rw [Nat.ble_eq_true_of_le h]; rfl
theorem evSlice_str {T : TypeId} (hT : P.underlying T = some .string) (s : ByteArray) {l k : Nat} (hk : k ≤ s.size) (hl : l ≤ k) :
    evSlice P T (.string s) (some (.int .i64 (l : Int))) (some (.int .i64 (k : Int))) none = some (.string (s.extract l k)) := by
  unfold evSlice
  simp only [hT, natOf_i hk, obind_s, natOf_i hl]
theorem evSlice_lo {T : TypeId} (hT : P.underlying T = some .string) (s : ByteArray) {l : Nat} (hl : l ≤ s.size) :
    evSlice P T (.string s) (some (.int .i64 (l : Int))) none none = some (.string (s.extract l s.size)) := by
  unfold evSlice
  simp only [hT, natOf_i hl, obind_s, show natOf none s.size s.size = some s.size from rfl]
theorem evSlice_hi {T : TypeId} (hT : P.underlying T = some .string) (s : ByteArray) {k : Nat} (hk : k ≤ s.size) :
    evSlice P T (.string s) none (some (.int .i64 (k : Int))) none = some (.string (s.extract 0 k)) := by
  unfold evSlice
  simp only [hT, natOf_i hk, obind_s, show natOf none 0 k = some 0 from rfl]
theorem cellsFrom_c {h : Tr Ob} {i T : Nat} {xs : List Value} (hi : h.get i = some (.c xs T)) (off : Nat) : cellsFrom h i off = some (xs.drop off) := by
  unfold cellsFrom; rw [hi]; show some (drp xs off) = _; rw [drp_eq]
theorem cellsFrom_g {h : Tr Ob} {i T z : Nat} {xs : List Value} (hi : h.get i = some (.g xs T z)) (off : Nat) : cellsFrom h i off = some (xs.drop off) := by
  unfold cellsFrom; rw [hi]; show some (drp xs off) = _; rw [drp_eq]
theorem cellsFrom_r {h : Tr Ob} {i lo : Nat} {xs : List Value} (hi : h.get i = some (.r lo xs)) {off : Nat} (hl : lo ≤ off) : cellsFrom h i off = some (xs.drop (off - lo)) := by
  unfold cellsFrom; rw [hi]; show ocond (Nat.ble lo off) (some (drp xs (off - lo))) = _; rw [Nat.ble_eq_true_of_le hl, drp_eq]; rfl
theorem ld1_f {h : Tr Ob} {i off : Nat} {ys : List Value} (hi : cellsFrom h i off = some ys) : ld1 h (.pointer (some ⟨i, off, none⟩)) = ys[0]? := by
  show obind (cellsFrom h i off) (fun xs => nth xs 0) = _
  rw [hi]; show nth ys 0 = _; rw [nth_eq]
theorem ldN_f {h : Tr Ob} {i off m : Nat} {ys : List Value} (hi : cellsFrom h i off = some ys) (hl : m ≤ ys.length) : ldN m h (.pointer (some ⟨i, off, none⟩)) = some (.agg ⟨ys.take m⟩) := by
  show obind (cellsFrom h i off) (fun xs => ocond (Nat.ble (Nat.add 0 m) (len xs)) (some (Value.agg ⟨tak (drp xs 0) m⟩))) = _
  rw [hi]
  show ocond (Nat.ble (0 + m) (len ys)) _ = _
  rw [len_eq, Nat.zero_add, Nat.ble_eq_true_of_le hl, tak_eq, drp_eq]; rfl
theorem ld1_c {h : Tr Ob} {i off T : Nat} {xs : List Value} (hi : h.get i = some (.c xs T)) : ld1 h (.pointer (some ⟨i, off, none⟩)) = nth xs off := by
  rw [ld1_f (cellsFrom_c hi off), nth_eq, List.getElem?_drop, Nat.add_zero]
theorem ldN_c {h : Tr Ob} {i off T m : Nat} {xs : List Value} (hi : h.get i = some (.c xs T)) (hl : off + m ≤ xs.length) : ldN m h (.pointer (some ⟨i, off, none⟩)) = some (.agg ⟨(xs.drop off).take m⟩) :=
  ldN_f (cellsFrom_c hi off) (by rw [List.length_drop]; omega)
theorem sto_c {h : Tr Ob} {i off T m : Nat} {xs : List Value} {v : Value} (hi : h.get i = some (.c xs T)) (hm : (cel v).length = m) (hf : allF (cel v) = true) (hl : off + m ≤ xs.length) :
    sto m (.pointer (some ⟨i, off, none⟩)) v h = some (h.set (some (.c (lay xs (cel v) off) T)) i) := by
  show ocond (Nat.beq (len (cel v)) m) (ocond (allF (cel v)) (evWrite h i off (cel v))) = _
  rw [len_eq, hm, Nat.beq_refl, hf]
  show evWrite h i off (cel v) = _
  unfold evWrite; rw [hi]
  show ocond (Nat.ble (off + len (cel v)) (len xs)) _ = _
  rw [len_eq, len_eq, hm, Nat.ble_eq_true_of_le hl]; rfl
theorem fad_p (δ i off : Nat) : fad δ (.pointer (some ⟨i, off, none⟩)) = some (.pointer (some ⟨i, off + δ, none⟩)) := by
  show fN (Nat.add off δ) (fun p => some (Value.pointer (some ⟨i, p, none⟩))) = _
  rw [fN_eq]; rfl
theorem iadA_p {n m i off k : Nat} (hk : k < n) : iadA n m (.pointer (some ⟨i, off, none⟩)) (.int .i64 (k : Int)) = some (.pointer (some ⟨i, off + k * m, none⟩)) := by
  show ocond (Nat.ble (Nat.succ k) n) (fN (Nat.add off (Nat.mul k m)) fun p => some (Value.pointer (some ⟨i, p, none⟩))) = _
  rw [Nat.ble_eq_true_of_le hk, fN_eq]; rfl
theorem iadS_p {n m i off k c : Nat} {sp : Option Nat} (hk : k < n) : iadS m (.slice (some ⟨i, off, sp⟩) n c) (.int .i64 (k : Int)) = some (.pointer (some ⟨i, off + k * m, none⟩)) := by
  show ocond (Nat.ble (Nat.succ k) n) (fN (Nat.add off (Nat.mul k m)) fun p => some (Value.pointer (some ⟨i, p, none⟩))) = _
  rw [Nat.ble_eq_true_of_le hk, fN_eq]; rfl
theorem lenS_s (p : Option Addr) (n c : Nat) : lenS (.slice p n c) = some (.int .i64 (n : Int)) := rfl
theorem valEq_int (d : Nat) (k : IntKind) (z : Int) : valEq (d + 1) (.int k z) (.int k z) = true := by
  show band (decide (k = k)) (decide (z = z)) = true
  rw [decide_eq_true rfl, decide_eq_true rfl]; rfl
theorem valEq_str (d : Nat) (s : ByteArray) : valEq (d + 1) (.string s) (.string s) = true := decide_eq_true rfl
theorem valEq_nil (d : Nat) : valEq (d + 2) (.agg ⟨[]⟩) (.agg ⟨[]⟩) = true := rfl
theorem valEq_cons {d : Nat} {x : Value} {l : List Value} (h1 : valEq d x x = true) (h2 : valEq (d + 1) (.agg ⟨l⟩) (.agg ⟨l⟩) = true) : valEq (d + 1) (.agg ⟨x :: l⟩) (.agg ⟨x :: l⟩) = true := by
  show band (valEq d x x) (listEq (valEq d) l l) = true
  rw [h1]
  exact h2
theorem agL1_c {h : Tr Ob} {i off T : Nat} {xs : List Value} {v : Value} (hi : h.get i = some (.c xs T)) (hv : nth xs off = some v) (he : valEq 3 v v = true) : agL1 h (.pointer (some ⟨i, off, none⟩)) v = true := by
  unfold agL1
  rw [ld1_c hi, hv]
  exact he
theorem agLN_c {h : Tr Ob} {i off T m : Nat} {xs : List Value} {v : Value} (hi : h.get i = some (.c xs T)) (hl : off + m ≤ xs.length) (hv : Value.agg ⟨(xs.drop off).take m⟩ = v) (he : valEq 3 v v = true) : agLN m h (.pointer (some ⟨i, off, none⟩)) v = true := by
  unfold agLN
  rw [ldN_c hi hl, hv]
  exact he
theorem unmark_nil (h : Tr Ob) : unmark [] h = some h := rfl
theorem bin_u8_eql (T : TypeId) (x y : Operand) (i j : Int) : evBin P .eql T x y (.int .u8 i) (.int .u8 j) = some (.bool (i == j)) := rfl
theorem bin_u8_neq (T : TypeId) (x y : Operand) (i j : Int) : evBin P .neq T x y (.int .u8 i) (.int .u8 j) = some (.bool (i != j)) := rfl
theorem still_pure {α : Type} (a : α) : still P (pure a : Sem α) = some a := rfl
theorem still_bnd {α β : Type} (f : α → Sem β) : ∀ s : Sem α, still P (s >>= f) = obind (still P s) fun a => still P (f a)
  | .pure a => rfl
  | .program k => still_bnd f (k P)
  | .mark m k => still_bnd f k
  | .load _ _ _ => rfl
  | .store _ _ _ _ => rfl
  | .new _ _ => rfl
  | .shape _ _ => rfl
  | .freeze _ _ _ => rfl
  | .frozen _ _ => rfl
  | .getObj _ _ => rfl
  | .setObj _ _ _ => rfl
  | .choose _ _ => rfl
  | .sys _ _ => rfl
  | .halt _ => rfl
theorem still_undl {T : TypeId} {d : TypeDesc} (hT : P.underlying T = some d) : still P (underlying T) = some d := by
  unfold underlying
  rw [still_bnd]
  show obind (some P) _ = _
  rw [obind_s]
  rw [hT]
  rfl
end
end Go.Ev
end

section
namespace Go.Ev
open Go.RowKit Go.Sx
set_option linter.unusedVariables false
set_option linter.unusedSimpArgs false

abbrev nS (n : Nat) : Value := .int .i64 (n : Int)
abbrev iS (n : Int) : Value := .int .i64 n
abbrev pS (i : Nat) : Value := .pointer (some ⟨i, 0, none⟩)
theorem wnt_tt : wntV (.bool true) true = some true := rfl
theorem wnt_tf : wntV (.bool true) false = some false := rfl
theorem wnt_ft : wntV (.bool false) true = some false := rfl
theorem wnt_ff : wntV (.bool false) false = some true := rfl
theorem pck_t (x y : Option Value) : pck (.bool true) x y = x := by cases x <;> rfl
theorem pck_f (x y : Option Value) : pck (.bool false) x y = y := by cases y <;> rfl
theorem br_t {α : Type} (x y : α) : Bool.rec (motive := fun _ => α) x y true = y := rfl
theorem br_f {α : Type} (x y : α) : Bool.rec (motive := fun _ => α) x y false = x := rfl
theorem add1 {k : Nat} (hk : k < 9223372036854775807) : iop .add (nS k) (.int .i64 (.ofNat 1)) = some (nS (k + 1)) := by
  rw [iop_add (by constructor <;> show _ ≤ _ <;> simp <;> omega)]
  rfl
theorem cellsFrom_get {h h' : Tr Ob} {i : Nat} (he : h'.get i = h.get i) (off : Nat) : cellsFrom h' i off = cellsFrom h i off := by
  unfold cellsFrom; rw [he]
theorem cellsFrom_add {h : Tr Ob} {i off : Nat} {ys : List Value} (hi : cellsFrom h i off = some ys) (k : Nat) : cellsFrom h i (off + k) = some (ys.drop k) := by
  unfold cellsFrom at hi ⊢
  cases hg : h.get i with
  | none => rw [hg] at hi; cases hi
  | some o =>
    rw [hg] at hi
    cases o with
    | c xs T =>
      have h1 : some (drp xs off) = some ys := hi
      show some (drp xs (off + k)) = _
      rw [← Option.some.inj h1, drp_eq, drp_eq, List.drop_drop]
    | g xs T z =>
      have h1 : some (drp xs off) = some ys := hi
      show some (drp xs (off + k)) = _
      rw [← Option.some.inj h1, drp_eq, drp_eq, List.drop_drop]
    | r lo xs =>
      have h1 : ocond (Nat.ble lo off) (some (drp xs (off - lo))) = some ys := hi
      obtain ⟨h2, h3⟩ := ocond_some h1
      have hlo := Nat.le_of_ble_eq_true h2
      show ocond (Nat.ble lo (off + k)) (some (drp xs (off + k - lo))) = _
      rw [Nat.ble_eq_true_of_le (by omega), ← Option.some.inj h3, drp_eq, drp_eq, List.drop_drop]
      show some _ = some _
      congr 2
      omega
    | d => cases hi
    | l _ _ _ _ _ _ _ _ => cases hi
    | m _ _ => cases hi

/-- Cells that a slice shows: w of them an element, n elements. -/
structure Shows (h : Tr Ob) (N : Nat) (v : Value) (n w : Nat) (L : List Value) : Prop where
  len : L.length = n * w
  at_ : ∃ p c, v = .slice p n c ∧ (n = 0 ∨ ∃ i off sp ys, p = some ⟨i, off, sp⟩ ∧ i < N ∧ cellsFrom h i off = some ys ∧ ys.take (n * w) = L)
theorem Shows.gr {h h' : Tr Ob} {N N' n w : Nat} {v : Value} {L : List Value} (s : Shows h N v n w L) (g : Gr h N h' N') : Shows h' N' v n w L := by
  obtain ⟨p, c, e, k⟩ := s.at_
  refine ⟨s.len, p, c, e, ?_⟩
  rcases k with k | ⟨i, off, sp, ys, k1, k2, k3, k4⟩
  · exact .inl k
  · exact .inr ⟨i, off, sp, ys, k1, Nat.lt_of_lt_of_le k2 g.le, by rw [cellsFrom_get (g.old i k2)]; exact k3, k4⟩
theorem Shows.lenS {h : Tr Ob} {N n w : Nat} {v : Value} {L : List Value} (s : Shows h N v n w L) : lenS v = some (nS n) := by
  obtain ⟨p, c, rfl, _⟩ := s.at_; rfl
/-- An element's place. -/
theorem Shows.elem {h : Tr Ob} {N n w : Nat} {v : Value} {L : List Value} (s : Shows h N v n w L) {k : Nat} (hk : k < n) :
    ∃ i off, i < N ∧ iadS w v (nS k) = some (.pointer (some ⟨i, off, none⟩)) ∧ ∃ ys, cellsFrom h i off = some ys ∧ ys.take w = (L.drop (k * w)).take w := by
  obtain ⟨p, c, rfl, hh⟩ := s.at_
  rcases hh with hh | ⟨i, off, sp, ys, rfl, k2, k3, k4⟩
  · omega
  · refine ⟨i, off + k * w, k2, iadS_p hk, ys.drop (k * w), cellsFrom_add k3 _, ?_⟩
    rw [← k4, List.drop_take]
    rw [List.take_take]
    congr 1
    have h1 : (k + 1) * w ≤ n * w := Nat.mul_le_mul_right _ hk
    rw [Nat.add_mul] at h1
    omega
/-- A list of numbers. -/
abbrev Ints (h : Tr Ob) (N : Nat) (v : Value) (L : List Int) : Prop := Shows h N v L.length 1 (L.map iS)
theorem Ints.get {h : Tr Ob} {N : Nat} {v : Value} {L : List Int} (s : Ints h N v L) {k : Nat} (hk : k < L.length) :
    ∃ i off, i < N ∧ iadS 1 v (nS k) = some (.pointer (some ⟨i, off, none⟩)) ∧ ld1 h (.pointer (some ⟨i, off, none⟩)) = some (iS L[k]) := by
  obtain ⟨i, off, h1, h2, ys, h3, h4⟩ := s.elem hk
  refine ⟨i, off, h1, h2, ?_⟩
  rw [ld1_f h3]
  have e := congrArg (fun l => l[0]?) h4
  simp only [List.getElem?_take, List.getElem?_drop, Nat.mul_one, Nat.add_zero, Nat.zero_lt_one, if_true, List.getElem?_map] at e
  rw [e, List.getElem?_eq_getElem hk]
  rfl
theorem Ints.nil (h : Tr Ob) (N c : Nat) (p : Option Addr) : Ints h N (.slice p 0 c) [] := ⟨rfl, p, c, rfl, .inl rfl⟩
theorem agL1_self {h : Tr Ob} {p v : Value} (hl : ld1 h p = some v) (he : valEq 3 v v = true) : agL1 h p v = true := by
  unfold agL1; rw [hl]; exact he
theorem agLN_self {m : Nat} {h : Tr Ob} {p v : Value} (hl : ldN m h p = some v) (he : valEq 3 v v = true) : agLN m h p v = true := by
  unfold agLN; rw [hl]; exact he
theorem valEq_sl (d : Nat) (p : Option Addr) (n c : Nat) : valEq (d + 1) (.slice p n c) (.slice p n c) = true := by
  cases p with
  | none =>
    show band (Nat.beq n n) (Nat.beq c c) = true
    rw [Nat.beq_refl, Nat.beq_refl]; rfl
  | some a =>
    obtain ⟨b, o, s⟩ := a
    show band (addrEq ⟨b, o, s⟩ ⟨b, o, s⟩) (band (Nat.beq n n) (Nat.beq c c)) = true
    have e : addrEq ⟨b, o, s⟩ ⟨b, o, s⟩ = true := by
      unfold addrEq
      cases s <;> simp [band, Nat.beq_refl, optN]
    rw [e, Nat.beq_refl, Nat.beq_refl]; rfl
end Go.Ev
end

section
namespace Go.Ev
open Go.RowKit Go.Sx
set_option linter.unusedVariables false
set_option linter.unusedSimpArgs false

/-- A list of one's own: the block i is its alone, and it may be appended to. -/
def Own (h : Tr Ob) (el : Nat) (v : Value) (L : List Int) (i : Nat) : Prop :=
  (v = .slice none 0 0 ∧ L = []) ∨ (v = .slice (some ⟨i, 0, none⟩) 0 0 ∧ L = [] ∧ h.get i = some (.c [] el)) ∨ (v = .slice (some ⟨i, 0, some 0⟩) L.length 0 ∧ h.get i = some (.g (L.map iS) el 1))
theorem Own.keep {h h' : Tr Ob} {el : Nat} {v : Value} {L : List Int} {i : Nat} (o : Own h el v L i) (he : h'.get i = h.get i) : Own h' el v L i := by
  rcases o with ⟨h1, h2⟩ | ⟨h1, h2, h3⟩ | ⟨h1, h2⟩
  · exact .inl ⟨h1, h2⟩
  · exact .inr (.inl ⟨h1, h2, by rw [he]; exact h3⟩)
  · exact .inr (.inr ⟨h1, by rw [he]; exact h2⟩)
theorem Own.ints {h : Tr Ob} {el : Nat} {v : Value} {L : List Int} {i N : Nat} (o : Own h el v L i) (hi : i < N) : Ints h N v L := by
  rcases o with ⟨rfl, rfl⟩ | ⟨rfl, rfl, h3⟩ | ⟨rfl, h2⟩
  · exact Ints.nil _ _ _ _
  · exact Ints.nil _ _ _ _
  · refine ⟨by simp, _, _, rfl, .inr ⟨i, 0, some 0, _, rfl, hi, cellsFrom_g h2 0, ?_⟩⟩
    rw [List.drop_zero, Nat.mul_one]
    have e : L.length = (L.map iS).length := by simp
    rw [e, List.take_length]
theorem seg_ints {h : Tr Ob} {N : Nat} {v : Value} {L : List Int} (s : Ints h N v L) : seg h v L.length = some (L.map iS) := by
  obtain ⟨p, c, rfl, hh⟩ := s.at_
  rcases hh with hh | ⟨i, off, sp, ys, rfl, k2, k3, k4⟩
  · have hL : L = [] := List.length_eq_zero_iff.1 hh
    subst hL
    cases p <;> rfl
  · show Bool.rec (motive := fun _ => Option (List Value)) (obind (cellsFrom h i off) fun xs => ocond (Nat.ble L.length (len xs)) (some (tak xs L.length))) (some []) (Nat.beq L.length 0) = _
    rw [Nat.mul_one] at k4
    cases hb : Nat.beq L.length 0 with
    | true =>
      have := Nat.eq_of_beq_eq_true hb
      have hL : L = [] := List.length_eq_zero_iff.1 this
      subst hL; rfl
    | false =>
      show obind (cellsFrom h i off) _ = _
      rw [k3]
      show ocond (Nat.ble L.length (len ys)) (some (tak ys L.length)) = _
      have hle : L.length ≤ ys.length := by
        have := congrArg List.length k4
        rw [List.length_take, List.length_map] at this
        omega
      rw [len_eq, Nat.ble_eq_true_of_le hle, tak_eq, k4]; rfl
theorem lenV_ints {h : Tr Ob} {N : Nat} {v : Value} {L : List Int} (s : Ints h N v L) : lenV v = some L.length := by
  obtain ⟨p, c, rfl, hh⟩ := s.at_; rfl
theorem allF_ints (L : List Int) : allF (L.map iS) = true := by
  induction L with
  | nil => rfl
  | cons x L ih => exact ih
theorem lay_nil (xs : List Value) (n : Nat) (hn : n ≤ xs.length) : lay xs [] n = xs := by
  rw [lay_eq]; rfl

theorem app_own {P : Program} {T el : Nat} (ha : appT P T = some (el, 1)) {h : Tr Ob} {v u : Value} {L K : List Int} {i N : Nat} (o : Own h el v L i) (hi : i < N) (hu : Ints h N u K) (hl : L.length + K.length ≤ 100000) :
    ∃ v' i' h' N', evAppend P T v u h N = some (v', h', N') ∧ Own h' el v' (L ++ K) i' ∧ (i' = i ∨ N ≤ i') ∧ i' < N' ∧ N ≤ N' ∧ ∀ j, j ≠ i → j < N → h'.get j = h.get j := by
  unfold evAppend
  rw [ha, obind_s, lenV_ints hu, obind_s, fN_eq]
  have ek : Nat.mul K.length (el, 1).2 = K.length := Nat.mul_one _
  rw [ek, seg_ints hu, obind_s]
  rcases o with ⟨rfl, rfl⟩ | ⟨rfl, rfl, h3⟩ | ⟨rfl, h2⟩
  · show ∃ v' i' h' N', ocond (Nat.beq 0 0) (ocond (Nat.beq 0 0) (ocond (Nat.ble K.length 1000000) (Bool.rec (motive := fun _ => OpR) (growTo el 1 K.length (K.map iS) h N) (some (.slice none 0 0, h, Nat.succ N)) (Nat.beq K.length 0)))) = _ ∧ _
    rw [Nat.ble_eq_true_of_le (by simp at hl; omega)]
    cases hb : Nat.beq K.length 0 with
    | true =>
      have := Nat.eq_of_beq_eq_true hb
      have hK : K = [] := List.length_eq_zero_iff.1 this
      subst hK
      exact ⟨_, i, _, _, rfl, .inl ⟨rfl, rfl⟩, .inl rfl, by omega, by omega, fun j _ _ => rfl⟩
    | false =>
      refine ⟨_, N, _, _, rfl, .inr (.inr ⟨by rw [List.nil_append], by rw [Tr.get_same, List.nil_append]⟩), .inr (Nat.le_refl _), by omega, by omega, fun j _ hj => Tr.get_other _ _ (by omega)⟩
  · show ∃ v' i' h' N', fN (Nat.add 0 K.length) (fun m => fN (Nat.mul 0 1) fun nz => Bool.rec (motive := fun _ => OpR)
        (ocond (Nat.ble m 1000000) (obind (seg h (.slice (some ⟨i, 0, none⟩) 0 0) nz) fun olds => growTo el 1 m (app olds (K.map iS)) h N))
        (inPlace i 0 (Nat.add 0 nz) none m 0 (K.map iS) h N) (Nat.ble m 0)) = _ ∧ _
    rw [fN_eq, fN_eq]
    have e0 : Nat.add 0 K.length = K.length := Nat.zero_add _
    rw [e0]
    cases hb : Nat.ble K.length 0 with
    | true =>
      have := Nat.le_of_ble_eq_true hb
      have hK : K = [] := List.length_eq_zero_iff.1 (by omega)
      subst hK
      have hw : evWrite h i 0 [] = some (h.set (some (.c [] el)) i) := by
        unfold evWrite; rw [h3]; rfl
      refine ⟨.slice (some ⟨i, 0, none⟩) 0 0, i, h.set (some (.c [] el)) i, N + 1, ?_, .inr (.inl ⟨rfl, rfl, by rw [Tr.get_same]⟩), .inl rfl, by omega, by omega, fun j hj _ => Tr.get_other _ _ hj⟩
      show obind (evWrite h i 0 []) _ = _
      rw [hw]; rfl
    | false =>
      refine ⟨.slice (some ⟨N, 0, some 0⟩) K.length 0, N, h.set (some (.g (K.map iS) el 1)) N, N + 1, ?_, .inr (.inr ⟨by rw [List.nil_append], by rw [Tr.get_same, List.nil_append]⟩), .inr (Nat.le_refl _), by omega, by omega, fun j _ hj => Tr.get_other _ _ (by omega)⟩
      show ocond (Nat.ble K.length 1000000) _ = _
      rw [Nat.ble_eq_true_of_le (by simp at hl; omega)]
      rfl
  · show ∃ v' i' h' N', fN (Nat.add L.length K.length) (fun m => fN (Nat.mul L.length 1) fun nz => match h.get i with
        | some (.g xs E z') => ocond (Nat.beq z' 1) (ocond (Nat.beq E el) (ocond (Nat.beq 0 (Nat.mul 0 1)) (Bool.rec (motive := fun _ => OpR)
            (ocond (Nat.beq 0 0) (ocond (Nat.beq nz (len xs)) (ocond (Nat.ble m 1000000) (ocond (allF (K.map iS)) (some (.slice (some ⟨N, 0, some 0⟩) m 0, (h.set none i).set (some (.g (app xs (K.map iS)) E z')) N, Nat.succ N))))))
            (inPlace i 0 (Nat.add 0 nz) (some 0) m 0 (K.map iS) h N) (Nat.ble (Nat.add 0 (Nat.add nz K.length)) (len xs)))))
        | _ => none) = _ ∧ _
    rw [fN_eq, fN_eq, h2]
    have e1 : Nat.mul L.length 1 = L.length := Nat.mul_one _
    have e2 : Nat.add 0 (Nat.add L.length K.length) = L.length + K.length := Nat.zero_add _
    rw [e1, e2]
    show ∃ v' i' h' N', ocond (Nat.beq 1 1) (ocond (Nat.beq el el) (ocond (Nat.beq 0 (Nat.mul 0 1)) (Bool.rec (motive := fun _ => OpR)
            (ocond (Nat.beq 0 0) (ocond (Nat.beq L.length (len (L.map iS))) (ocond (Nat.ble (L.length + K.length) 1000000) (ocond (allF (K.map iS)) (some (.slice (some ⟨N, 0, some 0⟩) (L.length + K.length) 0, (h.set none i).set (some (.g (app (L.map iS) (K.map iS)) el 1)) N, Nat.succ N))))))
            (inPlace i 0 (Nat.add 0 L.length) (some 0) (L.length + K.length) 0 (K.map iS) h N) (Nat.ble (L.length + K.length) (len (L.map iS)))))) = _ ∧ _
    rw [len_eq, List.length_map, Nat.beq_refl, Nat.beq_refl]
    cases hb : Nat.ble (L.length + K.length) L.length with
    | true =>
      have := Nat.le_of_ble_eq_true hb
      have hK : K = [] := List.length_eq_zero_iff.1 (by omega)
      subst hK
      have hw : evWrite h i L.length [] = some (h.set (some (.g (L.map iS) el 1)) i) := by
        unfold evWrite; rw [h2]
        show ocond (Nat.ble (L.length + len ([] : List Value)) (len (L.map iS))) (some (h.set (some (.g (lay (L.map iS) [] L.length) el 1)) i)) = _
        rw [lay_nil _ _ (by simp), len_eq, len_eq, List.length_map, Nat.ble_eq_true_of_le (by simp)]
        rfl
      refine ⟨.slice (some ⟨i, 0, some 0⟩) L.length 0, i, h.set (some (.g (L.map iS) el 1)) i, N + 1, ?_, .inr (.inr ⟨by rw [List.append_nil], by rw [Tr.get_same, List.append_nil]⟩), .inl rfl, by omega, by omega, fun j hj _ => Tr.get_other _ _ hj⟩
      show obind (evWrite h i (Nat.add 0 L.length) []) _ = _
      have e3 : Nat.add 0 L.length = L.length := Nat.zero_add _
      rw [e3, hw]; rfl
    | false =>
      rw [Nat.ble_eq_true_of_le (by omega : L.length + K.length ≤ 1000000), allF_ints, app_eq]
      refine ⟨.slice (some ⟨N, 0, some 0⟩) (L.length + K.length) 0, N, (h.set none i).set (some (.g (L.map iS ++ K.map iS) el 1)) N, N + 1, ?_, .inr (.inr ⟨by rw [List.length_append], by rw [Tr.get_same, List.map_append]⟩), .inr (Nat.le_refl _), by omega, by omega, fun j hj hj2 => (Tr.get_other _ _ (by omega : j ≠ N)).trans (Tr.get_other _ _ hj)⟩
      rw [Nat.beq_refl L.length]
      rfl
end Go.Ev
end
