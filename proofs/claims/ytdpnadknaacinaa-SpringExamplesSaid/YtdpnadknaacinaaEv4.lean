/-
  An evaluator over the model's code, and why it holds, part 4.
  Conditions: none; generic over the program.
-/
import Derived.Test.YtdpnadknaacinaaEv3

set_option linter.unusedVariables false
set_option linter.unusedSimpArgs false

section
namespace Go.Ev
open Go.RowKit Go.Sx
set_option linter.unusedVariables false
set_option linter.unusedSimpArgs false

theorem StOk.nil {P : Program} : StOk P [] := fun x hx => by cases hx
theorem StOk.cons {P : Program} {st : St} {f : Nat} {F : Fs} (h : FOk P f F) (hs : StOk P st) : StOk P ((f, F) :: st) := fun x hx => by
  rcases List.mem_cons.1 hx with e | e
  · subst e; exact h
  · exact hs x e

/-- The bodies of ranges over functions within a code, in its order. -/
noncomputable def rgs (c : Code) : List (Code × Code) :=
  Code.rec (motive := fun _ => List (Code × Code)) [] (fun _ _ _ => []) (fun _ _ a b => app a b) (fun _ _ _ a b => app a b) (fun _ _ a => a) (fun _ a => a) (fun _ _ asg body a b => (asg, body) :: app a b) (fun _ => []) (fun _ a => a) (fun _ => []) (fun _ => []) [] (fun _ => []) c
noncomputable def rgN (P : Program) (f k : Nat) : Code × Code := Option.rec (motive := fun _ => Code × Code) (.skip, .skip) (fun x => x) (nth (rgs (bodyOf P f)) k)
noncomputable def rgA (P : Program) (f k : Nat) : Code := (rgN P f k).1
noncomputable def rgB (P : Program) (f k : Nat) : Code := (rgN P f k).2
theorem ROk.congr {P : Program} {nt : Nat} {asg body : Code} {F G : Rs} (h : ∀ call l e h N, F call l e h N = G call l e h N) (hF : ROk P nt asg body F) : ROk P nt asg body G := by
  have : F = G := by funext call l e h' N; exact h call l e h' N
  rw [← this]; exact hF

abbrev C0 : Type := Ct
abbrev C1 : Type := Value → Ct
abbrev C2 : Type := Value → Value → Ct
abbrev C3 : Type := Value → Value → Value → Ct
abbrev C4 : Type := Value → Value → Value → Value → Ct
abbrev C5 : Type := Value → Value → Value → Value → Value → Ct
abbrev C6 : Type := Value → Value → Value → Value → Value → Value → Ct
abbrev C7 : Type := Value → Value → Value → Value → Value → Value → Value → Ct
abbrev C8 : Type := Value → Value → Value → Value → Value → Value → Value → Value → Ct
abbrev C9 : Type := Value → Value → Value → Value → Value → Value → Value → Value → Value → Ct
abbrev C10 : Type := Value → Value → Value → Value → Value → Value → Value → Value → Value → Value → Ct
abbrev C11 : Type := Value → Value → Value → Value → Value → Value → Value → Value → Value → Value → Value → Ct
abbrev C12 : Type := Value → Value → Value → Value → Value → Value → Value → Value → Value → Value → Value → Value → Ct
abbrev C13 : Type := Value → Value → Value → Value → Value → Value → Value → Value → Value → Value → Value → Value → Value → Ct
abbrev C14 : Type := Value → Value → Value → Value → Value → Value → Value → Value → Value → Value → Value → Value → Value → Value → Ct
abbrev C15 : Type := Value → Value → Value → Value → Value → Value → Value → Value → Value → Value → Value → Value → Value → Value → Value → Ct
abbrev C16 : Type := Value → Value → Value → Value → Value → Value → Value → Value → Value → Value → Value → Value → Value → Value → Value → Value → Ct
abbrev C17 : Type := Value → Value → Value → Value → Value → Value → Value → Value → Value → Value → Value → Value → Value → Value → Value → Value → Value → Ct
abbrev C18 : Type := Value → Value → Value → Value → Value → Value → Value → Value → Value → Value → Value → Value → Value → Value → Value → Value → Value → Value → Ct
abbrev C19 : Type := Value → Value → Value → Value → Value → Value → Value → Value → Value → Value → Value → Value → Value → Value → Value → Value → Value → Value → Value → Ct
abbrev C20 : Type := Value → Value → Value → Value → Value → Value → Value → Value → Value → Value → Value → Value → Value → Value → Value → Value → Value → Value → Value → Value → Ct
abbrev C21 : Type := Value → Value → Value → Value → Value → Value → Value → Value → Value → Value → Value → Value → Value → Value → Value → Value → Value → Value → Value → Value → Value → Ct
abbrev C22 : Type := Value → Value → Value → Value → Value → Value → Value → Value → Value → Value → Value → Value → Value → Value → Value → Value → Value → Value → Value → Value → Value → Value → Ct
abbrev C23 : Type := Value → Value → Value → Value → Value → Value → Value → Value → Value → Value → Value → Value → Value → Value → Value → Value → Value → Value → Value → Value → Value → Value → Value → Ct
abbrev C24 : Type := Value → Value → Value → Value → Value → Value → Value → Value → Value → Value → Value → Value → Value → Value → Value → Value → Value → Value → Value → Value → Value → Value → Value → Value → Ct
abbrev C25 : Type := Value → Value → Value → Value → Value → Value → Value → Value → Value → Value → Value → Value → Value → Value → Value → Value → Value → Value → Value → Value → Value → Value → Value → Value → Value → Ct
abbrev C26 : Type := Value → Value → Value → Value → Value → Value → Value → Value → Value → Value → Value → Value → Value → Value → Value → Value → Value → Value → Value → Value → Value → Value → Value → Value → Value → Value → Ct
abbrev C27 : Type := Value → Value → Value → Value → Value → Value → Value → Value → Value → Value → Value → Value → Value → Value → Value → Value → Value → Value → Value → Value → Value → Value → Value → Value → Value → Value → Value → Ct
abbrev C28 : Type := Value → Value → Value → Value → Value → Value → Value → Value → Value → Value → Value → Value → Value → Value → Value → Value → Value → Value → Value → Value → Value → Value → Value → Value → Value → Value → Value → Value → Ct
abbrev C29 : Type := Value → Value → Value → Value → Value → Value → Value → Value → Value → Value → Value → Value → Value → Value → Value → Value → Value → Value → Value → Value → Value → Value → Value → Value → Value → Value → Value → Value → Value → Ct
abbrev C30 : Type := Value → Value → Value → Value → Value → Value → Value → Value → Value → Value → Value → Value → Value → Value → Value → Value → Value → Value → Value → Value → Value → Value → Value → Value → Value → Value → Value → Value → Value → Value → Ct
noncomputable abbrev ar0 (t : List Value) (k : OpR) : OpR := List.rec (motive := fun _ => OpR) (k) (fun _ _ _ => none) t
theorem ar0_ok {P : Program} {f : Nat} {F : Fs} {s : CallF → Tr Ob → Nat → OpR} (h : ∀ call  h N, F call [] h N = s call  h N) (hF : FOk P f F) : FOk P f (fun call args h N => ar0 args (s call h N)) := by
  intro call hc t0 h' N v h2 N2 hr
  cases t0 with
  | nil => exact hF call hc _ _ _ _ _ _ ((h call  h' N).trans hr)
  | cons _ _ => cases hr
noncomputable abbrev ar1 (t : List Value) (k : Value → OpR) : OpR := List.rec (motive := fun _ => OpR) none (fun a0 t _ => List.rec (motive := fun _ => OpR) (k a0) (fun _ _ _ => none) t) t
theorem ar1_ok {P : Program} {f : Nat} {F : Fs} {s : CallF → Value → Tr Ob → Nat → OpR} (h : ∀ call a0 h N, F call [a0] h N = s call a0 h N) (hF : FOk P f F) : FOk P f (fun call args h N => ar1 args (fun a0 => s call a0 h N)) := by
  intro call hc t0 h' N v h2 N2 hr
  cases t0 with
  | nil => cases hr
  | cons x0 t1 =>
    cases t1 with
    | nil => exact hF call hc _ _ _ _ _ _ ((h call x0 h' N).trans hr)
    | cons _ _ => cases hr
noncomputable abbrev ar2 (t : List Value) (k : Value → Value → OpR) : OpR := List.rec (motive := fun _ => OpR) none (fun a0 t _ => List.rec (motive := fun _ => OpR) none (fun a1 t _ => List.rec (motive := fun _ => OpR) (k a0 a1) (fun _ _ _ => none) t) t) t
theorem ar2_ok {P : Program} {f : Nat} {F : Fs} {s : CallF → Value → Value → Tr Ob → Nat → OpR} (h : ∀ call a0 a1 h N, F call [a0, a1] h N = s call a0 a1 h N) (hF : FOk P f F) : FOk P f (fun call args h N => ar2 args (fun a0 a1 => s call a0 a1 h N)) := by
  intro call hc t0 h' N v h2 N2 hr
  cases t0 with
  | nil => cases hr
  | cons x0 t1 =>
    cases t1 with
    | nil => cases hr
    | cons x1 t2 =>
      cases t2 with
      | nil => exact hF call hc _ _ _ _ _ _ ((h call x0 x1 h' N).trans hr)
      | cons _ _ => cases hr
noncomputable abbrev ar3 (t : List Value) (k : Value → Value → Value → OpR) : OpR := List.rec (motive := fun _ => OpR) none (fun a0 t _ => List.rec (motive := fun _ => OpR) none (fun a1 t _ => List.rec (motive := fun _ => OpR) none (fun a2 t _ => List.rec (motive := fun _ => OpR) (k a0 a1 a2) (fun _ _ _ => none) t) t) t) t
theorem ar3_ok {P : Program} {f : Nat} {F : Fs} {s : CallF → Value → Value → Value → Tr Ob → Nat → OpR} (h : ∀ call a0 a1 a2 h N, F call [a0, a1, a2] h N = s call a0 a1 a2 h N) (hF : FOk P f F) : FOk P f (fun call args h N => ar3 args (fun a0 a1 a2 => s call a0 a1 a2 h N)) := by
  intro call hc t0 h' N v h2 N2 hr
  cases t0 with
  | nil => cases hr
  | cons x0 t1 =>
    cases t1 with
    | nil => cases hr
    | cons x1 t2 =>
      cases t2 with
      | nil => cases hr
      | cons x2 t3 =>
        cases t3 with
        | nil => exact hF call hc _ _ _ _ _ _ ((h call x0 x1 x2 h' N).trans hr)
        | cons _ _ => cases hr
noncomputable abbrev ar4 (t : List Value) (k : Value → Value → Value → Value → OpR) : OpR := List.rec (motive := fun _ => OpR) none (fun a0 t _ => List.rec (motive := fun _ => OpR) none (fun a1 t _ => List.rec (motive := fun _ => OpR) none (fun a2 t _ => List.rec (motive := fun _ => OpR) none (fun a3 t _ => List.rec (motive := fun _ => OpR) (k a0 a1 a2 a3) (fun _ _ _ => none) t) t) t) t) t
theorem ar4_ok {P : Program} {f : Nat} {F : Fs} {s : CallF → Value → Value → Value → Value → Tr Ob → Nat → OpR} (h : ∀ call a0 a1 a2 a3 h N, F call [a0, a1, a2, a3] h N = s call a0 a1 a2 a3 h N) (hF : FOk P f F) : FOk P f (fun call args h N => ar4 args (fun a0 a1 a2 a3 => s call a0 a1 a2 a3 h N)) := by
  intro call hc t0 h' N v h2 N2 hr
  cases t0 with
  | nil => cases hr
  | cons x0 t1 =>
    cases t1 with
    | nil => cases hr
    | cons x1 t2 =>
      cases t2 with
      | nil => cases hr
      | cons x2 t3 =>
        cases t3 with
        | nil => cases hr
        | cons x3 t4 =>
          cases t4 with
          | nil => exact hF call hc _ _ _ _ _ _ ((h call x0 x1 x2 x3 h' N).trans hr)
          | cons _ _ => cases hr
noncomputable abbrev ar5 (t : List Value) (k : Value → Value → Value → Value → Value → OpR) : OpR := List.rec (motive := fun _ => OpR) none (fun a0 t _ => List.rec (motive := fun _ => OpR) none (fun a1 t _ => List.rec (motive := fun _ => OpR) none (fun a2 t _ => List.rec (motive := fun _ => OpR) none (fun a3 t _ => List.rec (motive := fun _ => OpR) none (fun a4 t _ => List.rec (motive := fun _ => OpR) (k a0 a1 a2 a3 a4) (fun _ _ _ => none) t) t) t) t) t) t
theorem ar5_ok {P : Program} {f : Nat} {F : Fs} {s : CallF → Value → Value → Value → Value → Value → Tr Ob → Nat → OpR} (h : ∀ call a0 a1 a2 a3 a4 h N, F call [a0, a1, a2, a3, a4] h N = s call a0 a1 a2 a3 a4 h N) (hF : FOk P f F) : FOk P f (fun call args h N => ar5 args (fun a0 a1 a2 a3 a4 => s call a0 a1 a2 a3 a4 h N)) := by
  intro call hc t0 h' N v h2 N2 hr
  cases t0 with
  | nil => cases hr
  | cons x0 t1 =>
    cases t1 with
    | nil => cases hr
    | cons x1 t2 =>
      cases t2 with
      | nil => cases hr
      | cons x2 t3 =>
        cases t3 with
        | nil => cases hr
        | cons x3 t4 =>
          cases t4 with
          | nil => cases hr
          | cons x4 t5 =>
            cases t5 with
            | nil => exact hF call hc _ _ _ _ _ _ ((h call x0 x1 x2 x3 x4 h' N).trans hr)
            | cons _ _ => cases hr
noncomputable abbrev ar6 (t : List Value) (k : Value → Value → Value → Value → Value → Value → OpR) : OpR := List.rec (motive := fun _ => OpR) none (fun a0 t _ => List.rec (motive := fun _ => OpR) none (fun a1 t _ => List.rec (motive := fun _ => OpR) none (fun a2 t _ => List.rec (motive := fun _ => OpR) none (fun a3 t _ => List.rec (motive := fun _ => OpR) none (fun a4 t _ => List.rec (motive := fun _ => OpR) none (fun a5 t _ => List.rec (motive := fun _ => OpR) (k a0 a1 a2 a3 a4 a5) (fun _ _ _ => none) t) t) t) t) t) t) t
theorem ar6_ok {P : Program} {f : Nat} {F : Fs} {s : CallF → Value → Value → Value → Value → Value → Value → Tr Ob → Nat → OpR} (h : ∀ call a0 a1 a2 a3 a4 a5 h N, F call [a0, a1, a2, a3, a4, a5] h N = s call a0 a1 a2 a3 a4 a5 h N) (hF : FOk P f F) : FOk P f (fun call args h N => ar6 args (fun a0 a1 a2 a3 a4 a5 => s call a0 a1 a2 a3 a4 a5 h N)) := by
  intro call hc t0 h' N v h2 N2 hr
  cases t0 with
  | nil => cases hr
  | cons x0 t1 =>
    cases t1 with
    | nil => cases hr
    | cons x1 t2 =>
      cases t2 with
      | nil => cases hr
      | cons x2 t3 =>
        cases t3 with
        | nil => cases hr
        | cons x3 t4 =>
          cases t4 with
          | nil => cases hr
          | cons x4 t5 =>
            cases t5 with
            | nil => cases hr
            | cons x5 t6 =>
              cases t6 with
              | nil => exact hF call hc _ _ _ _ _ _ ((h call x0 x1 x2 x3 x4 x5 h' N).trans hr)
              | cons _ _ => cases hr
noncomputable abbrev ar7 (t : List Value) (k : Value → Value → Value → Value → Value → Value → Value → OpR) : OpR := List.rec (motive := fun _ => OpR) none (fun a0 t _ => List.rec (motive := fun _ => OpR) none (fun a1 t _ => List.rec (motive := fun _ => OpR) none (fun a2 t _ => List.rec (motive := fun _ => OpR) none (fun a3 t _ => List.rec (motive := fun _ => OpR) none (fun a4 t _ => List.rec (motive := fun _ => OpR) none (fun a5 t _ => List.rec (motive := fun _ => OpR) none (fun a6 t _ => List.rec (motive := fun _ => OpR) (k a0 a1 a2 a3 a4 a5 a6) (fun _ _ _ => none) t) t) t) t) t) t) t) t
theorem ar7_ok {P : Program} {f : Nat} {F : Fs} {s : CallF → Value → Value → Value → Value → Value → Value → Value → Tr Ob → Nat → OpR} (h : ∀ call a0 a1 a2 a3 a4 a5 a6 h N, F call [a0, a1, a2, a3, a4, a5, a6] h N = s call a0 a1 a2 a3 a4 a5 a6 h N) (hF : FOk P f F) : FOk P f (fun call args h N => ar7 args (fun a0 a1 a2 a3 a4 a5 a6 => s call a0 a1 a2 a3 a4 a5 a6 h N)) := by
  intro call hc t0 h' N v h2 N2 hr
  cases t0 with
  | nil => cases hr
  | cons x0 t1 =>
    cases t1 with
    | nil => cases hr
    | cons x1 t2 =>
      cases t2 with
      | nil => cases hr
      | cons x2 t3 =>
        cases t3 with
        | nil => cases hr
        | cons x3 t4 =>
          cases t4 with
          | nil => cases hr
          | cons x4 t5 =>
            cases t5 with
            | nil => cases hr
            | cons x5 t6 =>
              cases t6 with
              | nil => cases hr
              | cons x6 t7 =>
                cases t7 with
                | nil => exact hF call hc _ _ _ _ _ _ ((h call x0 x1 x2 x3 x4 x5 x6 h' N).trans hr)
                | cons _ _ => cases hr
noncomputable abbrev ar8 (t : List Value) (k : Value → Value → Value → Value → Value → Value → Value → Value → OpR) : OpR := List.rec (motive := fun _ => OpR) none (fun a0 t _ => List.rec (motive := fun _ => OpR) none (fun a1 t _ => List.rec (motive := fun _ => OpR) none (fun a2 t _ => List.rec (motive := fun _ => OpR) none (fun a3 t _ => List.rec (motive := fun _ => OpR) none (fun a4 t _ => List.rec (motive := fun _ => OpR) none (fun a5 t _ => List.rec (motive := fun _ => OpR) none (fun a6 t _ => List.rec (motive := fun _ => OpR) none (fun a7 t _ => List.rec (motive := fun _ => OpR) (k a0 a1 a2 a3 a4 a5 a6 a7) (fun _ _ _ => none) t) t) t) t) t) t) t) t) t
theorem ar8_ok {P : Program} {f : Nat} {F : Fs} {s : CallF → Value → Value → Value → Value → Value → Value → Value → Value → Tr Ob → Nat → OpR} (h : ∀ call a0 a1 a2 a3 a4 a5 a6 a7 h N, F call [a0, a1, a2, a3, a4, a5, a6, a7] h N = s call a0 a1 a2 a3 a4 a5 a6 a7 h N) (hF : FOk P f F) : FOk P f (fun call args h N => ar8 args (fun a0 a1 a2 a3 a4 a5 a6 a7 => s call a0 a1 a2 a3 a4 a5 a6 a7 h N)) := by
  intro call hc t0 h' N v h2 N2 hr
  cases t0 with
  | nil => cases hr
  | cons x0 t1 =>
    cases t1 with
    | nil => cases hr
    | cons x1 t2 =>
      cases t2 with
      | nil => cases hr
      | cons x2 t3 =>
        cases t3 with
        | nil => cases hr
        | cons x3 t4 =>
          cases t4 with
          | nil => cases hr
          | cons x4 t5 =>
            cases t5 with
            | nil => cases hr
            | cons x5 t6 =>
              cases t6 with
              | nil => cases hr
              | cons x6 t7 =>
                cases t7 with
                | nil => cases hr
                | cons x7 t8 =>
                  cases t8 with
                  | nil => exact hF call hc _ _ _ _ _ _ ((h call x0 x1 x2 x3 x4 x5 x6 x7 h' N).trans hr)
                  | cons _ _ => cases hr
noncomputable abbrev ar9 (t : List Value) (k : Value → Value → Value → Value → Value → Value → Value → Value → Value → OpR) : OpR := List.rec (motive := fun _ => OpR) none (fun a0 t _ => List.rec (motive := fun _ => OpR) none (fun a1 t _ => List.rec (motive := fun _ => OpR) none (fun a2 t _ => List.rec (motive := fun _ => OpR) none (fun a3 t _ => List.rec (motive := fun _ => OpR) none (fun a4 t _ => List.rec (motive := fun _ => OpR) none (fun a5 t _ => List.rec (motive := fun _ => OpR) none (fun a6 t _ => List.rec (motive := fun _ => OpR) none (fun a7 t _ => List.rec (motive := fun _ => OpR) none (fun a8 t _ => List.rec (motive := fun _ => OpR) (k a0 a1 a2 a3 a4 a5 a6 a7 a8) (fun _ _ _ => none) t) t) t) t) t) t) t) t) t) t
theorem ar9_ok {P : Program} {f : Nat} {F : Fs} {s : CallF → Value → Value → Value → Value → Value → Value → Value → Value → Value → Tr Ob → Nat → OpR} (h : ∀ call a0 a1 a2 a3 a4 a5 a6 a7 a8 h N, F call [a0, a1, a2, a3, a4, a5, a6, a7, a8] h N = s call a0 a1 a2 a3 a4 a5 a6 a7 a8 h N) (hF : FOk P f F) : FOk P f (fun call args h N => ar9 args (fun a0 a1 a2 a3 a4 a5 a6 a7 a8 => s call a0 a1 a2 a3 a4 a5 a6 a7 a8 h N)) := by
  intro call hc t0 h' N v h2 N2 hr
  cases t0 with
  | nil => cases hr
  | cons x0 t1 =>
    cases t1 with
    | nil => cases hr
    | cons x1 t2 =>
      cases t2 with
      | nil => cases hr
      | cons x2 t3 =>
        cases t3 with
        | nil => cases hr
        | cons x3 t4 =>
          cases t4 with
          | nil => cases hr
          | cons x4 t5 =>
            cases t5 with
            | nil => cases hr
            | cons x5 t6 =>
              cases t6 with
              | nil => cases hr
              | cons x6 t7 =>
                cases t7 with
                | nil => cases hr
                | cons x7 t8 =>
                  cases t8 with
                  | nil => cases hr
                  | cons x8 t9 =>
                    cases t9 with
                    | nil => exact hF call hc _ _ _ _ _ _ ((h call x0 x1 x2 x3 x4 x5 x6 x7 x8 h' N).trans hr)
                    | cons _ _ => cases hr
noncomputable abbrev ar10 (t : List Value) (k : Value → Value → Value → Value → Value → Value → Value → Value → Value → Value → OpR) : OpR := List.rec (motive := fun _ => OpR) none (fun a0 t _ => List.rec (motive := fun _ => OpR) none (fun a1 t _ => List.rec (motive := fun _ => OpR) none (fun a2 t _ => List.rec (motive := fun _ => OpR) none (fun a3 t _ => List.rec (motive := fun _ => OpR) none (fun a4 t _ => List.rec (motive := fun _ => OpR) none (fun a5 t _ => List.rec (motive := fun _ => OpR) none (fun a6 t _ => List.rec (motive := fun _ => OpR) none (fun a7 t _ => List.rec (motive := fun _ => OpR) none (fun a8 t _ => List.rec (motive := fun _ => OpR) none (fun a9 t _ => List.rec (motive := fun _ => OpR) (k a0 a1 a2 a3 a4 a5 a6 a7 a8 a9) (fun _ _ _ => none) t) t) t) t) t) t) t) t) t) t) t
theorem ar10_ok {P : Program} {f : Nat} {F : Fs} {s : CallF → Value → Value → Value → Value → Value → Value → Value → Value → Value → Value → Tr Ob → Nat → OpR} (h : ∀ call a0 a1 a2 a3 a4 a5 a6 a7 a8 a9 h N, F call [a0, a1, a2, a3, a4, a5, a6, a7, a8, a9] h N = s call a0 a1 a2 a3 a4 a5 a6 a7 a8 a9 h N) (hF : FOk P f F) : FOk P f (fun call args h N => ar10 args (fun a0 a1 a2 a3 a4 a5 a6 a7 a8 a9 => s call a0 a1 a2 a3 a4 a5 a6 a7 a8 a9 h N)) := by
  intro call hc t0 h' N v h2 N2 hr
  cases t0 with
  | nil => cases hr
  | cons x0 t1 =>
    cases t1 with
    | nil => cases hr
    | cons x1 t2 =>
      cases t2 with
      | nil => cases hr
      | cons x2 t3 =>
        cases t3 with
        | nil => cases hr
        | cons x3 t4 =>
          cases t4 with
          | nil => cases hr
          | cons x4 t5 =>
            cases t5 with
            | nil => cases hr
            | cons x5 t6 =>
              cases t6 with
              | nil => cases hr
              | cons x6 t7 =>
                cases t7 with
                | nil => cases hr
                | cons x7 t8 =>
                  cases t8 with
                  | nil => cases hr
                  | cons x8 t9 =>
                    cases t9 with
                    | nil => cases hr
                    | cons x9 t10 =>
                      cases t10 with
                      | nil => exact hF call hc _ _ _ _ _ _ ((h call x0 x1 x2 x3 x4 x5 x6 x7 x8 x9 h' N).trans hr)
                      | cons _ _ => cases hr
noncomputable abbrev ar11 (t : List Value) (k : Value → Value → Value → Value → Value → Value → Value → Value → Value → Value → Value → OpR) : OpR := List.rec (motive := fun _ => OpR) none (fun a0 t _ => List.rec (motive := fun _ => OpR) none (fun a1 t _ => List.rec (motive := fun _ => OpR) none (fun a2 t _ => List.rec (motive := fun _ => OpR) none (fun a3 t _ => List.rec (motive := fun _ => OpR) none (fun a4 t _ => List.rec (motive := fun _ => OpR) none (fun a5 t _ => List.rec (motive := fun _ => OpR) none (fun a6 t _ => List.rec (motive := fun _ => OpR) none (fun a7 t _ => List.rec (motive := fun _ => OpR) none (fun a8 t _ => List.rec (motive := fun _ => OpR) none (fun a9 t _ => List.rec (motive := fun _ => OpR) none (fun a10 t _ => List.rec (motive := fun _ => OpR) (k a0 a1 a2 a3 a4 a5 a6 a7 a8 a9 a10) (fun _ _ _ => none) t) t) t) t) t) t) t) t) t) t) t) t
theorem ar11_ok {P : Program} {f : Nat} {F : Fs} {s : CallF → Value → Value → Value → Value → Value → Value → Value → Value → Value → Value → Value → Tr Ob → Nat → OpR} (h : ∀ call a0 a1 a2 a3 a4 a5 a6 a7 a8 a9 a10 h N, F call [a0, a1, a2, a3, a4, a5, a6, a7, a8, a9, a10] h N = s call a0 a1 a2 a3 a4 a5 a6 a7 a8 a9 a10 h N) (hF : FOk P f F) : FOk P f (fun call args h N => ar11 args (fun a0 a1 a2 a3 a4 a5 a6 a7 a8 a9 a10 => s call a0 a1 a2 a3 a4 a5 a6 a7 a8 a9 a10 h N)) := by
  intro call hc t0 h' N v h2 N2 hr
  cases t0 with
  | nil => cases hr
  | cons x0 t1 =>
    cases t1 with
    | nil => cases hr
    | cons x1 t2 =>
      cases t2 with
      | nil => cases hr
      | cons x2 t3 =>
        cases t3 with
        | nil => cases hr
        | cons x3 t4 =>
          cases t4 with
          | nil => cases hr
          | cons x4 t5 =>
            cases t5 with
            | nil => cases hr
            | cons x5 t6 =>
              cases t6 with
              | nil => cases hr
              | cons x6 t7 =>
                cases t7 with
                | nil => cases hr
                | cons x7 t8 =>
                  cases t8 with
                  | nil => cases hr
                  | cons x8 t9 =>
                    cases t9 with
                    | nil => cases hr
                    | cons x9 t10 =>
                      cases t10 with
                      | nil => cases hr
                      | cons x10 t11 =>
                        cases t11 with
                        | nil => exact hF call hc _ _ _ _ _ _ ((h call x0 x1 x2 x3 x4 x5 x6 x7 x8 x9 x10 h' N).trans hr)
                        | cons _ _ => cases hr
noncomputable abbrev ar12 (t : List Value) (k : Value → Value → Value → Value → Value → Value → Value → Value → Value → Value → Value → Value → OpR) : OpR := List.rec (motive := fun _ => OpR) none (fun a0 t _ => List.rec (motive := fun _ => OpR) none (fun a1 t _ => List.rec (motive := fun _ => OpR) none (fun a2 t _ => List.rec (motive := fun _ => OpR) none (fun a3 t _ => List.rec (motive := fun _ => OpR) none (fun a4 t _ => List.rec (motive := fun _ => OpR) none (fun a5 t _ => List.rec (motive := fun _ => OpR) none (fun a6 t _ => List.rec (motive := fun _ => OpR) none (fun a7 t _ => List.rec (motive := fun _ => OpR) none (fun a8 t _ => List.rec (motive := fun _ => OpR) none (fun a9 t _ => List.rec (motive := fun _ => OpR) none (fun a10 t _ => List.rec (motive := fun _ => OpR) none (fun a11 t _ => List.rec (motive := fun _ => OpR) (k a0 a1 a2 a3 a4 a5 a6 a7 a8 a9 a10 a11) (fun _ _ _ => none) t) t) t) t) t) t) t) t) t) t) t) t) t
theorem ar12_ok {P : Program} {f : Nat} {F : Fs} {s : CallF → Value → Value → Value → Value → Value → Value → Value → Value → Value → Value → Value → Value → Tr Ob → Nat → OpR} (h : ∀ call a0 a1 a2 a3 a4 a5 a6 a7 a8 a9 a10 a11 h N, F call [a0, a1, a2, a3, a4, a5, a6, a7, a8, a9, a10, a11] h N = s call a0 a1 a2 a3 a4 a5 a6 a7 a8 a9 a10 a11 h N) (hF : FOk P f F) : FOk P f (fun call args h N => ar12 args (fun a0 a1 a2 a3 a4 a5 a6 a7 a8 a9 a10 a11 => s call a0 a1 a2 a3 a4 a5 a6 a7 a8 a9 a10 a11 h N)) := by
  intro call hc t0 h' N v h2 N2 hr
  cases t0 with
  | nil => cases hr
  | cons x0 t1 =>
    cases t1 with
    | nil => cases hr
    | cons x1 t2 =>
      cases t2 with
      | nil => cases hr
      | cons x2 t3 =>
        cases t3 with
        | nil => cases hr
        | cons x3 t4 =>
          cases t4 with
          | nil => cases hr
          | cons x4 t5 =>
            cases t5 with
            | nil => cases hr
            | cons x5 t6 =>
              cases t6 with
              | nil => cases hr
              | cons x6 t7 =>
                cases t7 with
                | nil => cases hr
                | cons x7 t8 =>
                  cases t8 with
                  | nil => cases hr
                  | cons x8 t9 =>
                    cases t9 with
                    | nil => cases hr
                    | cons x9 t10 =>
                      cases t10 with
                      | nil => cases hr
                      | cons x10 t11 =>
                        cases t11 with
                        | nil => cases hr
                        | cons x11 t12 =>
                          cases t12 with
                          | nil => exact hF call hc _ _ _ _ _ _ ((h call x0 x1 x2 x3 x4 x5 x6 x7 x8 x9 x10 x11 h' N).trans hr)
                          | cons _ _ => cases hr
/-- A closed call, known by now. -/
theorem FOk.row {P : Program} {f : Nat} {v : Value} (hcal : callable P f) (hv : plain v = true) (hc : ∀ w, Calls P f #[] w fun e w' => e = .returned v ∧ Below w.heap.size w w') : FOk P f (fun _ args h N => ar0 args (some (v, h, N))) := by
  intro call hcall t0 h' N v2 h2 N2 hr
  cases t0 with
  | cons _ _ => cases hr
  | nil =>
    cases hr
    refine ⟨hcal, Nat.le_refl _, fun w0 σ w args' H ha hf => ?_⟩
    rw [ha.of_nil]
    refine (hc w).mono ?_
    rintro e w' ⟨rfl, hb⟩
    exact ⟨v, rfl, σ, Ext.refl _ _ _, H.ext hb, .sc hv⟩
noncomputable def bV (v : Value) : Bool := match v with | .bool b => b | _ => false
theorem bV_true {v : Value} (h : bV v = true) : v = .bool true := by
  unfold bV at h
  split at h
  · rw [h]
  · cases h
noncomputable def isT (r : OpR) : Bool := Option.rec (motive := fun _ => Bool) false (fun x => bV x.1) r
theorem isT_some {r : OpR} (h : isT r = true) : ∃ h' N', r = some (.bool true, h', N') := by
  cases r with
  | none => cases h
  | some x =>
    obtain ⟨v, h', N'⟩ := x
    have h2 : bV v = true := h
    exact ⟨h', N', by rw [bV_true h2]⟩
theorem FOk.rowT {P : Program} {f : Nat} {s : CallF → Tr Ob → Nat → OpR} (hF : FOk P f (fun call args h N => ar0 args (s call h N))) {call : CallF} (hcall : CallOk P call) (h : isT (s call .nil 0) = true) : FOk P f (fun _ args h N => ar0 args (some (.bool true, h, N))) := by
  obtain ⟨h', N', hr⟩ := isT_some h
  exact FOk.row (hF call hcall [] .nil 0 _ _ _ hr).1 rfl fun w => hF.closed hcall (v := .bool true) (h' := h') (N' := N') hr rfl w
end Go.Ev
end
