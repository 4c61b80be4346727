/-
  The evaluator, part K: copy; one operation, whatever it is, but for calls of functions.
  Conditions: none; generic over the program.
-/
import Derived.Test.YtdpnadknaacinaaEvJz
namespace Go.Ev
open Go.RowKit Go.Sx
set_option linter.unusedVariables false
set_option linter.unusedSimpArgs false

section
variable {P : Program} {w0 : Fen} {w : World} {σ : Sg} {h : Tr Ob} {e : Tr Value} {n N : Nat} {a : Act} {o : Oper}

noncomputable def evCopy (P : Program) (T : TypeId) (d x : Value) (h : Tr Ob) (N : Nat) : OpR :=
  obind (appT P T) fun ez => obind (lenV x) fun k => match d with
    | .slice none _ _ => ocond (match d with | .slice none 0 _ => true | _ => false) (some (.int .i64 0, h, N))
    | .slice (some ⟨i, off, _⟩) n _ => fN (Nat.min k n) fun m => fN (Nat.mul m ez.2) fun mz => obind (seg h x mz) fun news => ocond (allF news) (obind (evWrite h i off news) fun h' => some (.int .i64 (Int.ofNat m), h', N))
    | _ => none

theorem evCopy_ok (H : HR w0 σ h w) {T : Nat} {x y : Operand} (ho : o.op = .call { callee := .builtin .copy, args := ⟨[x, y]⟩, argTypes := ⟨[T, T]⟩ }) {s u : Value} (hs : Rl σ s (a.eval x)) (hu : Rl σ u (a.eval y))
    {v : Value} {h' : Tr Ob} {N' : Nat} (hr : evCopy P T s u h N = some (v, h', N')) : N' = N ∧ EOk P w0 σ N o a w v h' N' := by
  have fin : ∀ {x' : Value} {w' : World}, HR w0 σ h' w' → Rl σ v x' → (Builtin.copy_ #[T, T] o.type #[a.eval x, a.eval y]).run P w = .ok x' w' → EOk P w0 σ N o a w v h' N' := by
    intro x' w' h2 h3 h4
    refine ⟨σ, x', w', Ext.refl _ _ _, h2, h3, .inl ?_⟩
    have e1 : (⟨[x, y]⟩ : Array Operand).map a.eval = #[a.eval x, a.eval y] := by simp
    have e2 : (⟨[T, T]⟩ : Array TypeId) = #[T, T] := rfl
    simp only [execOp, ho, resolve, e1, e2, invoke, builtin, Sem.run_bind, Sem.run_pure, Result.andThen_ok, h4]
  obtain ⟨⟨el, z⟩, hT, hr1⟩ := obind_some hr
  obtain ⟨k, hk, hr2⟩ := obind_some hr1
  clear hr hr1
  have hr := hr2; clear hr2
  have hk' := lenV_ok (P := P) hu hk w
  obtain ⟨zs, by_, he, hz, hb, hb2⟩ := appT_ok hT
  obtain ⟨g1, g2, g3, g4⟩ := elz_ok hz
  generalize hX : a.eval x = X at hs fin
  generalize hY : a.eval y = Y at hu fin hk'
  split at hr
  · rename_i n c
    obtain ⟨h1, hr1⟩ := ocond_some hr
    cases hr1
    have := hs.plain_eq rfl; subst this
    split at h1
    · rename_i heq
      cases heq
      refine ⟨rfl, fin H (.sc rfl) ?_⟩
      have h0 : ∃ cs, (Builtin.firstCells z 0 Y).run P w = .ok cs w := by
        obtain ⟨us, _, _, hrun⟩ := seg_ok (P := P) H hu (z := z) (k := 0) (m := 0) (xs := []) (by simp) (by
          cases hu <;> first | rfl | (unfold lenV at hk; cases hk) | (rename_i hp; unfold lenV at hk; split at hk <;> first | (simp [plain] at hp; done) | (cases hk; cases ‹Option Addr› <;> first | rfl | (simp [plain] at hp)) | cases hk))
        exact ⟨_, hrun⟩
      obtain ⟨cs, h0⟩ := h0
      have hm : Nat.min k 0 = 0 := Nat.min_zero k
      simp only [Builtin.copy_, List.getElem?_toArray, Sem.run_bind]
      simp [run_underlying he, hk', hm, Sx.run_sizeOf g1, h0, goInt]
    · cases h1
  · rename_i i off sp n c
    rw [fN_eq, fN_eq] at hr
    obtain ⟨news, h1, hr1⟩ := obind_some hr
    obtain ⟨h2, hr2⟩ := ocond_some hr1
    obtain ⟨h3, h4, hr3⟩ := obind_some hr2
    clear hr hr1 hr2
    cases hr3
    obtain ⟨us, hus, hul, hrun⟩ := seg_ok (P := P) H hu (z := z) rfl h1
    have key : ∀ b r, σ i = some (b, r) → (∃ c', X = .slice (some ⟨b, off, none⟩) n c') → EOk P w0 σ N o a w (.int .i64 (Int.ofNat (Nat.min k n))) h' N := by
      rintro b r hi ⟨c', rfl⟩
      obtain ⟨cs, E, q1, q2, q3⟩ := evWrite_ok H hi h4 hus
      have hst := run_storeCells_at P b off E us 0 ⟨cs⟩ w q1 (by simpa using q2) (by have := allF_ok hus h2; simpa [flat] using this)
      rw [Nat.add_zero] at hst
      have hst' : (storeCells ⟨b, off, none⟩ us).run P w = .ok () (w.setRow b (setL cs off us).toArray) := by rw [setL_eq _ _ _ q2]; simpa using hst
      refine fin q3 (.sc rfl) ?_
      simp [Builtin.copy_, run_underlying he, hk', Sx.run_sizeOf g1, hrun, hst', goInt]
    refine ⟨rfl, ?_⟩
    cases hs
    · rename_i hp; simp [plain] at hp
    · rename_i b r hi; exact key b r hi ⟨_, rfl⟩
    · rename_i b r ee hi hle hcc; exact key _ _ hi ⟨_, rfl⟩
  · cases hr

end
end Go.Ev
