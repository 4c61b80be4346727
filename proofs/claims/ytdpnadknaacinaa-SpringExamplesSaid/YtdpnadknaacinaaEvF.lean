/-
  The evaluator, part F: what leaves the memory: its soundness.
  Conditions: none; generic over the program.
-/
import Derived.Test.YtdpnadknaacinaaEvE
namespace Go.Ev
open Go.RowKit Go.Sx
set_option linter.unusedVariables false
set_option linter.unusedSimpArgs false

section
variable {P : Program} {w0 : Fen} {w : World} {σ : Sg} {h : Tr Ob} {e : Tr Value} {n : Nat} {a : Act} {o : Oper}

theorem evs_args (hE : ER σ e n a.tmps) {xs : List Operand} {vs : List Value} (hv : evs e xs = some vs) : ∃ us : List Value, RlL σ vs us ∧ (⟨xs⟩ : Array Operand).map a.eval = ⟨us⟩ := by
  refine ⟨xs.map a.eval, evs_ok hE hv, ?_⟩
  exact List.map_toArray

theorem rlL_allP {vs us : List Value} (h : RlL σ vs us) (hp : allP vs = true) : us = vs := rlL_plain h (by rw [← allP_eq]; exact hp)

theorem run_sliceAt {T el : Nat} (hT : P.underlying T = some (.slice el)) (x : Value) (lo hi mx : Option Value) : (Instr.sliceAt T x lo hi mx).run P w = (Instr.slice T x lo hi mx).run P w := by
  simp [Instr.sliceAt, run_underlying hT]

theorem evSlice_slice {T : Nat} {v r : Value} {lo hi mx : Option Value} (hr : evSlice P T v lo hi mx = some r) : ∃ el, P.underlying T = some (.slice el) := by
  unfold evSlice at hr
  split at hr
  · obtain ⟨_, hr⟩ := ocond_some hr
    obtain ⟨_, hr⟩ := ocond_some hr
    obtain ⟨el, he, hr⟩ := obind_some hr
    exact ⟨el, elemOf_ok he⟩
  · obtain ⟨el, he, hr⟩ := obind_some hr
    exact ⟨el, elemOf_ok he⟩
  · obtain ⟨el, he, hr⟩ := obind_some hr
    exact ⟨el, elemOf_ok he⟩
  · cases hr

set_option maxHeartbeats 1000000 in
theorem evPure_ok (H : HR w0 σ h w) (hE : ER σ e n a.tmps) {v : Value} (hr : evPure P o e h = some v) : VOk P σ o a w v := by
  unfold evPure at hr
  split at hr
  · rename_i x ho
    exact ⟨_, evo_ok hE hr, by simp [execOp, ho]⟩
  · rename_i x ho
    exact ⟨_, evo_ok hE hr, by simp [execOp, ho]⟩
  · rename_i c x y ho
    split at hr
    · rename_i hc
      have := rl_bool (evo_ok hE hc)
      exact ⟨_, evo_ok hE hr, by simp [execOp, ho, this, asBool]⟩
    · rename_i hc
      have := rl_bool (evo_ok hE hc)
      exact ⟨_, evo_ok hE hr, by simp [execOp, ho, this, asBool]⟩
    · cases hr
  · rename_i t k ho
    split at hr
    · rename_i vs ht
      have hrl := evo_ok hE ht
      rw [nth_eq] at hr
      generalize hg : a.eval t = T at hrl
      cases hrl
      · rename_i hp; simp [plain] at hp
      · rename_i ds h1 h2
        obtain ⟨x, h3, h4⟩ := (RlL.mk h1 h2).get hr
        refine ⟨x, h4, ?_⟩
        have h5 : (⟨ds⟩ : Array Value)[k]? = some x := (List.getElem?_toArray (xs := ds)).trans h3
        simp only [execOp, ho, hg, Instr.extract, h5, Sem.run_bind, Sem.run_pure, Result.andThen_ok]
    · cases hr
  · rename_i S x k ho
    obtain ⟨v1, h1, h2⟩ := obind_some hr
    obtain ⟨y, h3, h4⟩ := evFieldAddr_ok (w := w) h2 (evo_ok hE h1)
    exact ⟨y, h3, by simp [execOp, ho, h4]⟩
  · rename_i T x k ho
    obtain ⟨v1, h1, hr⟩ := obind_some hr
    obtain ⟨y, h3, h4⟩ := evField_ok (w := w) hr (evo_ok hE h1)
    exact ⟨y, h3, by simp [execOp, ho, h4]⟩
  · rename_i T x y ho
    obtain ⟨v1, h1, hr⟩ := obind_some hr
    obtain ⟨v2, h2, hr⟩ := obind_some hr
    obtain ⟨z, h3, h4⟩ := evIndexAddr_ok (w := w) hr (evo_ok hE h1) (evo_ok hE h2)
    exact ⟨z, h3, by simp [execOp, ho, h4]⟩
  · rename_i T x ho
    obtain ⟨v1, h1, hr⟩ := obind_some hr
    obtain ⟨z, h3, h4⟩ := evLoad_ok H hr (evo_ok hE h1)
    exact ⟨z, h3, by simp [execOp, ho, h4]⟩
  · rename_i b T x y T' ho
    obtain ⟨v1, h1, hr⟩ := obind_some hr
    obtain ⟨v2, h2, hr⟩ := obind_some hr
    obtain ⟨h3, h4⟩ := evBin_ok hr (evo_ok hE h1) (evo_ok hE h2) w
    exact ⟨v, h3, by simp only [execOp, ho, Sem.run_bind, Sem.run_pure, Result.andThen_ok] at h4 ⊢; rw [h4]; try simp⟩
  · rename_i u T x ho
    obtain ⟨v1, h1, hr⟩ := obind_some hr
    obtain ⟨h2, hr⟩ := ocond_some hr
    obtain ⟨r, h3, hr⟩ := obind_some hr
    obtain ⟨h4, hr⟩ := ocond_some hr
    cases hr
    have e1 := (evo_ok hE h1).scal_eq h2
    have e2 := still_run w _ h3
    exact ⟨v, scal_refl h4, by simp [execOp, ho, e1, e2]⟩
  · rename_i s d x ho
    obtain ⟨v1, h1, hr⟩ := obind_some hr
    obtain ⟨h2, hr⟩ := ocond_some hr
    obtain ⟨r, h3, hr⟩ := obind_some hr
    obtain ⟨h4, hr⟩ := ocond_some hr
    cases hr
    have e1 := (evo_ok hE h1).scal_eq h2
    have e2 := still_run w _ h3
    exact ⟨v, scal_refl h4, by simp [execOp, ho, e1, e2]⟩
  · rename_i x ho
    obtain ⟨v1, h1, hr⟩ := obind_some hr
    have hrl := evo_ok hE h1
    generalize hg : a.eval x = X at hrl
    unfold evNil at hr
    split at hr
    · cases hr
      cases hrl
      · rename_i hp; simp [plain] at hp
      · rename_i b rr hi
        exact ⟨_, .ptr hi, by simp [execOp, ho, hg]⟩
    · cases hr
      cases hrl
      · rename_i hp; simp [plain] at hp
      · rename_i gs ds g3 g4 g1 g2
        exact ⟨_, .fn g3 g4 g1 g2, by simp [execOp, ho, hg]⟩
    · cases hr
  · rename_i T x lo hi mx ho
    obtain ⟨v1, h1, hr⟩ := obind_some hr
    obtain ⟨l, h2, hr⟩ := obind_some hr
    obtain ⟨k, h3, hr⟩ := obind_some hr
    obtain ⟨m, h4, hr⟩ := obind_some hr
    obtain ⟨el, hT⟩ := evSlice_slice hr
    obtain ⟨y, h5, h6⟩ := evSlice_ok (w := w) hr (evo_ok hE h1) (brel_of hE h2) (brel_of hE h3) (brel_of hE h4)
    refine ⟨y, h5, ?_⟩
    have h7 := run_sliceAt (w := w) hT (a.eval x) (lo.map a.eval) (hi.map a.eval) (mx.map a.eval)
    rw [h6] at h7
    simp only [execOp, ho, Sem.run_bind, h7, Sem.run_pure, Result.andThen_ok]
  · rename_i f fs cs ho
    obtain ⟨us0, h0, hr⟩ := obind_some hr
    obtain ⟨vs, h1, hr⟩ := obind_some hr
    cases hr
    obtain ⟨us, h2, h3⟩ := evs_args hE h1
    obtain ⟨gs, h4, h5⟩ := evs_args hE h0
    refine ⟨_, .fn h4.len h4.at_ h2.len h2.at_, ?_⟩
    simp only [execOp, ho, Instr.makeFunc, Sem.run_bind, Sem.run_pure, Result.andThen_ok, h3, h5]
  · rename_i x T ho
    obtain ⟨v1, h1, hr⟩ := obind_some hr
    obtain ⟨y, h2, h3⟩ := evLen_ok (T' := o.type) H hr (evo_ok hE h1)
    refine ⟨y, h2, ?_⟩
    have e1 : (⟨[x]⟩ : Array Operand).map a.eval = #[a.eval x] := by simp
    simp only [execOp, ho, resolve, e1, invoke, builtin, Sem.run_bind, Sem.run_pure, Result.andThen_ok]
    rw [show (⟨[T]⟩ : Array TypeId) = #[T] from rfl, h3]
    rfl
  · rename_i xs ts ho
    obtain ⟨vs, h1, hr⟩ := obind_some hr
    obtain ⟨h2, hr⟩ := ocond_some hr
    obtain ⟨r, h3, hr⟩ := obind_some hr
    obtain ⟨h4, hr⟩ := ocond_some hr
    cases hr
    obtain ⟨us, h5, h6⟩ := evs_args hE h1
    have h7 := rlL_allP h5 h2
    subst h7
    refine ⟨v, scal_refl h4, ?_⟩
    have e2 := still_run w _ h3
    simp only [execOp, ho, resolve, h6, invoke, builtin, Sem.run_bind, Sem.run_pure, Result.andThen_ok, e2]
  · rename_i xs ts ho
    obtain ⟨vs, h1, hr⟩ := obind_some hr
    obtain ⟨h2, hr⟩ := ocond_some hr
    obtain ⟨r, h3, hr⟩ := obind_some hr
    obtain ⟨h4, hr⟩ := ocond_some hr
    cases hr
    obtain ⟨us, h5, h6⟩ := evs_args hE h1
    have h7 := rlL_allP h5 h2
    subst h7
    refine ⟨v, scal_refl h4, ?_⟩
    have e2 := still_run w _ h3
    simp only [execOp, ho, resolve, h6, invoke, builtin, Sem.run_bind, Sem.run_pure, Result.andThen_ok, e2]
  · rename_i x T ho
    obtain ⟨v1, h1, hr⟩ := obind_some hr
    have hrl := evo_ok hE h1
    have e1 : (⟨[x]⟩ : Array Operand).map a.eval = #[a.eval x] := by simp
    generalize hg : a.eval x = X at hrl e1
    split at hr
    · obtain ⟨el, h2, hr⟩ := obind_some hr
      cases hr
      have hT := elemOf_ok h2
      cases hrl
      · rename_i hp; simp [plain] at hp
      · exact ⟨_, .sc rfl, by simp [execOp, ho, resolve, hg, invoke, builtin, Builtin.cap_, run_underlying hT, goInt]⟩
    · obtain ⟨el, h2, hr⟩ := obind_some hr
      cases hr
      have hT := elemOf_ok h2
      cases hrl
      exact ⟨_, .sc rfl, by simp [execOp, ho, resolve, hg, invoke, builtin, Builtin.cap_, run_underlying hT, goInt]⟩
    · rename_i i off eo n c
      obtain ⟨el, h2, hr⟩ := obind_some hr
      rw [fN_eq] at hr
      cases hr
      have hT := elemOf_ok h2
      obtain ⟨hC1, hC2⟩ := mx2_ok n c
      cases hrl
      · rename_i hp; simp [plain] at hp
      · rename_i b rr hs hle hcc
        refine ⟨.int .i64 ((rr - eo : Nat) : Int), .lb (by rcases hC2 with h1 | h1 <;> omega), by simp [execOp, ho, resolve, hg, invoke, builtin, Builtin.cap_, run_underlying hT, goInt]⟩
    · cases hr
  · cases hr

end
end Go.Ev
