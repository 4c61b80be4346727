/-
  The evaluator, part S: a region with a plan goes in whatever order.
  Conditions: none; generic over the program.
-/
import Derived.Test.YtdpnadknaacinaaEvR
namespace Go.Ev
open Go.RowKit Go.Sx
set_option linter.unusedVariables false
set_option linter.unusedSimpArgs false

section
variable {P : Program} {call : CallF} {w0 : Fen} {w : World} {σ0 σ : Sg} {nt N0 N' m k : Nat} {ops : Array Oper} {e0 e' : Tr Value} {h0 : Tr Ob} {T : List Tk} {Hs : Nat → Tr Ob} {ds : List Deferred} {D : Array Bool} {a : Act}

/-- How many are not done. -/
def undone (ops : Array Oper) (D : Array Bool) : Nat := ((List.range ops.size).filter fun i => !D.getD i false).length

theorem filter_less : ∀ (l : List Nat) (i : Nat) (f g : Nat → Bool), i ∈ l → f i = true → g i = false → (∀ j, g j = true → f j = true) → (l.filter g).length < (l.filter f).length
  | [], i, f, g, hi, _, _, _ => by cases hi
  | x :: l, i, f, g, hi, hf, hg, hfg => by
    have hle : (l.filter g).length ≤ (l.filter f).length := by
      clear hi
      induction l with
      | nil => simp
      | cons y l ih =>
        simp only [List.filter_cons]
        cases hgy : g y with
        | true => rw [hfg y hgy]; simp; exact ih
        | false => cases f y <;> simp <;> omega
    rcases List.mem_cons.1 hi with e | e
    · subst e
      simp only [List.filter_cons, hf, hg, if_true, Bool.false_eq_true, if_false, List.length_cons]
      omega
    · have ih := filter_less l i f g e hf hg hfg
      simp only [List.filter_cons]
      cases hgx : g x with
      | true => rw [hfg x hgx]; simp; exact ih
      | false => cases f x <;> simp <;> omega

theorem ready_mem {D : Array Bool} {i : Nat} (hs : D.size = ops.size) : i ∈ Region.ready .any ops D ↔ i < ops.size ∧ D.getD i false = false ∧ ∀ o, ops[i]? = some o → ∀ g ∈ o.after, Region.binds .any g = true → D.getD g.on false = true := by
  unfold Region.ready
  simp only [List.mem_filter, List.mem_range, Bool.and_eq_true, Bool.not_eq_eq_eq_not, Bool.not_true]
  constructor
  · rintro ⟨h1, h2, h3⟩
    refine ⟨h1, ?_, ?_⟩
    · have : i < D.size := by omega
      simpa [Array.getD_eq_getD_getElem?, this] using h2
    · intro o ho g hg hb
      rw [ho] at h3
      simp only [Option.map_some, Option.getD_some, Array.all_eq_true'] at h3
      have := h3 g hg
      rw [hb] at this
      simpa using this
  · rintro ⟨h1, h2, h3⟩
    refine ⟨h1, ?_, ?_⟩
    · have : i < D.size := by omega
      simpa [Array.getD_eq_getD_getElem?, this] using h2
    · have ho : ops[i]? = some ops[i] := by simp [h1]
      rw [ho]
      simp only [Option.map_some, Option.getD_some, Array.all_eq_true']
      intro g hg
      cases hb : Region.binds .any g with
      | false => rfl
      | true => rw [h3 _ ho g hg hb]; rfl

theorem Plan.all_done (p : Plan P call nt ops e0 h0 N0 T Hs m e' N') (M : Mid w0 σ0 nt ops e0 N0 N' T Hs m ds D σ k a w) (hr : Region.ready .any ops D = []) : ∀ τ ∈ T, D.getD τ.i false = true := by
  have key : ∀ n, ∀ τ ∈ T, τ.rk = n → D.getD τ.i false = true := by
    intro n
    induction n using Nat.strongRecOn with
    | _ n ih =>
      intro τ hτ hn
      cases hd : D.getD τ.i false with
      | true => rfl
      | false =>
        have hop := p.op τ hτ
        have hlt : τ.i < ops.size := by
          rcases Nat.lt_or_ge τ.i ops.size with h | h
          · exact h
          · rw [Array.getElem?_eq_none h] at hop; cases hop
        have : τ.i ∈ Region.ready .any ops D := by
          refine (ready_mem M.size).2 ⟨hlt, hd, fun o ho g hg hb => ?_⟩
          rw [hop] at ho
          cases ho
          obtain ⟨τ', h3, h4, h5⟩ := p.rank τ hτ g.on (p.edge τ hτ g hg hb)
          rw [← h4]
          exact ih τ'.rk (by rw [← hn]; exact h5) τ' h3 rfl
        rw [hr] at this
        cases this
  exact fun τ hτ => key _ τ hτ rfl

theorem Plan.go (hcall : CallOk P call) (p : Plan P call nt ops e0 h0 N0 T Hs m e' N') {Q : Exit → Act → World → Prop} {rb : Option Nat}
    (hQ : ∀ σ' a' w', Ext σ0 σ' N0 N' → HR w0 σ' (Hs m) w' → ER σ' e' nt a'.tmps → a'.defers = ds → Q .normal a' w') :
    ∀ fuel D σ k a w, Mid w0 σ0 nt ops e0 N0 N' T Hs m ds D σ k a w → undone ops D ≤ fuel → wpAnyIn (Fr rb) 0 P .any ops Q fuel D a w := by
  have done : ∀ D σ k a w, Mid w0 σ0 nt ops e0 N0 N' T Hs m ds D σ k a w → Region.ready .any ops D = [] → Q .normal a w := by
    intro D σ k a w M hr
    have hall := p.all_done M hr
    have hkm : k = m := by
      rcases Nat.lt_or_ge k m with h | h
      · obtain ⟨τ, h1, h2, h3⟩ := p.effx k h
        have := (M.cnt τ h1 h2).1 (hall τ h1)
        omega
      · have := M.km; omega
    subst hkm
    refine hQ σ a w M.ext M.mem ⟨M.tsize, fun t v ht => ?_⟩ M.defers
    rcases p.fin t v ht with ⟨τ, h1, h2, h3⟩ | ⟨h1, h2⟩
    · subst h3; exact M.slots τ h1 (hall τ h1) t h2
    · exact M.olds t v h1 (fun τ h3 _ => h2 τ h3)
  intro fuel
  induction fuel with
  | zero =>
    intro D σ k a w M hu
    have hr : Region.ready .any ops D = [] := by
      cases hrr : Region.ready .any ops D with
      | nil => rfl
      | cons i l =>
        have hi : i ∈ Region.ready .any ops D := by rw [hrr]; simp
        obtain ⟨h1, h2, _⟩ := (ready_mem M.size).1 hi
        have : i ∈ (List.range ops.size).filter fun i => !D.getD i false := by simp only [List.mem_filter, List.mem_range]; exact ⟨h1, by rw [h2]; rfl⟩
        have hl := List.length_pos_of_mem this
        unfold undone at hu
        omega
    exact ⟨hr, done D σ k a w M hr⟩
  | succ fuel ih =>
    intro D σ k a w M hu
    refine ⟨fun hr => done D σ k a w M hr, fun i hi => ?_⟩
    obtain ⟨h1, h2, h3⟩ := (ready_mem M.size).1 hi
    obtain ⟨τ, hτ, hτi⟩ := p.all i h1
    subst hτi
    have hop := p.op τ hτ
    have hg := h3 _ hop
    have hER := p.er M hτ h2 hg
    have hiD : τ.i < D.size := by rw [M.size]; exact h1
    have hu' : undone ops (D.setIfInBounds τ.i true) ≤ fuel := by
      have : undone ops (D.setIfInBounds τ.i true) < undone ops D := by
        unfold undone
        refine filter_less _ τ.i _ _ (List.mem_range.2 h1) (by rw [h2]; rfl) (by rw [getD_set hiD]; simp) (fun j hj => ?_)
        rw [getD_set hiD] at hj
        by_cases e : j = τ.i
        · rw [if_pos e] at hj; cases hj
        · rw [if_neg e] at hj; exact hj
      omega
    have next : ∀ {σ' : Sg} {k' : Nat} {x : Value} {w' : World}, Ext σ σ' τ.lo τ.hi → Rl σ' τ.v x → HR w0 σ' (Hs k') w' → k' ≤ m → ((τ.isE ∧ τ.st = k ∧ k' = k + 1) ∨ (¬ τ.isE ∧ k' = k)) →
        wpAnyIn (Fr rb) 0 P .any ops Q fuel (D.setIfInBounds τ.i true) (a.put τ.o.dst x) w' := fun g1 g2 g3 g4 g5 => ih _ _ _ _ _ (M.step p hτ h2 hg g1 g2 g3 g4 g5) hu'
    unfold wpOpIn
    rw [hop]
    have hw := evWants_ok (ops := ops) hER (p.want τ hτ)
    have hskip : ∀ (hk : τ.kd = .skip), ¬ τ.isE := fun hk he => by unfold Tk.isE at he; rw [hk] at he; cases he
    simp only [hw]
    have hst : τ.st ≤ k := by
      rcases Nat.lt_or_ge k τ.st with h | h
      · obtain ⟨τe, q1, q2, q3, q4⟩ := p.effs τ hτ k h
        have := p.anc_done M τ hτ hg _ q4
        have := (M.cnt τe q1 q2).1 this
        omega
      · exact h
    cases hk : τ.kd with
    | skip =>
      simp only [Bool.false_eq_true, if_false]
      refine ⟨fun _ _ => trivial, ?_⟩
      have hv := p.skip τ hτ hk
      exact next (Ext.refl _ _ _) (by rw [hv]; exact .tup rfl (fun i a b h => by simp at h)) M.mem M.km (.inr ⟨(fun he => by unfold Tk.isE at he; rw [hk] at he; cases he), rfl⟩)
    | pure =>
      simp only [if_true]
      have hpu := p.pure τ hτ hk
      have Hn : HR w0 σ .nil w := ⟨M.mem.bel, M.mem.low, (fun i b r o h1 h2 => by cases h2), (fun i j b r r' h1 h2 h3 => by cases h3), (fun i b r h1 h2 => by cases h2)⟩
      obtain ⟨x, q1, q2⟩ := evPure_ok Hn hER hpu
      refine opIn_of (evPure_defer hpu) ?_
      rw [q2]
      exact next (Ext.refl _ _ _) q1 M.mem M.km (.inr ⟨(fun he => by unfold Tk.isE at he; rw [hk] at he; cases he), rfl⟩)
    | heap =>
      simp only [if_true]
      have hnE : ¬ τ.isE := fun he => by unfold Tk.isE at he; rw [hk] at he; cases he
      obtain ⟨ob, q1, q2⟩ := p.heap τ hτ hk k hst M.km (fun τe q1 q2 q3 => by
        cases hb : τe.anc.testBit τ.i with
        | false => rfl
        | true =>
          have hde := (M.cnt τe q1 q2).2 q3
          have := p.anc_done M τe q1 (M.closed τe q1 hde) _ hb
          rw [h2] at this
          cases this)
      cases ob with
      | none =>
        obtain ⟨x, q3, q4⟩ := evPas_none M.mem hER q1
        refine opIn_of (evPas_defer q1) ?_
        rw [q4]
        exact next (Ext.refl _ _ _) q3 M.mem M.km (.inr ⟨hnE, rfl⟩)
      | some ob =>
        obtain ⟨q3, q4⟩ := q2 ob rfl
        have hfr := M.fresh τ hτ h2
        rw [q4] at hfr
        obtain ⟨σ', x, w', g1, g2, g3, g4⟩ := evPas_some M.mem hER hfr q1
        refine opIn_of (evPas_defer q1) ?_
        have hH : HR w0 σ' (Hs k) w' := g2.congr (fun i b r hi => by
          rw [Tr.get_set]
          by_cases e : i = τ.lo
          · rw [if_pos e, e, q3]
          · rw [if_neg e])
        rw [← q4] at g1
        rcases g4 with g4 | ⟨g4, rfl⟩
        · rw [g4]
          exact next g1 g3 hH M.km (.inr ⟨hnE, rfl⟩)
        · rw [g4]
          exact next g1 g3 hH M.km (.inr ⟨hnE, rfl⟩)
    | eff =>
      simp only [if_true]
      have hE : τ.isE := hk
      have hkst : τ.st = k := by
        rcases Nat.lt_or_ge τ.st k with h | h
        · have := (M.cnt τ hτ hE).2 h
          rw [h2] at this
          cases this
        · omega
      obtain ⟨hx, q1, q2⟩ := p.eff τ hτ hE
      rw [hkst] at q1 q2
      have hkm := (p.effm τ hτ).1 hE
      refine (evStep_ok hcall M.mem hER q1 (M.fresh τ hτ h2)).2 _ _ _ ?_
      intro σ' x w' g1 g2 g3
      refine next g1 g3 (g2.congr (fun i b r hi => ?_)) (by omega) (.inl ⟨hE, hkst, rfl⟩)
      rcases q2 i with q2 | ⟨τ', r1, r2, r3, r4⟩
      · exact q2.symm
      · exfalso
        have hne : τ'.i ≠ τ.i := fun e => by
          have := p.uniq τ' r1 τ hτ e
          subst this
          omega
        have hnd : D.getD τ'.i false = false := by
          cases hd : D.getD τ'.i false with
          | false => rfl
          | true =>
            obtain ⟨τe, t1, t2, t3, t4⟩ := p.effs τ' r1 k (by omega)
            have := p.effu τe t1 τ hτ t2 hE (by omega)
            subst this
            have := p.anc_done M τ' r1 (M.closed τ' r1 hd) _ t4
            rw [h2] at this
            cases this
        have hd := p.disj τ' r1 τ hτ hne
        rw [g1 i (by omega), M.fresh τ' r1 hnd i r3 r4] at hi
        cases hi

theorem Plan.sound (hcall : CallOk P call) (p : Plan P call nt ops e0 h0 N0 T Hs m e' N') (hmix : P.follows .mixedOrders = true) {id : Nat} {Q : Exit → Act → World → Prop} {rb : Option Nat} (H : HR w0 σ0 h0 w) (hE : ER σ0 e0 nt a.tmps) (hf : Fresh σ0 N0 N')
    (hQ : ∀ σ' a' w', Ext σ0 σ' N0 N' → HR w0 σ' (Hs m) w' → ER σ' e' nt a'.tmps → a'.defers = a.defers → Q .normal a' w') : (Code.region id ops true).wpIn (Fr rb) 0 P Q a w := by
  refine wpIn_region_any hmix ?_
  refine p.go (ds := a.defers) hcall hQ ops.size _ σ0 0 a _ ?_ ?_
  · have hget : ∀ i, (Array.replicate ops.size false).getD i false = false := fun i => by
      simp only [Array.getD_eq_getD_getElem?, Array.getElem?_replicate]
      split <;> rfl
    refine ⟨by simp, Nat.zero_le _, ?_, ?_, ?_, ?_, ?_, hE.size, rfl, Ext.refl _ _ _, ?_⟩
    · intro τ hτ _
      rw [hget]
      simp
    · have H1 := H.ext (below_drew w)
      refine (show HR w0 σ0 h0 { w with drawn := w.drawn + 1 } from H1).congr (fun i b r hi => ?_)
      rcases p.beg i with h | ⟨τ, h1, h2, h3⟩
      · exact h.symm
      · have := p.num.2 τ h1
        rw [hf i (by omega) (by omega)] at hi
        cases hi
    · intro τ hτ hd; rw [hget] at hd; cases hd
    · intro τ hτ hd; rw [hget] at hd; cases hd
    · intro t v ht _; exact hE.at_ t v ht
    · intro τ hτ _
      have := p.num.2 τ hτ
      exact hf.sub (by omega) (by omega)
  · unfold undone
    exact Nat.le_trans (List.length_filter_le _ _) (by simp)

end
end Go.Ev
