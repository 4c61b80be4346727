/-
  An evaluator over the model's code, and why it holds, part 3.
  Conditions: none; generic over the program.
-/
import Derived.Test.YtpilgokdbliklaaEv2
import Derived.LoopNIn

set_option linter.unusedVariables false
set_option linter.unusedSimpArgs false

section
namespace Go.Ev
open Go.RowKit Go.Sx
set_option linter.unusedVariables false
set_option linter.unusedSimpArgs false

section
variable {P : Program} {call : CallF} {w0 : Fen} {w : World} {σ0 σ : Sg} {nt N0 N' m k : Nat} {ops : Array Oper} {e0 e' : Tr Value} {h0 : Tr Ob} {T : List Tk} {Hs : Nat → Tr Ob} {ds : List Deferred} {D : Array Bool} {a : Act}

/-- How many are not done. -/
def undone (ops : Array Oper) (D : Array Bool) : Nat := ((List.range ops.size).filter fun i => !D.getD i false).length

theorem filter_less : ∀ (l : List Nat) (i : Nat) (f g : Nat → Bool), i ∈ l → f i = true → g i = false → (∀ j, g j = true → f j = true) → (l.filter g).length < (l.filter f).length
  | [], i, f, g, hi, _, _, _ => by cases hi
  | x :: l, i, f, g, hi, hf, hg, hfg => by
    have hle : (l.filter g).length ≤ (l.filter f).length := by
      clear hi
      induction l with
      | nil => simp
      | cons y l ih =>
        simp only [List.filter_cons]
        cases hgy : g y with
        | true => rw [hfg y hgy]; simp; exact ih
        | false => cases f y <;> simp <;> omega
    rcases List.mem_cons.1 hi with e | e
    · subst e
      simp only [List.filter_cons, hf, hg, if_true, Bool.false_eq_true, if_false, List.length_cons]
      omega
    · have ih := filter_less l i f g e hf hg hfg
      simp only [List.filter_cons]
      cases hgx : g x with
      | true => rw [hfg x hgx]; simp; exact ih
      | false => cases f x <;> simp <;> omega

theorem ready_mem {D : Array Bool} {i : Nat} (hs : D.size = ops.size) : i ∈ Region.ready .any ops D ↔ i < ops.size ∧ D.getD i false = false ∧ ∀ o, ops[i]? = some o → ∀ g ∈ o.after, Region.binds .any g = true → D.getD g.on false = true := by
  unfold Region.ready
  simp only [List.mem_filter, List.mem_range, Bool.and_eq_true, Bool.not_eq_eq_eq_not, Bool.not_true]
  constructor
  · rintro ⟨h1, h2, h3⟩
    refine ⟨h1, ?_, ?_⟩
    · have : i < D.size := by omega
      simpa [Array.getD_eq_getD_getElem?, this] using h2
    · intro o ho g hg hb
      rw [ho] at h3
      simp only [Option.map_some, Option.getD_some, Array.all_eq_true'] at h3
      have := h3 g hg
      rw [hb] at this
      simpa using this
  · rintro ⟨h1, h2, h3⟩
    refine ⟨h1, ?_, ?_⟩
    · have : i < D.size := by omega
      simpa [Array.getD_eq_getD_getElem?, this] using h2
    · have ho : ops[i]? = some ops[i] := by simp [h1]
      rw [ho]
      simp only [Option.map_some, Option.getD_some, Array.all_eq_true']
      intro g hg
      cases hb : Region.binds .any g with
      | false => rfl
      | true => rw [h3 _ ho g hg hb]; rfl

theorem Plan.all_done (p : Plan P call nt ops e0 h0 N0 T Hs m e' N') (M : Mid w0 σ0 nt ops e0 N0 N' T Hs m ds D σ k a w) (hr : Region.ready .any ops D = []) : ∀ τ ∈ T, D.getD τ.i false = true := by
  have key : ∀ n, ∀ τ ∈ T, τ.rk = n → D.getD τ.i false = true := by
    intro n
    induction n using Nat.strongRecOn with
    | _ n ih =>
      intro τ hτ hn
      cases hd : D.getD τ.i false with
      | true => rfl
      | false =>
        have hop := p.op τ hτ
        have hlt : τ.i < ops.size := by
          rcases Nat.lt_or_ge τ.i ops.size with h | h
          · exact h
          · rw [Array.getElem?_eq_none h] at hop; cases hop
        have : τ.i ∈ Region.ready .any ops D := by
          refine (ready_mem M.size).2 ⟨hlt, hd, fun o ho g hg hb => ?_⟩
          rw [hop] at ho
          cases ho
          obtain ⟨τ', h3, h4, h5⟩ := p.rank τ hτ g.on (p.edge τ hτ g hg hb)
          rw [← h4]
          exact ih τ'.rk (by rw [← hn]; exact h5) τ' h3 rfl
        rw [hr] at this
        cases this
  exact fun τ hτ => key _ τ hτ rfl

theorem Plan.go (hcall : CallOk P call) (p : Plan P call nt ops e0 h0 N0 T Hs m e' N') {Q : Exit → Act → World → Prop} {rb : Option Nat}
    (hQ : ∀ σ' a' w', Ext σ0 σ' N0 N' → HR w0 σ' (Hs m) w' → ER σ' e' nt a'.tmps → a'.defers = ds → Q .normal a' w') :
    ∀ fuel D σ k a w, Mid w0 σ0 nt ops e0 N0 N' T Hs m ds D σ k a w → undone ops D ≤ fuel → wpAnyIn (Fr rb) 0 P .any ops Q fuel D a w := by
  have done : ∀ D σ k a w, Mid w0 σ0 nt ops e0 N0 N' T Hs m ds D σ k a w → Region.ready .any ops D = [] → Q .normal a w := by
    intro D σ k a w M hr
    have hall := p.all_done M hr
    have hkm : k = m := by
      rcases Nat.lt_or_ge k m with h | h
      · obtain ⟨τ, h1, h2, h3⟩ := p.effx k h
        have := (M.cnt τ h1 h2).1 (hall τ h1)
        omega
      · have := M.km; omega
    subst hkm
    refine hQ σ a w M.ext M.mem ⟨M.tsize, fun t v ht => ?_⟩ M.defers
    rcases p.fin t v ht with ⟨τ, h1, h2, h3⟩ | ⟨h1, h2⟩
    · subst h3; exact M.slots τ h1 (hall τ h1) t h2
    · exact M.olds t v h1 (fun τ h3 _ => h2 τ h3)
  intro fuel
  induction fuel with
  | zero =>
    intro D σ k a w M hu
    have hr : Region.ready .any ops D = [] := by
      cases hrr : Region.ready .any ops D with
      | nil => rfl
      | cons i l =>
        have hi : i ∈ Region.ready .any ops D := by rw [hrr]; simp
        obtain ⟨h1, h2, _⟩ := (ready_mem M.size).1 hi
        have : i ∈ (List.range ops.size).filter fun i => !D.getD i false := by simp only [List.mem_filter, List.mem_range]; exact ⟨h1, by rw [h2]; rfl⟩
        have hl := List.length_pos_of_mem this
        unfold undone at hu
        omega
    exact ⟨hr, done D σ k a w M hr⟩
  | succ fuel ih =>
    intro D σ k a w M hu
    refine ⟨fun hr => done D σ k a w M hr, fun i hi => ?_⟩
    obtain ⟨h1, h2, h3⟩ := (ready_mem M.size).1 hi
    obtain ⟨τ, hτ, hτi⟩ := p.all i h1
    subst hτi
    have hop := p.op τ hτ
    have hg := h3 _ hop
    have hER := p.er M hτ h2 hg
    have hiD : τ.i < D.size := by rw [M.size]; exact h1
    have hu' : undone ops (D.setIfInBounds τ.i true) ≤ fuel := by
      have : undone ops (D.setIfInBounds τ.i true) < undone ops D := by
        unfold undone
        refine filter_less _ τ.i _ _ (List.mem_range.2 h1) (by rw [h2]; rfl) (by rw [getD_set hiD]; simp) (fun j hj => ?_)
        rw [getD_set hiD] at hj
        by_cases e : j = τ.i
        · rw [if_pos e] at hj; cases hj
        · rw [if_neg e] at hj; exact hj
      omega
    have next : ∀ {σ' : Sg} {k' : Nat} {x : Value} {w' : World}, Ext σ σ' τ.lo τ.hi → Rl σ' τ.v x → HR w0 σ' (Hs k') w' → k' ≤ m → ((τ.isE ∧ τ.st = k ∧ k' = k + 1) ∨ (¬ τ.isE ∧ k' = k)) →
        wpAnyIn (Fr rb) 0 P .any ops Q fuel (D.setIfInBounds τ.i true) (a.put τ.o.dst x) w' := fun g1 g2 g3 g4 g5 => ih _ _ _ _ _ (M.step p hτ h2 hg g1 g2 g3 g4 g5) hu'
    unfold wpOpIn
    rw [hop]
    have hw := evWants_ok (ops := ops) hER (p.want τ hτ)
    have hskip : ∀ (hk : τ.kd = .skip), ¬ τ.isE := fun hk he => by unfold Tk.isE at he; rw [hk] at he; cases he
    simp only [hw]
    have hst : τ.st ≤ k := by
      rcases Nat.lt_or_ge k τ.st with h | h
      · obtain ⟨τe, q1, q2, q3, q4⟩ := p.effs τ hτ k h
        have := p.anc_done M τ hτ hg _ q4
        have := (M.cnt τe q1 q2).1 this
        omega
      · exact h
    cases hk : τ.kd with
    | skip =>
      simp only [Bool.false_eq_true, if_false]
      refine ⟨fun _ _ => trivial, ?_⟩
      have hv := p.skip τ hτ hk
      exact next (Ext.refl _ _ _) (by rw [hv]; exact .tup rfl (fun i a b h => by simp at h)) M.mem M.km (.inr ⟨(fun he => by unfold Tk.isE at he; rw [hk] at he; cases he), rfl⟩)
    | pure =>
      simp only [if_true]
      have hpu := p.pure τ hτ hk
      have Hn : HR w0 σ .nil w := ⟨M.mem.bel, M.mem.low, (fun i b r o h1 h2 => by cases h2), (fun i j b r r' h1 h2 h3 => by cases h3), (fun i b r h1 h2 => by cases h2)⟩
      obtain ⟨x, q1, q2⟩ := evPure_ok Hn hER hpu
      refine opIn_of (evPure_defer hpu) ?_
      rw [q2]
      exact next (Ext.refl _ _ _) q1 M.mem M.km (.inr ⟨(fun he => by unfold Tk.isE at he; rw [hk] at he; cases he), rfl⟩)
    | heap =>
      simp only [if_true]
      have hnE : ¬ τ.isE := fun he => by unfold Tk.isE at he; rw [hk] at he; cases he
      obtain ⟨ob, q1, q2⟩ := p.heap τ hτ hk k hst M.km (fun τe q1 q2 q3 => by
        cases hb : τe.anc.testBit τ.i with
        | false => rfl
        | true =>
          have hde := (M.cnt τe q1 q2).2 q3
          have := p.anc_done M τe q1 (M.closed τe q1 hde) _ hb
          rw [h2] at this
          cases this)
      cases ob with
      | none =>
        obtain ⟨x, q3, q4⟩ := evPas_none M.mem hER q1
        refine opIn_of (evPas_defer q1) ?_
        rw [q4]
        exact next (Ext.refl _ _ _) q3 M.mem M.km (.inr ⟨hnE, rfl⟩)
      | some ob =>
        obtain ⟨q3, q4⟩ := q2 ob rfl
        have hfr := M.fresh τ hτ h2
        rw [q4] at hfr
        obtain ⟨σ', x, w', g1, g2, g3, g4⟩ := evPas_some M.mem hER hfr q1
        refine opIn_of (evPas_defer q1) ?_
        have hH : HR w0 σ' (Hs k) w' := g2.congr (fun i b r hi => by
          rw [Tr.get_set]
          by_cases e : i = τ.lo
          · rw [if_pos e, e, q3]
          · rw [if_neg e])
        rw [← q4] at g1
        rcases g4 with g4 | ⟨g4, rfl⟩
        · rw [g4]
          exact next g1 g3 hH M.km (.inr ⟨hnE, rfl⟩)
        · rw [g4]
          exact next g1 g3 hH M.km (.inr ⟨hnE, rfl⟩)
    | eff =>
      simp only [if_true]
      have hE : τ.isE := hk
      have hkst : τ.st = k := by
        rcases Nat.lt_or_ge τ.st k with h | h
        · have := (M.cnt τ hτ hE).2 h
          rw [h2] at this
          cases this
        · omega
      obtain ⟨hx, q1, q2⟩ := p.eff τ hτ hE
      rw [hkst] at q1 q2
      have hkm := (p.effm τ hτ).1 hE
      refine (evStep_ok hcall M.mem hER q1 (M.fresh τ hτ h2)).2 _ _ _ ?_
      intro σ' x w' g1 g2 g3
      refine next g1 g3 (g2.congr (fun i b r hi => ?_)) (by omega) (.inl ⟨hE, hkst, rfl⟩)
      rcases q2 i with q2 | ⟨τ', r1, r2, r3, r4⟩
      · exact q2.symm
      · exfalso
        have hne : τ'.i ≠ τ.i := fun e => by
          have := p.uniq τ' r1 τ hτ e
          subst this
          omega
        have hnd : D.getD τ'.i false = false := by
          cases hd : D.getD τ'.i false with
          | false => rfl
          | true =>
            obtain ⟨τe, t1, t2, t3, t4⟩ := p.effs τ' r1 k (by omega)
            have := p.effu τe t1 τ hτ t2 hE (by omega)
            subst this
            have := p.anc_done M τ' r1 (M.closed τ' r1 hd) _ t4
            rw [h2] at this
            cases this
        have hd := p.disj τ' r1 τ hτ hne
        rw [g1 i (by omega), M.fresh τ' r1 hnd i r3 r4] at hi
        cases hi

theorem Plan.sound (hcall : CallOk P call) (p : Plan P call nt ops e0 h0 N0 T Hs m e' N') (hmix : P.follows .mixedOrders = true) {id : Nat} {Q : Exit → Act → World → Prop} {rb : Option Nat} (H : HR w0 σ0 h0 w) (hE : ER σ0 e0 nt a.tmps) (hf : Fresh σ0 N0 N')
    (hQ : ∀ σ' a' w', Ext σ0 σ' N0 N' → HR w0 σ' (Hs m) w' → ER σ' e' nt a'.tmps → a'.defers = a.defers → Q .normal a' w') : (Code.region id ops true).wpIn (Fr rb) 0 P Q a w := by
  refine wpIn_region_any hmix ?_
  refine p.go (ds := a.defers) hcall hQ ops.size _ σ0 0 a _ ?_ ?_
  · have hget : ∀ i, (Array.replicate ops.size false).getD i false = false := fun i => by
      simp only [Array.getD_eq_getD_getElem?, Array.getElem?_replicate]
      split <;> rfl
    refine ⟨by simp, Nat.zero_le _, ?_, ?_, ?_, ?_, ?_, hE.size, rfl, Ext.refl _ _ _, ?_⟩
    · intro τ hτ _
      rw [hget]
      simp
    · have H1 := H.ext (below_drew w)
      refine (show HR w0 σ0 h0 { w with drawn := w.drawn + 1 } from H1).congr (fun i b r hi => ?_)
      rcases p.beg i with h | ⟨τ, h1, h2, h3⟩
      · exact h.symm
      · have := p.num.2 τ h1
        rw [hf i (by omega) (by omega)] at hi
        cases hi
    · intro τ hτ hd; rw [hget] at hd; cases hd
    · intro τ hτ hd; rw [hget] at hd; cases hd
    · intro t v ht _; exact hE.at_ t v ht
    · intro τ hτ _
      have := p.num.2 τ hτ
      exact hf.sub (by omega) (by omega)
  · unfold undone
    exact Nat.le_trans (List.length_filter_le _ _) (by simp)

end
end Go.Ev
end

section
namespace Go.Ev
open Go.RowKit Go.Sx
set_option linter.unusedVariables false
set_option linter.unusedSimpArgs false

/-! ### The order, and what is asked of it once and for all -/
structure It where
  i : Nat
  anc : Nat
  lk : List Nat
  eff : Bool

noncomputable def isEff (o : Oper) : Bool :=
  match o.op with
  | .store _ _ _ => true
  | .mapUpdate _ _ _ _ => true
  | .insert _ _ _ _ => true
  | .call { callee := .value _, .. } => true
  | .call { callee := .builtin .append, .. } => true
  | .call { callee := .builtin .copy, .. } => true
  | .call { callee := .builtin .delete, .. } => true
  | .call { callee := .builtin .clear, .. } => true
  | _ => false

noncomputable def lookN (tbl : List (Nat × Nat)) (i : Nat) : Option Nat :=
  List.rec (motive := fun _ => Option Nat) none (fun x _ ih => Bool.rec (motive := fun _ => Option Nat) ih (some x.2) (Nat.beq x.1 i)) tbl
theorem lookN_cons (x : Nat × Nat) (tbl : List (Nat × Nat)) (i : Nat) : lookN (x :: tbl) i = if x.1 = i then some x.2 else lookN tbl i := by
  show Bool.rec (motive := fun _ => Option Nat) (lookN tbl i) (some x.2) (Nat.beq x.1 i) = _
  cases h : Nat.beq x.1 i with
  | true => rw [if_pos (Nat.eq_of_beq_eq_true h)]
  | false => rw [if_neg (fun e => by rw [e, Nat.beq_refl] at h; cases h)]
/-- All operations that must come ahead: what the edges name, and what must come ahead of those. -/
noncomputable def ancF (tbl : List (Nat × Nat)) (gs : List Edge) : Option Nat :=
  List.rec (motive := fun _ => Option Nat) (some 0) (fun g _ ih => Bool.rec (motive := fun _ => Option Nat) ih (obind (lookN tbl g.on) fun m => obind ih fun r => some (Nat.lor (Nat.lor (Nat.pow 2 g.on) m) r)) (Region.binds .any g)) gs

/-- Which operation writes which slot. -/
noncomputable def dtab (l : List Oper) : Nat → List (Nat × Nat) :=
  List.rec (motive := fun _ => Nat → List (Nat × Nat)) (fun _ => []) (fun o _ ih i => Option.rec (motive := fun _ => List (Nat × Nat)) (ih (Nat.succ i)) (fun t => (i, t) :: ih (Nat.succ i)) o.dst) l
noncomputable def allB {α : Type} (f : α → Bool) (l : List α) : Bool := List.rec (motive := fun _ => Bool) true (fun x _ ih => band (f x) ih) l
theorem allB_ok {α : Type} {f : α → Bool} : ∀ {l : List α}, allB f l = true → ∀ x ∈ l, f x = true
  | [], _, x, hx => by cases hx
  | y :: l, h, x, hx => by
    have h' : band (f y) (allB f l) = true := h
    obtain ⟨h1, h2⟩ := band_ok h'
    rcases List.mem_cons.1 hx with e | e
    · subst e; exact h1
    · exact allB_ok h2 x e
noncomputable def nob (b : Bool) : Bool := Bool.rec (motive := fun _ => Bool) true false b
noncomputable def orb (a b : Bool) : Bool := Bool.rec (motive := fun _ => Bool) b true a

noncomputable def sItem (nt : Nat) (dt tbl rds : List (Nat × Nat)) (effs : List Nat) (it : It) (o : Oper) : Bool :=
  band (Option.rec (motive := fun _ => Bool) true (fun _ => false) (lookN tbl it.i))
  (band (optN (ancF tbl o.after.toList) (some it.anc))
  (band (allB (fun j => it.anc.testBit j) effs)
  (band (allB (fun t => allB (fun x => orb (nob (Nat.beq x.2 t)) (Option.rec (motive := fun _ => Bool) true (fun _ => it.anc.testBit x.1) (lookN tbl x.1))) dt) it.lk)
  (Option.rec (motive := fun _ => Bool) true (fun t => band (Nat.ble (Nat.succ t) nt) (band (allB (fun x => orb (nob (Nat.beq x.2 t)) (Nat.beq x.1 it.i)) dt)
    (band (allB (fun x => orb (nob (Nat.beq x.1 t)) (it.anc.testBit x.2)) rds) (allB (fun u => nob (Nat.beq u t)) it.lk)))) o.dst))))

noncomputable def addR (i : Nat) (lk : List Nat) (rds : List (Nat × Nat)) : List (Nat × Nat) := List.rec (motive := fun _ => List (Nat × Nat)) rds (fun t _ ih => (t, i) :: ih) lk
theorem addR_new {i t : Nat} {rds : List (Nat × Nat)} : ∀ {lk : List Nat}, t ∈ lk → (t, i) ∈ addR i lk rds
  | [], h => by cases h
  | u :: lk, h => by
    show (t, i) ∈ (u, i) :: addR i lk rds
    rcases List.mem_cons.1 h with e | e
    · subst e; exact List.mem_cons_self
    · exact List.mem_cons_of_mem _ (addR_new e)
theorem addR_old {i : Nat} {x : Nat × Nat} {rds : List (Nat × Nat)} (h : x ∈ rds) : ∀ {lk : List Nat}, x ∈ addR i lk rds
  | [] => h
  | u :: lk => List.mem_cons_of_mem _ (addR_old h (lk := lk))

noncomputable def schk (nt : Nat) (ops : List Oper) (dt : List (Nat × Nat)) (L : List It) : List (Nat × Nat) → List (Nat × Nat) → List Nat → Bool :=
  List.rec (motive := fun _ => List (Nat × Nat) → List (Nat × Nat) → List Nat → Bool)
    (fun tbl _ _ => List.rec (motive := fun _ => Nat → Bool) (fun _ => true) (fun _ _ ih i => band (Option.rec (motive := fun _ => Bool) false (fun _ => true) (lookN tbl i)) (ih (Nat.succ i))) ops 0)
    (fun it _ ih tbl rds effs => Option.rec (motive := fun _ => Bool) false (fun o => band (sItem nt dt tbl rds effs it o) (ih ((it.i, it.anc) :: tbl) (addR it.i it.lk rds) (Bool.rec (motive := fun _ => List Nat) effs (it.i :: effs) it.eff))) (nth ops it.i)) L

/-! ### The run -/
structure Pd where
  i : Nat
  o : Oper
  R : Tr Value
  v : Value
  lo : Nat
  nw : Bool
noncomputable def rst (lk : List Nat) (e : Tr Value) : Tr Value := List.rec (motive := fun _ => Tr Value) (.e 32) (fun t _ ih => Option.rec (motive := fun _ => Tr Value) ih (fun v => ih.set (some v) t) (e.get t)) lk
noncomputable def again (P : Program) (h : Tr Ob) (pd : Pd) : Bool :=
  Option.rec (motive := fun _ => Bool) false (fun r => band (valEq 3 r.1 pd.v) (Option.rec (motive := fun _ => Bool) (nob pd.nw) (fun ob => band pd.nw (obEq (h.get pd.lo) ob)) r.2)) (evPas P pd.o pd.R h pd.lo)
noncomputable def prune (anc : Nat) (pend : List Pd) : List Pd := List.rec (motive := fun _ => List Pd) [] (fun pd _ ih => Bool.rec (motive := fun _ => List Pd) (pd :: ih) ih (anc.testBit pd.i)) pend

noncomputable def dRun (P : Program) (call : CallF) (ops : Array Oper) (L : List It) : Tr Value → Tr Ob → Nat → List Pd → RgR :=
  List.rec (motive := fun _ => Tr Value → Tr Ob → Nat → List Pd → RgR)
    (fun e h N pend => ocond (allB (again P h) pend) (some (e, h, N)))
    (fun it _ ih e h N pend => obind (nth ops.toList it.i) fun o => obind (evWants ops (rst it.lk e) o) fun b => Bool.rec (motive := fun _ => RgR)
      (ih (put e o.dst undef) h N pend)
      (Bool.rec (motive := fun _ => RgR)
        (Option.rec (motive := fun _ => RgR)
          (obind (evPas P o (rst it.lk e) h N) fun r => Option.rec (motive := fun _ => RgR)
            (ih (put e o.dst r.1) h N (⟨it.i, o, rst it.lk e, r.1, N, false⟩ :: pend))
            (fun ob => ih (put e o.dst r.1) (h.set (some ob) N) (Nat.succ N) (⟨it.i, o, rst it.lk e, r.1, N, true⟩ :: pend)) r.2)
          (fun v => ih (put e o.dst v) h N pend) (evPure P o (rst it.lk e) .nil))
        (ocond (allB (again P h) pend) (obind (evStep P call o (rst it.lk e) h N) fun r => ih (put e o.dst r.1) r.2.1 r.2.2 (prune it.anc pend)))
        it.eff) b) L

/-! ### The order: what may come as early as it may, what writes or calls one behind the other -/
noncomputable def bind_ (o : Oper) : List Nat := List.rec (motive := fun _ => List Nat) [] (fun g _ ih => Bool.rec (motive := fun _ => List Nat) ih (g.on :: ih) (Region.binds .any g)) o.after.toList
noncomputable def pick (eff : Bool) (dn : List (Nat × Nat)) (l : List (Nat × Oper)) : Option ((Nat × Oper) × List (Nat × Oper)) :=
  List.rec (motive := fun _ => Option ((Nat × Oper) × List (Nat × Oper))) none
    (fun x t ih => Bool.rec (motive := fun _ => Option ((Nat × Oper) × List (Nat × Oper)))
      (obind ih fun r => some (r.1, x :: r.2)) (some (x, t))
      (band (decide (isEff x.2 = eff)) (allB (fun j => Option.rec (motive := fun _ => Bool) false (fun _ => true) (lookN dn j)) (bind_ x.2)))) l
noncomputable def order (ops : Array Oper) (f : Nat) : List (Nat × Nat) → List (Nat × Oper) → List It :=
  Nat.rec (motive := fun _ => List (Nat × Nat) → List (Nat × Oper) → List It) (fun _ _ => [])
    (fun _ ih dn l => Option.rec (motive := fun _ => List It)
      (Option.rec (motive := fun _ => List It) []
        (fun r => Option.rec (motive := fun _ => List It) [] (fun an => ⟨r.1.1, an, r.1.2.looksAt ops, true⟩ :: ih ((r.1.1, an) :: dn) r.2) (ancF dn r.1.2.after.toList)) (pick true dn l))
      (fun r => Option.rec (motive := fun _ => List It) [] (fun an => ⟨r.1.1, an, r.1.2.looksAt ops, false⟩ :: ih ((r.1.1, an) :: dn) r.2) (ancF dn r.1.2.after.toList)) (pick false dn l)) f
noncomputable def number (l : List Oper) : Nat → List (Nat × Oper) := List.rec (motive := fun _ => Nat → List (Nat × Oper)) (fun _ => []) (fun o _ ih i => (i, o) :: ih (Nat.succ i)) l
/-- The order, if it holds all that is asked. -/
noncomputable def plan (nt : Nat) (ops : Array Oper) : Option (List It) :=
  (fun L => ocond (schk nt ops.toList (dtab ops.toList 0) L [] [] []) (some L)) (order ops (Nat.succ (len ops.toList)) [] (number ops.toList 0))

noncomputable def evDraw (P : Program) (call : CallF) : DrF := fun nt ops e h N =>
  obind (plan nt ops) fun L => dRun P call ops L e h N []

end Go.Ev
end

section
namespace Go.Ev
open Go.RowKit Go.Sx
set_option linter.unusedVariables false
set_option linter.unusedSimpArgs false

theorem nob_ok {b : Bool} (h : nob b = true) : b = false := by cases b <;> first | rfl | cases h
theorem orb_ok {a b : Bool} (h : orb a b = true) : a = true ∨ b = true := by cases a <;> cases b <;> first | exact .inl rfl | exact .inr rfl | cases h
theorem bit_or (a b j : Nat) : (Nat.lor a b).testBit j = (a.testBit j || b.testBit j) := Nat.testBit_or a b j
theorem bit_pow (i j : Nat) : (Nat.pow 2 i).testBit j = decide (i = j) := Nat.testBit_two_pow

theorem lookN_mem : ∀ {tbl : List (Nat × Nat)} {i m : Nat}, lookN tbl i = some m → (i, m) ∈ tbl
  | [], i, m, h => by cases h
  | x :: tbl, i, m, h => by
    rw [lookN_cons] at h
    by_cases e : x.1 = i
    · rw [if_pos e] at h
      cases h
      subst e
      simp
    · rw [if_neg e] at h
      exact List.mem_cons_of_mem _ (lookN_mem h)

theorem ancF_ok {tbl : List (Nat × Nat)} : ∀ {gs : List Edge} {m : Nat}, ancF tbl gs = some m →
    (∀ g ∈ gs, Region.binds .any g = true → m.testBit g.on = true ∧ ∃ k, lookN tbl g.on = some k) ∧
    (∀ j, m.testBit j = true → ∃ g ∈ gs, Region.binds .any g = true ∧ (j = g.on ∨ ∃ k, lookN tbl g.on = some k ∧ k.testBit j = true))
  | [], m, h => by
    cases h
    exact ⟨(fun g hg => by cases hg), (fun j hj => by rw [Nat.zero_testBit] at hj; cases hj)⟩
  | g :: gs, m, h => by
    have h' : Bool.rec (motive := fun _ => Option Nat) (ancF tbl gs) (obind (lookN tbl g.on) fun m => obind (ancF tbl gs) fun r => some (Nat.lor (Nat.lor (Nat.pow 2 g.on) m) r)) (Region.binds .any g) = some m := h
    cases hb : Region.binds .any g with
    | false =>
      rw [hb] at h'
      obtain ⟨h1, h2⟩ := ancF_ok h'
      refine ⟨fun g' hg' hb' => ?_, fun j hj => ?_⟩
      · rcases List.mem_cons.1 hg' with e | e
        · subst e; rw [hb] at hb'; cases hb'
        · exact h1 g' e hb'
      · obtain ⟨g', h3, h4⟩ := h2 j hj
        exact ⟨g', List.mem_cons_of_mem _ h3, h4⟩
    | true =>
      rw [hb] at h'
      obtain ⟨k, hk, h'⟩ := obind_some h'
      obtain ⟨r, hr, h'⟩ := obind_some h'
      cases h'
      obtain ⟨h1, h2⟩ := ancF_ok hr
      refine ⟨fun g' hg' hb' => ?_, fun j hj => ?_⟩
      · rcases List.mem_cons.1 hg' with e | e
        · subst e
          exact ⟨by rw [bit_or, bit_or, bit_pow]; simp, k, hk⟩
        · obtain ⟨h3, h4⟩ := h1 g' e hb'
          exact ⟨by rw [bit_or, h3]; simp, h4⟩
      · rw [bit_or, bit_or, bit_pow] at hj
        simp only [Bool.or_eq_true, decide_eq_true_eq] at hj
        rcases hj with (hj | hj) | hj
        · exact ⟨g, by simp, hb, .inl hj.symm⟩
        · exact ⟨g, by simp, hb, .inr ⟨k, hk, hj⟩⟩
        · obtain ⟨g', h3, h4⟩ := h2 j hj
          exact ⟨g', List.mem_cons_of_mem _ h3, h4⟩

theorem dtab_mem : ∀ {l : List Oper} {i j t : Nat} {o : Oper}, l[j]? = some o → o.dst = some t → (i + j, t) ∈ dtab l i
  | [], i, j, t, o, h, hd => by simp at h
  | x :: l, i, 0, t, o, h, hd => by
    simp at h
    subst h
    show (i + 0, t) ∈ Option.rec (motive := fun _ => List (Nat × Nat)) (dtab l (Nat.succ i)) (fun t => (i, t) :: dtab l (Nat.succ i)) x.dst
    rw [hd]
    exact List.mem_cons_self
  | x :: l, i, j + 1, t, o, h, hd => by
    have h1 : (Nat.succ i + j, t) ∈ dtab l (Nat.succ i) := dtab_mem (by simpa using h) hd
    have e : i + (j + 1) = Nat.succ i + j := by omega
    rw [e]
    show _ ∈ Option.rec (motive := fun _ => List (Nat × Nat)) (dtab l (Nat.succ i)) (fun t => (i, t) :: dtab l (Nat.succ i)) x.dst
    cases x.dst with
    | none => exact h1
    | some u => exact List.mem_cons_of_mem _ h1

/-- What was gone through so far. -/
structure Acc (P0 : Program) (nt : Nat) (ops : Array Oper) (e0 : Tr Value) (N0 : Nat) (T : List Tk) (tbl rds : List (Nat × Nat)) (effs : List Nat) (E : Tr Value) (N st : Nat) : Prop where
  tbl1 : ∀ i m, (i, m) ∈ tbl → ∃ τ ∈ T, τ.i = i ∧ τ.anc = m
  tbl2 : ∀ τ ∈ T, ∃ m, lookN tbl τ.i = some m
  uniq : ∀ τ ∈ T, ∀ τ' ∈ T, τ.i = τ'.i → τ = τ'
  op : ∀ τ ∈ T, ops[τ.i]? = some τ.o
  edge : ∀ τ ∈ T, ∀ g ∈ τ.o.after, Region.binds .any g = true → τ.anc.testBit g.on = true
  anc : ∀ τ ∈ T, ∀ j, τ.anc.testBit j = true → ∃ g ∈ τ.o.after, Region.binds .any g = true ∧ (j = g.on ∨ ∃ τ' ∈ T, τ'.i = g.on ∧ τ'.anc.testBit j = true)
  rank : ∀ τ ∈ T, ∀ j, τ.anc.testBit j = true → ∃ τ' ∈ T, τ'.i = j ∧ τ'.rk < τ.rk
  rklt : ∀ τ ∈ T, τ.rk < tbl.length
  effi : ∀ τ ∈ T, τ.isE → τ.i ∈ effs
  effs : ∀ τ ∈ T, ∀ k, k < τ.st → ∃ τe ∈ T, τe.isE ∧ τe.st = k ∧ τ.anc.testBit τe.i = true
  effu : ∀ τ ∈ T, ∀ τ' ∈ T, τ.isE → τ'.isE → τ.st = τ'.st → τ = τ'
  effm : ∀ τ ∈ T, (τ.isE → τ.st < st) ∧ τ.st ≤ st
  effx : ∀ k, k < st → ∃ τ ∈ T, τ.isE ∧ τ.st = k
  num : N0 ≤ N ∧ ∀ τ ∈ T, N0 ≤ τ.lo ∧ τ.lo ≤ τ.hi ∧ τ.hi ≤ N
  disj : ∀ τ ∈ T, ∀ τ' ∈ T, τ.i ≠ τ'.i → τ.hi ≤ τ'.lo ∨ τ'.hi ≤ τ.lo
  dst : ∀ τ ∈ T, ∀ t, τ.o.dst = some t → t < nt ∧ ∀ (j : Nat) (o : Oper), ops[j]? = some o → o.dst = some t → j = τ.i
  rds : ∀ τ ∈ T, ∀ t v, τ.R.get t = some v → (t, τ.i) ∈ rds
  env : ∀ τ ∈ T, ∀ t v, τ.R.get t = some v → (∃ τ' ∈ T, τ'.o.dst = some t ∧ τ'.v = v ∧ τ.anc.testBit τ'.i = true) ∨ (e0.get t = some v ∧ ∀ τ' ∈ T, τ'.o.dst = some t → τ'.anc.testBit τ.i = true)
  want : ∀ τ ∈ T, evWants ops τ.R τ.o = some (match τ.kd with | .skip => false | _ => true)
  skip : ∀ τ ∈ T, τ.kd = .skip → τ.v = undef
  pure : ∀ τ ∈ T, τ.kd = .pure → evPure P0 τ.o τ.R .nil = some τ.v
  cur : ∀ t v, E.get t = some v → (∃ τ ∈ T, τ.o.dst = some t ∧ τ.v = v) ∨ (e0.get t = some v ∧ ∀ τ ∈ T, τ.o.dst ≠ some t)


theorem rst_ok : ∀ {lk : List Nat} {e : Tr Value} {t : Nat} {v : Value}, (rst lk e).get t = some v → t ∈ lk ∧ e.get t = some v
  | [], e, t, v, h => by cases h
  | u :: lk, e, t, v, h => by
    have h' : (Option.rec (motive := fun _ => Tr Value) (rst lk e) (fun v => (rst lk e).set (some v) u) (e.get u)).get t = some v := h
    cases hu : e.get u with
    | none =>
      rw [hu] at h'
      obtain ⟨h1, h2⟩ := rst_ok h'
      exact ⟨List.mem_cons_of_mem _ h1, h2⟩
    | some x =>
      rw [hu] at h'
      have h2 : ((rst lk e).set (some x) u).get t = some v := h'
      rw [Tr.get_set] at h2
      by_cases e1 : t = u
      · rw [if_pos e1] at h2
        cases h2
        subst e1
        exact ⟨by simp, hu⟩
      · rw [if_neg e1] at h2
        obtain ⟨h3, h4⟩ := rst_ok h2
        exact ⟨List.mem_cons_of_mem _ h3, h4⟩

theorem look_some {tbl : List (Nat × Nat)} {i : Nat} (h : Option.rec (motive := fun _ => Bool) true (fun _ => false) (lookN tbl i) = true) : lookN tbl i = none := by
  cases hl : lookN tbl i with
  | none => rfl
  | some m => rw [hl] at h; cases h

theorem Acc.add {P0 : Program} {nt : Nat} {ops : Array Oper} {e0 : Tr Value} {N0 : Nat} {T : List Tk} {tbl rds : List (Nat × Nat)} {effs : List Nat} {E : Tr Value} {N st : Nat} (A : Acc P0 nt ops e0 N0 T tbl rds effs E N st) {it : It} {τ : Tk}
    (hs : sItem nt (dtab ops.toList 0) tbl rds effs it τ.o = true) (hi : τ.i = it.i) (ha : τ.anc = it.anc) (hop : nth ops.toList it.i = some τ.o) (hrk : τ.rk = tbl.length) (hst : τ.st = st) (hlo : N ≤ τ.lo) (hhi : τ.lo ≤ τ.hi) {N' : Nat} (hN : τ.hi ≤ N')
    (hR : τ.R = rst it.lk E) (hw : evWants ops τ.R τ.o = some (match τ.kd with | .skip => false | _ => true)) (hsk : τ.kd = .skip → τ.v = undef) (hpu : τ.kd = .pure → evPure P0 τ.o τ.R .nil = some τ.v)
    {effs' : List Nat} {st' : Nat} (heff : (τ.isE ∧ effs' = τ.i :: effs ∧ st' = st + 1) ∨ (¬ τ.isE ∧ (effs' = effs ∨ effs' = τ.i :: effs) ∧ st' = st)) :
    Acc P0 nt ops e0 N0 (τ :: T) ((it.i, it.anc) :: tbl) (addR it.i it.lk rds) effs' (put E τ.o.dst τ.v) N' st' := by
  obtain ⟨c1, hs⟩ := band_ok hs
  obtain ⟨c2, hs⟩ := band_ok hs
  obtain ⟨c3, hs⟩ := band_ok hs
  obtain ⟨c4, c5⟩ := band_ok hs
  have c1' := look_some c1
  have c2' := optN_ok c2
  obtain ⟨an1, an2⟩ := ancF_ok c2'
  have hop' : ops[τ.i]? = some τ.o := by rw [hi]; rw [nth_eq] at hop; simpa using hop
  have hnew : ∀ τ' ∈ T, τ'.i ≠ τ.i := fun τ' h' e => by
    obtain ⟨m, hm⟩ := A.tbl2 τ' h'
    rw [e, hi, c1'] at hm
    cases hm
  have hef : ∀ j ∈ effs, τ.anc.testBit j = true := fun j hj => by rw [ha]; exact allB_ok c3 j hj
  have hdst : ∀ t, τ.o.dst = some t → t < nt ∧ (∀ (j : Nat) (o : Oper), ops[j]? = some o → o.dst = some t → j = τ.i) ∧ (∀ i, (t, i) ∈ rds → τ.anc.testBit i = true) ∧ t ∉ it.lk := fun t ht => by
    rw [ht] at c5
    obtain ⟨d1, d2⟩ := band_ok c5
    obtain ⟨d2, d3⟩ := band_ok d2
    obtain ⟨d3, d4⟩ := band_ok d3
    refine ⟨Nat.le_of_ble_eq_true d1, fun j o hj hd => ?_, fun i hi' => ?_, fun hm => ?_⟩
    · have hj' : ops.toList[j]? = some o := by simpa using hj
      have := dtab_mem (i := 0) hj' hd
      rw [Nat.zero_add] at this
      rcases orb_ok (allB_ok d2 _ this) with h | h
      · have := nob_ok h
        rw [Nat.beq_refl] at this
        cases this
      · rw [hi]; exact Nat.eq_of_beq_eq_true h
    · rcases orb_ok (allB_ok d3 _ hi') with h | h
      · have := nob_ok h
        rw [Nat.beq_refl] at this
        cases this
      · rw [ha]; exact h
    · have := nob_ok (allB_ok d4 t hm)
      rw [Nat.beq_refl] at this
      cases this
  have hlk : ∀ t ∈ it.lk, ∀ τ' ∈ T, τ'.o.dst = some t → τ.anc.testBit τ'.i = true := fun t ht τ' hτ' hd => by
    have hj' : ops.toList[τ'.i]? = some τ'.o := by simpa using A.op τ' hτ'
    have := dtab_mem (i := 0) hj' hd
    rw [Nat.zero_add] at this
    obtain ⟨m, hm⟩ := A.tbl2 τ' hτ'
    rcases orb_ok (allB_ok (allB_ok c4 t ht) _ this) with h | h
    · have := nob_ok h
      rw [Nat.beq_refl] at this
      cases this
    · dsimp only at h
      rw [hm] at h
      rw [ha]; exact h
  have hancT : ∀ j, τ.anc.testBit j = true → ∃ τ' ∈ T, τ'.i = j := fun j hj => by
    rw [ha] at hj
    obtain ⟨g, h1, h2, h3⟩ := an2 j hj
    obtain ⟨_, k, hk⟩ := an1 g h1 h2
    obtain ⟨τ', h4, h5, h6⟩ := A.tbl1 _ _ (lookN_mem hk)
    rcases h3 with rfl | ⟨k', hk', hb⟩
    · exact ⟨τ', h4, h5⟩
    · rw [hk] at hk'
      cases hk'
      obtain ⟨τ2, h7, h8, _⟩ := A.rank τ' h4 j (by rw [h6]; exact hb)
      exact ⟨τ2, h7, h8⟩
  have hstT : ∀ τ' ∈ T, τ'.st ≤ st := fun τ' h' => (A.effm τ' h').2
  have hst' : st ≤ st' := by rcases heff with ⟨_, _, h⟩ | ⟨_, _, h⟩ <;> omega
  have hsub : ∀ j ∈ effs, j ∈ effs' := fun j hj => by rcases heff with ⟨_, h, _⟩ | ⟨_, h | h, _⟩ <;> rw [h] <;> simp [hj]
  refine ⟨?_, ?_, ?_, ?_, ?_, ?_, ?_, ?_, ?_, ?_, ?_, ?_, ?_, ?_, ?_, ?_, ?_, ?_, ?_, ?_, ?_, ?_⟩
  · -- tbl1
    intro i m hm
    rcases List.mem_cons.1 hm with e | e
    · cases e; exact ⟨τ, by simp, hi, ha⟩
    · obtain ⟨τ', h1, h2⟩ := A.tbl1 i m e
      exact ⟨τ', List.mem_cons_of_mem _ h1, h2⟩
  · -- tbl2
    intro τ' h'
    rw [lookN_cons]
    rcases List.mem_cons.1 h' with e | e
    · subst e; exact ⟨it.anc, by rw [if_pos hi.symm]⟩
    · rw [if_neg (by dsimp only; rw [← hi]; exact (hnew τ' e).symm)]
      exact A.tbl2 τ' e
  · -- uniq
    intro τ1 h1 τ2 h2 he
    rcases List.mem_cons.1 h1 with e1 | e1 <;> rcases List.mem_cons.1 h2 with e2 | e2
    · rw [e1, e2]
    · subst e1; exact absurd he.symm (hnew τ2 e2)
    · subst e2; exact absurd he (hnew τ1 e1)
    · exact A.uniq τ1 e1 τ2 e2 he
  · intro τ' h'
    rcases List.mem_cons.1 h' with e | e
    · subst e; exact hop'
    · exact A.op τ' e
  · intro τ' h' g hg hb
    rcases List.mem_cons.1 h' with e | e
    · subst e; rw [ha]; exact (an1 g (by simpa using hg) hb).1
    · exact A.edge τ' e g hg hb
  · -- anc
    intro τ' h' j hj
    rcases List.mem_cons.1 h' with e | e
    · subst e
      rw [ha] at hj
      obtain ⟨g, h1, h2, h3⟩ := an2 j hj
      refine ⟨g, by simpa using h1, h2, ?_⟩
      rcases h3 with h3 | ⟨k, hk, hb⟩
      · exact .inl h3
      · obtain ⟨τ2, h4, h5, h6⟩ := A.tbl1 _ _ (lookN_mem hk)
        exact .inr ⟨τ2, List.mem_cons_of_mem _ h4, h5, by rw [h6]; exact hb⟩
    · obtain ⟨g, h1, h2, h3⟩ := A.anc τ' e j hj
      refine ⟨g, h1, h2, h3.imp id ?_⟩
      rintro ⟨τ2, h4, h5⟩
      exact ⟨τ2, List.mem_cons_of_mem _ h4, h5⟩
  · -- rank
    intro τ' h' j hj
    rcases List.mem_cons.1 h' with e | e
    · subst e
      obtain ⟨τ2, h1, h2⟩ := hancT j hj
      exact ⟨τ2, List.mem_cons_of_mem _ h1, h2, by rw [hrk]; exact A.rklt τ2 h1⟩
    · obtain ⟨τ2, h1, h2⟩ := A.rank τ' e j hj
      exact ⟨τ2, List.mem_cons_of_mem _ h1, h2⟩
  · -- rklt
    intro τ' h'
    rcases List.mem_cons.1 h' with e | e
    · subst e; rw [hrk]; simp
    · have := A.rklt τ' e; simp; omega
  · -- effi
    intro τ' h' he
    rcases List.mem_cons.1 h' with e | e
    · subst e
      rcases heff with ⟨_, h, _⟩ | ⟨h, _⟩
      · rw [h]; simp
      · exact absurd he h
    · exact hsub _ (A.effi τ' e he)
  · -- effs
    intro τ' h' k hk
    rcases List.mem_cons.1 h' with e | e
    · subst e
      rw [hst] at hk
      obtain ⟨τe, h1, h2, h3⟩ := A.effx k hk
      exact ⟨τe, List.mem_cons_of_mem _ h1, h2, h3, hef _ (A.effi τe h1 h2)⟩
    · obtain ⟨τe, h1, h2⟩ := A.effs τ' e k hk
      exact ⟨τe, List.mem_cons_of_mem _ h1, h2⟩
  · -- effu
    intro τ1 h1 τ2 h2 g1 g2 he
    rcases List.mem_cons.1 h1 with e1 | e1 <;> rcases List.mem_cons.1 h2 with e2 | e2
    · rw [e1, e2]
    · subst e1; have := (A.effm τ2 e2).1 g2; omega
    · subst e2; have := (A.effm τ1 e1).1 g1; omega
    · exact A.effu τ1 e1 τ2 e2 g1 g2 he
  · -- effm
    intro τ' h'
    rcases List.mem_cons.1 h' with e | e
    · subst e
      rw [hst]
      refine ⟨fun he => ?_, hst'⟩
      rcases heff with ⟨_, _, h⟩ | ⟨h, _⟩
      · omega
      · exact absurd he h
    · have := A.effm τ' e
      exact ⟨fun he => by have := this.1 he; omega, by omega⟩
  · -- effx
    intro k hk
    rcases heff with ⟨h1, _, h2⟩ | ⟨_, _, h2⟩
    · rcases Nat.lt_or_ge k st with h | h
      · obtain ⟨τe, g1, g2⟩ := A.effx k h
        exact ⟨τe, List.mem_cons_of_mem _ g1, g2⟩
      · exact ⟨τ, by simp, h1, by omega⟩
    · obtain ⟨τe, g1, g2⟩ := A.effx k (by omega)
      exact ⟨τe, List.mem_cons_of_mem _ g1, g2⟩
  · -- num
    refine ⟨by have := A.num.1; omega, fun τ' h' => ?_⟩
    rcases List.mem_cons.1 h' with e | e
    · subst e; have := A.num.1; omega
    · have := A.num.2 τ' e; omega
  · -- disj
    intro τ1 h1 τ2 h2 he
    rcases List.mem_cons.1 h1 with e1 | e1 <;> rcases List.mem_cons.1 h2 with e2 | e2
    · subst e1; subst e2; exact absurd rfl he
    · subst e1; have := A.num.2 τ2 e2; right; omega
    · subst e2; have := A.num.2 τ1 e1; left; omega
    · exact A.disj τ1 e1 τ2 e2 he
  · intro τ' h' t ht
    rcases List.mem_cons.1 h' with e | e
    · subst e; exact ⟨(hdst t ht).1, (hdst t ht).2.1⟩
    · exact A.dst τ' e t ht
  · -- rds
    intro τ' h' t v ht
    rcases List.mem_cons.1 h' with e | e
    · subst e
      rw [hR] at ht
      rw [hi]
      exact addR_new (rst_ok ht).1
    · exact addR_old (A.rds τ' e t v ht)
  · -- env
    intro τ' h' t v ht
    rcases List.mem_cons.1 h' with e | e
    · subst e
      rw [hR] at ht
      obtain ⟨h1, h2⟩ := rst_ok ht
      rcases A.cur t v h2 with ⟨τ2, h3, h4, h5⟩ | ⟨h3, h4⟩
      · exact .inl ⟨τ2, List.mem_cons_of_mem _ h3, h4, h5, hlk t h1 τ2 h3 h4⟩
      · refine .inr ⟨h3, fun τ2 h5 hd => ?_⟩
        rcases List.mem_cons.1 h5 with e2 | e2
        · subst e2; exact absurd h1 (hdst t hd).2.2.2
        · exact absurd hd (h4 τ2 e2)
    · rcases A.env τ' e t v ht with ⟨τ2, h3, h4⟩ | ⟨h3, h4⟩
      · exact .inl ⟨τ2, List.mem_cons_of_mem _ h3, h4⟩
      · refine .inr ⟨h3, fun τ2 h5 hd => ?_⟩
        rcases List.mem_cons.1 h5 with e2 | e2
        · subst e2; exact (hdst t hd).2.2.1 _ (A.rds τ' e t v ht)
        · exact h4 τ2 e2 hd
  · intro τ' h'
    rcases List.mem_cons.1 h' with e | e
    · subst e; exact hw
    · exact A.want τ' e
  · intro τ' h'
    rcases List.mem_cons.1 h' with e | e
    · subst e; exact hsk
    · exact A.skip τ' e
  · intro τ' h'
    rcases List.mem_cons.1 h' with e | e
    · subst e; exact hpu
    · exact A.pure τ' e
  · -- cur
    intro t v ht
    have old : E.get t = some v → (∀ d, τ.o.dst = some d → d ≠ t) → (∃ τ' ∈ τ :: T, τ'.o.dst = some t ∧ τ'.v = v) ∨ (e0.get t = some v ∧ ∀ τ' ∈ τ :: T, τ'.o.dst ≠ some t) := fun h1 h2 => by
      rcases A.cur t v h1 with ⟨τ2, h3, h4⟩ | ⟨h3, h4⟩
      · exact .inl ⟨τ2, List.mem_cons_of_mem _ h3, h4⟩
      · refine .inr ⟨h3, fun τ' h' hd => ?_⟩
        rcases List.mem_cons.1 h' with e | e
        · subst e; exact h2 t hd rfl
        · exact h4 τ' e hd
    cases hd : τ.o.dst with
    | none =>
      rw [hd] at ht
      exact old ht (fun d h => by rw [hd] at h; cases h)
    | some d =>
      rw [hd] at ht
      have ht' : (E.set (some τ.v) d).get t = some v := ht
      rw [Tr.get_set] at ht'
      by_cases e : t = d
      · rw [if_pos e] at ht'
        cases ht'
        subst e
        exact .inl ⟨τ, by simp, hd, rfl⟩
      · rw [if_neg e] at ht'
        exact old ht' (fun d' h => by rw [hd] at h; cases h; exact fun e' => e e'.symm)

end Go.Ev
end

section
namespace Go.Ev
open Go.RowKit Go.Sx
set_option linter.unusedVariables false
set_option linter.unnecessarySimpa false
set_option linter.unusedSimpArgs false

section
variable {P : Program} {call : CallF} {nt N0 : Nat} {ops : Array Oper} {e0 : Tr Value}

def PendOk (T : List Tk) (pend : List Pd) : Prop :=
  ∀ τ ∈ T, τ.kd = .heap → (∃ τe ∈ T, τe.isE ∧ τe.anc.testBit τ.i = true) ∨ ∃ pd ∈ pend, pd.i = τ.i ∧ pd.o = τ.o ∧ pd.R = τ.R ∧ pd.v = τ.v ∧ pd.lo = τ.lo ∧ (pd.nw = true → τ.hi = τ.lo + 1)

theorem again_ok {h : Tr Ob} {pd : Pd} (ha : again P h pd = true) : ∃ ob, evPas P pd.o pd.R h pd.lo = some (pd.v, ob) ∧ ∀ o, ob = some o → h.get pd.lo = some o ∧ pd.nw = true := by
  unfold again at ha
  cases hp : evPas P pd.o pd.R h pd.lo with
  | none => rw [hp] at ha; cases ha
  | some r =>
    rw [hp] at ha
    obtain ⟨v, ob⟩ := r
    obtain ⟨h1, h2⟩ := band_ok ha
    have := valEq_ok _ _ _ h1
    dsimp only at this
    subst this
    refine ⟨ob, rfl, fun o ho => ?_⟩
    subst ho
    obtain ⟨h3, h4⟩ := band_ok h2
    exact ⟨obEq_ok h4, h3⟩

theorem prune_mem : ∀ {anc : Nat} {pend : List Pd} {pd : Pd}, pd ∈ pend → anc.testBit pd.i = false → pd ∈ prune anc pend
  | anc, [], pd, h, _ => by cases h
  | anc, x :: pend, pd, h, hb => by
    show pd ∈ Bool.rec (motive := fun _ => List Pd) (x :: prune anc pend) (prune anc pend) (anc.testBit x.i)
    rcases List.mem_cons.1 h with e | e
    · subst e; rw [hb]; exact List.mem_cons_self
    · cases anc.testBit x.i with
      | true => exact prune_mem e hb
      | false => exact List.mem_cons_of_mem _ (prune_mem e hb)

theorem complete_ok {tbl : List (Nat × Nat)} : ∀ (l : List Oper) (i : Nat), List.rec (motive := fun _ => Nat → Bool) (fun _ => true) (fun _ _ ih i => band (Option.rec (motive := fun _ => Bool) false (fun _ => true) (lookN tbl i)) (ih (Nat.succ i))) l i = true →
    ∀ j, j < l.length → ∃ m, lookN tbl (i + j) = some m
  | [], i, h, j, hj => by simp at hj
  | x :: l, i, h, j, hj => by
    obtain ⟨h1, h2⟩ := band_ok h
    cases j with
    | zero =>
      cases hl : lookN tbl i with
      | none => rw [hl] at h1; cases h1
      | some m => exact ⟨m, by simpa using hl⟩
    | succ j =>
      have := complete_ok l (Nat.succ i) h2 j (by simpa using hj)
      have e : i + (j + 1) = Nat.succ i + j := by omega
      rw [e]; exact this

theorem dRun_plan (hcall : CallOk P call) {e' : Tr Value} {h' : Tr Ob} {N' : Nat} : ∀ (L : List It) (T : List Tk) (tbl rds : List (Nat × Nat)) (effs : List Nat) (E : Tr Value) (H : Tr Ob) (N st : Nat) (pend : List Pd),
    schk nt ops.toList (dtab ops.toList 0) L tbl rds effs = true → Acc P nt ops e0 N0 T tbl rds effs E N st → PendOk T pend → dRun P call ops L E H N pend = some (e', h', N') →
    ∃ (T' : List Tk) (Hs : Nat → Tr Ob) (m : Nat) (tbl' rds' : List (Nat × Nat)) (effs' : List Nat), Acc P nt ops e0 N0 T' tbl' rds' effs' e' N' m ∧ (∀ τ ∈ T, τ ∈ T') ∧ (∀ i, i < ops.size → ∃ k, lookN tbl' i = some k) ∧ Hs m = h' ∧ st ≤ m ∧
      (∀ τ ∈ T', τ ∈ T ∨ st ≤ τ.st) ∧
      (∀ τ ∈ T', τ.kd = .heap → ∀ k, st ≤ k → τ.st ≤ k → k ≤ m → (∀ τe ∈ T', τe.isE → τe.st < k → τe.anc.testBit τ.i = false) →
        ∃ ob, evPas P τ.o τ.R (Hs k) τ.lo = some (τ.v, ob) ∧ (∀ o, ob = some o → (Hs k).get τ.lo = some o ∧ τ.hi = τ.lo + 1)) ∧
      (∀ τ ∈ T', τ.isE → τ ∈ T ∨ ∃ hx, evStep P call τ.o τ.R (Hs τ.st) τ.lo = some (τ.v, hx, τ.hi) ∧ ∀ id, hx.get id = (Hs (τ.st + 1)).get id ∨ ∃ τ' ∈ T', τ'.st = τ.st + 1 ∧ τ'.lo ≤ id ∧ id < τ'.hi) ∧
      (∀ id, H.get id = (Hs st).get id ∨ ∃ τ ∈ T', τ.st = st ∧ τ.lo ≤ id ∧ id < τ.hi)
  | [], T, tbl, rds, effs, E, H, N, st, pend, hs, A, hp, hr => by
    obtain ⟨h1, h2⟩ := ocond_some hr
    obtain ⟨rfl, rfl, rfl⟩ : e' = E ∧ h' = H ∧ N' = N := by cases h2; exact ⟨rfl, rfl, rfl⟩
    refine ⟨T, fun _ => h', st, tbl, rds, effs, A, fun _ h => h, fun i hi => ?_, rfl, Nat.le_refl _, fun τ h => .inl h, ?_, fun τ h _ => .inl h, fun id => .inl rfl⟩
    · have := complete_ok ops.toList 0 hs i (by simpa using hi)
      simpa using this
    · intro τ hτ hk k h3 h4 h5 h6
      have hks : k = st := by omega
      subst hks
      rcases hp τ hτ hk with ⟨τe, g1, g2, g3⟩ | ⟨pd, g1, g2, g3, g4, g5, g6, g7⟩
      · have := h6 τe g1 g2 ((A.effm τe g1).1 g2)
        rw [g3] at this
        cases this
      · obtain ⟨ob, q1, q2⟩ := again_ok (allB_ok h1 pd g1)
        rw [g3, g4, g5, g6] at q1
        refine ⟨ob, q1, fun o ho => ?_⟩
        obtain ⟨q3, q4⟩ := q2 o ho
        rw [g6] at q3
        exact ⟨q3, g7 q4⟩
  | it :: L, T, tbl, rds, effs, E, H, N, st, pend, hs, A, hp, hr => by
    have hs' : Option.rec (motive := fun _ => Bool) false (fun o => band (sItem nt (dtab ops.toList 0) tbl rds effs it o) (schk nt ops.toList (dtab ops.toList 0) L ((it.i, it.anc) :: tbl) (addR it.i it.lk rds) (Bool.rec (motive := fun _ => List Nat) effs (it.i :: effs) it.eff))) (nth ops.toList it.i) = true := hs
    obtain ⟨o, hop, hr1⟩ := obind_some hr
    obtain ⟨b, hb, hr2⟩ := obind_some hr1
    clear hr hr1 hs
    rw [hop] at hs'
    obtain ⟨hsi, hsl⟩ := band_ok hs'
    clear hs'
    cases b with
    | false =>
      -- the operation is not wanted
      have hr3 : dRun P call ops L (put E o.dst undef) H N pend = some (e', h', N') := hr2
      have A' := A.add (it := it) (τ := { i := it.i, o := o, anc := it.anc, R := rst it.lk E, v := undef, lo := N, hi := N, st := st, kd := .skip, rk := tbl.length }) hsi rfl rfl hop rfl rfl (Nat.le_refl _) (Nat.le_refl _) (Nat.le_refl _) rfl hb (fun _ => rfl) (fun h => by cases h)
        (effs' := Bool.rec (motive := fun _ => List Nat) effs (it.i :: effs) it.eff) (st' := st) (.inr ⟨(fun h => by cases h), (by cases it.eff <;> first | exact .inl rfl | exact .inr rfl), rfl⟩)
      obtain ⟨T', Hs, m, tbl', rds', effs', q1, q2, q3, q4, q5, q6, q7, q8, q9⟩ := dRun_plan hcall L _ _ _ _ _ _ _ _ _ hsl A' (fun τ hτ hk => by
        rcases List.mem_cons.1 hτ with e | e
        · subst e; cases hk
        · rcases hp τ e hk with ⟨τe, g1, g2⟩ | g
          · exact .inl ⟨τe, List.mem_cons_of_mem _ g1, g2⟩
          · exact .inr g) hr3
      refine ⟨T', Hs, m, tbl', rds', effs', q1, fun τ h => q2 τ (List.mem_cons_of_mem _ h), q3, q4, q5, fun τ h => ?_, q7, fun τ h hE => ?_, q9⟩
      · rcases q6 τ h with g | g
        · rcases List.mem_cons.1 g with e | e
          · subst e; exact .inr (Nat.le_refl _)
          · exact .inl e
        · exact .inr g
      · rcases q8 τ h hE with g | g
        · rcases List.mem_cons.1 g with e | e
          · subst e; cases hE
          · exact .inl e
        · exact .inr g
    | true =>
      cases hef : it.eff with
      | false =>
        rw [hef] at hr2 hsl
        have hr3 : Option.rec (motive := fun _ => RgR)
          (obind (evPas P o (rst it.lk E) H N) fun r => Option.rec (motive := fun _ => RgR)
            (dRun P call ops L (put E o.dst r.1) H N (⟨it.i, o, rst it.lk E, r.1, N, false⟩ :: pend))
            (fun ob => dRun P call ops L (put E o.dst r.1) (H.set (some ob) N) (Nat.succ N) (⟨it.i, o, rst it.lk E, r.1, N, true⟩ :: pend)) r.2)
          (fun v => dRun P call ops L (put E o.dst v) H N pend) (evPure P o (rst it.lk E) .nil) = some (e', h', N') := hr2
        clear hr2
        cases hpu : evPure P o (rst it.lk E) .nil with
        | some v =>
          rw [hpu] at hr3
          have A' := A.add (it := it) (τ := { i := it.i, o := o, anc := it.anc, R := rst it.lk E, v := v, lo := N, hi := N, st := st, kd := .pure, rk := tbl.length }) hsi rfl rfl hop rfl rfl (Nat.le_refl _) (Nat.le_refl _) (Nat.le_refl _) rfl hb (fun h => by cases h) (fun _ => hpu)
            (effs' := effs) (st' := st) (.inr ⟨(fun h => by cases h), .inl rfl, rfl⟩)
          obtain ⟨T', Hs, m, tbl', rds', effs', q1, q2, q3, q4, q5, q6, q7, q8, q9⟩ := dRun_plan hcall L _ _ _ _ _ _ _ _ _ hsl A' (fun τ hτ hk => by
            rcases List.mem_cons.1 hτ with e | e
            · subst e; cases hk
            · rcases hp τ e hk with ⟨τe, g1, g2⟩ | g
              · exact .inl ⟨τe, List.mem_cons_of_mem _ g1, g2⟩
              · exact .inr g) hr3
          refine ⟨T', Hs, m, tbl', rds', effs', q1, fun τ h => q2 τ (List.mem_cons_of_mem _ h), q3, q4, q5, fun τ h => ?_, q7, fun τ h hE => ?_, q9⟩
          · rcases q6 τ h with g | g
            · rcases List.mem_cons.1 g with e | e
              · subst e; exact .inr (Nat.le_refl _)
              · exact .inl e
            · exact .inr g
          · rcases q8 τ h hE with g | g
            · rcases List.mem_cons.1 g with e | e
              · subst e; cases hE
              · exact .inl e
            · exact .inr g
        | none =>
          rw [hpu] at hr3
          obtain ⟨⟨v, ob⟩, hpa, hr4⟩ := obind_some hr3
          clear hr3
          cases ob with
          | none =>
            have hr5 : dRun P call ops L (put E o.dst v) H N (⟨it.i, o, rst it.lk E, v, N, false⟩ :: pend) = some (e', h', N') := hr4
            have A' := A.add (it := it) (τ := { i := it.i, o := o, anc := it.anc, R := rst it.lk E, v := v, lo := N, hi := N, st := st, kd := .heap, rk := tbl.length }) hsi rfl rfl hop rfl rfl (Nat.le_refl _) (Nat.le_refl _) (Nat.le_refl _) rfl hb (fun h => by cases h) (fun h => by cases h)
              (effs' := effs) (st' := st) (.inr ⟨(fun h => by cases h), .inl rfl, rfl⟩)
            obtain ⟨T', Hs, m, tbl', rds', effs', q1, q2, q3, q4, q5, q6, q7, q8, q9⟩ := dRun_plan hcall L _ _ _ _ _ _ _ _ _ hsl A' (fun τ hτ hk => by
              rcases List.mem_cons.1 hτ with e | e
              · subst e; exact .inr ⟨_, List.mem_cons_self, rfl, rfl, rfl, rfl, rfl, (fun h => by cases h)⟩
              · rcases hp τ e hk with ⟨τe, g1, g2⟩ | ⟨pd, g1, g2⟩
                · exact .inl ⟨τe, List.mem_cons_of_mem _ g1, g2⟩
                · exact .inr ⟨pd, List.mem_cons_of_mem _ g1, g2⟩) hr5
            refine ⟨T', Hs, m, tbl', rds', effs', q1, fun τ h => q2 τ (List.mem_cons_of_mem _ h), q3, q4, q5, fun τ h => ?_, q7, fun τ h hE => ?_, q9⟩
            · rcases q6 τ h with g | g
              · rcases List.mem_cons.1 g with e | e
                · subst e; exact .inr (Nat.le_refl _)
                · exact .inl e
              · exact .inr g
            · rcases q8 τ h hE with g | g
              · rcases List.mem_cons.1 g with e | e
                · subst e; cases hE
                · exact .inl e
              · exact .inr g
          | some ob =>
            have hr5 : dRun P call ops L (put E o.dst v) (H.set (some ob) N) (Nat.succ N) (⟨it.i, o, rst it.lk E, v, N, true⟩ :: pend) = some (e', h', N') := hr4
            have A' := A.add (it := it) (τ := { i := it.i, o := o, anc := it.anc, R := rst it.lk E, v := v, lo := N, hi := N + 1, st := st, kd := .heap, rk := tbl.length }) hsi rfl rfl hop rfl rfl (Nat.le_refl _) (Nat.le_succ _) (Nat.le_refl _) rfl hb (fun h => by cases h) (fun h => by cases h)
              (effs' := effs) (st' := st) (.inr ⟨(fun h => by cases h), .inl rfl, rfl⟩)
            obtain ⟨T', Hs, m, tbl', rds', effs', q1, q2, q3, q4, q5, q6, q7, q8, q9⟩ := dRun_plan hcall L _ _ _ _ _ _ _ _ _ hsl A' (fun τ hτ hk => by
              rcases List.mem_cons.1 hτ with e | e
              · subst e; exact .inr ⟨_, List.mem_cons_self, rfl, rfl, rfl, rfl, rfl, (fun _ => rfl)⟩
              · rcases hp τ e hk with ⟨τe, g1, g2⟩ | ⟨pd, g1, g2⟩
                · exact .inl ⟨τe, List.mem_cons_of_mem _ g1, g2⟩
                · exact .inr ⟨pd, List.mem_cons_of_mem _ g1, g2⟩) hr5
            refine ⟨T', Hs, m, tbl', rds', effs', q1, fun τ h => q2 τ (List.mem_cons_of_mem _ h), q3, q4, q5, fun τ h => ?_, q7, fun τ h hE => ?_, fun id => ?_⟩
            · rcases q6 τ h with g | g
              · rcases List.mem_cons.1 g with e | e
                · subst e; exact .inr (Nat.le_refl _)
                · exact .inl e
              · exact .inr g
            · rcases q8 τ h hE with g | g
              · rcases List.mem_cons.1 g with e | e
                · subst e; cases hE
                · exact .inl e
              · exact .inr g
            · by_cases e : id = N
              · subst e
                exact .inr ⟨_, q2 _ List.mem_cons_self, rfl, Nat.le_refl _, Nat.lt_succ_self _⟩
              · rcases q9 id with g | g
                · rw [Tr.get_set, if_neg e] at g
                  exact .inl g
                · exact .inr g
      | true =>
        rw [hef] at hr2 hsl
        obtain ⟨hag, hr3⟩ := ocond_some hr2
        obtain ⟨⟨v, hx, Nx⟩, hst, hr4⟩ := obind_some hr3
        clear hr2 hr3
        have hNx : N ≤ Nx := evStep_num hcall hst
        have hr5 : dRun P call ops L (put E o.dst v) hx Nx (prune it.anc pend) = some (e', h', N') := hr4
        obtain ⟨τ0, hτ0⟩ : ∃ τ0 : Tk, τ0 = { i := it.i, o := o, anc := it.anc, R := rst it.lk E, v := v, lo := N, hi := Nx, st := st, kd := .eff, rk := tbl.length } := ⟨_, rfl⟩
        have hE0 : τ0.isE := by rw [hτ0]; rfl
        have A' := A.add (it := it) (τ := τ0) (by rw [hτ0]; exact hsi) (by rw [hτ0]) (by rw [hτ0]) (by rw [hτ0]; exact hop) (by rw [hτ0]) (by rw [hτ0]) (by rw [hτ0]; exact Nat.le_refl _) (by rw [hτ0]; exact hNx) (N' := Nx) (by rw [hτ0]; exact Nat.le_refl _) (by rw [hτ0]) (by rw [hτ0]; exact hb)
          (by rw [hτ0]; exact fun h => by cases h) (by rw [hτ0]; exact fun h => by cases h) (effs' := it.i :: effs) (st' := st + 1) (.inl ⟨hE0, by rw [hτ0], rfl⟩)
        have hput : put E τ0.o.dst τ0.v = put E o.dst v := by rw [hτ0]
        rw [hput] at A'
        obtain ⟨T', Hs, m, tbl', rds', effs', q1, q2, q3, q4, q5, q6, q7, q8, q9⟩ := dRun_plan hcall L _ _ _ _ _ _ _ _ _ hsl A' (fun τ hτ hk => by
          rcases List.mem_cons.1 hτ with e | e
          · rw [e, hτ0] at hk; cases hk
          · rcases hp τ e hk with ⟨τe, g1, g2⟩ | ⟨pd, g1, g2, g3⟩
            · exact .inl ⟨τe, List.mem_cons_of_mem _ g1, g2⟩
            · cases hbit : it.anc.testBit τ.i with
              | true => exact .inl ⟨τ0, List.mem_cons_self, hE0, by rw [hτ0]; exact hbit⟩
              | false => exact .inr ⟨pd, prune_mem g1 (by rw [g2]; exact hbit), g2, g3⟩) hr5
        have hH1 : ∀ k, st < k → (if k ≤ st then H else Hs k) = Hs k := fun k h => if_neg (by omega)
        have hH0 : (if st ≤ st then H else Hs st) = H := if_pos (Nat.le_refl _)
        refine ⟨T', fun k => if k ≤ st then H else Hs k, m, tbl', rds', effs', q1, fun τ h => q2 τ (List.mem_cons_of_mem _ h), q3, ?_, by omega, fun τ h => ?_, ?_, fun τ h hE => ?_, fun id => .inl ?_⟩
        · dsimp only; rw [hH1 m (by omega)]; exact q4
        · rcases q6 τ h with g | g
          · rcases List.mem_cons.1 g with e | e
            · subst e; exact .inr (by rw [hτ0]; exact Nat.le_refl _)
            · exact .inl e
          · exact .inr (by omega)
        · intro τ hτ hk k h3 h4 h5 h6
          dsimp only
          rcases Nat.lt_or_ge st k with hlt | hge
          · rw [hH1 k hlt]
            exact q7 τ hτ hk k hlt h4 h5 h6
          · have hks : k = st := by omega
            subst hks
            rw [hH0]
            have hτT : τ ∈ T := by
              rcases q6 τ hτ with g | g
              · rcases List.mem_cons.1 g with e | e
                · rw [e, hτ0] at hk; cases hk
                · exact e
              · omega
            rcases hp τ hτT hk with ⟨τe, g1, g2, g3⟩ | ⟨pd, g1, g2, g3, g4, g5, g6, g7⟩
            · have := h6 τe (q2 τe (List.mem_cons_of_mem _ g1)) g2 ((A.effm τe g1).1 g2)
              rw [g3] at this
              cases this
            · obtain ⟨ob, r1, r2⟩ := again_ok (allB_ok hag pd g1)
              rw [g3, g4, g5, g6] at r1
              refine ⟨ob, r1, fun o ho => ?_⟩
              obtain ⟨r3, r4⟩ := r2 o ho
              rw [g6] at r3
              exact ⟨r3, g7 r4⟩
        · rcases q8 τ h hE with g | ⟨hy, g1, g2⟩
          · rcases List.mem_cons.1 g with e | e
            · right
              have hs0 : τ.st = st := by rw [e, hτ0]
              refine ⟨hx, ?_, fun id => ?_⟩
              · dsimp only
                rw [hs0, hH0, e, hτ0]
                exact hst
              · dsimp only
                rw [hs0, hH1 (st + 1) (Nat.lt_succ_self _)]
                exact q9 id
            · exact .inl e
          · rcases q6 τ h with g3 | g3
            · rcases List.mem_cons.1 g3 with e | e
              · right
                have hs0 : τ.st = st := by rw [e, hτ0]
                refine ⟨hx, ?_, fun id => ?_⟩
                · dsimp only
                  rw [hs0, hH0, e, hτ0]
                  exact hst
                · dsimp only
                  rw [hs0, hH1 (st + 1) (Nat.lt_succ_self _)]
                  exact q9 id
              · exact .inl e
            · right
              refine ⟨hy, ?_, fun id => ?_⟩
              · dsimp only
                rw [hH1 τ.st (by omega)]
                exact g1
              · dsimp only
                rw [hH1 (τ.st + 1) (by omega)]
                exact g2 id
        · dsimp only; rw [hH0]

/-- A drawn region goes as the evaluator says. -/
theorem evDraw_ok (hmix : P.follows .mixedOrders = true) (hcall : CallOk P call) : DrawOk P (evDraw P call) := by
  intro nt ops e h N e' h' N' hr
  obtain ⟨L, hL, hr1⟩ := obind_some hr
  have hL' : ocond (schk nt ops.toList (dtab ops.toList 0) (order ops (Nat.succ (len ops.toList)) [] (number ops.toList 0)) [] [] []) (some (order ops (Nat.succ (len ops.toList)) [] (number ops.toList 0))) = some L := hL
  obtain ⟨hs, hL2⟩ := ocond_some hL'
  cases hL2
  have A : Acc P nt ops e N [] [] [] [] e N 0 := by
    refine ⟨?_, ?_, ?_, ?_, ?_, ?_, ?_, ?_, ?_, ?_, ?_, ?_, ?_, ?_, ?_, ?_, ?_, ?_, ?_, ?_, ?_, ?_⟩
    · intro i m hm; cases hm
    · intro τ hτ; cases hτ
    · intro τ hτ; cases hτ
    · intro τ hτ; cases hτ
    · intro τ hτ; cases hτ
    · intro τ hτ; cases hτ
    · intro τ hτ; cases hτ
    · intro τ hτ; cases hτ
    · intro τ hτ; cases hτ
    · intro τ hτ; cases hτ
    · intro τ hτ; cases hτ
    · intro τ hτ; cases hτ
    · intro k hk; omega
    · exact ⟨Nat.le_refl _, fun τ hτ => by cases hτ⟩
    · intro τ hτ; cases hτ
    · intro τ hτ; cases hτ
    · intro τ hτ; cases hτ
    · intro τ hτ; cases hτ
    · intro τ hτ; cases hτ
    · intro τ hτ; cases hτ
    · intro τ hτ; cases hτ
    · intro t v ht; exact .inr ⟨ht, fun τ hτ => by cases hτ⟩
  obtain ⟨T, Hs, m, tbl, rds, effs, q1, q2, q3, q4, q5, q6, q7, q8, q9⟩ := dRun_plan hcall _ _ _ _ _ _ _ _ _ _ hs A (fun τ hτ => by cases hτ) hr1
  have p : Plan P call nt ops e h N T Hs m e' N' := by
    refine ⟨?_, q1.uniq, q1.op, q1.edge, q1.anc, q1.rank, q1.effs, q1.effu, q1.effm, q1.effx, q1.num, q1.disj, ?_, ?_, q1.want, q1.skip, q1.pure, ?_, ?_, ?_, q1.cur⟩
    · intro i hi
      obtain ⟨k, hk⟩ := q3 i hi
      obtain ⟨τ, h1, h2, _⟩ := q1.tbl1 _ _ (lookN_mem hk)
      exact ⟨τ, h1, h2⟩
    · intro τ hτ t ht
      obtain ⟨h1, h2⟩ := q1.dst τ hτ t ht
      exact ⟨h1, fun τ' h3 h4 => h2 τ'.i τ'.o (q1.op τ' h3) h4⟩
    · exact q1.env
    · intro τ hτ hk k h1 h2 h3
      exact q7 τ hτ hk k (Nat.zero_le _) h1 h2 h3
    · intro τ hτ hE
      rcases q8 τ hτ hE with g | g
      · cases g
      · exact g
    · intro id
      rcases q9 id with g | ⟨τ, g1, g2, g3⟩
      · exact .inl g
      · exact .inr ⟨τ, g1, g3⟩
  refine ⟨q1.num.1, fun w0 σ a w id rb Q H hE hf hQ => ?_⟩
  subst q4
  exact p.sound hcall hmix H hE hf hQ

/-- A closed call. -/
theorem closed (hmix : P.follows .mixedOrders = true) {d f : Nat} {v : Value} {h' : Tr Ob} {N' : Nat} (hr : ev P (evDraw P) d (.func (.func f) ⟨[]⟩ ⟨[]⟩) [] .nil 0 = some (v, h', N')) (hv : plain v = true) (w : World) :
    Calls P f #[] w fun e w' => e = .returned v ∧ Below w.heap.size w w' := ev_closed (fun _ hc => evDraw_ok hmix hc) hr hv w
end
end Go.Ev
end

section
namespace Go.Ev
open Go.RowKit Go.Sx
set_option linter.unusedVariables false
set_option linter.unusedSimpArgs false

section
variable {P : Program} {w0 : Fen} {w : World} {σ : Sg} {h : Tr Ob} {e : Tr Value} {n N nt : Nat} {a : Act}

theorem HR.sub {h' : Tr Ob} (H : HR w0 σ h w) (hs : ∀ i o, h'.get i = some o → h.get i = some o) : HR w0 σ h' w :=
  ⟨H.bel, H.low, fun i b r o hi ho => H.ob i b r o hi (hs i o ho), fun i j b r r' hi hj h1 h2 => by
    cases g1 : h'.get i with
    | none => rw [g1] at h1; cases h1
    | some o1 =>
      cases g2 : h'.get j with
      | none => rw [g2] at h2; cases h2
      | some o2 => exact H.inj i j b r r' hi hj (by rw [hs i o1 g1]; rw [g1] at h1; exact h1) (by rw [hs j o2 g2]; rfl), fun i b r hi h1 => by
    cases g1 : h'.get i with
    | none => rw [g1] at h1; cases h1
    | some o1 => exact H.own i b r hi (by rw [hs i o1 g1]; rw [g1] at h1; exact h1)⟩
theorem ER.sub {e' : Tr Value} {tm : Array Value} (H : ER σ e n tm) (hs : ∀ t v, e'.get t = some v → e.get t = some v) : ER σ e' n tm :=
  ⟨H.size, fun t v ht => H.at_ t v (hs t v ht)⟩

noncomputable def mkT {α : Type} (l : List (Nat × α)) : Tr α := List.rec (motive := fun _ => Tr α) .nil (fun x _ ih => ih.set (some x.2) x.1) l
theorem mkT_get {α : Type} : ∀ {l : List (Nat × α)} {t : Nat} {v : α}, (mkT l).get t = some v → (t, v) ∈ l
  | [], t, v, h => by cases h
  | (i, u) :: l, t, v, h => by
    have h' : ((mkT l).set (some u) i).get t = some v := h
    rw [Tr.get_set] at h'
    by_cases e : t = i
    · rw [if_pos e] at h'
      cases h'
      subst e
      exact List.mem_cons_self
    · rw [if_neg e] at h'
      exact List.mem_cons_of_mem _ (mkT_get h')

noncomputable def opV (a : Option Value) (b : Value) : Bool := Option.rec (motive := fun _ => Bool) false (fun v => valEq 9 v b) a
theorem opV_ok {a : Option Value} {b : Value} (h : opV a b = true) : a = some b := by
  cases a with
  | none => cases h
  | some v => rw [valEq_ok 9 _ _ h]
noncomputable def incE (e : Tr Value) (l : List (Nat × Value)) : Bool := allB (fun x => opV (e.get x.1) x.2) l
theorem incE_ok {l : List (Nat × Value)} (h : incE e l = true) : ∀ t v, (mkT l).get t = some v → e.get t = some v :=
  fun t v ht => opV_ok (allB_ok h _ (mkT_get ht))

noncomputable def obE (a : Option Ob) (b : Ob) : Bool :=
  match a, b with
  | some (.c xs T), .c ys T' => band (Nat.beq T T') (listEq (valEq 9) xs ys)
  | some (.g xs T z), .g ys T' z' => band (Nat.beq T T') (band (Nat.beq z z') (listEq (valEq 9) xs ys))
  | some (.m xs c), .m ys c' => band (Nat.beq c c') (listEq (fun x y => band (valEq 9 x.1 y.1) (band (valEq 9 x.2.1 y.2.1) (Nat.beq x.2.2 y.2.2))) xs ys)
  | some .d, .d => true
  | _, _ => false
theorem obE_ok {a : Option Ob} {b : Ob} (h : obE a b = true) : a = some b := by
  unfold obE at h
  split at h
  · obtain ⟨h1, h2⟩ := band_ok h; rw [Nat.eq_of_beq_eq_true h1, listEq_ok (valEq_ok 9) _ _ h2]
  · obtain ⟨h1, h2⟩ := band_ok h; obtain ⟨h3, h4⟩ := band_ok h2; rw [Nat.eq_of_beq_eq_true h1, Nat.eq_of_beq_eq_true h3, listEq_ok (valEq_ok 9) _ _ h4]
  · obtain ⟨h1, h2⟩ := band_ok h
    rw [Nat.eq_of_beq_eq_true h1, listEq_ok (fun x y hxy => by
      obtain ⟨g1, g2⟩ := band_ok hxy
      obtain ⟨g3, g4⟩ := band_ok g2
      obtain ⟨x1, x2, x3⟩ := x
      obtain ⟨y1, y2, y3⟩ := y
      simp only at g1 g3 g4
      rw [valEq_ok 9 _ _ g1, valEq_ok 9 _ _ g3, Nat.eq_of_beq_eq_true g4]) _ _ h2]
  · rfl
  · cases h
noncomputable def incH (h : Tr Ob) (l : List (Nat × Ob)) : Bool := allB (fun x => obE (h.get x.1) x.2) l
theorem incH_ok {l : List (Nat × Ob)} (hh : incH h l = true) : ∀ i o, (mkT l).get i = some o → h.get i = some o :=
  fun i o ho => obE_ok (allB_ok hh _ (mkT_get ho))

/-! ### What is left of a body -/
/-- How the body ends: with the result v; the blocks hL are as told; no number from E on is used. -/
structure Goal where
  v : Value
  hL : List (Nat × Ob)
  E : Nat
/-- The rest of the function's body ends so. -/
def Left (P : Program) (fn : Func) (c : Code) (e : Tr Value) (ds : List Nat) (h : Tr Ob) (N : Nat) (g : Goal) : Prop :=
  N ≤ g.E ∧ ∀ (R : Ending → World → Prop) (w0 : Fen) (σ : Sg) (a : Act) (w : World), HR w0 σ h w → AR σ e fn.ntmps ds a → Fresh σ N g.E →
    (∀ σ' w', Ext σ σ' N g.E → HR w0 σ' (mkT g.hL) w' → R (.returned g.v) w') → c.wpIn (Fr none) 0 P (bodyPostM (Fr none) 0 P fn R) a w

variable {call : CallF} {dr : DrF} {fn : Func} {ds : List Nat} {v : Goal}

theorem Left.sub {c : Code} {e' : Tr Value} {h' : Tr Ob} (hl : Left P fn c e' ds h' N v) (he : ∀ t v, e'.get t = some v → e.get t = some v) (hh : ∀ i o, h'.get i = some o → h.get i = some o) : Left P fn c e ds h N v :=
  ⟨hl.1, fun R w0 σ a w H hA hf hR => hl.2 R w0 σ a w (H.sub hh) ⟨hA.env.sub he, hA.marks⟩ hf hR⟩

theorem Left.seq (hcall : CallOk P call) (hdr : DrawOk P dr) {x y : Code} {e1 : Tr Value} {ds1 : List Nat} {h1 : Tr Ob} {N1 : Nat}
    (hr : (evCode P fn.ntmps x).f call dr none e ds h N = .ok .n e1 ds1 h1 N1) (hl : Left P fn y e1 ds1 h1 N1 v) : Left P fn (.seq x y) e ds h N v := by
  obtain ⟨g1, g2⟩ := evCode_ok (nt := fn.ntmps) (r := none) hcall hdr x _ _ _ _ _ _ _ _ _ hr
  obtain ⟨l1, l2⟩ := hl
  refine ⟨Nat.le_trans g1 l1, fun R w0 σ a w H hA hf hR => ?_⟩
  refine wpIn_seq (wpIn_mono (g2 w0 σ a w none H hA (hf.sub (Nat.le_refl _) l1) trivial) ?_)
  rintro E a1 w1 ⟨rfl, σ1, g3, g4, g5⟩
  exact l2 R w0 σ1 a1 w1 g4 g5 (g3.fresh hf g1) (fun σ' w' t1 t2 => hR σ' w' (g3.trans t1 g1 l1) t2)

/-- The end of a body. -/
noncomputable def evTail (P : Program) (call : CallF) (dr : DrF) (nt : Nat) (rs : List ResultVar) (hL : List (Nat × Ob)) (E : Nat) (c : Code) (e : Tr Value) (ds : List Nat) (h : Tr Ob) (N : Nat) : Option Value :=
  Res.rec (motive := fun _ => Option Value) none (fun x e ds h N => Ex.rec (motive := fun _ => Option Value)
    (obind (unmark ds h) fun h' => ocond (incH h' hL) (ocond (Nat.ble N E) (obind (evRvs P e h' rs) fun vs => some (pack vs)))) (fun _ => none)
    (obind (unmark ds h) fun h' => ocond (incH h' hL) (ocond (Nat.ble N E) (obind (evRvs P e h' rs) fun vs => some (pack vs)))) x) ((evCode P nt c).f call dr none e ds h N)

theorem Left.last (hcall : CallOk P call) (hdr : DrawOk P dr) {c : Code} (hr : evTail P call dr fn.ntmps fn.results.toList v.hL v.E c e ds h N = some v.v) (hv : scal v.v = true) : Left P fn c e ds h N v := by
  unfold evTail at hr
  cases hcode : (evCode P fn.ntmps c).f call dr none e ds h N with
  | no => rw [hcode] at hr; cases hr
  | ok x e1 ds1 h1 N1 =>
    rw [hcode] at hr
    have hr3 : (obind (unmark ds1 h1) fun h' => ocond (incH h' v.hL) (ocond (Nat.ble N1 v.E) (obind (evRvs P e1 h' fn.results.toList) fun vs => (some (pack vs) : Option Value)))) = some v.v ∧ (x = .n ∨ x = .r) := by
      cases x with
      | n => exact ⟨hr, .inl rfl⟩
      | x id => cases hr
      | r => exact ⟨hr, .inr rfl⟩
    obtain ⟨hr3, hx⟩ := hr3
    obtain ⟨h2, hum, hr4⟩ := obind_some hr3
    obtain ⟨hin, hr5⟩ := ocond_some hr4
    obtain ⟨hE, hr6⟩ := ocond_some hr5
    obtain ⟨vs, hvs, hr7⟩ := obind_some hr6
    have hvv : pack vs = v.v := Option.some.inj hr7
    have hE' : N1 ≤ v.E := Nat.le_of_ble_eq_true hE
    obtain ⟨g1, g2⟩ := evCode_ok (nt := fn.ntmps) (r := none) hcall hdr c _ _ _ _ _ _ _ _ _ hcode
    refine ⟨Nat.le_trans g1 hE', fun R w0 σ a w H hA hf hR => ?_⟩
    refine wpIn_mono (g2 w0 σ a w none H hA (hf.sub (Nat.le_refl _) hE') trivial) ?_
    rintro E a' w' ⟨rfl, σ', g3, g4, g5⟩
    have hleave : LeavesInM (Fr none) 0 P fn a'.tmps R a'.defers .returning w' := by
      refine unmark_ok (σ := σ') ds1 a'.defers h1 w' hum g4 g5.marks ?_
      intro w2 H2
      obtain ⟨u, q1, q2⟩ := run_results rfl H2 g5.env hvs
      refine ⟨u, q2, ?_⟩
      rw [hvv] at q1
      rw [q1.scal_eq hv]
      exact hR σ' w2 (fun i hi => g3 i (by omega)) (H2.sub (incH_ok hin))
    rcases hx with rfl | rfl
    · exact hleave
    · exact hleave

/-! ### Pieces -/
noncomputable def dropC (n : Nat) (c : Code) : Code := Nat.rec (motive := fun _ => Code → Code) (fun c => c) (fun _ ih c => match c with | .seq _ y => ih y | c => c) n c
noncomputable def runN (P : Program) (nt : Nat) (call : CallF) (dr : DrF) (k : (Tr Value → List Nat → Tr Ob → Nat → Bool)) (n : Nat) : Code → Tr Value → List Nat → Tr Ob → Nat → Bool :=
  Nat.rec (motive := fun _ => Code → Tr Value → List Nat → Tr Ob → Nat → Bool) (fun _ e ds h N => k e ds h N)
    (fun _ ih c e ds h N => match c with
      | .seq x y => Res.rec (motive := fun _ => Bool) false (fun X e1 ds1 h1 N1 => Ex.rec (motive := fun _ => Bool) (ih y e1 ds1 h1 N1) (fun _ => false) false X) ((evCode P nt x).f call dr none e ds h N)
      | _ => false) n
theorem runN_ok (hcall : CallOk P call) (hdr : DrawOk P dr) {k : Tr Value → List Nat → Tr Ob → Nat → Bool} : ∀ (n : Nat) (c : Code) (e : Tr Value) (ds : List Nat) (h : Tr Ob) (N : Nat), runN P fn.ntmps call dr k n c e ds h N = true →
    (∀ e ds h N, k e ds h N = true → Left P fn (dropC n c) e ds h N v) → Left P fn c e ds h N v
  | 0, c, e, ds, h, N, hr, hk => hk _ _ _ _ hr
  | n + 1, c, e, ds, h, N, hr, hk => by
    cases c with
    | seq x y =>
      have hr' : Res.rec (motive := fun _ => Bool) false (fun X e1 ds1 h1 N1 => Ex.rec (motive := fun _ => Bool) (runN P fn.ntmps call dr k n y e1 ds1 h1 N1) (fun _ => false) false X) ((evCode P fn.ntmps x).f call dr none e ds h N) = true := hr
      cases hc : (evCode P fn.ntmps x).f call dr none e ds h N with
      | no => rw [hc] at hr'; cases hr'
      | ok X e1 ds1 h1 N1 =>
        rw [hc] at hr'
        cases X with
        | n => exact Left.seq hcall hdr hc (runN_ok hcall hdr n y _ _ _ _ hr' hk)
        | x id => cases hr'
        | r => cases hr'
    | _ => cases hr

/-- A state between pieces: how many pieces of the body are done; slots, marks, blocks, the next number. -/
structure Stt where
  k : Nat
  e : List (Nat × Value)
  ds : List Nat
  h : List (Nat × Ob)
  N : Nat

noncomputable def bodyOf (P : Program) (f : Nat) : Code := Option.rec (motive := fun _ => Code) .skip (fun fi => fi.2.1) (fnOf P f)
noncomputable def ntOf (P : Program) (f : Nat) : Nat := Option.rec (motive := fun _ => Nat) 0 (fun fi => fi.1) (fnOf P f)
noncomputable def rsOf (P : Program) (f : Nat) : List ResultVar := Option.rec (motive := fun _ => List ResultVar) [] (fun fi => fi.2.2) (fnOf P f)

/-- From this state on, f's body ends with v. -/
def At (P : Program) (f : Nat) (s : Stt) (v : Goal) : Prop :=
  ∀ fn, P.funcs[f]? = some fn → Left P fn (dropC s.k (bodyOf P f)) (mkT s.e) s.ds (mkT s.h) s.N v

noncomputable def isSeq : Code → Bool
  | .seq _ _ => true
  | _ => false
theorem dropC_no {c : Code} (h : isSeq c = false) : ∀ n, dropC n c = c
  | 0 => rfl
  | n + 1 => by cases c <;> first | rfl | cases h
theorem dropC_add : ∀ (k n : Nat) (c : Code), dropC n (dropC k c) = dropC (k + n) c
  | 0, n, c => by rw [Nat.zero_add]; rfl
  | k + 1, n, c => by
    have e : k + 1 + n = (k + n) + 1 := by omega
    rw [e]
    cases hs : isSeq c with
    | false => rw [dropC_no hs, dropC_no hs, dropC_no hs]
    | true =>
      cases c with
      | seq x y => exact dropC_add k n y
      | _ => cases hs

/-! ### A table of closed calls -/
/-- A call, arguments and the blocks that it may read given: it returns v, and leaves these blocks as they are. -/
structure Row where
  f : Nat
  args : List Value
  h : List (Nat × Ob)
  N : Nat
  v : Value
  E : Nat
def Closed (P : Program) (x : Row) : Prop :=
  callable P x.f ∧ x.N ≤ x.E ∧ ∀ w0 σ w args', HR w0 σ (mkT x.h) w → RlL σ x.args args' → Fresh σ x.N x.E →
    Calls P x.f ⟨args'⟩ w fun e w' => e = .returned x.v ∧ ∃ σ', Ext σ σ' x.N x.E ∧ HR w0 σ' (mkT x.h) w'
abbrev Tab := List Row
noncomputable def obOld (N : Nat) (o : Ob) : Bool :=
  match o with
  | .c xs _ => allOld N xs
  | .g xs _ _ => allOld N xs
  | _ => false
def TabOk (P : Program) (tab : Tab) : Prop := ∀ x ∈ tab, Closed P x ∧ scal x.v = true ∧ allB (fun y => obOld x.N y.2) x.h = true
/-- Where the row asks for no block, its numbers are as one likes. -/
noncomputable def fits (f : Nat) (args : List Value) (h : Tr Ob) (N : Nat) (x : Row) : Bool :=
  band (Nat.beq x.f f) (band (Nat.beq x.N N) (band (listEq (valEq 9) x.args args) (incH h x.h)))
noncomputable def look (f : Nat) (args : List Value) (h : Tr Ob) (N : Nat) (tab : Tab) : Option Row :=
  List.rec (motive := fun _ => Option Row) none (fun x _ ih => Bool.rec (motive := fun _ => Option Row) ih (some x) (fits f args h N x)) tab
theorem look_ok {f : Nat} {args : List Value} {x : Row} : ∀ {tab : Tab}, look f args h N tab = some x → x ∈ tab ∧ fits f args h N x = true
  | [], hh => by cases hh
  | y :: tab, hh => by
    have h' : Bool.rec (motive := fun _ => Option Row) (look f args h N tab) (some y) (fits f args h N y) = some x := hh
    cases hb : fits f args h N y with
    | false => rw [hb] at h'; exact ⟨List.mem_cons_of_mem _ (look_ok h').1, (look_ok h').2⟩
    | true =>
      rw [hb] at h'
      cases h'
      exact ⟨List.mem_cons_self, hb⟩
noncomputable def lookF (tab : Tab) (args : List Value) (h : Tr Ob) (N : Nat) (fv : Value) : Option Row :=
  match fv with
  | .func (.func f) ⟨[]⟩ ⟨[]⟩ => look f args h N tab
  | _ => none
noncomputable def tabAny (P : Program) (tab : Tab) (ih : CallF) (dr : DrF) (fv : Value) (args : List Value) (h : Tr Ob) (N : Nat) : OpR :=
  Option.rec (motive := fun _ => OpR) (evAny P ih dr fv args h N) (fun x => some (x.v, h, x.E)) (lookF tab args h N fv)
noncomputable def evT (P : Program) (tab : Tab) (drw : CallF → DrF) (d : Nat) : CallF :=
  Nat.rec (motive := fun _ => CallF) (fun _ _ _ _ => none) (fun _ ih fv args h N => tabAny P tab ih (drw ih) fv args h N) d

/-- What is told less; all that is not told there stays. -/
def fenX (w : World) (σ : Sg) (h' : Tr Ob) : Fen := ⟨w, fun k => k < w.heap.size ∧ ∀ i r, σ i = some (k, r) → wrB (h'.get i) = true → False, fun _ h => h.1⟩
theorem HR.part (H : HR w0 σ h w) {h' : Tr Ob} (hs : ∀ i o, h'.get i = some o → h.get i = some o) : HR (fenX w σ h') σ h' w := by
  have Hs := H.sub hs
  exact ⟨⟨rfl, rfl, rfl, Nat.le_refl _, fun _ _ => rfl⟩, Hs.low, Hs.ob, Hs.inj, fun i b r hi hl hF => hF.2 i r hi hl⟩
theorem obOld_ok {σ' : Sg} {w' : World} {N N' b r : Nat} {o : Ob} (ho : obOld N o = true) (hE : Ext σ σ' N N') (h : OR σ' w' b r o) : OR σ w' b r o := by
  unfold obOld at ho
  split at ho
  · obtain ⟨cs, h1, h2⟩ := h
    exact ⟨cs, allOld_ok hE ho h1, h2⟩
  · obtain ⟨cs, rest, h1, h2⟩ := h
    exact ⟨cs, rest, allOld_ok hE ho h1, h2⟩
  · cases ho
theorem HR.whole (H : HR w0 σ h w) {h' : Tr Ob} (hs : ∀ i o, h'.get i = some o → h.get i = some o) {σ' : Sg} {w' : World} {N' : Nat} (hf : Fresh σ N N') (hE : Ext σ σ' N N') (H' : HR (fenX w σ h') σ' h' w') (hold : ∀ i o, h'.get i = some o → obOld N o = true) : HR w0 σ h w' := by
  have hle : SLe σ σ' := hE.le hf
  have hkeep : ∀ i b r, σ i = some (b, r) → (h.get i).isSome = true → h'.get i = none → (fenX w σ h').F b := by
    intro i b r hi hl hn
    refine ⟨H.low i b r hi, fun j r' hj hlj => ?_⟩
    have hlj' : wrB (h.get j) = true := by
      cases hg : h'.get j with
      | none => rw [hg] at hlj; cases hlj
      | some o => rw [hs j o hg]; rw [hg] at hlj; exact hlj
    have := H.inj j i b r' r hj hi hlj' hl
    subst this
    rw [hn] at hlj
    cases hlj
  refine ⟨⟨H'.bel.os.trans H.bel.os, H'.bel.tape.trans H.bel.tape, H'.bel.output.trans H.bel.output, Nat.le_trans H.bel.size H'.bel.size, fun k hk => ?_⟩, fun i b r hi => H'.low i b r (hle _ _ hi), ?_, H.inj, H.own⟩
  · refine (H'.bel.block k ⟨Nat.lt_of_lt_of_le (w0.lt k hk) H.bel.size, fun i r hi hl => ?_⟩).trans (H.bel.block k hk)
    refine H.own i k r hi ?_ hk
    cases hg : h'.get i with
    | none => rw [hg] at hl; cases hl
    | some o => rw [hs i o hg]; rw [hg] at hl; exact hl
  · intro i b r o hi ho
    cases hg : h'.get i with
    | none => exact (H.ob i b r o hi ho).mono (SLe.refl σ) (H'.bel.block b (hkeep i b r hi (by rw [ho]; rfl) hg))
    | some o' =>
      have e := hs i o' hg
      rw [ho] at e
      cases e
      exact obOld_ok (hold i o hg) hE (H'.ob i b r o (hle _ _ hi) hg)

theorem tabAny_ok {tab : Tab} (ht : TabOk P tab) (hcall : CallOk P call) (hdr : DrawOk P dr) : CallOk P (tabAny P tab call dr) := by
  intro fv args h N v h' N' hr
  unfold tabAny at hr
  cases hl : lookF tab args h N fv with
  | none =>
    rw [hl] at hr
    exact evAny_ok hcall hdr _ _ _ _ _ _ _ hr
  | some x =>
    rw [hl] at hr
    cases hr
    unfold lookF at hl
    split at hl
    · rename_i f
      obtain ⟨hm, hfit⟩ := look_ok hl
      obtain ⟨⟨hc, hNE, hcl⟩, hpv, hold⟩ := ht _ hm
      obtain ⟨e1, hfit⟩ := band_ok hfit
      obtain ⟨e2, hfit⟩ := band_ok hfit
      obtain ⟨e3, hin⟩ := band_ok hfit
      have e1 := Nat.eq_of_beq_eq_true e1
      have e2 := Nat.eq_of_beq_eq_true e2
      have e3 := listEq_ok (valEq_ok 9) _ _ e3
      subst e1; subst e2; subst e3
      refine ⟨hNE, fun w0 σ w fv' args' H hfv ha hf => ?_⟩
      have hfv' : fv' = .func (.func x.f) ⟨[]⟩ ⟨[]⟩ := by
        cases hfv
        · rfl
        · rename_i gs ds h3 h4 h1 h2
          have e1 : gs = [] := List.length_eq_zero_iff.1 h3.symm
          have e2 : ds = [] := List.length_eq_zero_iff.1 h1.symm
          rw [e1, e2]
      subst hfv'
      refine ⟨_, ?_, .inr (.inl ⟨x.f, _, rfl, (hcl _ σ w args' (H.part (incH_ok hin)) ha hf).mono ?_⟩)⟩
      · have := run_callee (w := w) (args := (⟨args'⟩ : Array Value)) hc
        simp only [Deferred.ofValue, Sem.run_bind, Sem.run_pure, Result.andThen_ok, invoke]
        rw [← this]
        congr 2
        apply Array.ext'
        simp
      · rintro e w' ⟨rfl, σ', q1, q2⟩
        exact ⟨_, rfl, σ, Ext.refl _ _ _, H.whole (incH_ok hin) hf q1 q2 (fun i o ho => allB_ok hold _ (mkT_get ho)), scal_refl hpv⟩
    · cases hl

theorem evT_ok {tab : Tab} (ht : TabOk P tab) {drw : CallF → DrF} (hdr : ∀ call, CallOk P call → DrawOk P (drw call)) : ∀ d, CallOk P (evT P tab drw d)
  | 0 => by intro fv args h N v h' N' hr; cases hr
  | d + 1 => tabAny_ok ht (evT_ok ht hdr d) (hdr _ (evT_ok ht hdr d))

/-! ### What a text shows by the kernel -/
noncomputable def step (P : Program) (tab : Tab) (d f : Nat) (s s' : Stt) : Bool :=
  runN P (ntOf P f) (evT P tab (evDraw P) d) (evDraw P (evT P tab (evDraw P) d))
    (fun e ds h N => band (Nat.beq N s'.N) (band (listEq Nat.beq ds s'.ds) (band (incE e s'.e) (incH h s'.h)))) (Nat.sub s'.k s.k) (dropC s.k (bodyOf P f)) (mkT s.e) s.ds (mkT s.h) s.N
noncomputable def fin (P : Program) (tab : Tab) (d f : Nat) (s : Stt) (g : Goal) : Bool :=
  opV (evTail P (evT P tab (evDraw P) d) (evDraw P (evT P tab (evDraw P) d)) (ntOf P f) (rsOf P f) g.hL g.E (dropC s.k (bodyOf P f)) (mkT s.e) s.ds (mkT s.h) s.N) g.v

theorem fnOf_all {f : Nat} {fn : Func} (hc : fnOf P f ≠ none) (hf : P.funcs[f]? = some fn) : fn.body = some (bodyOf P f) ∧ fn.ntmps = ntOf P f ∧ fn.results.toList = rsOf P f ∧ callable P f := by
  cases h : fnOf P f with
  | none => exact absurd h hc
  | some fi =>
    obtain ⟨nt, c, rs⟩ := fi
    obtain ⟨fn', h1, h2, h3, h4, h5⟩ := fnOf_ok h
    rw [hf] at h1
    cases h1
    refine ⟨?_, ?_, ?_, h5⟩
    · rw [h2]; unfold bodyOf; rw [h]
    · rw [h3]; unfold ntOf; rw [h]
    · rw [h4]; unfold rsOf; rw [h]

theorem At.step (hmix : P.follows .mixedOrders = true) {tab : Tab} (ht : TabOk P tab) {d f : Nat} {s s' : Stt} (hk : Nat.ble s.k s'.k = true) (hc : isNone' (fnOf P f) = false) (hr : step P tab d f s s' = true) (hn : At P f s' v) : At P f s v := by
  intro fn hf
  have hcall := evT_ok ht (fun _ hc => evDraw_ok hmix hc) d
  have hdr := evDraw_ok hmix hcall
  have hc' : fnOf P f ≠ none := fun e => by rw [e] at hc; cases hc
  obtain ⟨g1, g2, g3, g4⟩ := fnOf_all hc' hf
  unfold Go.Ev.step at hr
  rw [← g2] at hr
  refine runN_ok hcall hdr _ _ _ _ _ _ hr ?_
  intro e ds h N hk2
  obtain ⟨q1, q2⟩ := band_ok hk2
  obtain ⟨q3, q4⟩ := band_ok q2
  obtain ⟨q5, q6⟩ := band_ok q4
  have e1 := Nat.eq_of_beq_eq_true q1
  have e2 := listEq_ok (fun x y => Nat.eq_of_beq_eq_true) _ _ q3
  subst e1
  subst e2
  have hle := Nat.le_of_ble_eq_true hk
  have e3 : s.k + (Nat.sub s'.k s.k) = s'.k := by show s.k + (s'.k - s.k) = s'.k; omega
  rw [dropC_add, e3]
  exact (hn fn hf).sub (incE_ok q5) (incH_ok q6)

theorem At.fin (hmix : P.follows .mixedOrders = true) {tab : Tab} (ht : TabOk P tab) {d f : Nat} {s : Stt} (hc : isNone' (fnOf P f) = false) (hr : fin P tab d f s v = true) (hv : scal v.v = true) : At P f s v := by
  intro fn hf
  have hcall := evT_ok ht (fun _ hc => evDraw_ok hmix hc) d
  have hdr := evDraw_ok hmix hcall
  have hc' : fnOf P f ≠ none := fun e => by rw [e] at hc; cases hc
  obtain ⟨g1, g2, g3, g4⟩ := fnOf_all hc' hf
  unfold Go.Ev.fin at hr
  rw [← g2, ← g3] at hr
  exact Left.last hcall hdr (opV_ok hr) hv

noncomputable def numb (l : List Value) : Nat → List (Nat × Value) := List.rec (motive := fun _ => Nat → List (Nat × Value)) (fun _ => []) (fun v _ ih i => (i, v) :: ih (Nat.succ i)) l
theorem numb_env : ∀ (l : List Value) (i t : Nat), (mkT (numb l i)).get t = (envT l i).get t
  | [], i, t => rfl
  | v :: l, i, t => by
    show ((mkT (numb l (Nat.succ i))).set (some v) i).get t = ((envT l (Nat.succ i)).set (some v) i).get t
    rw [Tr.get_set, Tr.get_set, numb_env l]

theorem At.closed {f : Nat} {args : List Value} {hL : List (Nat × Ob)} {N E : Nat} {u : Value} (hc : isNone' (fnOf P f) = false) (hlen : Nat.ble (len args) (ntOf P f) = true) (hNE : Nat.ble N E = true) (hn : At P f ⟨0, numb args 0, [], hL, N⟩ ⟨u, hL, E⟩) : Closed P ⟨f, args, hL, N, u, E⟩ := by
  have hc' : fnOf P f ≠ none := fun e => by rw [e] at hc; cases hc
  cases h : fnOf P f with
  | none => exact absurd h hc'
  | some fi =>
    obtain ⟨fn, hf, _⟩ := fnOf_ok (show fnOf P f = some (fi.1, fi.2.1, fi.2.2) from h)
    obtain ⟨g1, g2, g3, g4⟩ := fnOf_all hc' hf
    refine ⟨g4, Nat.le_of_ble_eq_true hNE, fun w0 σ w args' H hl hfr => ?_⟩
    have hle := Nat.le_of_ble_eq_true hlen
    rw [len_eq, ← g2, hl.len] at hle
    refine callsIn_wide.1 (callsIn_of_wp_marks (F := Fr none) (n := 0) hf g1 trivial ?_)
    have hst := er_start (nt := fn.ntmps) hl hle
    have hn' := hn fn hf
    dsimp only at hn'
    exact hn'.2 _ w0 σ { tmps := _, defers := [] } w H ⟨hst.sub (fun t v ht => by rw [← numb_env]; exact ht), ⟨rfl, fun i d m h => by simp at h⟩⟩ hfr (fun σ' w' t1 t2 => ⟨rfl, σ', t1, t2⟩)

/-- A closed call in whatever world. -/
theorem Closed.calls {f : Nat} {u : Value} {E : Nat} (hc : Closed P ⟨f, [], [], 0, u, E⟩) (w : World) : Calls P f #[] w fun e w' => e = .returned u ∧ Below w.heap.size w w' := by
  have H : HR (.all w) (fun _ => none) (mkT []) w := ⟨Kept.all _, (fun i b r h => by cases h), (fun i b r o h => by cases h), (fun i j b r r' h => by cases h), (fun i b r h => by cases h)⟩
  refine (hc.2.2 (.all w) (fun _ => none) w [] H (.nil _) (fun i _ _ => rfl)).mono ?_
  rintro e w' ⟨rfl, σ', _, H'⟩
  exact ⟨rfl, H'.bel.below⟩
end
end Go.Ev
end

section
namespace Go.Ev
open Go.RowKit Go.Sx
set_option linter.unusedVariables false
set_option linter.unusedSimpArgs false

/-! ### What is read of the code is opened ahead of what is done (these stand high) -/
def hidT (α : Type) : Type := α
def hidT2 (α : Type) : Type := hidT α
def hidT3 (α : Type) : Type := hidT2 α
noncomputable def xbind0 {α β : Type} (x : Option α) (f : α → Option β) : Option β := Option.rec (motive := fun _ => Option (hidT3 β)) none f x
noncomputable def xbind1 {α β : Type} (x : Option α) (f : α → Option β) : Option β := xbind0 x f
noncomputable def xbind2 {α β : Type} (x : Option α) (f : α → Option β) : Option β := xbind1 x f
noncomputable def xbind3 {α β : Type} (x : Option α) (f : α → Option β) : Option β := xbind2 x f
noncomputable def xbind4 {α β : Type} (x : Option α) (f : α → Option β) : Option β := xbind3 x f
noncomputable def xbind5 {α β : Type} (x : Option α) (f : α → Option β) : Option β := xbind4 x f
noncomputable def xbind6 {α β : Type} (x : Option α) (f : α → Option β) : Option β := xbind5 x f
noncomputable def xbind7 {α β : Type} (x : Option α) (f : α → Option β) : Option β := xbind6 x f
noncomputable def xbind8 {α β : Type} (x : Option α) (f : α → Option β) : Option β := xbind7 x f
noncomputable def xbind9 {α β : Type} (x : Option α) (f : α → Option β) : Option β := xbind8 x f
noncomputable def xbind10 {α β : Type} (x : Option α) (f : α → Option β) : Option β := xbind9 x f
noncomputable def xbind11 {α β : Type} (x : Option α) (f : α → Option β) : Option β := xbind10 x f
noncomputable def xbind12 {α β : Type} (x : Option α) (f : α → Option β) : Option β := xbind11 x f
noncomputable def xbind {α β : Type} (x : Option α) (f : α → Option β) : Option β := xbind12 x f
noncomputable def xcond {β : Type} (b : Bool) (x : Option β) : Option β := xbind (ocond b (some ())) fun _ => x
theorem xcond_eq {β : Type} (b : Bool) (x : Option β) : xcond b x = ocond b x := by cases b <;> rfl
theorem xcond_some {β : Type} {b : Bool} {x : Option β} {y : β} (h : xcond b x = some y) : b = true ∧ x = some y := by rw [xcond_eq] at h; exact ocond_some h

/-! ### Quick operations -/
section
variable {P : Program}
noncomputable def ld1 (h : Tr Ob) (v : Value) : Option Value :=
  match v with
  | .pointer (some ⟨i, off, none⟩) => obind (cellsFrom h i off) fun xs => nth xs 0
  | _ => none
noncomputable def ldN (m : Nat) (h : Tr Ob) (v : Value) : Option Value :=
  match v with
  | .pointer (some ⟨i, off, none⟩) => obind (cellsFrom h i off) fun xs => ocond (Nat.ble (Nat.add 0 m) (len xs)) (some (.agg ⟨tak (drp xs 0) m⟩))
  | _ => none
noncomputable def ldT (P : Program) (T : TypeId) (h : Tr Ob) (v : Value) : Option Value :=
  match isAggB P T, sizeB P T with
  | some false, _ => ld1 h v
  | some true, some m => ldN m h v
  | _, _ => none
theorem ldT_eq {T : TypeId} {h : Tr Ob} {v r : Value} (hr : ldT P T h v = some r) : evLoad P h T v = some r := by
  unfold ldT at hr
  split at hr
  · rename_i ha
    unfold ld1 at hr
    split at hr
    · unfold evLoad evRead; simp only [ha]; exact hr
    · cases hr
  · rename_i m ha hm
    unfold ldN at hr
    split at hr
    · unfold evLoad evRead; simp only [ha, hm]; exact hr
    · cases hr
  · cases hr
noncomputable def fad (δ : Nat) (v : Value) : Option Value :=
  match v with
  | .pointer (some ⟨i, off, none⟩) => fN (Nat.add off δ) fun p => some (.pointer (some ⟨i, p, none⟩))
  | _ => none
noncomputable def faT (P : Program) (S k : Nat) : Value → Option Value := Option.rec (motive := fun _ => Value → Option Value) (fun _ => none) fad (fieldOff P S k)
theorem faT_eq {S k : Nat} {v r : Value} (hr : faT P S k v = some r) : evFieldAddr P S k v = some r := by
  unfold faT at hr
  cases hf : fieldOff P S k with
  | none => rw [hf] at hr; cases hr
  | some δ =>
    rw [hf] at hr
    have hr' : fad δ v = some r := hr
    unfold fad at hr'
    split at hr'
    · unfold evFieldAddr; rw [hf]; exact hr'
    · cases hr'
noncomputable def iadS (m : Nat) (v y : Value) : Option Value :=
  match v, y with
  | .slice (some ⟨i, off, _⟩) n _, .int _ q => idx q n fun k => fN (Nat.add off (Nat.mul k m)) fun p => some (.pointer (some ⟨i, p, none⟩))
  | _, _ => none
noncomputable def iadA (n m : Nat) (v y : Value) : Option Value :=
  match v, y with
  | .pointer (some ⟨i, off, none⟩), .int _ q => idx q n fun k => fN (Nat.add off (Nat.mul k m)) fun p => some (.pointer (some ⟨i, p, none⟩))
  | _, _ => none
noncomputable def iaT (P : Program) (T : TypeId) (v y : Value) : Option Value :=
  match P.underlying T with
  | some (.slice e) => Option.rec (motive := fun _ => Option Value) none (fun m => iadS m v y) (sizeB P e)
  | some (.array n e) => Option.rec (motive := fun _ => Option Value) none (fun m => iadA n m v y) (sizeB P e)
  | _ => none
theorem iaT_eq {T : TypeId} {v y r : Value} (hr : iaT P T v y = some r) : evIndexAddr P T v y = some r := by
  unfold iaT at hr
  split at hr
  · rename_i e hT
    cases hm : sizeB P e with
    | none => rw [hm] at hr; cases hr
    | some m =>
      rw [hm] at hr
      have hr' : iadS m v y = some r := hr
      unfold iadS at hr'
      split at hr'
      · unfold evIndexAddr elemOf; simp only [hT]; show obind (sizeB P e) _ = _; rw [hm]; exact hr'
      · cases hr'
  · rename_i n e hT
    cases hm : sizeB P e with
    | none => rw [hm] at hr; cases hr
    | some m =>
      rw [hm] at hr
      have hr' : iadA n m v y = some r := hr
      unfold iadA at hr'
      split at hr'
      · unfold evIndexAddr arrOf; simp only [hT]; show obind (sizeB P e) _ = _; rw [hm]; exact hr'
      · cases hr'
  · cases hr
noncomputable def fl1 (off : Nat) (v : Value) : Option Value :=
  match v with
  | .agg ⟨cs⟩ => nth cs off
  | _ => none
noncomputable def flN (off m : Nat) (v : Value) : Option Value :=
  match v with
  | .agg ⟨cs⟩ => ocond (Nat.ble (Nat.add off m) (len cs)) (some (.agg ⟨tak (drp cs off) m⟩))
  | _ => none
noncomputable def flT (P : Program) (T : TypeId) (k : Nat) (v : Value) : Option Value :=
  match P.underlying T with
  | some (.struct fs) => Option.rec (motive := fun _ => Option Value) none (fun f => match isAggB P f.type, sizeB P f.type with
    | some false, _ => fl1 f.offset v
    | some true, some m => flN f.offset m v
    | _, _ => none) (fs[k]?)
  | _ => none
theorem flT_eq {T : TypeId} {k : Nat} {v r : Value} (hr : flT P T k v = some r) : evField P T v k = some r := by
  unfold flT at hr
  split at hr
  · rename_i fs hT
    cases hf : fs[k]? with
    | none => rw [hf] at hr; cases hr
    | some f =>
      rw [hf] at hr
      dsimp only at hr
      split at hr
      · rename_i ha
        unfold fl1 at hr
        split at hr
        · unfold evField; simp only [hT, hf]; show evRead P f.type _ _ = _; unfold evRead; simp only [ha]; exact hr
        · cases hr
      · rename_i m ha hm
        unfold flN at hr
        split at hr
        · unfold evField; simp only [hT, hf]; show evRead P f.type _ _ = _; unfold evRead; simp only [ha, hm]; exact hr
        · cases hr
      · cases hr
  · cases hr
noncomputable def iop (b : BinOp) (u v : Value) : Option Value :=
  match u, v with
  | .int .i64 i, .int .i64 j => ibin b i j
  | u, v => lbin b u v
noncomputable def quickB : BinOp → Bool
  | .add | .sub | .mul | .eql | .neq | .leq | .geq | .lss | .gtr => true
  | _ => false
noncomputable def bin2 (P : Program) (b : BinOp) (T : TypeId) (x y : Operand) (u v : Value) : Option Value :=
  match quickB b, P.underlying T with
  | true, some (.int .i64) => iop b u v
  | _, _ => evBin P b T x y u v
theorem iop_eq {b : BinOp} {T : TypeId} {x y : Operand} {u v r : Value} (hr : iop b u v = some r) : evBin P b T x y u v = some r := by
  unfold iop at hr
  split at hr
  · unfold evBin
    simp only [hr]
    rfl
  · rename_i h0
    unfold lbin at hr
    split at hr
    · rename_i i k
      have hs : sbin P .gtr T x y (.int .i64 i) (.chan (some k)) = none := rfl
      have hn : nbin P .gtr T (.int .i64 i) (.chan (some k)) = none := rfl
      unfold evBin
      simp only [hs, hn]
      exact hr
    · cases hr
theorem bin2_eq {b : BinOp} {T : TypeId} {x y : Operand} {u v r : Value} (hr : bin2 P b T x y u v = some r) : evBin P b T x y u v = some r := by
  unfold bin2 at hr
  split at hr
  · exact iop_eq hr
  · exact hr
noncomputable def lenS (v : Value) : Option Value :=
  match v with
  | .slice _ n _ => some (.int .i64 (Int.ofNat n))
  | _ => none
noncomputable def lenT (P : Program) (T : TypeId) (h : Tr Ob) (v : Value) : Option Value :=
  match P.underlying T with
  | some (.slice _) => lenS v
  | _ => evLen P h T v
theorem lenT_eq {T : TypeId} {h : Tr Ob} {v r : Value} (hr : lenT P T h v = some r) : evLen P h T v = some r := by
  unfold lenT at hr
  split at hr
  · rename_i e hT
    unfold lenS at hr
    split at hr
    · unfold evLen elemOf; simp only [hT]; exact hr
    · cases hr
  · exact hr
noncomputable def extr (k : Nat) (v : Value) : Option Value :=
  match v with
  | .tuple ⟨vs⟩ => nth vs k
  | _ => none
noncomputable def sto (m : Nat) (p v : Value) (h : Tr Ob) : Option (Tr Ob) :=
  match p with
  | .pointer (some ⟨i, off, none⟩) => ocond (Nat.beq (len (cel v)) m) (ocond (allF (cel v)) (evWrite h i off (cel v)))
  | _ => none
noncomputable def stT (P : Program) (T : TypeId) : Value → Value → Tr Ob → Option (Tr Ob) := Option.rec (motive := fun _ => Value → Value → Tr Ob → Option (Tr Ob)) (fun _ _ _ => none) sto (sizeB P T)
theorem stT_eq {T : TypeId} {p v : Value} {h h1 : Tr Ob} {N : Nat} (hr : stT P T p v h = some h1) : evStore P T p v h N = some (.tuple ⟨[]⟩, h1, N) := by
  unfold stT at hr
  cases hm : sizeB P T with
  | none => rw [hm] at hr; cases hr
  | some m =>
    rw [hm] at hr
    have hr' : sto m p v h = some h1 := hr
    unfold sto at hr'
    split at hr'
    · obtain ⟨h2, hr1⟩ := ocond_some hr'
      obtain ⟨h3, hr2⟩ := ocond_some hr1
      unfold evStore
      simp only [hm]
      show ocond _ (ocond _ (obind _ _)) = _
      rw [h2, h3, hr2]
      rfl
    · cases hr'
end

section
variable {P : Program}
noncomputable def unV (P : Program) (u : UnOp) (v : Value) : Option Value := ocond (scal v) (obind (still P (Op.unary u v)) fun r => ocond (scal r) (some r))
noncomputable def cvV (P : Program) (s d : TypeId) (v : Value) : Option Value := ocond (scal v) (obind (still P (convert s d v)) fun r => ocond (scal r) (some r))
noncomputable def mnV (P : Program) (ts : Array TypeId) (T : TypeId) (vs : List Value) : Option Value := ocond (allP vs) (obind (still P (Builtin.min_ ts T ⟨vs⟩)) fun r => ocond (scal r) (some r))
noncomputable def mxV (P : Program) (ts : Array TypeId) (T : TypeId) (vs : List Value) : Option Value := ocond (allP vs) (obind (still P (Builtin.max_ ts T ⟨vs⟩)) fun r => ocond (scal r) (some r))
noncomputable def pck (c : Value) (x y : Option Value) : Option Value :=
  match c with
  | .bool b => Bool.rec (motive := fun _ => Option Value) y x b
  | _ => none
noncomputable def capS (v : Value) : Option Value :=
  match v with
  | .slice (some ⟨_, _, none⟩) _ c => some (.int .i64 (Int.ofNat c))
  | .slice none _ c => some (.int .i64 (Int.ofNat c))
  | .slice (some ⟨_, _, some _⟩) n c => fN (mx2 n c) fun C => some (.chan (some C))
  | _ => none
noncomputable def capT (P : Program) (T : TypeId) (v : Value) : Option Value := Option.rec (motive := fun _ => Option Value) none (fun _ => capS v) (elemOf P T)
end
/-! ### An operation, its value handed on -/
abbrev Fs := CallF → List Value → Tr Ob → Nat → OpR
abbrev St := List (Nat × Fs)
noncomputable def lookS (st : St) (f : Nat) : Option Fs := List.rec (motive := fun _ => Option Fs) none (fun x _ ih => Bool.rec (motive := fun _ => Option Fs) ih (some x.2) (Nat.beq x.1 f)) st
noncomputable def callS (st : St) (call : CallF) (f : Nat) (vs : List Value) (h : Tr Ob) (N : Nat) : OpR :=
  Option.rec (motive := fun _ => OpR) (call (.func (.func f) ⟨[]⟩ ⟨[]⟩) vs h N) (fun F => F call vs h N) (lookS st f)

/-- Calls: quick ones where they are known. -/
noncomputable def callW (st : St) (call : CallF) : CallF := fun fv args h N =>
  match fv with
  | .func (.func f) ⟨fs⟩ ⟨cs⟩ => Option.rec (motive := fun _ => OpR) (call (.func (.func f) ⟨fs⟩ ⟨cs⟩) args h N) (fun F => F call (app fs (app args cs)) h N) (lookS st f)
  | fv => call fv args h N

/-- What is said of a quick function. -/
def FOk (P : Program) (f : Nat) (F : Fs) : Prop :=
  ∀ call, CallOk P call → ∀ args h N v h' N', F call args h N = some (v, h', N') → callable P f ∧ N ≤ N' ∧ ∀ w0 σ w args', HR w0 σ h w → RlL σ args args' → Fresh σ N N' →
    Calls P f ⟨args'⟩ w fun e w' => ∃ v', e = .returned v' ∧ ∃ σ', Ext σ σ' N N' ∧ HR w0 σ' h' w' ∧ Rl σ' v v'
/-- A closure's call, out of its function's. -/
theorem callV_of {P : Program} {f : Nat} {gs args' ds : List Value} {w : World} {R : Value → World → Prop} (hcal : callable P f) (h : Calls P f ⟨gs ++ (args' ++ ds)⟩ w fun e w' => ∃ v', e = .returned v' ∧ R v' w') :
    CallV P (.func (.func f) ⟨gs⟩ ⟨ds⟩) args' w R := by
  refine ⟨_, ?_, .inr (.inl ⟨f, _, rfl, h⟩)⟩
  have := run_callee (w := w) (args := (⟨gs ++ (args' ++ ds)⟩ : Array Value)) hcal
  simp only [Deferred.ofValue, Sem.run_bind, Sem.run_pure, Result.andThen_ok, invoke]
  rw [← this]
  congr 2
  apply Array.ext'
  simp
def StOk (P : Program) (st : St) : Prop := ∀ x ∈ st, FOk P x.1 x.2
theorem lookS_ok {st : St} {f : Nat} {F : Fs} (h : lookS st f = some F) : (f, F) ∈ st := by
  induction st with
  | nil => cases h
  | cons x st ih =>
    have h' : Bool.rec (motive := fun _ => Option Fs) (lookS st f) (some x.2) (Nat.beq x.1 f) = some F := h
    cases hb : Nat.beq x.1 f with
    | false => rw [hb] at h'; exact List.mem_cons_of_mem _ (ih h')
    | true =>
      rw [hb] at h'
      cases h'
      rw [← Nat.eq_of_beq_eq_true hb]
      exact List.mem_cons_self

/-- What an operation does. -/
def OpOk (P : Program) (o : Oper) (e : Tr Value) (h : Tr Ob) (N : Nat) (v : Value) (h1 : Tr Ob) (N1 : Nat) : Prop :=
  N ≤ N1 ∧ ∀ (w0 : Fen) (σ : Sg) (w : World) (n : Nat) (a : Act), HR w0 σ h w → ER σ e n a.tmps → Fresh σ N N1 → ∀ (K : Act → World → Prop) (Q : Exit → Act → World → Prop) (rb : Option Nat),
    (∀ σ' x w', Ext σ σ' N N1 → HR w0 σ' h1 w' → Rl σ' v x → K (a.put o.dst x) w') → o.wpIn (Fr rb) 0 P a w K Q

noncomputable def cO (P : Program) (st : St) (call : CallF) (o : Oper) (e : Tr Value) (h : Tr Ob) (N : Nat) (K : Value → Tr Ob → Nat → OpR) : OpR :=
  match o.op with
  | .move x => xbind (evo e x) fun v => K v h N
  | .assign x => xbind (evo e x) fun v => K v h N
  | .extract t k => xbind (evo e t) fun p => obind (extr k p) fun v => K v h N
  | .load T x => xbind (evo e x) fun p => obind (ldT P T h p) fun v => K v h N
  | .fieldAddr S x k => xbind (evo e x) fun p => obind (faT P S k p) fun v => K v h N
  | .field T x k => xbind (evo e x) fun p => obind (flT P T k p) fun v => K v h N
  | .indexAddr T x y => xbind (evo e x) fun p => xbind (evo e y) fun q => obind (iaT P T p q) fun v => K v h N
  | .index T x y => xbind (evo e x) fun p => xbind (evo e y) fun q => obind (evIdx P T p q) fun v => K v h N
  | .binOp b T x y _ => xbind (evo e x) fun p => xbind (evo e y) fun q => obind (bin2 P b T x y p q) fun v => K v h N
  | .slice T x lo hi mx => xbind (evo e x) fun p => xbind (optV e lo) fun l => xbind (optV e hi) fun k => xbind (optV e mx) fun m => obind (evSlice P T p l k m) fun v => K v h N
  | .makeFunc (.func f) ⟨fs⟩ ⟨cs⟩ => xbind (evs e fs) fun us => xbind (evs e cs) fun vs => K (.func (.func f) ⟨us⟩ ⟨vs⟩) h N
  | .alloc T => xbind (zer P T) fun z => fN (Nat.succ N) fun N1 => K (.pointer (some ⟨N, 0, none⟩)) (h.set (some (.c z T)) N) N1
  | .box T x => xbind (evo e x) fun v => fN (Nat.succ N) fun N1 => K (.pointer (some ⟨N, 0, none⟩)) (h.set (some (.c (cel v) T)) N) N1
  | .store T x y => xbind (evo e x) fun p => xbind (evo e y) fun v => obind (stT P T p v h) fun h1 => K (.tuple ⟨[]⟩) h1 N
  | .build T ⟨ps⟩ => xbind (evParts e ps) fun qs => obind (evBuild P T qs) fun v => K v h N
  | .buildSlice T m ⟨ps⟩ => xbind (evParts e ps) fun qs => orun (evBuildSlice P T m qs h N) K
  | .makeSlice T x y => xbind (evo e x) fun l => xbind (evo e y) fun c => orun (evMakeSlice P T l c h N) K
  | .mapUpdate T x y z => xbind (evo e x) fun m => xbind (evo e y) fun k => xbind (evo e z) fun v => orun (evMapPut P T m k v h N) K
  | .insert T x y z => xbind (evo e x) fun m => xbind (evo e y) fun k => xbind (evo e z) fun v => orun (evMapPut P T m k v h N) K
  | .lookup T x y ok => xbind (evo e x) fun m => xbind (evo e y) fun k => obind (evLookup P T m k ok h) fun v => K v h N
  | .call { callee := .builtin .len, args := ⟨[x]⟩, argTypes := ⟨[T]⟩ } => xbind (evo e x) fun p => obind (lenT P T h p) fun v => K v h N
  | .call { callee := .builtin .append, args := ⟨[x, y]⟩, argTypes := ⟨[T, T']⟩ } => xbind (evo e x) fun s => xbind (evo e y) fun u => orun (Bool.rec (motive := fun _ => OpR) (evGrowZ P T T' s u h N) (evAppend P T s u h N) (Nat.beq T T')) K
  | .call { callee := .builtin .copy, args := ⟨[x, y]⟩, argTypes := ⟨[T, T']⟩ } => xcond (Nat.beq T T') (xbind (evo e x) fun s => xbind (evo e y) fun u => orun (evCopy P T s u h N) K)
  | .call { callee := .builtin .delete, args := ⟨[x, y]⟩, argTypes := ⟨T :: _⟩ } => xbind (evo e x) fun s => xbind (evo e y) fun u => orun (evDelete P T s u h N) K
  | .makeMap _ none => fN (Nat.succ N) fun N1 => K (.map (some N)) (h.set (some (.m [] 0)) N) N1
  | .pick c x y => xbind (evo e c) fun b => obind (pck b (evo e x) (evo e y)) fun v => K v h N
  | .unOp u _ x => xbind (evo e x) fun p => obind (unV P u p) fun v => K v h N
  | .convert s d x => xbind (evo e x) fun p => obind (cvV P s d p) fun v => K v h N
  | .nilCheck x => xbind (evo e x) fun p => obind (evNil p) fun v => K v h N
  | .call { callee := .builtin .clear, args := ⟨[x]⟩, argTypes := ⟨T :: _⟩ } => xbind (evo e x) fun s => orun (evClear P T s h N) K
  | .call { callee := .builtin .min, args := ⟨xs⟩, argTypes := ts } => xbind (evs e xs) fun vs => obind (mnV P ts o.type vs) fun v => K v h N
  | .call { callee := .builtin .max, args := ⟨xs⟩, argTypes := ts } => xbind (evs e xs) fun vs => obind (mxV P ts o.type vs) fun v => K v h N
  | .call { callee := .builtin .cap, args := ⟨[x]⟩, argTypes := ⟨[T]⟩ } => xbind (evo e x) fun p => obind (capT P T p) fun v => K v h N
  | .call { callee := .value (.func f), args := ⟨xs⟩, .. } => xbind (evs e xs) fun vs => orun (callS st call f vs h N) K
  | .call { callee := .value x, args := ⟨xs⟩, .. } => xbind (evo e x) fun fv => xbind (evs e xs) fun vs => orun (callW st call fv vs h N) K
  | _ => orun (evStep P (callW st call) o e h N) K

section
variable {P : Program} {st : St} {call : CallF} {o : Oper} {e : Tr Value} {h : Tr Ob} {N : Nat} {K : Value → Tr Ob → Nat → OpR} {res : Value × Tr Ob × Nat}

theorem OpOk.of (hcall : CallOk P call) {v : Value} {h1 : Tr Ob} {N1 : Nat} (hs : evStep P call o e h N = some (v, h1, N1)) : OpOk P o e h N v h1 N1 :=
  ⟨evStep_num hcall hs, fun w0 σ w n a H hE hf K Q rb hK => (evStep_ok hcall H hE hs hf).2 K Q rb hK⟩
theorem callW_ok (hst : StOk P st) (hcall : CallOk P call) : CallOk P (callW st call) := by
  intro fv args h N v h' N' hr
  unfold callW at hr
  split at hr
  · rename_i f fs cs
    cases hl : lookS st f with
    | none => rw [hl] at hr; exact hcall _ _ _ _ _ _ _ hr
    | some F =>
      rw [hl] at hr
      have hr' : F call (app fs (app args cs)) h N = some (v, h', N') := hr
      rw [app_eq, app_eq] at hr'
      obtain ⟨h1, h2, h3⟩ := hst _ (lookS_ok hl) call hcall _ _ _ _ _ _ hr'
      refine ⟨h2, fun w0 σ w fv' args' H hfv ha hf => ?_⟩
      cases hfv
      · rename_i hp; simp [plain] at hp
      rename_i gs ds g3 g4 g1 g2
      exact callV_of h1 (h3 w0 σ w _ H ((RlL.mk g3 g4).append (ha.append (RlL.mk g1 g2))) hf)
  · exact hcall _ _ _ _ _ _ _ hr
theorem callW_fn (f : Nat) (vs : List Value) : callW st call (.func (.func f) ⟨[]⟩ ⟨[]⟩) vs h N = callS st call f vs h N := by
  show Option.rec (motive := fun _ => OpR) _ (fun F => F call (app [] (app vs [])) h N) (lookS st f) = Option.rec (motive := fun _ => OpR) _ (fun F => F call vs h N) (lookS st f)
  rw [show app ([] : List Value) (app vs []) = vs by rw [app_eq, app_eq]; simp]

theorem cO_ev (hr : cO P st call o e h N K = some res) : ∃ v h1 N1, K v h1 N1 = some res ∧ evStep P (callW st call) o e h N = some (v, h1, N1) := by
  unfold cO at hr
  split at hr
  · rename_i x ho
    obtain ⟨v, h1, hr⟩ := obind_some hr
    refine ⟨v, h, N, hr, ?_⟩
    simp only [evStep, evOp, evPure, ho, h1]; rfl
  · rename_i x ho
    obtain ⟨v, h1, hr⟩ := obind_some hr
    refine ⟨v, h, N, hr, ?_⟩
    simp only [evStep, evOp, evPure, ho, h1]; rfl
  · rename_i t k ho
    obtain ⟨p, h1, hr⟩ := obind_some hr
    obtain ⟨v, h2, hr⟩ := obind_some hr
    refine ⟨v, h, N, hr, ?_⟩
    unfold extr at h2
    split at h2
    · simp only [evStep, evOp, evPure, ho, h1, h2]; rfl
    · cases h2
  · rename_i T x ho
    obtain ⟨p, h1, hr⟩ := obind_some hr
    obtain ⟨v, h2, hr⟩ := obind_some hr
    refine ⟨v, h, N, hr, ?_⟩
    have h3 := ldT_eq h2
    simp only [evStep, evOp, evPure, ho, h1, obind, h3]
  · rename_i S x k ho
    obtain ⟨p, h1, hr⟩ := obind_some hr
    obtain ⟨v, h2, hr⟩ := obind_some hr
    refine ⟨v, h, N, hr, ?_⟩
    have h3 := faT_eq h2
    simp only [evStep, evOp, evPure, ho, h1, obind, h3]
  · rename_i T x k ho
    obtain ⟨p, h1, hr⟩ := obind_some hr
    obtain ⟨v, h2, hr⟩ := obind_some hr
    refine ⟨v, h, N, hr, ?_⟩
    have h3 := flT_eq h2
    simp only [evStep, evOp, evPure, ho, h1, obind, h3]
  · rename_i T x y ho
    obtain ⟨p, h1, hr⟩ := obind_some hr
    obtain ⟨q, h2, hr⟩ := obind_some hr
    obtain ⟨v, h3, hr⟩ := obind_some hr
    refine ⟨v, h, N, hr, ?_⟩
    have h4 := iaT_eq h3
    simp only [evStep, evOp, evPure, ho, h1, h2, obind, h4]
  · rename_i T x y ho
    obtain ⟨p, h1, hr⟩ := obind_some hr
    obtain ⟨q, h2, hr⟩ := obind_some hr
    obtain ⟨v, h3, hr⟩ := obind_some hr
    refine ⟨v, h, N, hr, ?_⟩
    simp only [evStep, evOp, evPure, ho, h1, h2, obind, h3]
  · rename_i b T x y T' ho
    obtain ⟨p, h1, hr⟩ := obind_some hr
    obtain ⟨q, h2, hr⟩ := obind_some hr
    obtain ⟨v, h3, hr⟩ := obind_some hr
    refine ⟨v, h, N, hr, ?_⟩
    have h4 := bin2_eq h3
    simp only [evStep, evOp, evPure, ho, h1, h2, obind, h4]
  · rename_i T x lo hi mx ho
    obtain ⟨p, h1, hr⟩ := obind_some hr
    obtain ⟨l, h2, hr⟩ := obind_some hr
    obtain ⟨k, h3, hr⟩ := obind_some hr
    obtain ⟨m, h4, hr⟩ := obind_some hr
    obtain ⟨v, h5, hr⟩ := obind_some hr
    refine ⟨v, h, N, hr, ?_⟩
    simp only [evStep, evOp, evPure, ho, h1, h2, h3, h4, obind, h5]
  · rename_i f fs cs ho
    obtain ⟨us, h1, hr⟩ := obind_some hr
    obtain ⟨vs, h2, hr⟩ := obind_some hr
    refine ⟨_, h, N, hr, ?_⟩
    simp only [evStep, evOp, evPure, ho, h1, h2, obind]
  · rename_i T ho
    obtain ⟨z, h1, hr⟩ := obind_some hr
    rw [fN_eq] at hr
    refine ⟨_, _, _, hr, ?_⟩
    simp only [evStep, evOp, ho, h1, obind]
  · rename_i T x ho
    obtain ⟨v, h1, hr⟩ := obind_some hr
    rw [fN_eq] at hr
    refine ⟨_, _, _, hr, ?_⟩
    simp only [evStep, evOp, ho, h1, obind, evBox]
  · rename_i T x y ho
    obtain ⟨p, h1, hr⟩ := obind_some hr
    obtain ⟨v, h2, hr⟩ := obind_some hr
    obtain ⟨h3, h4, hr⟩ := obind_some hr
    refine ⟨_, _, _, hr, ?_⟩
    have h5 := stT_eq (N := N) h4
    simp only [evStep, evOp, ho, h1, h2, obind, h5]
  · rename_i T ps ho
    obtain ⟨qs, h1, hr⟩ := obind_some hr
    obtain ⟨v, h2, hr⟩ := obind_some hr
    refine ⟨v, h, N, hr, ?_⟩
    simp only [evStep, evOp, ho, h1, obind, h2]
  · rename_i T m ps ho
    obtain ⟨qs, h1, hr⟩ := obind_some hr
    obtain ⟨v, h3, N3, h2, hr⟩ := orun_some hr
    refine ⟨v, h3, N3, hr, ?_⟩
    simp only [evStep, evOp, ho, h1, obind, h2]
  · rename_i T x y ho
    obtain ⟨l, h1, hr⟩ := obind_some hr
    obtain ⟨c, h2, hr⟩ := obind_some hr
    obtain ⟨v, h3, N3, h4, hr⟩ := orun_some hr
    refine ⟨v, h3, N3, hr, ?_⟩
    simp only [evStep, evOp, ho, h1, h2, obind, h4]
  · rename_i T x y z ho
    obtain ⟨l, h1, hr⟩ := obind_some hr
    obtain ⟨c, h2, hr⟩ := obind_some hr
    obtain ⟨d, h5, hr⟩ := obind_some hr
    obtain ⟨v, h3, N3, h4, hr⟩ := orun_some hr
    refine ⟨v, h3, N3, hr, ?_⟩
    simp only [evStep, evOp, ho, h1, h2, h5, obind, h4]
  · rename_i T x y z ho
    obtain ⟨l, h1, hr⟩ := obind_some hr
    obtain ⟨c, h2, hr⟩ := obind_some hr
    obtain ⟨d, h5, hr⟩ := obind_some hr
    obtain ⟨v, h3, N3, h4, hr⟩ := orun_some hr
    refine ⟨v, h3, N3, hr, ?_⟩
    simp only [evStep, evOp, ho, h1, h2, h5, obind, h4]
  · rename_i T x y ok ho
    obtain ⟨l, h1, hr⟩ := obind_some hr
    obtain ⟨c, h2, hr⟩ := obind_some hr
    obtain ⟨v, h4, hr⟩ := obind_some hr
    refine ⟨v, h, N, hr, ?_⟩
    simp only [evStep, evOp, ho, h1, h2, obind, h4]
  · rename_i x T ho
    obtain ⟨p, h1, hr⟩ := obind_some hr
    obtain ⟨v, h2, hr⟩ := obind_some hr
    refine ⟨v, h, N, hr, ?_⟩
    have h3 := lenT_eq h2
    simp only [evStep, evOp, evPure, ho, h1, obind, h3]
  · rename_i x y T T' ho
    obtain ⟨s, h1, hr⟩ := obind_some hr
    obtain ⟨u, h2, hr⟩ := obind_some hr
    obtain ⟨v, h3, N3, h4, hr⟩ := orun_some hr
    refine ⟨v, h3, N3, hr, ?_⟩
    simp only [evStep, evOp, ho, h1, h2, obind]
    exact h4
  · rename_i x y T T' ho
    obtain ⟨h0, hr⟩ := xcond_some hr
    obtain ⟨s, h1, hr⟩ := obind_some hr
    obtain ⟨u, h2, hr⟩ := obind_some hr
    obtain ⟨v, h3, N3, h4, hr⟩ := orun_some hr
    refine ⟨v, h3, N3, hr, ?_⟩
    simp only [evStep, evOp, ho, h1, h2, obind, h0, ocond]
    exact h4
  · rename_i x y T ts ho
    obtain ⟨s, h1, hr⟩ := obind_some hr
    obtain ⟨u, h2, hr⟩ := obind_some hr
    obtain ⟨v, h3, N3, h4, hr⟩ := orun_some hr
    refine ⟨v, h3, N3, hr, ?_⟩
    simp only [evStep, evOp, ho, h1, h2, obind]
    exact h4
  · rename_i T ho
    rw [fN_eq] at hr
    refine ⟨_, _, _, hr, ?_⟩
    simp only [evStep, evOp, ho, evMakeMap]
  · rename_i c x y ho
    obtain ⟨b, h1, hr⟩ := obind_some hr
    obtain ⟨v, h2, hr⟩ := obind_some hr
    refine ⟨v, h, N, hr, ?_⟩
    unfold pck at h2
    split at h2
    · rename_i b
      cases b with
      | true => have h2' : evo e x = some v := h2; simp only [evStep, evOp, evPure, ho, h1, h2', obind]
      | false => have h2' : evo e y = some v := h2; simp only [evStep, evOp, evPure, ho, h1, h2', obind]
    · cases h2
  · rename_i u T x ho
    obtain ⟨p, h1, hr⟩ := obind_some hr
    obtain ⟨v, h2, hr⟩ := obind_some hr
    refine ⟨v, h, N, hr, ?_⟩
    unfold unV at h2
    simp only [evStep, evOp, evPure, ho, h1]
    show obind (ocond (scal p) (obind (still P (Op.unary u p)) fun r => ocond (scal r) (some r))) _ = _
    rw [h2]; rfl
  · rename_i s d x ho
    obtain ⟨p, h1, hr⟩ := obind_some hr
    obtain ⟨v, h2, hr⟩ := obind_some hr
    refine ⟨v, h, N, hr, ?_⟩
    unfold cvV at h2
    simp only [evStep, evOp, evPure, ho, h1]
    show obind (ocond (scal p) (obind (still P (convert s d p)) fun r => ocond (scal r) (some r))) _ = _
    rw [h2]; rfl
  · rename_i x ho
    obtain ⟨p, h1, hr⟩ := obind_some hr
    obtain ⟨v, h2, hr⟩ := obind_some hr
    refine ⟨v, h, N, hr, ?_⟩
    simp only [evStep, evOp, evPure, ho, h1, obind, h2]
  · rename_i x T ts ho
    obtain ⟨s, h1, hr⟩ := obind_some hr
    obtain ⟨v, h3, N3, h4, hr⟩ := orun_some hr
    refine ⟨v, h3, N3, hr, ?_⟩
    simp only [evStep, evOp, ho, h1, obind]
    exact h4
  · rename_i xs ts ho
    obtain ⟨vs, h1, hr⟩ := obind_some hr
    obtain ⟨v, h2, hr⟩ := obind_some hr
    refine ⟨v, h, N, hr, ?_⟩
    unfold mnV at h2
    simp only [evStep, evOp, evPure, ho, h1]
    show obind (ocond (allP vs) (obind (still P (Builtin.min_ ts o.type ⟨vs⟩)) fun r => ocond (scal r) (some r))) _ = _
    rw [h2]; rfl
  · rename_i xs ts ho
    obtain ⟨vs, h1, hr⟩ := obind_some hr
    obtain ⟨v, h2, hr⟩ := obind_some hr
    refine ⟨v, h, N, hr, ?_⟩
    unfold mxV at h2
    simp only [evStep, evOp, evPure, ho, h1]
    show obind (ocond (allP vs) (obind (still P (Builtin.max_ ts o.type ⟨vs⟩)) fun r => ocond (scal r) (some r))) _ = _
    rw [h2]; rfl
  · rename_i x T ho
    obtain ⟨p, h1, hr⟩ := obind_some hr
    obtain ⟨v, h2, hr⟩ := obind_some hr
    refine ⟨v, h, N, hr, ?_⟩
    unfold capT at h2
    cases hel : elemOf P T with
    | none => rw [hel] at h2; cases h2
    | some el =>
      rw [hel] at h2
      have h2' : capS p = some v := h2
      unfold capS at h2'
      simp only [evStep, evOp, evPure, ho, h1, obind]
      split at h2'
      · simp only [hel]; cases h2'; rfl
      · simp only [hel]; cases h2'; rfl
      · simp only [hel]; rw [h2']
      · cases h2'
  · rename_i f xs ts ho
    obtain ⟨vs, h1, hr⟩ := obind_some hr
    obtain ⟨v, h3, N3, h4, hr⟩ := orun_some hr
    refine ⟨v, h3, N3, hr, ?_⟩
    simp only [evStep, ho, h1, evo, obind, callW_fn, h4]
  · rename_i x xs ts hx ho
    obtain ⟨fv, h1, hr⟩ := obind_some hr
    obtain ⟨vs, h2, hr⟩ := obind_some hr
    obtain ⟨v, h3, N3, h4, hr⟩ := orun_some hr
    refine ⟨v, h3, N3, hr, ?_⟩
    simp only [evStep, ho, h1, h2, obind, h4]
  · obtain ⟨v, h3, N3, h4, hr⟩ := orun_some hr
    exact ⟨v, h3, N3, hr, h4⟩
theorem cO_ok (hst : StOk P st) (hcall : CallOk P call) (hr : cO P st call o e h N K = some res) : ∃ v h1 N1, K v h1 N1 = some res ∧ OpOk P o e h N v h1 N1 := by
  obtain ⟨v, h1, N1, h2, h3⟩ := cO_ev hr
  exact ⟨v, h1, N1, h2, OpOk.of (callW_ok hst hcall) h3⟩
end
end Go.Ev
end

section
namespace Go.Ev
open Go.RowKit Go.Sx
set_option linter.unusedVariables false
set_option linter.unusedSimpArgs false

/-! ### What a run that ends so tells -/
structure Gl where
  w0 : Fen
  σ0 : Sg
  N0 : Nat
  nt : Nat
  r : Option Nat
  rb : Option Nat
abbrev Res3 := Value × Tr Ob × Nat
abbrev Cont := Tr Value → List Nat → Tr Ob → Nat → OpR
def Sta (G : Gl) (e : Tr Value) (ds : List Nat) (h : Tr Ob) (N : Nat) (a : Act) (w : World) : Prop :=
  ∃ σ, G.N0 ≤ N ∧ Ext G.σ0 σ G.N0 N ∧ HR G.w0 σ h w ∧ AR σ e G.nt ds a ∧ RR σ G.r G.rb
def KO (G : Gl) (res : Res3) (K : Cont) (q : Act → World → Prop) : Prop := ∀ e ds h N, K e ds h N = some res → N ≤ res.2.2 ∧ ∀ a w, Sta G e ds h N a w → q a w

/-- Is it wanted? -/
noncomputable def wntV (v : Value) (c : Bool) : Option Bool :=
  match v with
  | .bool x => some (Bool.rec (motive := fun _ => Bool) (Bool.rec (motive := fun _ => Bool) true false x) x c)
  | .tuple _ => some false
  | _ => none
noncomputable def cW (ops : Array Oper) (e : Tr Value) (o : Oper) : Option Bool :=
  match o.guard with
  | none => some true
  | some (j, c) => xbind (dstOf ops j) fun d => xbind (e.get d) fun v => wntV v c
theorem cW_ok {ops : Array Oper} {e : Tr Value} {o : Oper} {b : Bool} (h : cW ops e o = some b) : evWants ops e o = some b := by
  unfold cW at h
  unfold evWants
  split at h
  · rename_i hg; rw [hg]; exact h
  · rename_i j c hg
    obtain ⟨d, h1, h⟩ := obind_some h
    obtain ⟨v, h2, h⟩ := obind_some h
    rw [hg]
    show obind (dstOf ops j) _ = _
    rw [h1]
    show (match e.get d with
      | some (.bool x) => some (Bool.rec (motive := fun _ => Bool) (Bool.rec (motive := fun _ => Bool) true false x) x c)
      | some (.tuple _) => some false
      | _ => none) = _
    rw [h2]
    unfold wntV at h
    split at h
    · exact h
    · exact h
    · cases h

noncomputable def cOps (P : Program) (st : St) (call : CallF) (nt : Nat) (ops : Array Oper) (K : Tr Value → Tr Ob → Nat → OpR) (l : List Oper) : Tr Value → Tr Ob → Nat → OpR :=
  List.rec (motive := fun _ => Tr Value → Tr Ob → Nat → OpR) K
    (fun o _ ih e h N => xcond (dstIn nt o.dst) (match o.guard with
      | none => cO P st call o e h N fun v h1 N1 => ih (put e o.dst v) h1 N1
      | some _ => obind (cW ops e o) fun b => orun (Bool.rec (motive := fun _ => OpR) (some (undef, h, N)) (cO P st call o e h N fun v h1 N1 => some (v, h1, N1)) b) fun v h1 N1 => ih (put e o.dst v) h1 N1)) l

section
variable {P : Program} {st : St} {call : CallF} {G : Gl} {res : Res3}

theorem Sta.op (hf : Fresh G.σ0 G.N0 res.2.2) {e : Tr Value} {ds : List Nat} {h1 : Tr Ob} {N N1 : Nat} {a : Act} {w' : World} {σ σ' : Sg} {o : Oper} {v x : Value} (hd : dstIn G.nt o.dst = true)
    (h0 : G.N0 ≤ N) (hE : Ext G.σ0 σ G.N0 N) (hA : AR σ e G.nt ds a) (hR : RR σ G.r G.rb) (hN : N ≤ N1) (hN1 : N1 ≤ res.2.2) (hE' : Ext σ σ' N N1) (H' : HR G.w0 σ' h1 w') (hv : Rl σ' v x) : Sta G (put e o.dst v) ds h1 N1 (a.put o.dst x) w' := by
  have hfr := hE.fresh hf h0
  have hle := hE'.le (hfr.sub (Nat.le_refl _) hN1)
  refine ⟨σ', by omega, hE.trans hE' h0 hN, H', ⟨put_ok (hA.env.mono hle) (dstIn_ok hd) hv, ?_⟩, hR.mono hle⟩
  have : (a.put o.dst x).defers = a.defers := by cases o.dst <;> rfl
  rw [this]
  exact hA.marks.mono hle

theorem cOps_ok (hst : StOk P st) (hcall : CallOk P call) (hf : Fresh G.σ0 G.N0 res.2.2) {K : Tr Value → Tr Ob → Nat → OpR} {Q : Exit → Act → World → Prop} {ds : List Nat} {ops : Array Oper}
    (hK : ∀ e h N, K e h N = some res → N ≤ res.2.2 ∧ ∀ a w, Sta G e ds h N a w → Q .normal a w) : ∀ (l : List Oper) (e : Tr Value) (h : Tr Ob) (N : Nat), cOps P st call G.nt ops K l e h N = some res →
    N ≤ res.2.2 ∧ ∀ a w, Sta G e ds h N a w → wpListIn (Fr G.rb) 0 P ops Q l a w
  | [], e, h, N, hr => hK e h N hr
  | o :: l, e, h, N, hr => by
    have hr' : xcond (dstIn G.nt o.dst) (match o.guard with
      | none => cO P st call o e h N fun v h1 N1 => cOps P st call G.nt ops K l (put e o.dst v) h1 N1
      | some _ => obind (cW ops e o) fun b => orun (Bool.rec (motive := fun _ => OpR) (some (undef, h, N)) (cO P st call o e h N fun v h1 N1 => some (v, h1, N1)) b) fun v h1 N1 => cOps P st call G.nt ops K l (put e o.dst v) h1 N1) = some res := hr
    clear hr
    obtain ⟨hd, hr⟩ := xcond_some hr'
    have ih := cOps_ok (ops := ops) hst hcall hf hK l
    have key : evWants ops e o = some true → ∀ v h1 N1, cOps P st call G.nt ops K l (put e o.dst v) h1 N1 = some res → OpOk P o e h N v h1 N1 → N ≤ res.2.2 ∧ ∀ a w, Sta G e ds h N a w → wpListIn (Fr G.rb) 0 P ops Q (o :: l) a w := by
      intro hw v h1 N1 h2 h3
      obtain ⟨g1, g2⟩ := ih _ _ _ h2
      refine ⟨Nat.le_trans h3.1 g1, fun a w hs => ?_⟩
      obtain ⟨σ, s1, s2, s3, s4, s5⟩ := hs
      simp only [wpListIn, evWants_ok s4.env hw, if_true]
      refine h3.2 G.w0 σ w G.nt a s3 s4.env ((s2.fresh hf s1).sub (Nat.le_refl _) g1) _ _ _ ?_
      intro σ' x w' t1 t2 t3
      exact g2 _ _ (Sta.op hf hd s1 s2 s4 s5 h3.1 g1 t1 t2 t3)
    cases hg : o.guard with
    | none =>
      rw [hg] at hr
      obtain ⟨v, h1, N1, h2, h3⟩ := cO_ok hst hcall hr
      exact key (by unfold evWants; rw [hg]) v h1 N1 h2 h3
    | some p =>
      rw [hg] at hr
      obtain ⟨b, hb, hr1⟩ := obind_some hr
      replace hb := cW_ok hb
      obtain ⟨v, h1, N1, hx, hr2⟩ := orun_some hr1
      cases b with
      | true =>
        obtain ⟨v', h1', N1', h2, h3⟩ := cO_ok hst hcall (show cO P st call o e h N (fun v h1 N1 => some (v, h1, N1)) = some (v, h1, N1) from hx)
        cases h2
        exact key hb v h1 N1 hr2 h3
      | false =>
        cases hx
        obtain ⟨g1, g2⟩ := ih _ _ _ hr2
        refine ⟨g1, fun a w hs => ?_⟩
        obtain ⟨σ, s1, s2, s3, s4, s5⟩ := hs
        simp only [wpListIn, evWants_ok s4.env hb, Bool.false_eq_true, if_false]
        refine ⟨fun _ _ => trivial, ?_⟩
        exact g2 _ _ (Sta.op hf hd s1 s2 s4 s5 (Nat.le_refl _) g1 (Ext.refl _ _ _) s3 (.tup rfl (fun i a b h => by simp at h)))
end

/-! ### Drawn regions -/
noncomputable def pureK (P : Program) (o : Oper) : Bool :=
  match o.op with
  | .move _ | .assign _ | .pick _ _ _ | .extract _ _ | .fieldAddr _ _ _ | .field _ _ _ | .indexAddr _ _ _ | .index _ _ _ | .binOp _ _ _ _ _ | .unOp _ _ _ | .convert _ _ _ | .nilCheck _ | .slice _ _ _ _ _ | .makeFunc (.func _) ⟨_⟩ ⟨_⟩ => true
  | .call { callee := .builtin .len, args := ⟨[_]⟩, argTypes := ⟨[T]⟩ } => match P.underlying T with
    | some (.slice _) => true
    | some .string => true
    | _ => false
  | .call { callee := .builtin .min, args := ⟨_⟩, .. } | .call { callee := .builtin .max, args := ⟨_⟩, .. } | .call { callee := .builtin .cap, args := ⟨[_]⟩, argTypes := ⟨[_]⟩ } => true
  | _ => false
/-- What was read is read again, and is the same; said of those that were done. -/
abbrev PdF := Pd × Bool
noncomputable def flt (l : List PdF) : List Pd := List.rec (motive := fun _ => List Pd) [] (fun x _ ih => Bool.rec (motive := fun _ => List Pd) ih (x.1 :: ih) x.2) l
noncomputable def impB (b x : Bool) : Bool := Bool.rec (motive := fun _ => Bool) true x b
noncomputable def agL1 (h : Tr Ob) (p v : Value) : Bool := Option.rec (motive := fun _ => Bool) false (fun u => valEq 3 u v) (ld1 h p)
noncomputable def agLN (m : Nat) (h : Tr Ob) (p v : Value) : Bool := Option.rec (motive := fun _ => Bool) false (fun u => valEq 3 u v) (ldN m h p)
noncomputable def agLT (P : Program) (T : TypeId) (h : Tr Ob) (p v : Value) : Bool :=
  match isAggB P T, sizeB P T with
  | some false, _ => agL1 h p v
  | some true, some m => agLN m h p v
  | _, _ => false
noncomputable def agB (P : Program) (h : Tr Ob) (pd : Pd) : Bool :=
  match pd.nw, pd.o.op with
  | false, .load T x => Option.rec (motive := fun _ => Bool) false (fun p => agLT P T h p pd.v) (evo pd.R x)
  | _, _ => again P h pd
noncomputable def cAg (P : Program) (h : Tr Ob) (pend : List PdF) (T : OpR) : OpR :=
  List.rec (motive := fun _ => OpR) T (fun x _ ih => ocond (impB x.2 (agB P h x.1)) ih) pend
/-- An operation that may be left out. -/
noncomputable def gOp0 (g : Option Bool) (h : Tr Ob) (N : Nat) (X : (Value → Tr Ob → Nat → OpR) → OpR) (k : Value → Tr Ob → Nat → OpR) : OpR :=
  match g with
  | none => X k
  | some b => orun (Bool.rec (motive := fun _ => OpR) (some (undef, h, N)) (X fun v h1 N1 => some (v, h1, N1)) b) k
noncomputable def gOp1 (g : Option Bool) (h : Tr Ob) (N : Nat) (X : (Value → Tr Ob → Nat → OpR) → OpR) (k : Value → Tr Ob → Nat → OpR) : OpR :=
  gOp0 g h N X k
noncomputable def gOp2 (g : Option Bool) (h : Tr Ob) (N : Nat) (X : (Value → Tr Ob → Nat → OpR) → OpR) (k : Value → Tr Ob → Nat → OpR) : OpR :=
  gOp1 g h N X k
noncomputable def gOp3 (g : Option Bool) (h : Tr Ob) (N : Nat) (X : (Value → Tr Ob → Nat → OpR) → OpR) (k : Value → Tr Ob → Nat → OpR) : OpR :=
  gOp2 g h N X k
noncomputable def gOp4 (g : Option Bool) (h : Tr Ob) (N : Nat) (X : (Value → Tr Ob → Nat → OpR) → OpR) (k : Value → Tr Ob → Nat → OpR) : OpR :=
  gOp3 g h N X k
noncomputable def gOp (g : Option Bool) (h : Tr Ob) (N : Nat) (X : (Value → Tr Ob → Nat → OpR) → OpR) (k : Value → Tr Ob → Nat → OpR) : OpR :=
  gOp4 g h N X k
noncomputable def fl (g : Option Bool) : Bool := Option.rec (motive := fun _ => Bool) true (fun b => b) g
noncomputable def pruneF (anc : Nat) (pend : List PdF) : List PdF := List.rec (motive := fun _ => List PdF) [] (fun x _ ih => Bool.rec (motive := fun _ => List PdF) (x :: ih) ih (anc.testBit x.1.i)) pend
noncomputable def offB (x b : Bool) : Bool := Bool.rec (motive := fun _ => Bool) x false b
noncomputable def flagF (b : Bool) (anc : Nat) (pend : List PdF) : List PdF :=
  List.rec (motive := fun _ => List PdF) [] (fun x _ ih => Bool.rec (motive := fun _ => List PdF) (x :: ih) ((x.1, offB x.2 b) :: ih) (anc.testBit x.1.i)) pend
noncomputable def prG (g : Option Bool) (anc : Nat) (pend : List PdF) : List PdF := Option.rec (motive := fun _ => List PdF) (pruneF anc pend) (fun b => flagF b anc pend) g

noncomputable def cItem (P : Program) (st : St) (call : CallF) (it : It) (o : Oper) (K : Value → Tr Ob → Nat → List PdF → OpR) (R : Tr Value) (h : Tr Ob) (N : Nat) (pend : List PdF) (g : Option Bool) : OpR :=
  Bool.rec (motive := fun _ => OpR)
    (Bool.rec (motive := fun _ => OpR)
      (match o.op with
        | .load T x => gOp g h N (fun k => xbind (evo R x) fun p => obind (ldT P T h p) fun v => k v h N) fun v h1 N1 => K v h1 N1 ((⟨it.i, o, R, v, N, false⟩, fl g) :: pend)
        | .alloc T => gOp g h N (fun k => xbind (zer P T) fun z => fN (Nat.succ N) fun N1 => k (.pointer (some ⟨N, 0, none⟩)) (h.set (some (.c z T)) N) N1) fun v h1 N1 => K v h1 N1 ((⟨it.i, o, R, v, N, true⟩, fl g) :: pend)
        | .box T x => gOp g h N (fun k => xbind (evo R x) fun v => fN (Nat.succ N) fun N1 => k (.pointer (some ⟨N, 0, none⟩)) (h.set (some (.c (cel v) T)) N) N1) fun v h1 N1 => K v h1 N1 ((⟨it.i, o, R, v, N, true⟩, fl g) :: pend)
        | .lookup T x y ok => gOp g h N (fun k => xbind (evo R x) fun m => xbind (evo R y) fun q => obind (evLookup P T m q ok h) fun v => k v h N) fun v h1 N1 => K v h1 N1 ((⟨it.i, o, R, v, N, false⟩, fl g) :: pend)
        | .build T ⟨ps⟩ => gOp g h N (fun k => xbind (evParts R ps) fun qs => obind (evBuild P T qs) fun v => k v h N) fun v h1 N1 => K v h1 N1 ((⟨it.i, o, R, v, N, false⟩, fl g) :: pend)
        | .buildSlice T m ⟨ps⟩ => gOp g h N (fun k => xbind (evParts R ps) fun qs => orun (evBuildSlice P T m qs h N) k) fun v h1 N1 => K v h1 N1 ((⟨it.i, o, R, v, N, true⟩, fl g) :: pend)
        | .makeSlice T x y => gOp g h N (fun k => xbind (evo R x) fun l => xbind (evo R y) fun c => orun (evMakeSlice P T l c h N) k) fun v h1 N1 => K v h1 N1 ((⟨it.i, o, R, v, N, true⟩, fl g) :: pend)
        | .makeMap _ none => gOp g h N (fun k => fN (Nat.succ N) fun N1 => k (.map (some N)) (h.set (some (.m [] 0)) N) N1) fun v h1 N1 => K v h1 N1 ((⟨it.i, o, R, v, N, true⟩, fl g) :: pend)
        | .call { callee := .builtin .len, args := ⟨[x]⟩, argTypes := ⟨[T]⟩ } => Option.rec (motive := fun _ => OpR)
            (gOp g h N (fun k => xbind (evo R x) fun p => obind (evLen P h T p) fun v => k v h N) fun v h1 N1 => K v h1 N1 ((⟨it.i, o, R, v, N, false⟩, fl g) :: pend)) (fun _ => none) (evPure P o R .nil)
        | _ => none)
      (gOp g h N (fun k => cO P st call o R .nil 0 fun v _ _ => k v h N) fun v h1 N1 => K v h1 N1 pend) (pureK P o))
    (gOp g h N (fun k => cAg P h pend (cO P st call o R h N k)) fun v h1 N1 => K v h1 N1 (prG g it.anc pend)) it.eff
noncomputable def cDraw (P : Program) (st : St) (call : CallF) (ops : Array Oper) (K : Tr Value → Tr Ob → Nat → OpR) (L : List It) : Tr Value → Tr Ob → Nat → List PdF → OpR :=
  List.rec (motive := fun _ => Tr Value → Tr Ob → Nat → List PdF → OpR)
    (fun e h N pend => cAg P h pend (K e h N))
    (fun it _ ih e h N pend => xbind (nth ops.toList it.i) fun o => match o.guard with
      | none => cItem P st call it o (fun v h1 N1 pend1 => ih (put e o.dst v) h1 N1 pend1) (rst it.lk e) h N pend none
      | some _ => obind (cW ops (rst it.lk e) o) fun b => cItem P st call it o (fun v h1 N1 pend1 => ih (put e o.dst v) h1 N1 pend1) (rst it.lk e) h N pend (some b)) L

section
variable {P : Program} {st : St} {call : CallF} {o : Oper} {res : Res3}
theorem pureK_ok (hp : pureK P o = true) (call : CallF) (e : Tr Value) (h : Tr Ob) (N : Nat) : evStep P call o e h N = obind (evPure P o e h) fun v => some (v, h, N) := by
  unfold pureK at hp
  split at hp
  all_goals first | (cases hp; done) | (rename_i ho; simp only [evStep, evOp, ho]; done)
theorem agB_ok {h : Tr Ob} {pd : Pd} (hr : agB P h pd = true) : again P h pd = true := by
  unfold agB at hr
  split at hr
  · rename_i T x hn ho
    cases h1 : evo pd.R x with
    | none => rw [h1] at hr; cases hr
    | some p =>
      rw [h1] at hr
      have hr1 : agLT P T h p pd.v = true := hr
      have key : ∀ u, evLoad P h T p = some u → valEq 3 u pd.v = true → again P h pd = true := by
        intro u h2 h3
        have h5 : evPas P pd.o pd.R h pd.lo = some (u, none) := by
          simp only [evPas, evPure, ho, h1, obind, h2]
        unfold again
        rw [h5, hn]
        show band (valEq 3 u pd.v) _ = true
        rw [h3]; rfl
      unfold agLT at hr1
      split at hr1
      · rename_i ha
        unfold agL1 at hr1
        cases h2 : ld1 h p with
        | none => rw [h2] at hr1; cases hr1
        | some u => rw [h2] at hr1; exact key u (ldT_eq (by unfold ldT; simp only [ha]; exact h2)) hr1
      · rename_i m ha hm
        unfold agLN at hr1
        cases h2 : ldN m h p with
        | none => rw [h2] at hr1; cases hr1
        | some u => rw [h2] at hr1; exact key u (ldT_eq (by unfold ldT; simp only [ha, hm]; exact h2)) hr1
      · cases hr1
  · exact hr
theorem cAg_ok {h : Tr Ob} {T : OpR} : ∀ {pend : List PdF}, cAg P h pend T = some res → allB (again P h) (flt pend) = true ∧ T = some res
  | [], hr => ⟨rfl, hr⟩
  | (pd, b) :: pend, hr => by
    obtain ⟨h1, h2⟩ := ocond_some (show ocond (impB b (agB P h pd)) (cAg P h pend T) = some res from hr)
    obtain ⟨h3, h4⟩ := cAg_ok h2
    refine ⟨?_, h4⟩
    cases b with
    | false => exact h3
    | true =>
      show band (again P h pd) (allB (again P h) (flt pend)) = true
      rw [agB_ok h1, h3]; rfl
theorem gOp_ok {g : Option Bool} {h : Tr Ob} {N : Nat} {X : (Value → Tr Ob → Nat → OpR) → OpR} {k : Value → Tr Ob → Nat → OpR} {Pr : Value → Tr Ob → Nat → Prop}
    (hX : ∀ (k : Value → Tr Ob → Nat → OpR) (r : Res3), X k = some r → ∃ v h1 N1, k v h1 N1 = some r ∧ Pr v h1 N1) (hr : gOp g h N X k = some res) :
    (fl g = true ∧ ∃ v h1 N1, k v h1 N1 = some res ∧ Pr v h1 N1) ∨ (fl g = false ∧ k undef h N = some res) := by
  unfold gOp gOp4 gOp3 gOp2 gOp1 gOp0 at hr
  split at hr
  · exact .inl ⟨rfl, hX _ _ hr⟩
  · rename_i b
    obtain ⟨v, h1, N1, h2, h3⟩ := orun_some hr
    cases b with
    | true =>
      obtain ⟨v', h1', N1', h4, h5⟩ := hX _ _ (show X (fun v h1 N1 => some (v, h1, N1)) = some (v, h1, N1) from h2)
      cases h4
      exact .inl ⟨rfl, v, h1, N1, h3, h5⟩
    | false => cases h2; exact .inr ⟨rfl, h3⟩
theorem flt_cons (pd : Pd) (b : Bool) (l : List PdF) : flt ((pd, b) :: l) = if b then pd :: flt l else flt l := by cases b <;> rfl
theorem flt_prune (anc : Nat) : ∀ l : List PdF, flt (pruneF anc l) = prune anc (flt l)
  | [] => rfl
  | (pd, b) :: l => by
    have ih := flt_prune anc l
    have e1 : pruneF anc ((pd, b) :: l) = Bool.rec (motive := fun _ => List PdF) ((pd, b) :: pruneF anc l) (pruneF anc l) (anc.testBit pd.i) := rfl
    have e2 : ∀ l', prune anc (pd :: l') = Bool.rec (motive := fun _ => List Pd) (pd :: prune anc l') (prune anc l') (anc.testBit pd.i) := fun _ => rfl
    rw [e1, flt_cons]
    cases hb : anc.testBit pd.i <;> cases b
    · show flt ((pd, false) :: pruneF anc l) = _; rw [flt_cons]; exact ih
    · show flt ((pd, true) :: pruneF anc l) = _; rw [flt_cons, if_pos rfl, if_pos rfl, e2, hb, ih]
    · exact ih
    · rw [if_pos rfl, e2, hb]; exact ih
theorem flt_flag (anc : Nat) : ∀ l : List PdF, flt (flagF true anc l) = prune anc (flt l)
  | [] => rfl
  | (pd, b) :: l => by
    have ih := flt_flag anc l
    have e1 : flagF true anc ((pd, b) :: l) = Bool.rec (motive := fun _ => List PdF) ((pd, b) :: flagF true anc l) ((pd, false) :: flagF true anc l) (anc.testBit pd.i) := rfl
    have e2 : ∀ l', prune anc (pd :: l') = Bool.rec (motive := fun _ => List Pd) (pd :: prune anc l') (prune anc l') (anc.testBit pd.i) := fun _ => rfl
    rw [e1, flt_cons]
    cases hb : anc.testBit pd.i <;> cases b
    · show flt ((pd, false) :: flagF true anc l) = _; rw [flt_cons]; exact ih
    · show flt ((pd, true) :: flagF true anc l) = _; rw [flt_cons, if_pos rfl, if_pos rfl, e2, hb, ih]
    · show flt ((pd, false) :: flagF true anc l) = _; rw [flt_cons]; exact ih
    · show flt ((pd, false) :: flagF true anc l) = _; rw [flt_cons, if_pos rfl, e2, hb]; exact ih
theorem flt_flag0 (anc : Nat) : ∀ l : List PdF, flt (flagF false anc l) = flt l
  | [] => rfl
  | (pd, b) :: l => by
    have ih := flt_flag0 anc l
    have e1 : flagF false anc ((pd, b) :: l) = (pd, b) :: flagF false anc l := by
      show Bool.rec (motive := fun _ => List PdF) ((pd, b) :: flagF false anc l) ((pd, b) :: flagF false anc l) (anc.testBit pd.i) = _
      cases anc.testBit pd.i <;> rfl
    rw [e1, flt_cons, flt_cons, ih]
theorem flt_prG (g : Option Bool) (anc : Nat) (l : List PdF) : flt (prG g anc l) = if fl g then prune anc (flt l) else flt l := by
  cases g with
  | none => exact flt_prune anc l
  | some b => cases b with
    | true => exact flt_flag anc l
    | false => exact flt_flag0 anc l

/-- What one item gives, it gives in the plan's run too. -/
theorem cItem_ok {it : It} {K : Value → Tr Ob → Nat → List PdF → OpR} {R : Tr Value} {h : Tr Ob} {N : Nat} {pend : List PdF} {g : Option Bool} {F : Value → Tr Ob → Nat → List Pd → RgR} {x : Tr Value × Tr Ob × Nat → Prop}
    (hF : ∀ v h1 N1 pend1, K v h1 N1 pend1 = some res → ∃ y, F v h1 N1 (flt pend1) = some y ∧ x y)
    (hr : cItem P st call it o K R h N pend g = some res) : ∃ y, Bool.rec (motive := fun _ => RgR) (F undef h N (flt pend)) (Bool.rec (motive := fun _ => RgR)
        (Option.rec (motive := fun _ => RgR)
          (obind (evPas P o R h N) fun r => Option.rec (motive := fun _ => RgR)
            (F r.1 h N (⟨it.i, o, R, r.1, N, false⟩ :: flt pend))
            (fun ob => F r.1 (h.set (some ob) N) (Nat.succ N) (⟨it.i, o, R, r.1, N, true⟩ :: flt pend)) r.2)
          (fun v => F v h N (flt pend)) (evPure P o R .nil))
        (ocond (allB (again P h) (flt pend)) (obind (evStep P (callW st call) o R h N) fun r => F r.1 r.2.1 r.2.2 (prune it.anc (flt pend))))
        it.eff) (fl g) = some y ∧ x y := by
  -- what changes nothing and what makes a block
  have old : evPure P o R .nil = none → it.eff = false → ∀ {X : (Value → Tr Ob → Nat → OpR) → OpR}, (∀ (k : Value → Tr Ob → Nat → OpR) (r : Res3), X k = some r → ∃ v h1 N1, k v h1 N1 = some r ∧ (h1 = h ∧ N1 = N ∧ evPas P o R h N = some (v, none))) →
      gOp g h N X (fun v h1 N1 => K v h1 N1 ((⟨it.i, o, R, v, N, false⟩, fl g) :: pend)) = some res → ∃ y, Bool.rec (motive := fun _ => RgR) (F undef h N (flt pend)) (Bool.rec (motive := fun _ => RgR)
        (Option.rec (motive := fun _ => RgR)
          (obind (evPas P o R h N) fun r => Option.rec (motive := fun _ => RgR)
            (F r.1 h N (⟨it.i, o, R, r.1, N, false⟩ :: flt pend))
            (fun ob => F r.1 (h.set (some ob) N) (Nat.succ N) (⟨it.i, o, R, r.1, N, true⟩ :: flt pend)) r.2)
          (fun v => F v h N (flt pend)) (evPure P o R .nil))
        (ocond (allB (again P h) (flt pend)) (obind (evStep P (callW st call) o R h N) fun r => F r.1 r.2.1 r.2.2 (prune it.anc (flt pend))))
        it.eff) (fl g) = some y ∧ x y := by
    intro e1 he X hX hr
    rcases gOp_ok hX hr with ⟨hg, v, h1, N1, h2, rfl, rfl, h3⟩ | ⟨hg, h2⟩
    · obtain ⟨y, h4, h5⟩ := hF _ _ _ _ h2
      refine ⟨y, ?_, h5⟩
      rw [hg, he, e1, h3]
      rw [flt_cons, hg, if_pos rfl] at h4
      exact h4
    · obtain ⟨y, h4, h5⟩ := hF _ _ _ _ h2
      refine ⟨y, ?_, h5⟩
      rw [hg]
      rw [flt_cons, hg] at h4
      exact h4
  have new : evPure P o R .nil = none → it.eff = false → ∀ {X : (Value → Tr Ob → Nat → OpR) → OpR}, (∀ (k : Value → Tr Ob → Nat → OpR) (r : Res3), X k = some r → ∃ v h1 N1, k v h1 N1 = some r ∧ (∃ ob, h1 = h.set (some ob) N ∧ N1 = Nat.succ N ∧ evPas P o R h N = some (v, some ob))) →
      gOp g h N X (fun v h1 N1 => K v h1 N1 ((⟨it.i, o, R, v, N, true⟩, fl g) :: pend)) = some res → ∃ y, Bool.rec (motive := fun _ => RgR) (F undef h N (flt pend)) (Bool.rec (motive := fun _ => RgR)
        (Option.rec (motive := fun _ => RgR)
          (obind (evPas P o R h N) fun r => Option.rec (motive := fun _ => RgR)
            (F r.1 h N (⟨it.i, o, R, r.1, N, false⟩ :: flt pend))
            (fun ob => F r.1 (h.set (some ob) N) (Nat.succ N) (⟨it.i, o, R, r.1, N, true⟩ :: flt pend)) r.2)
          (fun v => F v h N (flt pend)) (evPure P o R .nil))
        (ocond (allB (again P h) (flt pend)) (obind (evStep P (callW st call) o R h N) fun r => F r.1 r.2.1 r.2.2 (prune it.anc (flt pend))))
        it.eff) (fl g) = some y ∧ x y := by
    intro e1 he X hX hr
    rcases gOp_ok hX hr with ⟨hg, v, h1, N1, h2, ob, rfl, rfl, h3⟩ | ⟨hg, h2⟩
    · obtain ⟨y, h4, h5⟩ := hF _ _ _ _ h2
      refine ⟨y, ?_, h5⟩
      rw [hg, he, e1, h3]
      rw [flt_cons, hg, if_pos rfl] at h4
      exact h4
    · obtain ⟨y, h4, h5⟩ := hF _ _ _ _ h2
      refine ⟨y, ?_, h5⟩
      rw [hg]
      rw [flt_cons, hg] at h4
      exact h4
  unfold cItem at hr
  cases he : it.eff with
  | true =>
    rw [he] at hr
    have hX : ∀ (k : Value → Tr Ob → Nat → OpR) (r : Res3), cAg P h pend (cO P st call o R h N k) = some r → ∃ v h1 N1, k v h1 N1 = some r ∧ (allB (again P h) (flt pend) = true ∧ evStep P (callW st call) o R h N = some (v, h1, N1)) := by
      intro k r hk
      obtain ⟨h1, h2⟩ := cAg_ok hk
      obtain ⟨v, h3, N3, h4, h5⟩ := cO_ev h2
      exact ⟨v, h3, N3, h4, h1, h5⟩
    rcases gOp_ok hX hr with ⟨hg, v, h1, N1, h2, h3, h4⟩ | ⟨hg, h2⟩
    · obtain ⟨y, h6, h7⟩ := hF _ _ _ _ h2
      refine ⟨y, ?_, h7⟩
      rw [hg]
      show ocond _ (obind _ _) = _
      rw [h3, h4]
      rw [flt_prG, hg, if_pos rfl] at h6
      exact h6
    · obtain ⟨y, h6, h7⟩ := hF _ _ _ _ h2
      refine ⟨y, ?_, h7⟩
      rw [hg]
      rw [flt_prG, hg] at h6
      exact h6
  | false =>
    rw [he] at hr
    rw [he] at old new
    cases hp : pureK P o with
    | true =>
      rw [hp] at hr
      have hX : ∀ (k : Value → Tr Ob → Nat → OpR) (r : Res3), cO P st call o R .nil 0 (fun v _ _ => k v h N) = some r → ∃ v h1 N1, k v h1 N1 = some r ∧ (h1 = h ∧ N1 = N ∧ evPure P o R .nil = some v) := by
        intro k r hk
        obtain ⟨v, h3, N3, h4, h5⟩ := cO_ev hk
        rw [pureK_ok hp] at h5
        obtain ⟨v', h6, h7⟩ := obind_some h5
        cases h7
        exact ⟨v, h, N, h4, rfl, rfl, h6⟩
      rcases gOp_ok hX hr with ⟨hg, v, h1, N1, h2, rfl, rfl, h3⟩ | ⟨hg, h2⟩
      · obtain ⟨y, h6, h7⟩ := hF _ _ _ _ h2
        refine ⟨y, ?_, h7⟩
        rw [hg]
        show Option.rec (motive := fun _ => RgR) _ _ (evPure P o R .nil) = _
        rw [h3]
        exact h6
      · obtain ⟨y, h6, h7⟩ := hF _ _ _ _ h2
        refine ⟨y, ?_, h7⟩
        rw [hg]
        exact h6
    | false =>
      rw [hp] at hr
      dsimp only at hr
      split at hr
      · rename_i T xx ho
        have e1 : evPure P o R .nil = none := by
          simp only [evPure, ho]
          cases evo R xx with
          | none => rfl
          | some p =>
            show evLoad P .nil T p = none
            unfold evLoad
            split <;> rfl
        refine old e1 rfl (fun k r hk => ?_) hr
        obtain ⟨p, h1, hk⟩ := obind_some hk
        obtain ⟨v, h2, hk⟩ := obind_some hk
        have h3 := ldT_eq h2
        exact ⟨v, h, N, hk, rfl, rfl, by simp only [evPas, evPure, ho, h1, obind, h3]⟩
      · rename_i T ho
        refine new (by simp only [evPure, ho]) rfl (fun k r hk => ?_) hr
        obtain ⟨z, h1, hk⟩ := obind_some hk
        rw [fN_eq] at hk
        exact ⟨_, _, _, hk, _, rfl, rfl, by simp only [evPas, ho, h1, obind]⟩
      · rename_i T xx ho
        refine new (by simp only [evPure, ho]) rfl (fun k r hk => ?_) hr
        obtain ⟨z, h1, hk⟩ := obind_some hk
        rw [fN_eq] at hk
        exact ⟨_, _, _, hk, _, rfl, rfl, by simp only [evPas, ho, h1, obind]⟩
      · rename_i T xx yy ok ho
        refine old (by simp only [evPure, ho]) rfl (fun k r hk => ?_) hr
        obtain ⟨m, h1, hk⟩ := obind_some hk
        obtain ⟨q, h2, hk⟩ := obind_some hk
        obtain ⟨v, h3, hk⟩ := obind_some hk
        exact ⟨v, h, N, hk, rfl, rfl, by simp only [evPas, ho, h1, h2, obind, h3]⟩
      · rename_i T ps ho
        refine old (by simp only [evPure, ho]) rfl (fun k r hk => ?_) hr
        obtain ⟨qs, h1, hk⟩ := obind_some hk
        obtain ⟨v, h2, hk⟩ := obind_some hk
        exact ⟨v, h, N, hk, rfl, rfl, by simp only [evPas, ho, h1, obind, h2]⟩
      · rename_i T m ps ho
        refine new (by simp only [evPure, ho]) rfl (fun k r hk => ?_) hr
        obtain ⟨qs, h1, hk⟩ := obind_some hk
        obtain ⟨v, h2, N2, h3, hk⟩ := orun_some hk
        have e3 : ∃ ob, h2 = h.set (some ob) N ∧ N2 = Nat.succ N := by
          have h3' := h3
          obtain ⟨_, _, h3'⟩ := obind_some h3'
          obtain ⟨_, _, h3'⟩ := obind_some h3'
          obtain ⟨_, h3'⟩ := ocond_some h3'
          obtain ⟨_, _, h3'⟩ := obind_some h3'
          cases h3'
          exact ⟨_, rfl, rfl⟩
        obtain ⟨ob, rfl, rfl⟩ := e3
        refine ⟨_, _, _, hk, ob, rfl, rfl, ?_⟩
        simp only [evPas, ho, h1, obind, newOf, h3]
        rw [Tr.get_set, if_pos rfl]
      · rename_i T xx yy ho
        refine new (by simp only [evPure, ho]) rfl (fun k r hk => ?_) hr
        obtain ⟨l, h1, hk⟩ := obind_some hk
        obtain ⟨c, h0, hk⟩ := obind_some hk
        obtain ⟨v, h2, N2, h3, hk⟩ := orun_some hk
        have e3 : ∃ ob, h2 = h.set (some ob) N ∧ N2 = Nat.succ N := by
          have h3' := h3
          obtain ⟨_, _, h3'⟩ := obind_some h3'
          obtain ⟨_, _, h3'⟩ := obind_some h3'
          obtain ⟨_, _, h3'⟩ := obind_some h3'
          obtain ⟨_, _, h3'⟩ := obind_some h3'
          obtain ⟨_, _, h3'⟩ := obind_some h3'
          obtain ⟨_, h3'⟩ := ocond_some h3'
          obtain ⟨_, h3'⟩ := ocond_some h3'
          obtain ⟨_, h3'⟩ := ocond_some h3'
          cases h3'
          exact ⟨_, rfl, rfl⟩
        obtain ⟨ob, rfl, rfl⟩ := e3
        refine ⟨_, _, _, hk, ob, rfl, rfl, ?_⟩
        simp only [evPas, ho, h1, h0, obind, newOf, h3]
        rw [Tr.get_set, if_pos rfl]
      · rename_i T ho
        refine new (by simp only [evPure, ho]) rfl (fun k r hk => ?_) hr
        rw [fN_eq] at hk
        exact ⟨_, _, _, hk, _, rfl, rfl, by simp only [evPas, ho]⟩
      · rename_i xx T ho
        cases e1 : evPure P o R .nil with
        | some v => rw [e1] at hr; cases hr
        | none =>
          rw [e1] at hr
          rw [e1] at old
          refine old rfl rfl (fun k r hk => ?_) hr
          obtain ⟨p, h1, hk⟩ := obind_some hk
          obtain ⟨v, h2, hk⟩ := obind_some hk
          exact ⟨v, h, N, hk, rfl, rfl, by simp only [evPas, evPure, ho, h1, obind, h2]⟩
      · cases hr

theorem cDraw_ok {ops : Array Oper} {K : Tr Value → Tr Ob → Nat → OpR} : ∀ (L : List It) (e : Tr Value) (h : Tr Ob) (N : Nat) (pend : List PdF), cDraw P st call ops K L e h N pend = some res →
    ∃ y, dRun P (callW st call) ops L e h N (flt pend) = some y ∧ K y.1 y.2.1 y.2.2 = some res
  | [], e, h, N, pend, hr => by
    obtain ⟨h1, h2⟩ := cAg_ok (show cAg P h pend (K e h N) = some res from hr)
    refine ⟨(e, h, N), ?_, h2⟩
    show ocond (allB (again P h) (flt pend)) (some (e, h, N)) = _
    rw [h1]; rfl
  | it :: L, e, h, N, pend, hr => by
    have ih := cDraw_ok (K := K) (ops := ops) L
    obtain ⟨o, ho, hr1⟩ := obind_some (show xbind (nth ops.toList it.i) (fun o => match o.guard with
      | none => cItem P st call it o (fun v h1 N1 pend1 => cDraw P st call ops K L (put e o.dst v) h1 N1 pend1) (rst it.lk e) h N pend none
      | some _ => obind (cW ops (rst it.lk e) o) fun b => cItem P st call it o (fun v h1 N1 pend1 => cDraw P st call ops K L (put e o.dst v) h1 N1 pend1) (rst it.lk e) h N pend (some b)) = some res from hr)
    clear hr
    have e0 : ∀ b, evWants ops (rst it.lk e) o = some b → dRun P (callW st call) ops (it :: L) e h N (flt pend) = Bool.rec (motive := fun _ => RgR)
      (dRun P (callW st call) ops L (put e o.dst undef) h N (flt pend))
      (Bool.rec (motive := fun _ => RgR)
        (Option.rec (motive := fun _ => RgR)
          (obind (evPas P o (rst it.lk e) h N) fun r => Option.rec (motive := fun _ => RgR)
            (dRun P (callW st call) ops L (put e o.dst r.1) h N (⟨it.i, o, rst it.lk e, r.1, N, false⟩ :: flt pend))
            (fun ob => dRun P (callW st call) ops L (put e o.dst r.1) (h.set (some ob) N) (Nat.succ N) (⟨it.i, o, rst it.lk e, r.1, N, true⟩ :: flt pend)) r.2)
          (fun v => dRun P (callW st call) ops L (put e o.dst v) h N (flt pend)) (evPure P o (rst it.lk e) .nil))
        (ocond (allB (again P h) (flt pend)) (obind (evStep P (callW st call) o (rst it.lk e) h N) fun r => dRun P (callW st call) ops L (put e o.dst r.1) r.2.1 r.2.2 (prune it.anc (flt pend))))
        it.eff) b := by
      intro b hb
      show obind (nth ops.toList it.i) (fun o => obind (evWants ops (rst it.lk e) o) fun b => _) = _
      rw [ho]
      show obind (evWants ops (rst it.lk e) o) (fun b => _) = _
      rw [hb]
      rfl
    have key := fun (g : Option Bool) (hr2 : cItem P st call it o (fun v h1 N1 pend1 => cDraw P st call ops K L (put e o.dst v) h1 N1 pend1) (rst it.lk e) h N pend g = some res) =>
      cItem_ok (F := fun v h1 N1 pend1 => dRun P (callW st call) ops L (put e o.dst v) h1 N1 pend1) (x := fun y => K y.1 y.2.1 y.2.2 = some res) (fun v h1 N1 pend1 hk => ih _ _ _ _ hk) hr2
    cases hg : o.guard with
    | none =>
      rw [hg] at hr1
      rw [e0 true (by unfold evWants; rw [hg])]
      exact key none hr1
    | some p =>
      rw [hg] at hr1
      obtain ⟨b, hb, hr2⟩ := obind_some hr1
      rw [e0 b (cW_ok hb)]
      exact key (some b) hr2
end
end Go.Ev
end

section
namespace Go.Ev
open Go.RowKit Go.Sx
set_option linter.unusedVariables false
set_option linter.unusedSimpArgs false

/-! ### Slots handed on one by one -/
abbrev Ct := List Nat → Tr Ob → Nat → OpR
noncomputable def Cur (J : List Nat) : Type := List.rec (motive := fun _ => Type) Ct (fun _ _ ih => Value → ih) J
noncomputable def cur (J : List Nat) (k : Cont) : Tr Value → Cur J := List.rec (motive := fun J => Tr Value → Cur J) (fun acc => k acc) (fun t _ ih acc => fun v => ih (acc.set (some v) t)) J
noncomputable def ap (J : List Nat) (e : Tr Value) (ds : List Nat) (h : Tr Ob) (N : Nat) : Cur J → OpR :=
  List.rec (motive := fun J => Cur J → OpR) (fun g => g ds h N) (fun t _ ih g => xbind (e.get t) fun v => ih (g v)) J
noncomputable def jnR {α : Type} (x : α) (f : α → OpR) : OpR := f x
noncomputable def jn (J : List Nat) (k : Cont) (body : Cont → OpR) : OpR := jnR (cur J k (.e 32)) fun g => body fun e ds h N => ap J e ds h N g
noncomputable def lpN {α : Type} (z : α) (s : α → α) (m : Nat) : α := Nat.rec (motive := fun _ => α) z (fun _ g => s g) m
noncomputable def lpR {α : Type} (z : α) (s : α → α) : α := Nat.rec (motive := fun _ => α) z (fun _ g => s g) (nat_lit 1000000)
def rounds : Nat := 1000000
theorem lpR_eq {α : Type} (z : α) (s : α → α) : lpR z s = lpN z s rounds := rfl
theorem lpN_succ {α : Type} (z : α) (s : α → α) (m : Nat) : lpN z s (m + 1) = s (lpN z s m) := rfl

theorem ap_cur {k : Cont} {ds : List Nat} {h : Tr Ob} {N : Nat} {res : Res3} {e : Tr Value} : ∀ (J : List Nat) (acc : Tr Value), ap J e ds h N (cur J k acc) = some res →
    ∃ e', k e' ds h N = some res ∧ ∀ t v, e'.get t = some v → acc.get t = some v ∨ e.get t = some v
  | [], acc, hr => ⟨acc, hr, fun t v ht => .inl ht⟩
  | j :: J, acc, hr => by
    obtain ⟨v, h1, h2⟩ := obind_some (show obind (e.get j) (fun v => ap J e ds h N (cur J k (acc.set (some v) j))) = some res from hr)
    obtain ⟨e', h3, h4⟩ := ap_cur J _ h2
    refine ⟨e', h3, fun t u ht => ?_⟩
    rcases h4 t u ht with h5 | h5
    · rw [Tr.get_set] at h5
      by_cases e1 : t = j
      · rw [if_pos e1] at h5
        subst e1
        cases h5
        exact .inr h1
      · rw [if_neg e1] at h5
        exact .inl h5
    · exact .inr h5

section
variable {P : Program} {st : St} {call : CallF} {G : Gl} {res : Res3}
theorem Sta.sub {e e' : Tr Value} {ds : List Nat} {h : Tr Ob} {N : Nat} {a : Act} {w : World} (hs : Sta G e ds h N a w) (he : ∀ t v, e'.get t = some v → e.get t = some v) : Sta G e' ds h N a w :=
  let ⟨σ, s1, s2, s3, s4, s5⟩ := hs; ⟨σ, s1, s2, s3, ⟨s4.env.sub he, s4.marks⟩, s5⟩
theorem KO.ap {k : Cont} {q : Act → World → Prop} (hk : KO G res k q) (J : List Nat) : KO G res (fun e ds h N => ap J e ds h N (cur J k (.e 32))) q := by
  intro e ds h N hr
  obtain ⟨e', h1, h2⟩ := ap_cur J _ hr
  obtain ⟨h3, h4⟩ := hk _ _ _ _ h1
  refine ⟨h3, fun a w hs => h4 a w (hs.sub fun t v ht => ?_)⟩
  rcases h2 t v ht with h5 | h5
  · cases h5
  · exact h5
theorem jn_ok {k : Cont} {q : Act → World → Prop} (hk : KO G res k q) {J : List Nat} {body : Cont → OpR} {X : Prop} (hb : ∀ k', KO G res k' q → body k' = some res → X) (hr : jn J k body = some res) : X :=
  hb _ (hk.ap J) hr
end

/-! ### Code -/
inductive Hn where
  | n
  | s (a b : Hn)
  | j (J : List Nat) (a b : Hn)
noncomputable def Hn.l : Hn → Hn
  | .n => .n
  | .s a _ => a
  | .j _ a _ => a
noncomputable def Hn.rt : Hn → Hn
  | .n => .n
  | .s _ b => b
  | .j _ _ b => b
structure Kx where
  n : Cont
  x : Nat → Cont
  r : Cont
noncomputable def jnH (hn : Hn) (k : Cont) (body : Cont → OpR) : OpR :=
  match hn with
  | .j J _ _ => jn J k body
  | _ => body k
noncomputable def cnd (v : Value) (x y : OpR) : OpR :=
  match v with
  | .bool b => Bool.rec (motive := fun _ => OpR) y x b
  | _ => none
/-- The slots that a loop's record keeps. -/
noncomputable def kp (hn : Hn) (e : Tr Value) : Tr Value :=
  match hn with
  | .j J _ _ => rst J e
  | _ => e
noncomputable def rEnd (kn : Tr Ob → OpR) (kx : Nat → Tr Ob → OpR) (kr : Tr Ob → OpR) (l : Nat) (h : Tr Ob) : OpR :=
  match h.get l with
  | some (.l .ready pe n e' ps asg body df) => Ex.rec (motive := fun _ => Tr Ob → OpR) kn kx kr pe (h.set (some (.l .exhausted pe n e' ps asg body df)) l)
  | some (.l .done pe n e' ps asg body df) => Ex.rec (motive := fun _ => Tr Ob → OpR) kn kx kr pe (h.set (some (.l .exhausted pe n e' ps asg body df)) l)
  | _ => none
/-- Where a loop's deferred calls lie. -/
noncomputable def dfOf (h : Tr Ob) (l : Nat) : Option Nat :=
  match h.get l with
  | some (.l _ _ _ _ _ _ _ df) => some df
  | _ => none
noncomputable def cRange (st : St) (call : CallF) (nt : Nat) (r : Option Nat) (f : Operand) (ps : List Nat) (asg body : Code) (hn : Hn) (k : Kx) : Cont := fun e ds h N =>
  xbind (evo e f) fun fv => ocond (isFn fv) (match r with
    | none => fN (Nat.succ N) fun N1 => fN (Nat.succ N1) fun N2 => orun (callW st call fv [.func (.yield N1) ⟨[]⟩ ⟨[]⟩] ((h.set (some .d) N).set (some (.l .ready .n nt (kp hn e) ps asg body N)) N1) N2) fun _ h1 N3 =>
        rEnd (fun h2 => k.n e (N :: ds) h2 N3) (fun id h2 => k.x id e (N :: ds) h2 N3) (fun h2 => k.r e (N :: ds) h2 N3) N1 h1
    | some l => obind (dfOf h l) fun df => fN (Nat.succ N) fun N1 => orun (callW st call fv [.func (.yield N) ⟨[]⟩ ⟨[]⟩] (h.set (some (.l .ready .n nt (kp hn e) ps asg body df)) N) N1) fun _ h1 N3 =>
        rEnd (fun h2 => k.n e ds h2 N3) (fun id h2 => k.x id e ds h2 N3) (fun h2 => k.r e ds h2 N3) N h1)

noncomputable def cev (P : Program) (st : St) (call : CallF) (nt : Nat) (r : Option Nat) (c : Code) : Hn → Kx → Cont :=
  Code.rec (motive := fun _ => Hn → Kx → Cont)
    (fun _ k e ds h N => k.n e ds h N)
    (fun _ ops draw _ k e ds h N => Bool.rec (motive := fun _ => OpR) (cOps P st call nt ops (fun e h N => k.n e ds h N) ops.toList e h N) (xbind (plan nt ops) fun L => cDraw P st call ops (fun e h N => k.n e ds h N) L e h N []) draw)
    (fun _ _ fa fb hn k e ds h N => fa hn.l { k with n := fun e ds h N => fb hn.rt k e ds h N } e ds h N)
    (fun c _ _ fa fb hn k e ds h N => jnH hn k.n fun kn => xbind (evo e c) fun v => cnd v (fa hn.l { k with n := kn } e ds h N) (fb hn.rt { k with n := kn } e ds h N))
    (fun id _ fa hn k e ds h N => jnH hn k.n fun kn => fa hn.l ⟨kn, fun id' e ds h N => Bool.rec (motive := fun _ => OpR) (k.x id' e ds h N) (kn e ds h N) (Nat.beq id' id), k.r⟩ e ds h N)
    (fun _ fa hn k e ds h N => match hn with
      | .j J a _ => ap J e ds h N (lpR (cur J (fun _ _ _ _ => none) (.e 32)) fun g => cur J (fun e ds h N => fa a { k with n := fun e ds h N => ap J e ds h N g } e ds h N) (.e 32))
      | hn => lpR (fun _ _ _ _ => none) (fun g e ds h N => fa hn.l { k with n := g } e ds h N) e ds h N)
    (fun f ps asg body _ _ hn k e ds h N => jnH hn k.n fun kn => cRange st call nt r f ps.toList asg body hn.l { k with n := kn } e ds h N)
    (fun id _ k e ds h N => k.x id e ds h N)
    (fun _ fa hn k e ds h N => match r with | none => fa hn k e ds h N | some _ => none)
    (fun _ _ k e ds h N => k.n e ds h N)
    (fun _ _ _ _ _ _ _ => none)
    (fun _ k e ds h N => k.r e ds h N)
    (fun _ _ _ _ _ _ _ => none) c

section
variable {P : Program} {st : St} {call : CallF} {G : Gl} {res : Res3}

theorem jnH_ok {k : Cont} {q : Act → World → Prop} (hk : KO G res k q) {hn : Hn} {body : Cont → OpR} {X : Prop} (hb : ∀ k', KO G res k' q → body k' = some res → X) (hr : jnH hn k body = some res) : X := by
  unfold jnH at hr
  split at hr
  · exact jn_ok hk hb hr
  · exact hb _ hk hr

structure KxO (G : Gl) (res : Res3) (k : Kx) (Q : Exit → Act → World → Prop) : Prop where
  n : KO G res k.n (Q .normal)
  x : ∀ id, KO G res (k.x id) (Q (.exit id))
  r : KO G res k.r (Q .ret)

theorem kp_sub (hn : Hn) {e : Tr Value} : ∀ t v, (kp hn e).get t = some v → e.get t = some v := by
  intro t v ht
  unfold kp at ht
  split at ht
  · exact (rst_ok ht).2
  · exact ht

def kpe (k : Kx) (x : Ex) : Cont := match x with | .n => k.n | .x id => k.x id | .r => k.r
theorem rEnd_ok {k : Kx} {l : Nat} {e : Tr Value} {ds : List Nat} {h : Tr Ob} {N : Nat} (hr : rEnd (fun h2 => k.n e ds h2 N) (fun id h2 => k.x id e ds h2 N) (fun h2 => k.r e ds h2 N) l h = some res) :
    ∃ x h2, evEnd l e ds h N = .ok x e ds h2 N ∧ kpe k x e ds h2 N = some res := by
  unfold rEnd at hr
  split at hr
  · rename_i pe n e' ps asg body df ho
    exact ⟨pe, h.set (some (.l .exhausted pe n e' ps asg body df)) l, by unfold evEnd; rw [ho], by cases pe <;> exact hr⟩
  · rename_i pe n e' ps asg body df ho
    exact ⟨pe, h.set (some (.l .exhausted pe n e' ps asg body df)) l, by unfold evEnd; rw [ho], by cases pe <;> exact hr⟩
  · cases hr

/-- A range over a function. -/
theorem cRange_ok (hst : StOk P st) (hcall : CallOk P call) (hf : Fresh G.σ0 G.N0 res.2.2) {f : Operand} {ps : Array Nat} {asg body : Code} {hn : Hn} {k : Kx} {Q : Exit → Act → World → Prop} (hk : KxO G res k Q) :
    KO G res (cRange st call G.nt G.r f ps.toList asg body hn k) (fun a w => (Code.rangeFunc f ps asg body).wpIn (Fr G.rb) 0 P Q a w) := by
  intro e ds h N hr
  have hcw := callW_ok hst hcall
  have kx : ∀ (x : Ex) ds2 h2 N2, kpe k x e ds2 h2 N2 = some res → N2 ≤ res.2.2 ∧ ∀ a w, Sta G e ds2 h2 N2 a w → Q x.exit a w := by
    intro x ds2 h2 N2 hx
    cases x with
    | n => exact hk.n _ _ _ _ hx
    | x id => exact hk.x id _ _ _ _ hx
    | r => exact hk.r _ _ _ _ hx
  unfold cRange at hr
  obtain ⟨fv, hfv, hr1⟩ := obind_some hr
  obtain ⟨hfn, hr2⟩ := ocond_some hr1
  clear hr hr1
  cases hG : G.r with
  | none =>
    rw [hG] at hr2
    dsimp only at hr2
    rw [fN_eq, fN_eq] at hr2
    obtain ⟨v1, h1, N3, hc, hr3⟩ := orun_some hr2
    obtain ⟨x, h2, hend, hx⟩ := rEnd_ok hr3
    obtain ⟨hN3, hq⟩ := kx x _ _ _ hx
    have hN2 := (hcw _ _ _ _ _ _ _ hc).1
    refine ⟨by omega, fun a w hs => ?_⟩
    obtain ⟨σ, s1, s2, H, hA, hrr⟩ := hs
    have hfr := (s2.fresh hf s1).sub (Nat.le_refl N) hN3
    rw [hG] at hrr
    have hrb : G.rb = none := by cases hb : G.rb with | none => rfl | some b => rw [hb] at hrr; exact hrr.elim
    rw [hrb]
    refine wpIn_rangeFunc fun fn hF => ?_
    have hro : (Fr none).round = none := rfl
    rw [hro]
    have hM0 : σ N = none := hfr N (Nat.le_refl _) (by omega)
    have H1 : HR G.w0 (upd σ N (w.heap.size, 0)) (h.set (some .d) N) (w.alloc (.deferred (some []))) := H.alloc hM0 (fun σ' hl => heap_new w _)
    have hle1 : SLe σ (upd σ N (w.heap.size, 0)) := upd_le hM0
    have hM1 : (upd σ N (w.heap.size, 0)) (N + 1) = none := by rw [upd_other (by omega)]; exact hfr (N + 1) (by omega) (by omega)
    have H2 := lay_loop (fn := fn) (ps := ps.toList) (asg := asg) (body := body) H1 hM1 (upd_same _ _ _) ((hA.env.sub (kp_sub hn)).mono hle1)
    have hle2 := upd_le (x := ((w.alloc (.deferred (some []))).heap.size, 0)) hM1
    have hpsa : (⟨ps.toList⟩ : Array Nat) = ps := by simp
    rw [hpsa] at H2
    have hsz : (w.alloc (.deferred (some []))).heap.size = w.heap.size + 1 := by simp
    rw [hsz] at H2 hle2
    have hσN1 : (upd (upd σ N (w.heap.size, 0)) (N + 1) (w.heap.size + 1, 0)) (N + 1) = some (w.heap.size + 1, 0) := upd_same _ _ _
    obtain ⟨d, f', as, g1, g2, g3⟩ := callee_fn hcw hc hfn (by simp) H2 ((evo_ok hA.env hfv).mono (hle1.trans hle2)) (RlL.cons (.yl hσN1) (.nil _)) (fun i hi1 hi2 => by
      rw [upd_other (by omega), upd_other (by omega)]; exact hfr i (by omega) hi2)
    refine ⟨_, _, _, d, _, f', as, _, run_enterLoop_outer fn a.tmps ps asg body, ?_, fun _ _ => trivial, g2, fun h' => absurd h' (by simp [Fr, Fence.wide]), ?_⟩
    · have hres : resolve a.eval (rangeCall f (w.heap.size + 1)) 0 = Deferred.ofValue (a.eval f) #[.func (.yield (w.heap.size + 1)) #[] #[]] := by
        simp [resolve, Act.eval]
      rw [hres]
      exact g1
    · refine callsIn_fr (Calls.mono g3 ?_)
      rintro E w3 ⟨v3, rfl, σ3, g4, g5, g6⟩
      have hσ3 : σ3 (N + 1) = some (w.heap.size + 1, 0) := by rw [g4 (N + 1) (by omega)]; exact hσN1
      obtain ⟨e1, e2, e3, w4, g7, g8⟩ := evEnd_ok (P := P) hend g5 hσ3
      refine ⟨x.jump, w4, g7, ?_⟩
      have hext : Ext σ σ3 N N3 := fun i hi => by
        rw [g4 i (by omega), upd_other (by omega), upd_other (by omega)]
      have hle3 := hext.le hfr
      have hpost : Sta G e (N :: ds) h2 N3 { a with defers := [Sx.mark w.heap.size] ++ a.defers } w4 := by
        refine ⟨σ3, by omega, s2.trans hext s1 (by omega), g8, ⟨hA.env.mono hle3, ?_⟩, by rw [hG, hrb]; trivial⟩
        have hσ3N : σ3 N = some (w.heap.size, 0) := by rw [g4 N (by omega), upd_other (by omega), upd_same]
        exact (hA.marks.mono hle3).cons hσ3N
      exact jump_wp (hq _ _ hpost)
  | some l =>
    rw [hG] at hr2
    dsimp only at hr2
    obtain ⟨df, hdf, hr2⟩ := obind_some hr2
    unfold dfOf at hdf
    split at hdf
    · rename_i st0 pe0 n0 e0 ps0 asg0 body0 df0 ho
      cases hdf
      rw [fN_eq] at hr2
      obtain ⟨v1, h1, N3, hc, hr3⟩ := orun_some hr2
      obtain ⟨x, h2, hend, hx⟩ := rEnd_ok hr3
      obtain ⟨hN3, hq⟩ := kx x _ _ _ hx
      have hN2 := (hcw _ _ _ _ _ _ _ hc).1
      refine ⟨by omega, fun a w hs => ?_⟩
      obtain ⟨σ, s1, s2, H, hA, hrr⟩ := hs
      have hfr := (s2.fresh hf s1).sub (Nat.le_refl N) hN3
      rw [hG] at hrr
      cases hb : G.rb with
      | none => rw [hb] at hrr; exact hrr.elim
      | some rb =>
      have hrr0 := hrr
      rw [hb] at hrr
      obtain ⟨rr, hσl⟩ := hrr
      refine wpIn_rangeFunc fun fn hF => ?_
      have hro : (Fr (some rb)).round = some rb := rfl
      rw [hro]
      have hM0 : σ N = none := hfr N (Nat.le_refl _) (by omega)
      obtain ⟨fn0, tm0, db, dr, q1, q2, q3⟩ := H.ob l rb rr _ hσl ho
      have H2 := lay_loop (fn := fn) (ps := ps.toList) (asg := asg) (body := body) H hM0 q1 (hA.env.sub (kp_sub hn))
      have hle2 := upd_le (x := (w.heap.size, 0)) hM0
      have hpsa : (⟨ps.toList⟩ : Array Nat) = ps := by simp
      rw [hpsa] at H2
      have hσN1 : (upd σ N (w.heap.size, 0)) N = some (w.heap.size, 0) := upd_same _ _ _
      obtain ⟨d, f', as, g1, g2, g3⟩ := callee_fn hcw hc hfn (by simp) H2 ((evo_ok hA.env hfv).mono hle2) (RlL.cons (.yl hσN1) (.nil _)) (fun i hi1 hi2 => by
        rw [upd_other (by omega)]; exact hfr i (by omega) hi2)
      refine ⟨_, _, _, d, _, f', as, _, run_enterLoop_in q3 fn a.tmps ps asg body, ?_, fun _ _ => trivial, g2, fun h' => absurd h' (by simp [Fr, Fence.wide]), ?_⟩
      · have hres : resolve a.eval (rangeCall f w.heap.size) 0 = Deferred.ofValue (a.eval f) #[.func (.yield w.heap.size) #[] #[]] := by
          simp [resolve, Act.eval]
        rw [hres]
        exact g1
      · refine callsIn_fr (Calls.mono g3 ?_)
        rintro E w3 ⟨v3, rfl, σ3, g4, g5, g6⟩
        have hσ3 : σ3 N = some (w.heap.size, 0) := by rw [g4 N (by omega)]; exact hσN1
        obtain ⟨e1, e2, e3, w4, g7, g8⟩ := evEnd_ok (P := P) hend g5 hσ3
        refine ⟨x.jump, w4, g7, ?_⟩
        have hext : Ext σ σ3 N N3 := fun i hi => by
          rw [g4 i (by omega), upd_other (by omega)]
        have hle3 := hext.le hfr
        have hpost : Sta G e ds h2 N3 { a with defers := [] ++ a.defers } w4 :=
          ⟨σ3, by omega, s2.trans hext s1 (by omega), g8, ⟨hA.env.mono hle3, hA.marks.mono hle3⟩, by rw [hG]; exact hrr0.mono hle3⟩
        have := jump_wp (P := P) (rb := some rb) (hq _ _ hpost)
        exact this
    · cases hdf

/-- Whatever the code. -/
theorem cev_ok (hmix : P.follows .mixedOrders = true) (hst : StOk P st) (hcall : CallOk P call) (hf : Fresh G.σ0 G.N0 res.2.2) (c : Code) : ∀ (hn : Hn) (k : Kx) (Q : Exit → Act → World → Prop), KxO G res k Q →
    KO G res (cev P st call G.nt G.r c hn k) (fun a w => c.wpIn (Fr G.rb) 0 P Q a w) := by
  induction c with
  | skip =>
    intro hn k Q hk e ds h N hr
    obtain ⟨h1, h2⟩ := hk.n e ds h N hr
    exact ⟨h1, fun a w hs => wpIn_skip (h2 a w hs)⟩
  | region id ops draw =>
    intro hn k Q hk e ds h N hr
    cases draw with
    | false =>
      obtain ⟨h1, h2⟩ := cOps_ok (ops := ops) (Q := Q) (ds := ds) (K := fun e h N => k.n e ds h N) hst hcall hf (fun e h N hk' => hk.n e ds h N hk') ops.toList e h N hr
      exact ⟨h1, fun a w hs => wpIn_region_list (h2 a w hs)⟩
    | true =>
      obtain ⟨L, hL, hr1⟩ := obind_some (show obind (plan G.nt ops) (fun L => cDraw P st call ops (fun e h N => k.n e ds h N) L e h N []) = some res from hr)
      obtain ⟨y, hy, hk'⟩ := cDraw_ok _ _ _ _ _ hr1
      obtain ⟨h1, h2⟩ := hk.n _ _ _ _ hk'
      have hd : evDraw P (callW st call) G.nt ops e h N = some (y.1, y.2.1, y.2.2) := by
        show obind (plan G.nt ops) _ = _
        rw [hL]
        exact hy
      obtain ⟨g1, g2⟩ := evDraw_ok hmix (callW_ok hst hcall) _ _ _ _ _ _ _ _ hd
      refine ⟨Nat.le_trans g1 h1, fun a w hs => ?_⟩
      obtain ⟨σ, s1, s2, s3, s4, s5⟩ := hs
      have hfr := (s2.fresh hf s1).sub (Nat.le_refl N) h1
      refine g2 G.w0 σ a w id G.rb Q s3 s4.env (hfr.sub (Nat.le_refl _) (Nat.le_refl _)) ?_
      intro σ' a' w' t1 t2 t3 t4
      have hle := t1.le hfr
      exact h2 a' w' ⟨σ', by omega, s2.trans t1 s1 g1, t2, ⟨t3, by rw [t4]; exact s4.marks.mono hle⟩, s5.mono hle⟩
  | seq x y ihx ihy =>
    intro hn k Q hk e ds h N hr
    have hy := ihy hn.rt k Q hk
    have hx := ihx hn.l { k with n := fun e ds h N => cev P st call G.nt G.r y hn.rt k e ds h N } (Exit.then (y.wpIn (Fr G.rb) 0 P Q) Q) ⟨hy, hk.x, hk.r⟩
    obtain ⟨h1, h2⟩ := hx e ds h N hr
    exact ⟨h1, fun a w hs => wpIn_seq (h2 a w hs)⟩
  | cond c x y ihx ihy =>
    intro hn k Q hk e ds h N hr
    refine jnH_ok hk.n (hn := hn) (fun kn hkn hr1 => ?_) hr
    obtain ⟨v, hv, hr2⟩ := obind_some hr1
    unfold cnd at hr2
    split at hr2
    · rename_i b
      have hk' : KxO G res { k with n := kn } Q := ⟨hkn, hk.x, hk.r⟩
      cases b with
      | true =>
        obtain ⟨h1, h2⟩ := ihx hn.l _ Q hk' e ds h N hr2
        exact ⟨h1, fun a w hs => by obtain ⟨σ, s1, s2, s3, s4, s5⟩ := hs; exact wpIn_cond_true (rl_bool (evo_ok s4.env hv)) (h2 a w ⟨σ, s1, s2, s3, s4, s5⟩)⟩
      | false =>
        obtain ⟨h1, h2⟩ := ihy hn.rt _ Q hk' e ds h N hr2
        exact ⟨h1, fun a w hs => by obtain ⟨σ, s1, s2, s3, s4, s5⟩ := hs; exact wpIn_cond_false (rl_bool (evo_ok s4.env hv)) (h2 a w ⟨σ, s1, s2, s3, s4, s5⟩)⟩
    · cases hr2
  | block id x ihx =>
    intro hn k Q hk e ds h N hr
    refine jnH_ok hk.n (hn := hn) (fun kn hkn hr1 => ?_) hr
    have hk' : KxO G res ⟨kn, fun id' e ds h N => Bool.rec (motive := fun _ => OpR) (k.x id' e ds h N) (kn e ds h N) (Nat.beq id' id), k.r⟩ (Exit.inBlock id Q) := by
      refine ⟨hkn, fun id' => ?_, hk.r⟩
      show KO G res (fun e ds h N => Bool.rec (motive := fun _ => OpR) (k.x id' e ds h N) (kn e ds h N) (Nat.beq id' id)) _
      cases hb : Nat.beq id' id with
      | true =>
        have : Exit.inBlock id Q (.exit id') = Q .normal := by
          funext a w; show (if id' = id then _ else _) = _; rw [if_pos (Nat.eq_of_beq_eq_true hb)]
        rw [this]
        exact hkn
      | false =>
        have : Exit.inBlock id Q (.exit id') = Q (.exit id') := by
          funext a w; show (if id' = id then _ else _) = _; rw [if_neg (fun e => by rw [e, Nat.beq_refl] at hb; cases hb)]
        rw [this]
        exact hk.x id'
    obtain ⟨h1, h2⟩ := ihx hn.l _ _ hk' e ds h N hr1
    exact ⟨h1, fun a w hs => wpIn_block (h2 a w hs)⟩
  | loop x ihx =>
    intro hn k Q hk
    have tree : ∀ hn', KO G res (fun e ds h N => lpR (fun _ _ _ _ => none) (fun g e ds h N => cev P st call G.nt G.r x hn' { k with n := g } e ds h N) e ds h N) (fun a w => (Code.loop x).wpIn (Fr G.rb) 0 P Q a w) := by
      intro hn' e ds h N hr
      have key : ∀ m, KO G res (lpN (fun _ _ _ _ => none) (fun g e ds h N => cev P st call G.nt G.r x hn' { k with n := g } e ds h N) m) (fun a w => Code.roundsIn (Fr G.rb) 0 P x Q m a w) := by
        intro m
        induction m with
        | zero => intro e ds h N hr; cases hr
        | succ m ih =>
          rw [lpN_succ]
          exact ihx hn' _ (Exit.then (Code.roundsIn (Fr G.rb) 0 P x Q m) Q) ⟨ih, hk.x, hk.r⟩
      rw [lpR_eq] at hr
      generalize rounds = m at hr
      obtain ⟨h1, h2⟩ := key m e ds h N hr
      exact ⟨h1, fun a w hs => wpIn_loop_rounds m (h2 a w hs)⟩
    cases hn with
    | n => exact tree .n
    | s a b => exact tree a
    | j J hn' b =>
      have key : ∀ m, KO G res (fun e ds h N => ap J e ds h N (lpN (cur J (fun _ _ _ _ => none) (.e 32)) (fun g => cur J (fun e ds h N => cev P st call G.nt G.r x hn' { k with n := fun e ds h N => ap J e ds h N g } e ds h N) (.e 32)) m)) (fun a w => Code.roundsIn (Fr G.rb) 0 P x Q m a w) := by
        intro m
        induction m with
        | zero =>
          intro e ds h N hr
          obtain ⟨e', h1, _⟩ := ap_cur (k := fun _ _ _ _ => none) J (.e 32) hr
          cases h1
        | succ m ih =>
          rw [lpN_succ]
          exact KO.ap (q := fun a w => Code.roundsIn (Fr G.rb) 0 P x Q (m + 1) a w)
            (ihx hn' { k with n := fun e ds h N => ap J e ds h N (lpN (cur J (fun _ _ _ _ => none) (.e 32)) (fun g => cur J (fun e ds h N => cev P st call G.nt G.r x hn' { k with n := fun e ds h N => ap J e ds h N g } e ds h N) (.e 32)) m) }
              (Exit.then (Code.roundsIn (Fr G.rb) 0 P x Q m) Q) ⟨ih, hk.x, hk.r⟩) J
      intro e ds h N hr
      have hr1 : ap J e ds h N (lpR (cur J (fun _ _ _ _ => none) (.e 32)) fun g => cur J (fun e ds h N => cev P st call G.nt G.r x hn' { k with n := fun e ds h N => ap J e ds h N g } e ds h N) (.e 32)) = some res := hr
      rw [lpR_eq] at hr1
      clear hr
      generalize rounds = m at hr1
      obtain ⟨h1, h2⟩ := key m e ds h N hr1
      exact ⟨h1, fun a w hs => wpIn_loop_rounds m (h2 a w hs)⟩
  | rangeFunc f ps asg body _ _ =>
    intro hn k Q hk e ds h N hr
    refine jnH_ok hk.n (hn := hn) (fun kn hkn hr1 => ?_) hr
    exact cRange_ok hst hcall hf (k := { k with n := kn }) ⟨hkn, hk.x, hk.r⟩ e ds h N hr1
  | exit id =>
    intro hn k Q hk e ds h N hr
    obtain ⟨h1, h2⟩ := hk.x id e ds h N hr
    exact ⟨h1, fun a w hs => wpIn_exit (h2 a w hs)⟩
  | scope x ihx =>
    intro hn k Q hk e ds h N hr
    have hr' : (match (motive := Option Nat → OpR) G.r with | none => cev P st call G.nt G.r x hn k e ds h N | some _ => none) = some res := hr
    cases hG : G.r with
    | some l => rw [hG] at hr'; cases hr'
    | none =>
      have hr2 : cev P st call G.nt G.r x hn k e ds h N = some res := by
        revert hr'
        generalize cev P st call G.nt G.r x hn k e ds h N = z
        rw [hG]
        exact id
      obtain ⟨h1, h2⟩ := ihx hn k (Exit.noGoto Q) ⟨hk.n, hk.x, hk.r⟩ e ds h N hr2
      refine ⟨h1, fun a w hs => ?_⟩
      have hb : G.rb = none := by
        obtain ⟨σ, s1, s2, s3, s4, s5⟩ := hs
        rw [hG] at s5
        cases hb : G.rb with
        | none => rfl
        | some b => rw [hb] at s5; exact s5.elim
      have h3 := h2 a w hs
      rw [hb] at h3 ⊢
      exact (wpIn_wide (n := 0)).2 (wp_scope_straight ((wpIn_wide (n := 0)).1 h3))
  | label l =>
    intro hn k Q hk e ds h N hr
    obtain ⟨h1, h2⟩ := hk.n e ds h N hr
    exact ⟨h1, fun a w hs => wpIn_label (h2 a w hs)⟩
  | goto l => intro hn k Q hk e ds h N hr; cases hr
  | ret =>
    intro hn k Q hk e ds h N hr
    obtain ⟨h1, h2⟩ := hk.r e ds h N hr
    exact ⟨h1, fun a w hs => wpIn_ret (h2 a w hs)⟩
  | refuse s => intro hn k Q hk e ds h N hr; cases hr
end
end Go.Ev
end

section
namespace Go.Ev
open Go.RowKit Go.Sx
set_option linter.unusedVariables false
set_option linter.unusedSimpArgs false

theorem KO.none {G : Gl} {res : Res3} {q : Act → World → Prop} : KO G res (fun _ _ _ _ => Option.none) q := fun e ds h N hr => by cases hr
/-! ### Functions -/
noncomputable def cRv (P : Program) (e : Tr Value) (h : Tr Ob) : ResultVar → Option Value
  | .tmp t => e.get t
  | .cell p ty => xbind (e.get p) fun v => ldT P ty h v
noncomputable def cRvs (P : Program) (e : Tr Value) (h : Tr Ob) (rs : List ResultVar) (k : List Value → OpR) : OpR :=
  List.rec (motive := fun _ => (List Value → OpR) → OpR) (fun k => k []) (fun x _ ih k => obind (cRv P e h x) fun v => ih fun vs => k (v :: vs)) rs k
theorem cRvs_ok {P : Program} {e : Tr Value} {h : Tr Ob} {res : Res3} : ∀ {rs : List ResultVar} {k : List Value → OpR}, cRvs P e h rs k = some res → ∃ vs, evRvs P e h rs = some vs ∧ k vs = some res
  | [], k, hr => ⟨[], rfl, hr⟩
  | x :: rs, k, hr => by
    obtain ⟨v, h1, h2⟩ := obind_some (show obind (cRv P e h x) (fun v => cRvs P e h rs fun vs => k (v :: vs)) = some res from hr)
    obtain ⟨vs, h3, h4⟩ := cRvs_ok h2
    refine ⟨v :: vs, ?_, h4⟩
    have h5 : evRv P e h x = some v := by
      cases x with
      | tmp t => exact h1
      | cell p ty =>
        obtain ⟨u, h6, h7⟩ := obind_some h1
        have h8 := ldT_eq h7
        show obind (e.get p) _ = _
        rw [h6]
        exact h8
    show obind (evRv P e h x) (fun v => obind (evRvs P e h rs) fun vs => some (v :: vs)) = _
    rw [h5, h3]
    rfl
noncomputable def cFin (P : Program) (rs : List ResultVar) : Cont := fun e ds h N => obind (unmark ds h) fun h' => cRvs P e h' rs fun vs => some (pack vs, h', N)
noncomputable def cFn (P : Program) (st : St) (f : Nat) (hn : Hn) : Fs := fun call args h N =>
  xbind (fnOf P f) fun fi => xcond (Nat.ble (len args) fi.1) (cev P st call fi.1 none fi.2.1 hn ⟨cFin P fi.2.2, fun _ _ _ _ _ => none, cFin P fi.2.2⟩ (envT args 0) [] h N)

section
variable {P : Program} {st : St}
theorem cFn_ok (hmix : P.follows .mixedOrders = true) (hst : StOk P st) (f : Nat) (hn : Hn) : FOk P f (cFn P st f hn) := by
  intro call hcall args h N v h' N' hr
  obtain ⟨⟨nt, c, rs⟩, hfi, hr1⟩ := obind_some hr
  obtain ⟨hle, hr2⟩ := xcond_some hr1
  clear hr hr1
  obtain ⟨fn, hfn, hb, hnt, hrs, hcal⟩ := fnOf_ok hfi
  have hle' := Nat.le_of_ble_eq_true hle
  rw [len_eq] at hle'
  dsimp only at hr2 hle'
  have main : ∀ (w0 : Fen) (σ : Sg) (w : World) (args' : List Value), HR w0 σ h w → RlL σ args args' → Fresh σ N N' → N ≤ N' ∧
      Calls P f ⟨args'⟩ w fun e w' => ∃ v', e = .returned v' ∧ ∃ σ', Ext σ σ' N N' ∧ HR w0 σ' h' w' ∧ Rl σ' v v' := by
    intro w0 σ w args' H ha hf
    let G : Gl := ⟨w0, σ, N, nt, none, none⟩
    let R : Ending → World → Prop := fun e w' => ∃ v', e = .returned v' ∧ ∃ σ', Ext σ σ' N N' ∧ HR w0 σ' h' w' ∧ Rl σ' v v'
    have hfin : KO G (v, h', N') (cFin P rs) (fun a w => LeavesInM (Fr none) 0 P fn a.tmps R a.defers .returning w) := by
      intro e1 ds1 h1 N1 hk
      obtain ⟨h2, hum, hk1⟩ := obind_some hk
      obtain ⟨vs, hvs, hk2⟩ := cRvs_ok hk1
      cases hk2
      refine ⟨Nat.le_refl _, fun a1 w1 hs => ?_⟩
      obtain ⟨σ1, s1, s2, s3, s4, s5⟩ := hs
      refine unmark_ok (σ := σ1) ds1 a1.defers h1 w1 hum s3 s4.marks ?_
      intro w2 H2
      obtain ⟨u, q1, q2⟩ := run_results hrs H2 s4.env hvs
      exact ⟨u, q2, u, rfl, σ1, s2, H2, q1⟩
    have hk : KxO G (v, h', N') ⟨cFin P rs, fun _ _ _ _ _ => none, cFin P rs⟩ (bodyPostM (Fr none) 0 P fn R) := ⟨hfin, fun id => KO.none, hfin⟩
    obtain ⟨g1, g2⟩ := cev_ok (G := G) hmix hst hcall hf c hn _ _ hk _ _ _ _ hr2
    refine ⟨g1, ?_⟩
    refine callsIn_wide.1 (callsIn_of_wp_marks (F := Fr none) (n := 0) hfn hb trivial ?_)
    rw [hnt]
    have hst' := er_start (nt := nt) ha (by rw [← ha.len]; exact hle')
    exact g2 _ _ ⟨σ, Nat.le_refl _, Ext.refl _ _ _, H, ⟨hst', ⟨rfl, fun i d m h => by simp at h⟩⟩, trivial⟩
  refine ⟨hcal, ?_, fun w0 σ w args' H ha hf => (main w0 σ w args' H ha hf).2⟩
  -- that numbers grow holds without a world
  let G : Gl := ⟨default, fun _ => none, N, nt, none, none⟩
  have hfin : KO G (v, h', N') (cFin P rs) (fun _ _ => True) := by
    intro e1 ds1 h1 N1 hk
    obtain ⟨h2, hum, hk1⟩ := obind_some hk
    obtain ⟨vs, hvs, hk2⟩ := cRvs_ok hk1
    cases hk2
    exact ⟨Nat.le_refl _, fun _ _ _ => trivial⟩
  have hk : KxO G (v, h', N') ⟨cFin P rs, fun _ _ _ _ _ => none, cFin P rs⟩ (fun _ _ _ => True) := ⟨hfin, fun id => KO.none, hfin⟩
  exact (cev_ok (G := G) hmix hst hcall (fun i _ _ => rfl) c hn _ _ hk _ _ _ _ hr2).1

/-! ### Calls whose first argument's capacity decides -/
end
section
variable {P : Program} {w0 : Fen} {w : World} {σ : Sg} {h : Tr Ob} {e : Tr Value} {n N nt : Nat} {a : Act} {o : Oper} {r : Option Nat}
end
section
variable {P : Program} {st : St}
/-! ### Rounds -/
noncomputable def isNil {α : Type} (l : List α) : Bool := List.rec (motive := fun _ => Bool) true (fun _ _ _ => false) l
def anySt : LoopState → Bool := fun _ => true
noncomputable def rK (l : Nat) (x3 : Ex) : Cont := fun e3 ds3 h3 N3 => obind (setSt h3 l anySt (Bool.rec (motive := fun _ => LoopState) .done .ready (isN x3)) (some x3)) fun h4 => some (.bool (isN x3), h4, N3)
noncomputable def cRn0 (P : Program) (st : St) (call : CallF) (nt l : Nat) (asg body : Code) (hn : Hn) (e : Tr Value) (h : Tr Ob) (N : Nat) : OpR :=
  cev P st call nt (some l) asg hn.l ⟨fun e1 ds1 h1 N1 => ocond (isNil ds1) (obind (setSt h1 l isReady .busy none) fun h2 => cev P st call nt (some l) body hn.rt ⟨rK l .n, fun id => rK l (.x id), rK l .r⟩ e1 [] h2 N1),
    fun _ _ _ _ _ => none, fun _ _ _ _ => none⟩ e [] h N
noncomputable def cRnd (P : Program) (st : St) (call : CallF) (nt l : Nat) (asg body : Code) (hn : Hn) (e : Tr Value) (h : Tr Ob) (N : Nat) : OpR :=
  match hn with
  | .j J _ _ => ap J e [] h N (cur J (fun e _ h N => cRn0 P st call nt l asg body hn e h N) (.e 32))
  | hn => cRn0 P st call nt l asg body hn e h N
/-- A quick round: of a loop whose record bears this body. -/
abbrev Rs := CallF → Nat → Tr Value → Tr Ob → Nat → OpR
noncomputable def cRound (P : Program) (rd : Nat → Code → Code → Option Rs) (call : CallF) (l : Nat) (args : List Value) (h : Tr Ob) (N : Nat) : OpR :=
  match h.get l with
  | some (.l .ready _ nt e ps asg body _) => ocond (Nat.beq (len args) (len ps)) (ocond (allLt nt ps)
      (Option.rec (motive := fun _ => OpR) (cRnd P [] call nt l asg body .n (putAll ps args e) h N) (fun F => F call l (putAll ps args e) h N) (rd nt asg body)))
  | _ => none

/-- What is said of a quick round. -/
def ROk (P : Program) (nt : Nat) (asg body : Code) (F : Rs) : Prop :=
  ∀ call, CallOk P call → ∀ l e h N v h' N', F call l e h N = some (v, h', N') → N ≤ N' ∧ ∀ w0 σ w b rr fn tm, HR w0 σ h w → σ l = some (b, rr) → ER σ e nt tm → Fresh σ N N' →
    RoundIn (Fr none) 0 P b fn tm asg body w fun e w' => ∃ v', e = .returned v' ∧ ∃ σ', Ext σ σ' N N' ∧ HR w0 σ' h' w' ∧ Rl σ' v v'

theorem cRn0_ok (hmix : P.follows .mixedOrders = true) (hst : StOk P st) (nt : Nat) (asg body : Code) (hn : Hn) : ROk P nt asg body (fun call l e h N => cRn0 P st call nt l asg body hn e h N) := by
  intro call hcall l e h N v h' N' hr
  have num : N ≤ N' := by
    let G : Gl := ⟨default, fun _ => none, N, nt, some l, none⟩
    have hK : ∀ x3, KO G (v, h', N') (rK l x3) (fun _ _ => True) := by
      intro x3 e3 ds3 h3 N3 hk
      obtain ⟨h4, _, hk2⟩ := obind_some hk
      cases hk2
      exact ⟨Nat.le_refl _, fun _ _ _ => trivial⟩
    have hk2 : KxO G (v, h', N') ⟨rK l .n, fun id => rK l (.x id), rK l .r⟩ (fun _ _ _ => True) := ⟨hK _, fun id => hK _, hK _⟩
    have hk1 : KxO G (v, h', N') ⟨fun e1 ds1 h1 N1 => ocond (isNil ds1) (obind (setSt h1 l isReady .busy none) fun h2 => cev P st call nt (some l) body hn.rt ⟨rK l .n, fun id => rK l (.x id), rK l .r⟩ e1 [] h2 N1),
        fun _ _ _ _ _ => none, fun _ _ _ _ => none⟩ (fun _ _ _ => True) := by
      refine ⟨?_, fun id => KO.none, KO.none⟩
      intro e1 ds1 h1 N1 hk
      obtain ⟨_, hk⟩ := ocond_some hk
      obtain ⟨h2, _, hk⟩ := obind_some hk
      exact ⟨(cev_ok (G := G) hmix hst hcall (fun i _ _ => rfl) body hn.rt _ _ hk2 _ _ _ _ hk).1, fun _ _ _ => trivial⟩
    exact (cev_ok (G := G) hmix hst hcall (fun i _ _ => rfl) asg hn.l _ _ hk1 _ _ _ _ hr).1
  refine ⟨num, fun w0 σ w b rr fn tm H hσ hER hf => ?_⟩
  let G : Gl := ⟨w0, σ, N, nt, some l, some b⟩
  let R : Ending → World → Prop := fun e w' => ∃ v', e = .returned v' ∧ ∃ σ', Ext σ σ' N N' ∧ HR w0 σ' h' w' ∧ Rl σ' v v'
  have hK : ∀ x3, KO G (v, h', N') (rK l x3) (roundPost P b R x3.exit) := by
    intro x3 e3 ds3 h3 N3 hk
    obtain ⟨h4, hset4, hk2⟩ := obind_some hk
    cases hk2
    refine ⟨Nat.le_refl _, fun a3 w3 hs => ?_⟩
    obtain ⟨σ3, s1, s2, s3, s4, s5⟩ := hs
    have hle3 := s2.le hf
    obtain ⟨rec3, r4, r5, r6⟩ := setSt_ok hset4 s3 (hle3 _ _ hσ)
    have hend := run_endRound (P := P) x3.jump r4
    have fin : ∃ v w', (Instr.endRound b x3.jump).run P w3 = .ok v w' ∧ R (.returned v) w' := by
      refine ⟨_, _, hend, _, rfl, σ3, s2, ?_, ?_⟩
      · have e1 : (if x3.jump.isNone then LoopState.ready else LoopState.done) = (Bool.rec (motive := fun _ => LoopState) .done .ready (isN x3)) := by cases x3 <;> rfl
        rw [e1]
        exact r6
      · have e2 : x3.jump.isNone = isN x3 := by cases x3 <;> rfl
        rw [e2]
        exact .sc rfl
    cases x3 <;> exact fin
  have hk2 : KxO G (v, h', N') ⟨rK l .n, fun id => rK l (.x id), rK l .r⟩ (roundPost P b R) := ⟨hK .n, fun id => hK (.x id), hK .r⟩
  have hk1 : KxO G (v, h', N') ⟨fun e1 ds1 h1 N1 => ocond (isNil ds1) (obind (setSt h1 l isReady .busy none) fun h2 => cev P st call nt (some l) body hn.rt ⟨rK l .n, fun id => rK l (.x id), rK l .r⟩ e1 [] h2 N1),
      fun _ _ _ _ _ => none, fun _ _ _ _ => none⟩ (Exit.then (fun a₁ w₁ => ∃ w₂, (Instr.beginRound b).run P w₁ = .ok () w₂ ∧ body.wpIn (Fr (some b)) 0 P (roundPost P b R) a₁ w₂) (fun _ _ _ => False)) := by
    refine ⟨?_, fun id => KO.none, KO.none⟩
    intro e1 ds1 h1 N1 hk0
    obtain ⟨hds, hk1⟩ := ocond_some (show ocond (isNil ds1) (obind (setSt h1 l isReady .busy none) fun h2 => cev P st call nt (some l) body hn.rt ⟨rK l .n, fun id => rK l (.x id), rK l .r⟩ e1 [] h2 N1) = some (v, h', N') from hk0)
    obtain ⟨h2, hset, hk⟩ := obind_some hk1
    clear hk0 hk1
    have hds' : ds1 = [] := by cases ds1 with | nil => rfl | cons d ds => cases hds
    subst hds'
    obtain ⟨g1, g2⟩ := cev_ok (G := G) hmix hst hcall hf body hn.rt _ _ hk2 _ _ _ _ hk
    refine ⟨g1, fun a1 w1 hs => ?_⟩
    obtain ⟨σ1, s1, s2, s3, s4, s5⟩ := hs
    have hle1 := s2.le (hf.sub (Nat.le_refl _) g1)
    obtain ⟨rec1, r1, r2, r3⟩ := setSt_ok hset s3 (hle1 _ _ hσ)
    exact ⟨_, run_beginRound (P := P) r1 (isReady_ok r2), g2 _ _ ⟨σ1, s1, s2, r3, s4, s5⟩⟩
  obtain ⟨g1, g2⟩ := cev_ok (G := G) hmix hst hcall hf asg hn.l _ _ hk1 _ _ _ _ hr
  refine roundIn_of_wpIn trivial ?_
  exact g2 _ _ ⟨σ, Nat.le_refl _, Ext.refl _ _ _, H, ⟨hER, ⟨rfl, fun i d m h => by simp at h⟩⟩, ⟨rr, hσ⟩⟩

theorem cRnd_ok (hmix : P.follows .mixedOrders = true) (hst : StOk P st) (nt : Nat) (asg body : Code) (hn : Hn) : ROk P nt asg body (fun call l e h N => cRnd P st call nt l asg body hn e h N) := by
  have h0 := cRn0_ok hmix hst nt asg body hn
  cases hn with
  | n => exact h0
  | s a b => exact h0
  | j J a b =>
    intro call hcall l e h N v h' N' hr
    obtain ⟨e', h1, h2⟩ := ap_cur (k := fun e _ h N => cRn0 P st call nt l asg body (.j J a b) e h N) J (.e 32) hr
    obtain ⟨g1, g2⟩ := h0 call hcall _ _ _ _ _ _ _ h1
    refine ⟨g1, fun w0 σ w b rr fn tm H hσ hER hf => g2 w0 σ w b rr fn tm H hσ (hER.sub fun t u ht => ?_) hf⟩
    rcases h2 t u ht with h3 | h3
    · cases h3
    · exact h3

def RdOk (P : Program) (rd : Nat → Code → Code → Option Rs) : Prop := ∀ nt asg body F, rd nt asg body = some F → ROk P nt asg body F
theorem cRound_ok (hmix : P.follows .mixedOrders = true) {rd : Nat → Code → Code → Option Rs} (hrd : RdOk P rd) {call : CallF} (hcall : CallOk P call) {l : Nat} {args : List Value} {h : Tr Ob} {N : Nat} {v : Value} {h' : Tr Ob} {N' : Nat}
    (hr : cRound P rd call l args h N = some (v, h', N')) :
    N ≤ N' ∧ ∀ w0 σ w b rr args', HR w0 σ h w → σ l = some (b, rr) → RlL σ args args' → Fresh σ N N' →
      ∃ fn tm asg body, (Instr.yield b ⟨args'⟩).run P w = .ok (.round b fn tm asg body) w ∧
        RoundIn (Fr none) 0 P b fn tm asg body w fun e w' => ∃ v', e = .returned v' ∧ ∃ σ', Ext σ σ' N N' ∧ HR w0 σ' h' w' ∧ Rl σ' v v' := by
  unfold cRound at hr
  split at hr
  · rename_i pe0 nt e ps asg body df ho
    obtain ⟨hlen, hr1⟩ := ocond_some hr
    obtain ⟨hlt, hr2⟩ := ocond_some hr1
    clear hr hr1
    have hlen' := Nat.eq_of_beq_eq_true hlen
    rw [len_eq, len_eq] at hlen'
    have hR : ∃ F, ROk P nt asg body F ∧ F call l (putAll ps args e) h N = some (v, h', N') := by
      cases hd : rd nt asg body with
      | none => rw [hd] at hr2; exact ⟨_, cRnd_ok hmix (st := []) (fun x hx => by cases hx) nt asg body .n, hr2⟩
      | some F => rw [hd] at hr2; exact ⟨F, hrd _ _ _ _ hd, hr2⟩
    obtain ⟨F, hF, hr3⟩ := hR
    obtain ⟨g1, g2⟩ := hF call hcall _ _ _ _ _ _ _ hr3
    refine ⟨g1, fun w0 σ w b rr args' H hσ ha hf => ?_⟩
    obtain ⟨fn, tm, db, drr, q1, q2, q3⟩ := H.ob l b rr _ hσ ho
    have hy := run_yield (P := P) (args := ⟨args'⟩) q3 (by show args'.length = ps.length; rw [← ha.len]; exact hlen')
    refine ⟨_, _, _, _, hy, ?_⟩
    dsimp only
    have hfold : ((⟨ps⟩ : Array Nat).zip ⟨args'⟩).foldl (fun tmps (x : Nat × Value) => tmps.setIfInBounds x.1 x.2) tm = (ps.zip args').foldl (fun t (x : Nat × Value) => t.setIfInBounds x.1 x.2) tm := by
      rw [← Array.foldl_toList]; simp
    have hER := putAll_ok ps args args' e tm ha q2 (allLt_ok hlt)
    rw [← hfold] at hER
    exact g2 w0 σ w b rr fn _ H hσ hER hf
  · cases hr

/-! ### Calls -/
noncomputable def cAny (P : Program) (tab : Nat → Option Fs) (rd : Nat → Code → Code → Option Rs) (ih : CallF) : CallF := fun fv args h N =>
  match fv with
  | .func (.func f) ⟨fs⟩ ⟨cs⟩ => Option.rec (motive := fun _ => OpR)
      (Bool.rec (motive := fun _ => OpR) (cFn P [] f .n ih (app fs (app args cs)) h N) (ocond (Nat.beq (len args) 2) (evOver P f (app fs (app args cs)) h N)) (noBody P f))
      (fun F => F ih (app fs (app args cs)) h N) (tab f)
  | .func (.yield l) ⟨[]⟩ ⟨[]⟩ => cRound P rd ih l args h N
  | _ => none
noncomputable def cAll (P : Program) (tab : Nat → Option Fs) (rd : Nat → Code → Code → Option Rs) (d : Nat) : CallF :=
  Nat.rec (motive := fun _ => CallF) (fun _ _ _ _ => none) (fun _ ih => cAny P tab rd ih) d

def TabF (P : Program) (tab : Nat → Option Fs) : Prop := ∀ f F, tab f = some F → FOk P f F

theorem cAny_ok (hmix : P.follows .mixedOrders = true) {tab : Nat → Option Fs} (ht : TabF P tab) {rd : Nat → Code → Code → Option Rs} (hrd : RdOk P rd) {ih' : CallF} (ih : CallOk P ih') : CallOk P (cAny P tab rd ih') := by
  intro fv args h N v h' N' hr'
  unfold cAny at hr'
  split at hr'
  · rename_i f fs cs
    rw [app_eq, app_eq] at hr'
    have key : ∀ F, FOk P f F → F ih' (fs ++ (args ++ cs)) h N = some (v, h', N') → N ≤ N' ∧ ∀ w0 σ w fv' args', HR w0 σ h w → Rl σ (.func (.func f) ⟨fs⟩ ⟨cs⟩) fv' → RlL σ args args' → Fresh σ N N' →
        CallV P fv' args' w fun v' w' => ∃ σ', Ext σ σ' N N' ∧ HR w0 σ' h' w' ∧ Rl σ' v v' := by
      intro F hF hr
      obtain ⟨hcal, g1, g2⟩ := hF ih' ih _ _ _ _ _ _ hr
      refine ⟨g1, fun w0 σ w fv' args' H hfv ha hf => ?_⟩
      cases hfv
      · rename_i hp; simp [plain] at hp
      rename_i gs ds h3 h4 h1 h2
      exact callV_of hcal (g2 w0 σ w _ H ((RlL.mk h3 h4).append (ha.append (RlL.mk h1 h2))) hf)
    cases htf : tab f with
    | some F =>
      rw [htf] at hr'
      exact key F (ht f F htf) hr'
    | none =>
      rw [htf] at hr'
      cases hnb : noBody P f with
      | false =>
        rw [hnb] at hr'
        exact key _ (cFn_ok hmix (st := []) (fun x hx => by cases hx) f .n) hr'
      | true =>
        rw [hnb] at hr'
        obtain ⟨hl2, hr2⟩ := ocond_some (show ocond (Nat.beq (len args) 2) (evOver P f (fs ++ (args ++ cs)) h N) = some (v, h', N') from hr')
        clear hr'
        have hl2 := Nat.eq_of_beq_eq_true hl2
        rw [len_eq] at hl2
        obtain ⟨rfl, rfl, rfl, g2⟩ := evOver_ok hr2
        refine ⟨Nat.le_refl _, fun w0 σ w fv' args' H hfv ha hf => ?_⟩
        cases hfv
        · rename_i hp; simp [plain] at hp
        rename_i gs ds h3 h4 h1 h2
        have hcl := g2 w0 σ w _ H ((RlL.mk h3 h4).append (ha.append (RlL.mk h1 h2)))
        refine ⟨_, ?_, .inl ⟨.bool false, rfl, ⟨σ, .refl _ _ _, H, .sc rfl⟩, ha.len.symm.trans hl2⟩⟩
        simp only [Deferred.ofValue, Sem.run_bind, Sem.run_pure, Result.andThen_ok, invoke]
        rw [← hcl]
        congr 2
        apply Array.ext'
        simp
  · rename_i l
    obtain ⟨g1, g2⟩ := cRound_ok hmix hrd ih hr'
    refine ⟨g1, fun w0 σ w fv' args' H hfv ha hf => ?_⟩
    cases hfv
    · rename_i hp; simp [plain] at hp
    rename_i b rr hσ
    obtain ⟨fn, tm, asg, body, q1, q2⟩ := g2 w0 σ w b rr args' H hσ ha hf
    refine ⟨_, ?_, .inr (.inr ⟨⟨b, rfl⟩, b, fn, tm, asg, body, rfl, q2⟩)⟩
    simp only [Deferred.ofValue, Sem.run_bind, Sem.run_pure, Result.andThen_ok, invoke]
    rw [← q1]
    congr 2
    apply Array.ext'
    simp
  · cases hr'
theorem cAll_ok (hmix : P.follows .mixedOrders = true) {tab : Nat → Option Fs} (ht : TabF P tab) {rd : Nat → Code → Code → Option Rs} (hrd : RdOk P rd) : ∀ d, CallOk P (cAll P tab rd d)
  | 0 => by intro fv args h N v h' N' hr; cases hr
  | d + 1 => cAny_ok hmix ht hrd (cAll_ok hmix ht hrd d)

/-- A closed call of a quick function. -/
theorem FOk.closed {f : Nat} {F : Fs} (hF : FOk P f F) {call : CallF} (hcall : CallOk P call) {v : Value} {h' : Tr Ob} {N' : Nat} (hr : F call [] .nil 0 = some (v, h', N')) (hv : plain v = true) (w : World) :
    Calls P f #[] w fun e w' => e = .returned v ∧ Below w.heap.size w w' := by
  obtain ⟨hcal, g1, g2⟩ := hF call hcall _ _ _ _ _ _ hr
  have H : HR (.all w) (fun _ => none) .nil w := ⟨Kept.all w, fun i b r h => by simp at h, fun i b r o h => by simp at h, fun i j b r r' h => by simp at h, fun i b r h => by simp at h⟩
  refine (g2 (.all w) (fun _ => none) w [] H (.nil _) (fun i _ _ => rfl)).mono ?_
  rintro e w' ⟨v', rfl, σ', _, H', hv'⟩
  exact ⟨by rw [hv'.plain_eq hv], H'.bel.below⟩
end
end Go.Ev
end

