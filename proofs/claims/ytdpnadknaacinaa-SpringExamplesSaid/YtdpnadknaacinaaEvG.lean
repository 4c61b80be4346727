/-
  The evaluator, part G: operations that make a block, and stores.
  Conditions: none; generic over the program.
-/
import Derived.Test.YtdpnadknaacinaaEvF
namespace Go.Ev
open Go.RowKit Go.Sx
set_option linter.unusedVariables false
set_option linter.unusedSimpArgs false

def Ext (σ σ' : Sg) (n n' : Nat) : Prop := ∀ i, (i < n ∨ n' ≤ i) → σ' i = σ i
def Fresh (σ : Sg) (n n' : Nat) : Prop := ∀ i, n ≤ i → i < n' → σ i = none
theorem Ext.refl (σ : Sg) (n : Nat) (n' : Nat) : Ext σ σ n n' := fun _ _ => rfl
theorem Ext.le {σ σ' : Sg} {n n' : Nat} (h : Ext σ σ' n n') (hf : Fresh σ n n') : SLe σ σ' := fun i x hx => by
  by_cases h1 : n ≤ i ∧ i < n'
  · rw [hf i h1.1 h1.2] at hx; cases hx
  · rw [h i (by omega)]; exact hx
theorem Ext.trans {a b c : Sg} {n m k : Nat} (h : Ext a b n m) (h' : Ext b c m k) (h1 : n ≤ m) (h2 : m ≤ k) : Ext a c n k := fun i hi => by
  rw [h' i (by omega), h i (by omega)]
theorem Ext.fresh {a b : Sg} {n m k : Nat} (h : Ext a b n m) (hf : Fresh a n k) (h1 : n ≤ m) : Fresh b m k := fun i h2 h3 => by
  rw [h i (by omega)]; exact hf i (by omega) h3
theorem Fresh.sub {σ : Sg} {n m k l : Nat} (hf : Fresh σ n k) (h1 : n ≤ m) (h2 : l ≤ k) : Fresh σ m l := fun i h3 h4 => hf i (by omega) (by omega)
theorem Ext.one {σ : Sg} {n : Nat} {x : Nat × Nat} : Ext σ (upd σ n x) n (n + 1) := fun i hi => upd_other (by omega)

/-- What an operation does. -/
def EOk (P : Program) (w0 : Fen) (σ : Sg) (n : Nat) (o : Oper) (a : Act) (w : World) (v : Value) (h' : Tr Ob) (n' : Nat) : Prop :=
  ∃ σ' x w', Ext σ σ' n n' ∧ HR w0 σ' h' w' ∧ Rl σ' v x ∧ ((execOp a.eval o).run P w = .ok (.value x) w' ∨ ((execOp a.eval o).run P w = .ok .skip w' ∧ x = undef))

abbrev OpR := Option (Value × Tr Ob × Nat)

section
variable {P : Program} {w0 : Fen} {w : World} {σ : Sg} {h : Tr Ob} {e : Tr Value} {n N : Nat} {a : Act} {o : Oper}

theorem VOk.eok (H : HR w0 σ h w) {v : Value} (hv : VOk P σ o a w v) : EOk P w0 σ N o a w v h N := by
  obtain ⟨x, h1, h2⟩ := hv
  exact ⟨σ, x, w, Ext.refl _ _ _, H, h1, .inl h2⟩

/-- A new block, and a value that tells of it. -/
theorem eok_new (H : HR w0 σ h w) (hf : Fresh σ N (N + 1)) {r : Nat} {ob : Ob} {ob' : Obj} {mk : Nat → Value}
    (hmk : ∀ σ' b, σ' N = some (b, r) → Rl σ' (mk N) (mk b)) (ho : ∀ σ', SLe σ σ' → OR σ' (w.alloc ob') w.heap.size r ob)
    (hrun : (execOp a.eval o).run P w = .ok (.value (mk w.heap.size)) (w.alloc ob')) : EOk P w0 σ N o a w (mk N) (h.set (some ob) N) (N + 1) :=
  ⟨upd σ N (w.heap.size, r), _, _, Ext.one, H.alloc (hf N (Nat.le_refl _) (Nat.lt_succ_self _)) ho, hmk _ _ (upd_same _ _ _), .inl hrun⟩

/-- A value's cells. -/
noncomputable def cel : Value → List Value
  | .agg ⟨cs⟩ => cs
  | v => [v]
theorem cel_ok {v x : Value} (hv : Rl σ v x) : RlL σ (cel v) x.cells.toList := by
  cases hv with
  | agg h1 h2 => exact ⟨h1, h2⟩
  | sc hp => 
    cases v <;> first | exact .cons (.sc hp) (.nil σ) | (simp [plain] at hp; done)
  | ptr h => exact .cons (.ptr h) (.nil σ)
  | sl h => exact .cons (.sl h) (.nil σ)
  | sx h hr hc => exact .cons (.sx h hr hc) (.nil σ)
  | mp h => exact .cons (.mp h) (.nil σ)
  | lb h => exact .cons (.lb h) (.nil σ)
  | an h =>
    have e : x.cells.toList = [x] := by cases x <;> first | rfl | cases h
    rw [e]
    exact .cons (.an h) (.nil σ)
  | yl h => exact .cons (.yl h) (.nil σ)
  | fn h3 h4 h1 h2 => exact .cons (.fn h3 h4 h1 h2) (.nil σ)
  | tup h1 h2 => exact .cons (.tup h1 h2) (.nil σ)

theorem or_cells {σ' : Sg} {xs cs : List Value} {T : TypeId} {r : Nat} (h : RlL σ' xs cs) : OR σ' (w.alloc (.cells ⟨cs⟩ T)) w.heap.size r (.c xs T) := ⟨cs, h, heap_new w _⟩

/-- The zero value's cells, told to bear no block. -/
noncomputable def zer (P : Program) (T : TypeId) : Option (List Value) := obind (zeroB P T) fun z => ocond (allP z) (some z)
theorem zer_ok {T : Nat} {z : List Value} (h : zer P T = some z) : zeroB P T = some z ∧ ∀ σ, RlL σ z z := by
  obtain ⟨z', h1, h2⟩ := obind_some h
  obtain ⟨h3, h4⟩ := ocond_some h2
  cases h4
  rw [allP_eq] at h3
  exact ⟨h1, fun σ => rlL_refl h3⟩

noncomputable def evBox (T : TypeId) (v : Value) (h : Tr Ob) (N : Nat) : OpR := some (.pointer (some ⟨N, 0, none⟩), h.set (some (.c (cel v) T)) N, Nat.succ N)
theorem evBox_ok (H : HR w0 σ h w) (hE : ER σ e n a.tmps) (hf : Fresh σ N (N + 1)) {T : TypeId} {x : Operand} (ho : o.op = .box T x) {v : Value} (hx : evo e x = some v) :
    EOk P w0 σ N o a w (.pointer (some ⟨N, 0, none⟩)) (h.set (some (.c (cel v) T)) N) (N + 1) := by
  have hr := cel_ok (evo_ok hE hx)
  refine eok_new (r := 0) (ob' := .cells (a.eval x).cells T) (mk := fun b => .pointer (some ⟨b, 0, none⟩)) H hf (fun σ' b hb => .ptr hb) (fun σ' hle => ?_) (by simp [execOp, ho, Instr.box, newVar, newRow])
  exact or_cells (hr.mono hle)

theorem run_zero {T : Nat} {z : List Value} (hz : zeroB P T = some z) (w : World) : ∃ t, t.cells = ⟨z⟩ ∧ (zeroValue T).run P w = .ok t w := by
  unfold zeroB at hz
  cases hi : P.info? T with
  | none => rw [hi] at hz; simp at hz
  | some i =>
    cases hzz : i.zero with
    | none => rw [hi] at hz; simp [hzz] at hz
    | some v =>
      rw [hi] at hz
      simp [hzz] at hz
      exact ⟨v, by rw [← hz], by simp [zeroValue, typeInfo, hi, hzz]⟩

theorem evAlloc_ok (H : HR w0 σ h w) (hf : Fresh σ N (N + 1)) {T : TypeId} (ho : o.op = .alloc T) {z : List Value} (hz : zer P T = some z) :
    EOk P w0 σ N o a w (.pointer (some ⟨N, 0, none⟩)) (h.set (some (.c z T)) N) (N + 1) := by
  obtain ⟨h1, h2⟩ := zer_ok hz
  obtain ⟨t, ht, hr⟩ := run_zero h1 w
  refine eok_new (r := 0) (ob' := .cells ⟨z⟩ T) (mk := fun b => .pointer (some ⟨b, 0, none⟩)) H hf (fun σ' b hb => .ptr hb) (fun σ' hle => or_cells (h2 σ')) ?_
  simp [execOp, ho, Instr.alloc, hr, newVar, newRow, ht]

/-! ### Literals -/
noncomputable def fil (pl : Nat → Option (Nat × Nat)) (ps : List (Nat × Value)) : List Value → Option (List Value) :=
  List.rec (motive := fun _ => List Value → Option (List Value)) (fun cs => some cs)
    (fun p _ ih cs => obind (pl p.1) fun on => ocond (Nat.beq (len (cel p.2)) on.2) (ocond (Nat.ble (Nat.add on.1 on.2) (len cs)) (ih (lay cs (cel p.2) on.1)))) ps

theorem fil_ok (pl : Nat → Option (Nat × Nat)) : ∀ (ps : List (Nat × Value)) (us : List Value) (cs ds rs : List Value), RlL σ (ps.map (·.2)) us → RlL σ cs ds → fil pl ps cs = some rs →
    ∃ qs, RlL σ rs qs ∧ Instr.fill pl ⟨ds⟩ ((ps.map (·.1)).zip us) = some ⟨qs⟩
  | [], us, cs, ds, rs, hu, hc, h => by cases h; exact ⟨ds, hc, by simp [Instr.fill]⟩
  | (i, v) :: ps, us, cs, ds, rs, hu, hc, h => by
    obtain ⟨u, us', rfl, hvu, hu'⟩ := RlL.uncons (a := v) (cs := ps.map (·.2)) hu
    have h' : obind (pl i) (fun on => ocond (Nat.beq (len (cel v)) on.2) (ocond (Nat.ble (Nat.add on.1 on.2) (len cs)) (fil pl ps (lay cs (cel v) on.1)))) = some rs := h
    obtain ⟨⟨off, m⟩, h1, h'⟩ := obind_some h'
    obtain ⟨h2, h'⟩ := ocond_some h'
    obtain ⟨h3, h'⟩ := ocond_some h'
    have hcv := cel_ok hvu
    have h2' := Nat.eq_of_beq_eq_true h2
    have h3' := Nat.le_of_ble_eq_true h3
    rw [len_eq] at h2' h3'
    rw [lay_eq] at h'
    dsimp only at h2' h3'
    obtain ⟨qs, h4, h5⟩ := fil_ok pl ps us' _ (setL ds off u.cells.toList) rs hu' (hc.setL off hcv) h'
    refine ⟨qs, h4, ?_⟩
    have e1 : u.cells.size = m := by have := hcv.len; rw [h2'] at this; simpa using this.symm
    have e2 : off + m ≤ ds.length := by have := hc.len; have : off + m ≤ cs.length := h3'; omega
    have hfold : u.cells.zipIdx.foldl (fun (c : Array Value) (p : Value × Nat) => c.setIfInBounds (off + p.2) p.1) ⟨ds⟩ = ⟨setL ds off u.cells.toList⟩ := by
      have := foldl_setL u.cells.toList 0 off ds
      rw [Nat.add_zero] at this
      rw [show (⟨setL ds off u.cells.toList⟩ : Array Value) = (setL ds off u.cells.toList).toArray from rfl, ← this, ← Array.foldl_toList]
      simp
    have hcond : ¬ ((u.cells.size ≠ m || off + u.cells.size > (⟨ds⟩ : Array Value).size) = true) := by
      simp only [ne_eq, decide_not, Bool.or_eq_true, Bool.not_eq_eq_eq_not, Bool.not_true, decide_eq_false_iff_not, decide_eq_true_eq]
      have : (⟨ds⟩ : Array Value).size = ds.length := rfl
      omega
    simp only [List.map_cons, List.zip_cons_cons, Instr.fill, h1]
    rw [if_neg hcond]
    simp only [hfold]
    exact h5

/-- The parts of a literal. -/
noncomputable def evParts (e : Tr Value) (l : List (Nat × Operand)) : Option (List (Nat × Value)) :=
  List.rec (motive := fun _ => Option (List (Nat × Value))) (some []) (fun p _ ih => obind (evo e p.2) fun v => obind ih fun vs => some ((p.1, v) :: vs)) l
theorem evParts_ok (hE : ER σ e n a.tmps) : ∀ {l : List (Nat × Operand)} {ps : List (Nat × Value)}, evParts e l = some ps → ∃ us : List Value, RlL σ (ps.map (·.2)) us ∧ l.map (fun p => (p.1, a.eval p.2)) = (ps.map (·.1)).zip us
  | [], ps, h => by cases h; exact ⟨[], .nil σ, rfl⟩
  | p :: l, ps, h => by
    have h' : obind (evo e p.2) (fun v => obind (evParts e l) fun vs => some ((p.1, v) :: vs)) = some ps := h
    obtain ⟨v, h1, h'⟩ := obind_some h'
    obtain ⟨vs, h2, h'⟩ := obind_some h'
    cases h'
    obtain ⟨us, h3, h4⟩ := evParts_ok hE h2
    exact ⟨a.eval p.2 :: us, .cons (evo_ok hE h1) h3, by simp [h4]⟩

noncomputable def plS (P : Program) (T : TypeId) : Option (Nat → Option (Nat × Nat)) :=
  match P.underlying T with
  | some (.struct _) => obind (placesB P T) fun pl => some fun i => nth pl i
  | some (.array _ el) => obind (sizeB P el) fun m => some fun i => some (Nat.mul i m, m)
  | _ => none

noncomputable def evBuild (P : Program) (T : TypeId) (ps : List (Nat × Value)) : Option Value :=
  obind (zer P T) fun z => obind (plS P T) fun pl => obind (fil pl ps z) fun cs => some (.agg ⟨cs⟩)

theorem evBuild_ok {T : Nat} {ps : List (Nat × Value)} {us : List Value} {r : Value} (hr : evBuild P T ps = some r) (hu : RlL σ (ps.map (·.2)) us) {parts : Array (Nat × Value)} (hp : parts.toList = (ps.map (·.1)).zip us) :
    ∃ x, Rl σ r x ∧ (Instr.build T parts).run P w = .ok x w := by
  obtain ⟨z, hz, hr⟩ := obind_some hr
  obtain ⟨pl, hpl, hr⟩ := obind_some hr
  obtain ⟨cs, hf, hr⟩ := obind_some hr
  cases hr
  obtain ⟨h1, h2⟩ := zer_ok hz
  obtain ⟨t, ht, hrz⟩ := run_zero h1 w
  obtain ⟨qs, h3, h4⟩ := fil_ok (σ := σ) pl ps us z z cs hu (h2 σ) hf
  refine ⟨_, .agg h3.len h3.at_, ?_⟩
  unfold plS at hpl
  split at hpl
  · rename_i fs hT
    obtain ⟨pl', h5, h6⟩ := obind_some hpl
    cases h6
    unfold placesB at h5
    rw [hT] at h5
    have h5' : (fs.toList.mapM fun f => (sizeB P f.type).map fun n => (f.offset, n)) = some pl' := h5
    have h7 := Sx.run_places (P := P) h5' w
    have h8 : (fs.mapM fun f => do pure (f.offset, ← sizeOf f.type) : Sem (Array (Nat × Nat))).run P w = .ok pl'.toArray w := by
      have : (fs.mapM fun f => do pure (f.offset, ← sizeOf f.type) : Sem (Array (Nat × Nat))) = Functor.map List.toArray (fs.toList.mapM fun f => do pure (f.offset, ← sizeOf f.type)) := by
        rw [← Array.toArray_toList (xs := fs), List.mapM_toArray]
      rw [this]
      simp only [Sem.run_map, h7, Result.andThen_ok]
    have h9 : (fun i => pl'.toArray[i]?) = fun i => nth pl' i := by funext i; rw [nth_eq]; simp
    simp only [bind_pure_comp] at h8
    simp only [Instr.build, Sem.run_bind, hrz, Result.andThen_ok, run_underlying hT, bind_pure_comp, h8, ht, hp, h9, h4, Sem.run_pure]
  · rename_i m el hT
    obtain ⟨k, h5, h6⟩ := obind_some hpl
    cases h6
    simp only [Instr.build, Sem.run_bind, hrz, Result.andThen_ok, run_underlying hT, Sx.run_sizeOf h5, ht, hp]
    have h9 : (fun i : Nat => some (i * k, k)) = fun i => some (Nat.mul i k, k) := rfl
    rw [h9, h4]
    simp
  · cases hpl

/-- m times over. -/
noncomputable def reps (zs : List Value) (m : Nat) : List Value := Nat.rec (motive := fun _ => List Value) [] (fun _ ih => app zs ih) m
theorem reps_succ (zs : List Value) (m : Nat) : reps zs (m + 1) = zs ++ reps zs m := by
  show app zs (reps zs m) = _
  rw [app_eq]
theorem reps_length (zs : List Value) : ∀ m, (reps zs m).length = m * zs.length
  | 0 => by show ([] : List Value).length = _; simp
  | m + 1 => by rw [reps_succ, List.length_append, reps_length zs m, Nat.succ_mul]; omega
theorem reps_get (zs : List Value) : ∀ (m i : Nat), i < m * zs.length → (reps zs m)[i]? = some zs[i % zs.length]!
  | 0, i, h => by simp at h
  | m + 1, i, h => by
    rw [reps_succ, List.getElem?_append]
    by_cases hi : i < zs.length
    · rw [if_pos hi, Nat.mod_eq_of_lt hi]; simp [hi]
    · rw [if_neg hi, reps_get zs m (i - zs.length) (by rw [Nat.succ_mul] at h; omega)]
      have : i % zs.length = (i - zs.length) % zs.length := by rw [Nat.mod_eq_sub_mod (by omega)]
      rw [this]
theorem reps_rl {zs : List Value} (hz : RlL σ zs zs) : ∀ m, RlL σ (reps zs m) (reps zs m)
  | 0 => .nil σ
  | m + 1 => by rw [reps_succ]; exact hz.append (reps_rl hz m)
theorem range_reps (zs : List Value) (m k : Nat) (hk : zs.length = k) : ((Array.range (m * k)).map fun i => (⟨zs⟩ : Array Value)[i % (⟨zs⟩ : Array Value).size]!) = ⟨reps zs m⟩ := by
  subst hk
  apply Array.ext'
  apply List.ext_getElem?
  intro i
  have e2 : (⟨zs⟩ : Array Value).size = zs.length := rfl
  simp only [Array.toList_map, Array.toList_range, List.getElem?_map, e2]
  by_cases hi : i < m * zs.length
  · rw [reps_get zs m i hi, List.getElem?_range hi]
    simp
  · rw [List.getElem?_eq_none (by simp; omega), List.getElem?_eq_none (by rw [reps_length]; omega)]
    rfl

end
end Go.Ev
