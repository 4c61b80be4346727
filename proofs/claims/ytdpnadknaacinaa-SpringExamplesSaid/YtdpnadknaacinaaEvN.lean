/-
  The evaluator, part N: calls; regions in the order of the text.
  Conditions: none; generic over the program.
-/
import Derived.Test.YtdpnadknaacinaaEvM
import Derived.TacticsIn
namespace Go.Ev
open Go.RowKit Go.Sx
set_option linter.unusedVariables false
set_option linter.unusedSimpArgs false

/-- A function's contract, or a round's: it returns. -/
def CallV (P : Program) (fv : Value) (args : List Value) (w : World) (R : Value → World → Prop) : Prop :=
  ∃ nx, (do let d ← Deferred.ofValue fv ⟨args⟩; invoke d.target d.args : Sem Next).run P w = .ok nx w ∧
    ((∃ v, nx = .value v ∧ R v w ∧ args.length = 2) ∨ (∃ f as, nx = .enter f as ∧ Calls P f as w fun e w' => ∃ v, e = .returned v ∧ R v w') ∨
     ((∃ l, fv = .func (.yield l) ⟨[]⟩ ⟨[]⟩) ∧ ∃ l f tm asg body, nx = .round l f tm asg body ∧ RoundIn (Fr none) 0 P l f tm asg body w fun e w' => ∃ v, e = .returned v ∧ R v w'))

section
variable {P : Program} {w0 : Fen} {w : World} {σ : Sg} {h : Tr Ob} {e : Tr Value} {n N : Nat} {a : Act} {o : Oper}

theorem callV_wpIn {x : Operand} {xs : List Operand} {ts : Array TypeId} (ho : o.op = .call { callee := .value x, args := ⟨xs⟩, argTypes := ts }) {R : Value → World → Prop}
    (hc : CallV P (a.eval x) (xs.map a.eval) w R) {K : Act → World → Prop} {Q : Exit → Act → World → Prop} {rb : Option Nat} (hK : ∀ v w', R v w' → K (a.put o.dst v) w') : o.wpIn (Fr rb) 0 P a w K Q := by
  obtain ⟨nx, hrun, hnx⟩ := hc
  have hargs : (⟨xs⟩ : Array Operand).map a.eval = ⟨xs.map a.eval⟩ := List.map_toArray
  have hop : ∀ c, o.op ≠ .defer c := fun c h => by rw [ho] at h; cases h
  have hex : (execOp a.eval o).run P w = .ok nx w := by
    simp only [execOp, ho, resolve, hargs]
    simpa only [Sem.run_bind] using hrun
  refine ⟨fun _ _ => trivial, ?_⟩
  rw [Oper.semAt_eq _ _ _ hop, hex]
  rcases hnx with ⟨v, rfl, hv, _⟩ | ⟨f, as, rfl, hcalls⟩ | ⟨_, l, f, tm, asg, body, rfl, hround⟩
  · exact hK v w hv
  · refine ⟨fun h' => absurd h' (by simp [Fr, Fence.wide]), callsIn_fr (Calls.mono hcalls ?_)⟩
    rintro e w' ⟨v, rfl, hR⟩
    exact hK v w' hR
  · refine ⟨fun h' => absurd h' (by simp [Fr, Fence.wide]), ?_⟩
    refine RoundIn.mono (show RoundIn (Fr rb) 0 P l f tm asg body w _ from hround) ?_
    rintro e w' ⟨v, rfl, hR⟩
    exact hK v w' hR

abbrev CallF := Value → List Value → Tr Ob → Nat → OpR
/-- A way of calling that tells what calls do. -/
def CallOk (P : Program) (call : CallF) : Prop :=
  ∀ fv args h N v h' N', call fv args h N = some (v, h', N') → N ≤ N' ∧ ∀ w0 σ w fv' args', HR w0 σ h w → Rl σ fv fv' → RlL σ args args' → Fresh σ N N' →
    CallV P fv' args' w fun v' w' => ∃ σ', Ext σ σ' N N' ∧ HR w0 σ' h' w' ∧ Rl σ' v v'

/-- One operation, whatever it is. -/
noncomputable def evStep (P : Program) (call : CallF) (o : Oper) (e : Tr Value) (h : Tr Ob) (N : Nat) : OpR :=
  match o.op with
  | .call { callee := .value x, args := ⟨xs⟩, .. } => obind (evo e x) fun fv => obind (evs e xs) fun vs => call fv vs h N
  | _ => evOp P o e h N

noncomputable def isDefer : Op → Bool
  | .defer _ => true
  | _ => false

theorem evOp_defer {v : Value} {h' : Tr Ob} {N' : Nat} (hr : evOp P o e h N = some (v, h', N')) : ∀ c, o.op ≠ .defer c := by
  intro c hc
  unfold evOp at hr
  rw [hc] at hr
  obtain ⟨u, hu, _⟩ := obind_some hr
  unfold evPure at hu
  rw [hc] at hu
  cases hu

theorem evStep_num {call : CallF} (hcall : CallOk P call) {v : Value} {h' : Tr Ob} {N' : Nat} (hr : evStep P call o e h N = some (v, h', N')) : N ≤ N' := by
  unfold evStep at hr
  split at hr
  · obtain ⟨fv, hfv, hr⟩ := obind_some hr
    obtain ⟨vs, hvs, hr⟩ := obind_some hr
    exact (hcall _ _ _ _ _ _ _ hr).1
  · exact evOp_num hr

theorem evStep_ok {call : CallF} (hcall : CallOk P call) (H : HR w0 σ h w) (hE : ER σ e n a.tmps) {v : Value} {h' : Tr Ob} {N' : Nat} (hr : evStep P call o e h N = some (v, h', N')) (hf : Fresh σ N N') :
    N ≤ N' ∧ ∀ (K : Act → World → Prop) (Q : Exit → Act → World → Prop) (rb : Option Nat),
      (∀ σ' x w', Ext σ σ' N N' → HR w0 σ' h' w' → Rl σ' v x → K (a.put o.dst x) w') → o.wpIn (Fr rb) 0 P a w K Q := by
  unfold evStep at hr
  split at hr
  · rename_i x xs ts ho
    obtain ⟨fv, hfv, hr⟩ := obind_some hr
    obtain ⟨vs, hvs, hr⟩ := obind_some hr
    obtain ⟨h1, h2⟩ := hcall _ _ _ _ _ _ _ hr
    refine ⟨h1, fun K Q rb hK => ?_⟩
    refine callV_wpIn ho (h2 w0 σ w _ _ H (evo_ok hE hfv) (evs_ok hE hvs) hf) ?_
    rintro v' w' ⟨σ', h3, h4, h5⟩
    exact hK σ' v' w' h3 h4 h5
  · have hd := evOp_defer hr
    obtain ⟨h1, σ', x, w', h2, h3, h4, h5⟩ := evOp_ok H hE hr hf
    refine ⟨h1, fun K Q rb hK => ?_⟩
    refine opIn_of hd ?_
    rcases h5 with h5 | ⟨h5, rfl⟩
    · rw [h5]; exact hK σ' x w' h2 h3 h4
    · rw [h5]; exact hK σ' _ w' h2 h3 h4

/-! ### Guards -/
noncomputable def dstOf (ops : Array Oper) (j : Nat) : Option Nat := obind (nth ops.toList j) fun o => o.dst
noncomputable def evWants (ops : Array Oper) (e : Tr Value) (o : Oper) : Option Bool :=
  match o.guard with
  | none => some true
  | some (j, c) => obind (dstOf ops j) fun d => match e.get d with
    | some (.bool x) => some (Bool.rec (motive := fun _ => Bool) (Bool.rec (motive := fun _ => Bool) true false x) x c)
    | some (.tuple _) => some false
    | _ => none

theorem dstOf_ok {ops : Array Oper} {j d : Nat} (h : dstOf ops j = some d) : (ops[j]?).bind (·.dst) = some d := by
  obtain ⟨o, h1, h2⟩ := obind_some h
  rw [nth_eq] at h1
  have : ops[j]? = some o := by simpa using h1
  rw [this]
  exact h2
theorem evWants_ok {ops : Array Oper} (hE : ER σ e n a.tmps) {r : Bool} (hr : evWants ops e o = some r) : Region.wanted o (yielded ops a.tmps) = r := by
  unfold evWants at hr
  unfold Region.wanted
  split at hr
  · rename_i hg
    cases hr
    rw [hg]
  · rename_i j c hg
    obtain ⟨d, hd, hr⟩ := obind_some hr
    have hd' := dstOf_ok hd
    rw [hg]
    split at hr
    · rename_i x hx
      cases hr
      obtain ⟨y, h1, h2⟩ := hE.at_ d _ hx
      have := rl_bool h1
      subst this
      have : yielded ops a.tmps j = some x := by simp [yielded, hd', h2]
      simp only [this]
      cases c <;> cases x <;> rfl
    · rename_i vs hx
      cases hr
      obtain ⟨y, h1, h2⟩ := hE.at_ d _ hx
      have : yielded ops a.tmps j = none := by
        cases h1
        · rename_i hp; simp [plain] at hp
        · simp [yielded, hd', h2]
      simp only [this]
      rfl
    · cases hr

/-- The slots that a region writes lie in the frame. -/
noncomputable def dstIn (n : Nat) (d : Option Nat) : Bool := Option.rec (motive := fun _ => Bool) true (fun t => Nat.ble (Nat.succ t) n) d
theorem dstIn_ok {d : Option Nat} (h : dstIn n d = true) : ∀ t, d = some t → t < n := by
  intro t ht
  subst ht
  exact Nat.le_of_ble_eq_true h

abbrev RgR := Option (Tr Value × Tr Ob × Nat)

/-! ### Operands and operations, read once -/
structure OdF where
  g : Tr Value → Option Value
noncomputable def cOd (x : Operand) : OdF :=
  match x with
  | .tmp t => ⟨fun e => e.get t⟩
  | .const v => Bool.rec (motive := fun _ => OdF) ⟨fun _ => none⟩ ⟨fun _ => some v⟩ (scal v)
  | .func f => ⟨fun _ => some (.func (.func f) ⟨[]⟩ ⟨[]⟩)⟩
  | .global _ => ⟨fun _ => none⟩
theorem cOd_eq (e : Tr Value) (x : Operand) : (cOd x).g e = evo e x := by
  cases x with
  | const v =>
    show (Bool.rec (motive := fun _ => OdF) ⟨fun _ => none⟩ ⟨fun _ => some v⟩ (scal v)).g e = Bool.rec (motive := fun _ => Option Value) none (some v) (scal v)
    cases scal v <;> rfl
  | _ => rfl
structure OdsF where
  g : Tr Value → Option (List Value)
noncomputable def cOds (l : List Operand) : OdsF :=
  List.rec (motive := fun _ => OdsF) ⟨fun _ => some []⟩ (fun x _ ih => ⟨fun e => Option.rec (motive := fun _ => Option (List Value)) none (fun v => Option.rec (motive := fun _ => Option (List Value)) none (fun vs => some (v :: vs)) (ih.g e)) ((cOd x).g e)⟩) l
theorem cOds_eq (e : Tr Value) : ∀ l, (cOds l).g e = evs e l
  | [] => rfl
  | x :: l => by
    show Option.rec (motive := fun _ => Option (List Value)) none (fun v => Option.rec (motive := fun _ => Option (List Value)) none (fun vs => some (v :: vs)) ((cOds l).g e)) ((cOd x).g e) = _
    rw [cOd_eq, cOds_eq e l]
    rfl

structure OpF where
  f : CallF → Tr Value → Tr Ob → Nat → OpR
noncomputable def cOp (P : Program) (o : Oper) : OpF :=
  match o.op with
  | .move x => ⟨fun _ e h N => obind ((cOd x).g e) fun v => some (v, h, N)⟩
  | .assign x => ⟨fun _ e h N => obind ((cOd x).g e) fun v => some (v, h, N)⟩
  | .pick c x y => ⟨fun _ e h N => obind (match (cOd c).g e with
    | some (.bool true) => (cOd x).g e
    | some (.bool false) => (cOd y).g e
    | _ => none) fun v => some (v, h, N)⟩
  | .load T x => ⟨fun _ e h N => obind (obind ((cOd x).g e) fun v => evLoad P h T v) fun v => some (v, h, N)⟩
  | .fieldAddr S x k => ⟨fun _ e h N => obind (obind ((cOd x).g e) fun v => evFieldAddr P S k v) fun v => some (v, h, N)⟩
  | .indexAddr T x y => ⟨fun _ e h N => obind (obind ((cOd x).g e) fun v => obind ((cOd y).g e) fun u => evIndexAddr P T v u) fun v => some (v, h, N)⟩
  | .binOp b T x y _ => ⟨fun _ e h N => obind (obind ((cOd x).g e) fun u => obind ((cOd y).g e) fun v => evBin P b T x y u v) fun v => some (v, h, N)⟩
  | .store T x y => ⟨fun _ e h N => obind ((cOd x).g e) fun p => obind ((cOd y).g e) fun v => evStore P T p v h N⟩
  | .box T x => ⟨fun _ e h N => obind ((cOd x).g e) fun v => evBox T v h N⟩
  | .call { callee := .value x, args := ⟨xs⟩, .. } => ⟨fun call e h N => obind ((cOd x).g e) fun fv => obind ((cOds xs).g e) fun vs => call fv vs h N⟩
  | _ => ⟨fun call e h N => evStep P call o e h N⟩
theorem cOp_eq (P : Program) (o : Oper) (call : CallF) (e : Tr Value) (h : Tr Ob) (N : Nat) : (cOp P o).f call e h N = evStep P call o e h N := by
  unfold cOp
  split
  · rename_i x ho; simp only [cOd_eq, evStep, evOp, evPure, ho]
  · rename_i x ho; simp only [cOd_eq, evStep, evOp, evPure, ho]
  · rename_i c x y ho; simp only [cOd_eq, evStep, evOp, evPure, ho]; rfl
  · rename_i T x ho; simp only [cOd_eq, evStep, evOp, evPure, ho]
  · rename_i S x k ho; simp only [cOd_eq, evStep, evOp, evPure, ho]
  · rename_i T x y ho; simp only [cOd_eq, evStep, evOp, evPure, ho]
  · rename_i b T x y T' ho; simp only [cOd_eq, evStep, evOp, evPure, ho]
  · rename_i T x y ho; simp only [cOd_eq, evStep, evOp, ho]
  · rename_i T x ho; simp only [cOd_eq, evStep, evOp, ho]
  · rename_i x xs ts ho; simp only [cOd_eq, cOds_eq, evStep, ho]
  · rfl

/-- The operations of a region, read once. -/
structure OsF where
  f : CallF → Tr Value → Tr Ob → Nat → RgR
structure GdF where
  g : Tr Value → Option Bool
noncomputable def cGd (ops : Array Oper) (o : Oper) : GdF :=
  match o.guard with
  | none => ⟨fun _ => some true⟩
  | some _ => ⟨fun e => evWants ops e o⟩
theorem cGd_eq (ops : Array Oper) (o : Oper) (e : Tr Value) : (cGd ops o).g e = evWants ops e o := by
  unfold cGd evWants
  cases o.guard <;> rfl
structure PtF where
  g : Tr Value → Value → Tr Value
noncomputable def cPt (d : Option Nat) : PtF := Option.rec (motive := fun _ => PtF) ⟨fun e _ => e⟩ (fun t => ⟨fun e v => e.set (some v) t⟩) d
theorem cPt_eq (d : Option Nat) (e : Tr Value) (v : Value) : (cPt d).g e v = put e d v := by cases d <;> rfl

noncomputable def evOps (P : Program) (nt : Nat) (ops : Array Oper) (l : List Oper) : OsF :=
  List.rec (motive := fun _ => OsF) ⟨fun _ e h N => some (e, h, N)⟩
    (fun o _ ih => Bool.rec (motive := fun _ => OsF) ⟨fun _ _ _ _ => none⟩ (match o.guard with
      | none => ⟨fun call e h N => orun ((cOp P o).f call e h N) fun v h1 N1 => ih.f call ((cPt o.dst).g e v) h1 N1⟩
      | some _ => ⟨fun call e h N => obind (evWants ops e o) fun b => Bool.rec (motive := fun _ => RgR) (ih.f call ((cPt o.dst).g e undef) h N)
          (orun ((cOp P o).f call e h N) fun v h1 N1 => ih.f call ((cPt o.dst).g e v) h1 N1) b⟩) (dstIn nt o.dst)) l

theorem evOps_cons {call : CallF} {ops : Array Oper} {o : Oper} {l : List Oper} {r : Tr Value × Tr Ob × Nat} (hr : (evOps P n ops (o :: l)).f call e h N = some r) :
    dstIn n o.dst = true ∧ ∃ b, evWants ops e o = some b ∧ Bool.rec (motive := fun _ => RgR) ((evOps P n ops l).f call (put e o.dst undef) h N)
      (orun (evStep P call o e h N) fun v h1 N1 => (evOps P n ops l).f call (put e o.dst v) h1 N1) b = some r := by
  have hr' : (Bool.rec (motive := fun _ => OsF) ⟨fun _ _ _ _ => none⟩ (match o.guard with
      | none => ⟨fun call e h N => orun ((cOp P o).f call e h N) fun v h1 N1 => (evOps P n ops l).f call ((cPt o.dst).g e v) h1 N1⟩
      | some _ => ⟨fun call e h N => obind (evWants ops e o) fun b => Bool.rec (motive := fun _ => RgR) ((evOps P n ops l).f call ((cPt o.dst).g e undef) h N)
          (orun ((cOp P o).f call e h N) fun v h1 N1 => (evOps P n ops l).f call ((cPt o.dst).g e v) h1 N1) b⟩) (dstIn n o.dst)).f call e h N = some r := hr
  clear hr
  cases hd : dstIn n o.dst with
  | false => rw [hd] at hr'; cases hr'
  | true =>
    rw [hd] at hr'
    refine ⟨rfl, ?_⟩
    cases hg : o.guard with
    | none =>
      rw [hg] at hr'
      have h2 : orun ((cOp P o).f call e h N) (fun v h1 N1 => (evOps P n ops l).f call ((cPt o.dst).g e v) h1 N1) = some r := hr'
      rw [cOp_eq] at h2
      simp only [cPt_eq] at h2
      exact ⟨true, by unfold evWants; rw [hg], h2⟩
    | some p =>
      rw [hg] at hr'
      have h2 : obind (evWants ops e o) (fun b => Bool.rec (motive := fun _ => RgR) ((evOps P n ops l).f call ((cPt o.dst).g e undef) h N)
          (orun ((cOp P o).f call e h N) fun v h1 N1 => (evOps P n ops l).f call ((cPt o.dst).g e v) h1 N1) b) = some r := hr'
      obtain ⟨b, h3, h4⟩ := obind_some h2
      simp only [cPt_eq, cOp_eq] at h4
      exact ⟨b, h3, h4⟩

theorem evOps_ok {call : CallF} (hcall : CallOk P call) {ops : Array Oper} {rb : Option Nat} {Q : Exit → Act → World → Prop} : ∀ (l : List Oper) (e : Tr Value) (h : Tr Ob) (N : Nat) (e' : Tr Value) (h' : Tr Ob) (N' : Nat),
    (evOps P n ops l).f call e h N = some (e', h', N') → N ≤ N' ∧ ∀ σ a w, HR w0 σ h w → ER σ e n a.tmps → Fresh σ N N' →
      (∀ σ' a' w', Ext σ σ' N N' → HR w0 σ' h' w' → ER σ' e' n a'.tmps → a'.defers = a.defers → Q .normal a' w') → wpListIn (Fr rb) 0 P ops Q l a w
  | [], e, h, N, e', h', N', hr => by
    cases hr
    exact ⟨Nat.le_refl _, fun σ a w H hE hf hQ => hQ σ a w (Ext.refl _ _ _) H hE rfl⟩
  | o :: l, e, h, N, e', h', N', hr => by
    obtain ⟨hd, b, hb, hr2⟩ := evOps_cons hr
    clear hr
    have hd' := dstIn_ok hd
    cases b with
    | false =>
      have ih := evOps_ok hcall (rb := rb) (Q := Q) l _ _ _ _ _ _ hr2
      refine ⟨ih.1, fun σ a w H hE hf hQ => ?_⟩
      simp only [wpListIn, evWants_ok hE hb, Bool.false_eq_true, if_false]
      refine ⟨fun _ _ => trivial, ?_⟩
      exact ih.2 σ _ w H (put_ok hE hd' (.tup rfl (fun i a b h => by simp at h))) hf (fun σ' a' w' h1 h2 h3 h4 => hQ σ' a' w' h1 h2 h3 (h4.trans (by cases o.dst <;> rfl)))
    | true =>
      obtain ⟨v, h1, N1, hs, hr3⟩ := orun_some hr2
      have ih := evOps_ok hcall (rb := rb) (Q := Q) l _ _ _ _ _ _ hr3
      have hmono : N ≤ N1 := evStep_num hcall hs
      refine ⟨Nat.le_trans hmono ih.1, fun σ a w H hE hf hQ => ?_⟩
      simp only [wpListIn, evWants_ok hE hb, if_true]
      have hle := ih.1
      refine (evStep_ok hcall H hE hs (hf.sub (Nat.le_refl _) hle)).2 _ _ _ ?_
      intro σ' x w' h3 h4 h5
      refine ih.2 σ' _ w' h4 (put_ok (hE.mono (h3.le (hf.sub (Nat.le_refl _) hle))) hd' h5) (h3.fresh hf hmono) ?_
      intro σ2 a2 w2 h6 h7 h8 h9
      exact hQ σ2 a2 w2 (h3.trans h6 hmono hle) h7 h8 (h9.trans (by cases o.dst <;> rfl))

end
end Go.Ev
