/-
  The evaluator, part O: code; loops; ranges over functions.
  Conditions: none; generic over the program.
-/
import Derived.Test.YtdpnadknaacinaaEvN
namespace Go.Ev
open Go.RowKit Go.Sx
set_option linter.unusedVariables false
set_option linter.unusedSimpArgs false

inductive Res where
  | no
  | ok (x : Ex) (e : Tr Value) (ds : List Nat) (h : Tr Ob) (N : Nat)

abbrev Cf := Tr Value → List Nat → Tr Ob → Nat → Res

noncomputable def rbind (r : Res) (f : Ex → Tr Value → List Nat → Tr Ob → Nat → Res) : Res := Res.rec (motive := fun _ => Res) .no f r
theorem rbind_ok {r : Res} {f : Ex → Tr Value → List Nat → Tr Ob → Nat → Res} {x e ds h N} (hr : rbind r f = .ok x e ds h N) : ∃ x1 e1 ds1 h1 N1, r = .ok x1 e1 ds1 h1 N1 ∧ f x1 e1 ds1 h1 N1 = .ok x e ds h N := by
  cases r with
  | no => cases hr
  | ok x1 e1 ds1 h1 N1 => exact ⟨x1, e1, ds1, h1, N1, rfl, hr⟩

@[irreducible] noncomputable def fuel : Nat := 1000000
noncomputable def evLoop (body : Cf) (f : Nat) : Cf :=
  Nat.rec (motive := fun _ => Cf) (fun _ _ _ _ => .no)
    (fun _ ih e ds h N => rbind (body e ds h N) fun x e1 ds1 h1 N1 => Ex.rec (motive := fun _ => Res) (ih e1 ds1 h1 N1) (fun id => .ok (.x id) e1 ds1 h1 N1) (.ok .r e1 ds1 h1 N1) x) f

/-- The record's way out is taken, and it is exhausted. -/
noncomputable def evEnd (l : Nat) (e : Tr Value) (ds : List Nat) (h : Tr Ob) (N : Nat) : Res :=
  match h.get l with
  | some (.l .ready pe n e' ps asg body df) => .ok pe e ds (h.set (some (.l .exhausted pe n e' ps asg body df)) l) N
  | some (.l .done pe n e' ps asg body df) => .ok pe e ds (h.set (some (.l .exhausted pe n e' ps asg body df)) l) N
  | _ => .no
noncomputable def isFn : Value → Bool
  | .func (.func _) _ _ => true
  | _ => false
noncomputable def evRange (call : CallF) (nt : Nat) (r : Option Nat) (f : Operand) (ps : List Nat) (asg body : Code) : Cf := fun e ds h N =>
  match evo e f with
  | some fv => Bool.rec (motive := fun _ => Res) .no (match r with
    | none => Option.rec (motive := fun _ => Res) .no (fun res => Prod.rec (motive := fun _ => Res) (fun _ r2 => Prod.rec (motive := fun _ => Res) (fun h1 N1 => evEnd (Nat.succ N) e (N :: ds) h1 N1) r2) res)
        (call fv [.func (.yield (Nat.succ N)) ⟨[]⟩ ⟨[]⟩] ((h.set (some .d) N).set (some (.l .ready .n nt e ps asg body N)) (Nat.succ N)) (Nat.succ (Nat.succ N)))
    | some l => match h.get l with
      | some (.l _ _ _ _ _ _ _ df) => Option.rec (motive := fun _ => Res) .no (fun res => Prod.rec (motive := fun _ => Res) (fun _ r2 => Prod.rec (motive := fun _ => Res) (fun h1 N1 => evEnd N e ds h1 N1) r2) res)
          (call fv [.func (.yield N) ⟨[]⟩ ⟨[]⟩] (h.set (some (.l .ready .n nt e ps asg body df)) N) (Nat.succ N))
      | _ => .no) (isFn fv)
  | none => .no

/-- A test. -/
noncomputable def ccond (v : Option Value) (x y : Res) : Res :=
  match v with
  | some (.bool b) => Bool.rec (motive := fun _ => Res) y x b
  | _ => .no
/-- A region's end. -/
noncomputable def rgk (x : RgR) (ds : List Nat) : Res :=
  Option.rec (motive := fun _ => Res) .no (fun r => Prod.rec (motive := fun _ => Res) (fun e r2 => Prod.rec (motive := fun _ => Res) (fun h N => .ok .n e ds h N) r2) r) x
theorem rgk_ok {x : RgR} {ds ds' : List Nat} {X : Ex} {e' : Tr Value} {h' : Tr Ob} {N' : Nat} (hr : rgk x ds = .ok X e' ds' h' N') : X = .n ∧ ds' = ds ∧ x = some (e', h', N') := by
  cases x with
  | none => cases hr
  | some r => obtain ⟨e, h, N⟩ := r; cases hr; exact ⟨rfl, rfl, rfl⟩

abbrev DrF := Nat → Array Oper → Tr Value → Tr Ob → Nat → RgR
structure CdF where
  f : CallF → DrF → Option Nat → Cf
noncomputable def evCode (P : Program) (nt : Nat) (c : Code) : CdF :=
  Code.rec (motive := fun _ => CdF)
    ⟨fun _ _ _ e ds h N => .ok .n e ds h N⟩
    (fun _ ops draw => Bool.rec (motive := fun _ => CdF) ⟨fun call _ _ e ds h N => rgk ((evOps P nt ops ops.toList).f call e h N) ds⟩ ⟨fun _ dr _ e ds h N => rgk (dr nt ops e h N) ds⟩ draw)
    (fun _ _ fx fy => ⟨fun call dr r e ds h N => rbind (fx.f call dr r e ds h N) fun x e1 ds1 h1 N1 => Ex.rec (motive := fun _ => Res) (fy.f call dr r e1 ds1 h1 N1) (fun id => .ok (.x id) e1 ds1 h1 N1) (.ok .r e1 ds1 h1 N1) x⟩)
    (fun c _ _ fx fy => ⟨fun call dr r e ds h N => ccond ((cOd c).g e) (fx.f call dr r e ds h N) (fy.f call dr r e ds h N)⟩)
    (fun id _ fx => ⟨fun call dr r e ds h N => rbind (fx.f call dr r e ds h N) fun x e1 ds1 h1 N1 => Ex.rec (motive := fun _ => Res) (.ok .n e1 ds1 h1 N1)
      (fun id' => Bool.rec (motive := fun _ => Res) (.ok (.x id') e1 ds1 h1 N1) (.ok .n e1 ds1 h1 N1) (Nat.beq id' id)) (.ok .r e1 ds1 h1 N1) x⟩)
    (fun _ fx => ⟨fun call dr r => evLoop (fx.f call dr r) fuel⟩)
    (fun f ps asg body _ _ => ⟨fun call _ r => evRange call nt r f ps.toList asg body⟩)
    (fun id => ⟨fun _ _ _ e ds h N => .ok (.x id) e ds h N⟩)
    (fun _ fx => ⟨fun call dr r e ds h N => match r with | none => fx.f call dr r e ds h N | some _ => .no⟩)
    (fun _ => ⟨fun _ _ _ e ds h N => .ok .n e ds h N⟩)
    (fun _ => ⟨fun _ _ _ _ _ _ _ => .no⟩)
    ⟨fun _ _ _ e ds h N => .ok .r e ds h N⟩
    (fun _ => ⟨fun _ _ _ _ _ _ _ => .no⟩) c

/-- The marks among the deferred calls. -/
def MR (σ : Sg) (ds : List Nat) (l : List Deferred) : Prop :=
  ds.length = l.length ∧ ∀ (i d : Nat) (m : Deferred), ds[i]? = some d → l[i]? = some m → ∃ b r, σ d = some (b, r) ∧ m = Sx.mark b
theorem MR.mono {σ σ' : Sg} (hs : SLe σ σ') {ds : List Nat} {l : List Deferred} (h : MR σ ds l) : MR σ' ds l :=
  ⟨h.1, fun i d m h1 h2 => let ⟨b, r, h3, h4⟩ := h.2 i d m h1 h2; ⟨b, r, hs _ _ h3, h4⟩⟩
theorem MR.cons {σ : Sg} {d b r : Nat} {ds : List Nat} {l : List Deferred} (hd : σ d = some (b, r)) (h : MR σ ds l) : MR σ (d :: ds) (Sx.mark b :: l) := by
  refine ⟨by simp [h.1], fun i d' m h1 h2 => ?_⟩
  cases i with
  | zero => simp at h1 h2; subst h1; subst h2; exact ⟨b, r, hd, rfl⟩
  | succ i => exact h.2 i d' m (by simpa using h1) (by simpa using h2)
structure AR (σ : Sg) (e : Tr Value) (nt : Nat) (ds : List Nat) (a : Act) : Prop where
  env : ER σ e nt a.tmps
  marks : MR σ ds a.defers
theorem AR.mono {σ σ' : Sg} (hs : SLe σ σ') {e : Tr Value} {nt : Nat} {ds : List Nat} {a : Act} (h : AR σ e nt ds a) : AR σ' e nt ds a := ⟨h.env.mono hs, h.marks.mono hs⟩
/-- In which round we are. -/
def RR (σ : Sg) : Option Nat → Option Nat → Prop
  | none, none => True
  | some l, some b => ∃ r, σ l = some (b, r)
  | _, _ => False
theorem RR.mono {σ σ' : Sg} (hs : SLe σ σ') : ∀ {r rb : Option Nat}, RR σ r rb → RR σ' r rb
  | none, none, _ => trivial
  | some l, some b, ⟨r, h⟩ => ⟨r, hs _ _ h⟩
  | none, some _, h => h.elim
  | some _, none, h => h.elim

def DrawOk (P : Program) (dr : Nat → Array Oper → Tr Value → Tr Ob → Nat → RgR) : Prop :=
  ∀ nt ops e h N e' h' N', dr nt ops e h N = some (e', h', N') → N ≤ N' ∧ ∀ (w0 : Fen) σ a w id rb (Q : Exit → Act → World → Prop), HR w0 σ h w → ER σ e nt a.tmps → Fresh σ N N' →
    (∀ σ' a' w', Ext σ σ' N N' → HR w0 σ' h' w' → ER σ' e' nt a'.tmps → a'.defers = a.defers → Q .normal a' w') → (Code.region id ops true).wpIn (Fr rb) 0 P Q a w

/-- What a piece of code does. -/
def CPost (w0 : Fen) (σ : Sg) (nt : Nat) (N : Nat) (x : Ex) (e' : Tr Value) (ds' : List Nat) (h' : Tr Ob) (N' : Nat) (X : Exit) (a' : Act) (w' : World) : Prop :=
  X = x.exit ∧ ∃ σ', Ext σ σ' N N' ∧ HR w0 σ' h' w' ∧ AR σ' e' nt ds' a'

def COk (P : Program) (nt : Nat) (r : Option Nat) (c : Code) (f : Cf) : Prop :=
  ∀ e ds h N x e' ds' h' N', f e ds h N = .ok x e' ds' h' N' → N ≤ N' ∧ ∀ w0 σ a w rb, HR w0 σ h w → AR σ e nt ds a → Fresh σ N N' → RR σ r rb →
    c.wpIn (Fr rb) 0 P (CPost w0 σ nt N x e' ds' h' N') a w

section
variable {P : Program} {nt : Nat} {r : Option Nat}

theorem COk.loop {c : Code} {body : Cf} (hb : COk P nt r c body) : ∀ f, COk P nt r (.loop c) (evLoop body f) := by
  -- one round after another
  have key : ∀ f e ds h N x e' ds' h' N', evLoop body f e ds h N = .ok x e' ds' h' N' → N ≤ N' ∧ ∀ w0 σ rb, Fresh σ N N' → RR σ r rb → ∀ a w, HR w0 σ h w → AR σ e nt ds a →
      ∀ (b : Frame) (k : List Item) (cs : List Frame), b.roundOf = (Fr rb).round → (Fr rb).fn b.fn → (Fr rb).room (cs.length + 1 + 0) →
      ∃ X a' w', CPost w0 σ nt N x e' ds' h' N' X a' w' ∧ ArrivesIn (Machine.fenced P (Fr rb)) P (lone (b.atR a (.code c :: .inLoop c :: k)) cs w) b k cs X a' w' := by
    intro f
    induction f with
    | zero => intro e ds h N x e' ds' h' N' hr; cases hr
    | succ f ih =>
      intro e ds h N x e' ds' h' N' hr
      have hr' : rbind (body e ds h N) (fun x e1 ds1 h1 N1 => Ex.rec (motive := fun _ => Res) (evLoop body f e1 ds1 h1 N1) (fun id => .ok (.x id) e1 ds1 h1 N1) (.ok .r e1 ds1 h1 N1) x) = .ok x e' ds' h' N' := hr
      obtain ⟨x1, e1, ds1, h1, N1, hb1, hr1⟩ := rbind_ok hr'
      obtain ⟨hN1, hbody⟩ := hb _ _ _ _ _ _ _ _ _ hb1
      cases x1 with
      | n =>
        obtain ⟨hN2, hloop⟩ := ih _ _ _ _ _ _ _ _ _ hr1
        refine ⟨Nat.le_trans hN1 hN2, fun w0 σ rb hf hrr a w H hA b k cs hro hbf hroom => ?_⟩
        obtain ⟨X, a1, w1, ⟨hX, σ1, g1, g2, g3⟩, harr⟩ := hbody w0 σ a w rb H hA (hf.sub (Nat.le_refl _) hN2) hrr b (.inLoop c :: k) cs hro hbf hroom
        subst hX
        have hle := g1.le (hf.sub (Nat.le_refl _) hN2)
        obtain ⟨X2, a2, w2, ⟨hX2, σ2, g4, g5, g6⟩, harr2⟩ := hloop w0 σ1 rb (g1.fresh hf hN1) (hrr.mono hle) a1 w1 g2 g3 b k cs hro hbf hroom
        exact ⟨X2, a2, w2, ⟨hX2, σ2, g1.trans g4 hN1 hN2, g5, g6⟩, .of_steps (StepsIn.trans harr (.one (fenced_calm hbf hroom rfl) stepR_inLoop)) harr2⟩
      | x id =>
        cases hr1
        refine ⟨hN1, fun w0 σ rb hf hrr a w H hA b k cs hro hbf hroom => ?_⟩
        obtain ⟨X, a1, w1, hq, harr⟩ := hbody w0 σ a w rb H hA hf hrr b (.inLoop c :: k) cs hro hbf hroom
        have hX := hq.1
        subst hX
        exact ⟨_, a1, w1, hq, .pass (x := .inLoop c) rfl (fun _ _ => .inl (by simp [Ex.exit])) harr⟩
      | r =>
        cases hr1
        refine ⟨hN1, fun w0 σ rb hf hrr a w H hA b k cs hro hbf hroom => ?_⟩
        obtain ⟨X, a1, w1, hq, harr⟩ := hbody w0 σ a w rb H hA hf hrr b (.inLoop c :: k) cs hro hbf hroom
        have hX := hq.1
        subst hX
        exact ⟨_, a1, w1, hq, .pass (x := .inLoop c) rfl (fun _ _ => .inl (by simp [Ex.exit])) harr⟩
  intro f e ds h N x e' ds' h' N' hr
  obtain ⟨h1, h2⟩ := key f e ds h N x e' ds' h' N' hr
  refine ⟨h1, fun w0 σ a w rb H hA hf hrr b k cs hro hbf hroom => ?_⟩
  obtain ⟨X, a', w', hq, harr⟩ := h2 w0 σ rb hf hrr a w H hA b k cs hro hbf hroom
  exact ⟨X, a', w', hq, .of_steps (.one (fenced_calm hbf hroom rfl) stepR_loop) harr⟩

theorem COk.seq {x y : Code} {fx fy : Cf} (hx : COk P nt r x fx) (hy : COk P nt r y fy) :
    COk P nt r (.seq x y) (fun e ds h N => rbind (fx e ds h N) fun x e1 ds1 h1 N1 => Ex.rec (motive := fun _ => Res) (fy e1 ds1 h1 N1) (fun id => .ok (.x id) e1 ds1 h1 N1) (.ok .r e1 ds1 h1 N1) x) := by
  intro e ds h N X e' ds' h' N' hr
  obtain ⟨x1, e1, ds1, h1, N1, hb1, hr1⟩ := rbind_ok hr
  obtain ⟨hN1, hbody⟩ := hx _ _ _ _ _ _ _ _ _ hb1
  cases x1 with
  | n =>
    obtain ⟨hN2, h2⟩ := hy _ _ _ _ _ _ _ _ _ hr1
    refine ⟨Nat.le_trans hN1 hN2, fun w0 σ a w rb H hA hf hrr => wpIn_seq ?_⟩
    refine wpIn_mono (hbody w0 σ a w rb H hA (hf.sub (Nat.le_refl _) hN2) hrr) ?_
    rintro E a1 w1 ⟨rfl, σ1, g1, g2, g3⟩
    have hle := g1.le (hf.sub (Nat.le_refl _) hN2)
    refine wpIn_mono (h2 w0 σ1 a1 w1 rb g2 g3 (g1.fresh hf hN1) (hrr.mono hle)) ?_
    rintro E a2 w2 ⟨rfl, σ2, g4, g5, g6⟩
    exact ⟨rfl, σ2, g1.trans g4 hN1 hN2, g5, g6⟩
  | x id =>
    cases hr1
    refine ⟨hN1, fun w0 σ a w rb H hA hf hrr => wpIn_seq ?_⟩
    refine wpIn_mono (hbody w0 σ a w rb H hA hf hrr) ?_
    rintro E a1 w1 hq
    have hX := hq.1
    subst hX
    exact hq
  | r =>
    cases hr1
    refine ⟨hN1, fun w0 σ a w rb H hA hf hrr => wpIn_seq ?_⟩
    refine wpIn_mono (hbody w0 σ a w rb H hA hf hrr) ?_
    rintro E a1 w1 hq
    have hX := hq.1
    subst hX
    exact hq

theorem COk.block {id : Nat} {x : Code} {fx : Cf} (hx : COk P nt r x fx) :
    COk P nt r (.block id x) (fun e ds h N => rbind (fx e ds h N) fun x e1 ds1 h1 N1 => Ex.rec (motive := fun _ => Res) (.ok .n e1 ds1 h1 N1)
      (fun id' => Bool.rec (motive := fun _ => Res) (.ok (.x id') e1 ds1 h1 N1) (.ok .n e1 ds1 h1 N1) (Nat.beq id' id)) (.ok .r e1 ds1 h1 N1) x) := by
  intro e ds h N X e' ds' h' N' hr
  obtain ⟨x1, e1, ds1, h1, N1, hb1, hr1⟩ := rbind_ok hr
  obtain ⟨hN1, hbody⟩ := hx _ _ _ _ _ _ _ _ _ hb1
  cases x1 with
  | n =>
    cases hr1
    refine ⟨hN1, fun w0 σ a w rb H hA hf hrr => wpIn_block (wpIn_mono (hbody w0 σ a w rb H hA hf hrr) ?_)⟩
    rintro E a1 w1 hq
    have hX := hq.1
    subst hX
    exact hq
  | x id' =>
    cases hid : Nat.beq id' id with
    | true =>
      have hr2 : Bool.rec (motive := fun _ => Res) (.ok (.x id') e1 ds1 h1 N1) (.ok .n e1 ds1 h1 N1) (Nat.beq id' id) = .ok X e' ds' h' N' := hr1
      rw [hid] at hr2
      cases hr2
      refine ⟨hN1, fun w0 σ a w rb H hA hf hrr => wpIn_block (wpIn_mono (hbody w0 σ a w rb H hA hf hrr) ?_)⟩
      rintro E a1 w1 ⟨rfl, hq⟩
      show if id' = id then _ else _
      rw [if_pos (Nat.eq_of_beq_eq_true hid)]
      exact ⟨rfl, hq⟩
    | false =>
      have hr2 : Bool.rec (motive := fun _ => Res) (.ok (.x id') e1 ds1 h1 N1) (.ok .n e1 ds1 h1 N1) (Nat.beq id' id) = .ok X e' ds' h' N' := hr1
      rw [hid] at hr2
      cases hr2
      refine ⟨hN1, fun w0 σ a w rb H hA hf hrr => wpIn_block (wpIn_mono (hbody w0 σ a w rb H hA hf hrr) ?_)⟩
      rintro E a1 w1 ⟨rfl, hq⟩
      show if id' = id then _ else _
      rw [if_neg (fun e => by rw [e, Nat.beq_refl] at hid; cases hid)]
      exact ⟨rfl, hq⟩
  | r =>
    cases hr1
    refine ⟨hN1, fun w0 σ a w rb H hA hf hrr => wpIn_block (wpIn_mono (hbody w0 σ a w rb H hA hf hrr) ?_)⟩
    rintro E a1 w1 hq
    have hX := hq.1
    subst hX
    exact hq

end
end Go.Ev
