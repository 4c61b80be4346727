/-
  The evaluator, part W: a body run piece by piece, with the state written down between; a table of closed calls.
  Conditions: none; generic over the program.
-/
import Derived.Test.YtdpnadknaacinaaEvV
namespace Go.Ev
open Go.RowKit Go.Sx
set_option linter.unusedVariables false
set_option linter.unusedSimpArgs false

section
variable {P : Program} {w0 : Fen} {w : World} {σ : Sg} {h : Tr Ob} {e : Tr Value} {n N nt : Nat} {a : Act}

theorem HR.sub {h' : Tr Ob} (H : HR w0 σ h w) (hs : ∀ i o, h'.get i = some o → h.get i = some o) : HR w0 σ h' w :=
  ⟨H.bel, H.low, fun i b r o hi ho => H.ob i b r o hi (hs i o ho), fun i j b r r' hi hj h1 h2 => by
    cases g1 : h'.get i with
    | none => rw [g1] at h1; cases h1
    | some o1 =>
      cases g2 : h'.get j with
      | none => rw [g2] at h2; cases h2
      | some o2 => exact H.inj i j b r r' hi hj (by rw [hs i o1 g1]; rfl) (by rw [hs j o2 g2]; rfl), fun i b r hi h1 => by
    cases g1 : h'.get i with
    | none => rw [g1] at h1; cases h1
    | some o1 => exact H.own i b r hi (by rw [hs i o1 g1]; rfl)⟩
theorem ER.sub {e' : Tr Value} {tm : Array Value} (H : ER σ e n tm) (hs : ∀ t v, e'.get t = some v → e.get t = some v) : ER σ e' n tm :=
  ⟨H.size, fun t v ht => H.at_ t v (hs t v ht)⟩

noncomputable def mkT {α : Type} (l : List (Nat × α)) : Tr α := List.rec (motive := fun _ => Tr α) .nil (fun x _ ih => ih.set (some x.2) x.1) l
theorem mkT_get {α : Type} : ∀ {l : List (Nat × α)} {t : Nat} {v : α}, (mkT l).get t = some v → (t, v) ∈ l
  | [], t, v, h => by cases h
  | (i, u) :: l, t, v, h => by
    have h' : ((mkT l).set (some u) i).get t = some v := h
    rw [Tr.get_set] at h'
    by_cases e : t = i
    · rw [if_pos e] at h'
      cases h'
      subst e
      exact List.mem_cons_self
    · rw [if_neg e] at h'
      exact List.mem_cons_of_mem _ (mkT_get h')

noncomputable def opV (a : Option Value) (b : Value) : Bool := Option.rec (motive := fun _ => Bool) false (fun v => valEq 9 v b) a
theorem opV_ok {a : Option Value} {b : Value} (h : opV a b = true) : a = some b := by
  cases a with
  | none => cases h
  | some v => rw [valEq_ok 9 _ _ h]
noncomputable def incE (e : Tr Value) (l : List (Nat × Value)) : Bool := allB (fun x => opV (e.get x.1) x.2) l
theorem incE_ok {l : List (Nat × Value)} (h : incE e l = true) : ∀ t v, (mkT l).get t = some v → e.get t = some v :=
  fun t v ht => opV_ok (allB_ok h _ (mkT_get ht))

noncomputable def obE (a : Option Ob) (b : Ob) : Bool :=
  match a, b with
  | some (.c xs T), .c ys T' => band (Nat.beq T T') (listEq (valEq 9) xs ys)
  | some (.g xs T z), .g ys T' z' => band (Nat.beq T T') (band (Nat.beq z z') (listEq (valEq 9) xs ys))
  | some (.m xs c), .m ys c' => band (Nat.beq c c') (listEq (fun x y => band (valEq 9 x.1 y.1) (band (valEq 9 x.2.1 y.2.1) (Nat.beq x.2.2 y.2.2))) xs ys)
  | some .d, .d => true
  | _, _ => false
theorem obE_ok {a : Option Ob} {b : Ob} (h : obE a b = true) : a = some b := by
  unfold obE at h
  split at h
  · obtain ⟨h1, h2⟩ := band_ok h; rw [Nat.eq_of_beq_eq_true h1, listEq_ok (valEq_ok 9) _ _ h2]
  · obtain ⟨h1, h2⟩ := band_ok h; obtain ⟨h3, h4⟩ := band_ok h2; rw [Nat.eq_of_beq_eq_true h1, Nat.eq_of_beq_eq_true h3, listEq_ok (valEq_ok 9) _ _ h4]
  · obtain ⟨h1, h2⟩ := band_ok h
    rw [Nat.eq_of_beq_eq_true h1, listEq_ok (fun x y hxy => by
      obtain ⟨g1, g2⟩ := band_ok hxy
      obtain ⟨g3, g4⟩ := band_ok g2
      obtain ⟨x1, x2, x3⟩ := x
      obtain ⟨y1, y2, y3⟩ := y
      simp only at g1 g3 g4
      rw [valEq_ok 9 _ _ g1, valEq_ok 9 _ _ g3, Nat.eq_of_beq_eq_true g4]) _ _ h2]
  · rfl
  · cases h
noncomputable def incH (h : Tr Ob) (l : List (Nat × Ob)) : Bool := allB (fun x => obE (h.get x.1) x.2) l
theorem incH_ok {l : List (Nat × Ob)} (hh : incH h l = true) : ∀ i o, (mkT l).get i = some o → h.get i = some o :=
  fun i o ho => obE_ok (allB_ok hh _ (mkT_get ho))

/-! ### What is left of a body -/
/-- The rest of the function's body ends with the result v, and has written nothing that is older than w0. -/
def Left (P : Program) (fn : Func) (c : Code) (e : Tr Value) (ds : List Nat) (h : Tr Ob) (N : Nat) (v : Value) : Prop :=
  ∀ (w0 : Fen) (σ : Sg) (a : Act) (w : World), HR w0 σ h w → AR σ e fn.ntmps ds a → (∀ i, N ≤ i → σ i = none) →
    c.wpIn (Fr none) 0 P (bodyPostM (Fr none) 0 P fn fun e w' => e = .returned v ∧ Kept w0 w') a w

variable {call : CallF} {dr : DrF} {fn : Func} {ds : List Nat} {v : Value}

theorem Left.sub {c : Code} {e' : Tr Value} {h' : Tr Ob} (hl : Left P fn c e' ds h' N v) (he : ∀ t v, e'.get t = some v → e.get t = some v) (hh : ∀ i o, h'.get i = some o → h.get i = some o) : Left P fn c e ds h N v :=
  fun w0 σ a w H hA hf => hl w0 σ a w (H.sub hh) ⟨hA.env.sub he, hA.marks⟩ hf

theorem Left.seq (hcall : CallOk P call) (hdr : DrawOk P dr) {x y : Code} {e1 : Tr Value} {ds1 : List Nat} {h1 : Tr Ob} {N1 : Nat}
    (hr : (evCode P fn.ntmps x).f call dr none e ds h N = .ok .n e1 ds1 h1 N1) (hl : Left P fn y e1 ds1 h1 N1 v) : Left P fn (.seq x y) e ds h N v := by
  intro w0 σ a w H hA hf
  obtain ⟨g1, g2⟩ := evCode_ok (nt := fn.ntmps) (r := none) hcall hdr x _ _ _ _ _ _ _ _ _ hr
  refine wpIn_seq (wpIn_mono (g2 w0 σ a w none H hA (fun i h1 _ => hf i h1) trivial) ?_)
  rintro E a1 w1 ⟨rfl, σ1, g3, g4, g5⟩
  exact hl w0 σ1 a1 w1 g4 g5 (fun i hi => by rw [g3 i (.inr hi)]; exact hf i (by omega))

/-- The end of a body. -/
noncomputable def evTail (P : Program) (call : CallF) (dr : DrF) (nt : Nat) (rs : List ResultVar) (c : Code) (e : Tr Value) (ds : List Nat) (h : Tr Ob) (N : Nat) : Option Value :=
  Res.rec (motive := fun _ => Option Value) none (fun x e ds h N => Ex.rec (motive := fun _ => Option Value)
    (obind (unmark ds h) fun h' => obind (evRvs P e h' rs) fun vs => some (pack vs)) (fun _ => none)
    (obind (unmark ds h) fun h' => obind (evRvs P e h' rs) fun vs => some (pack vs)) x) ((evCode P nt c).f call dr none e ds h N)

theorem Left.last (hcall : CallOk P call) (hdr : DrawOk P dr) {c : Code} (hr : evTail P call dr fn.ntmps fn.results.toList c e ds h N = some v) (hv : plain v = true) : Left P fn c e ds h N v := by
  intro w0 σ a w H hA hf
  unfold evTail at hr
  cases hcode : (evCode P fn.ntmps c).f call dr none e ds h N with
  | no => rw [hcode] at hr; cases hr
  | ok x e1 ds1 h1 N1 =>
    rw [hcode] at hr
    have hr3 : (obind (unmark ds1 h1) fun h' => obind (evRvs P e1 h' fn.results.toList) fun vs => (some (pack vs) : Option Value)) = some v ∧ (x = .n ∨ x = .r) := by
      cases x with
      | n => exact ⟨hr, .inl rfl⟩
      | x id => cases hr
      | r => exact ⟨hr, .inr rfl⟩
    obtain ⟨hr3, hx⟩ := hr3
    obtain ⟨h2, hum, hr4⟩ := obind_some hr3
    obtain ⟨vs, hvs, hr5⟩ := obind_some hr4
    cases hr5
    obtain ⟨g1, g2⟩ := evCode_ok (nt := fn.ntmps) (r := none) hcall hdr c _ _ _ _ _ _ _ _ _ hcode
    refine wpIn_mono (g2 w0 σ a w none H hA (fun i h1 _ => hf i h1) trivial) ?_
    rintro E a' w' ⟨rfl, σ', g3, g4, g5⟩
    have hleave : LeavesInM (Fr none) 0 P fn a'.tmps (fun e w' => e = .returned (pack vs) ∧ Kept w0 w') a'.defers .returning w' := by
      refine unmark_ok (σ := σ') ds1 a'.defers h1 w' hum g4 g5.marks ?_
      intro w2 H2
      obtain ⟨u, q1, q2⟩ := run_results rfl H2 g5.env hvs
      exact ⟨u, q2, by rw [q1.plain_eq hv], H2.bel⟩
    rcases hx with rfl | rfl
    · exact hleave
    · exact hleave

/-! ### Pieces -/
noncomputable def dropC (n : Nat) (c : Code) : Code := Nat.rec (motive := fun _ => Code → Code) (fun c => c) (fun _ ih c => match c with | .seq _ y => ih y | c => c) n c
noncomputable def runN (P : Program) (nt : Nat) (call : CallF) (dr : DrF) (k : (Tr Value → List Nat → Tr Ob → Nat → Bool)) (n : Nat) : Code → Tr Value → List Nat → Tr Ob → Nat → Bool :=
  Nat.rec (motive := fun _ => Code → Tr Value → List Nat → Tr Ob → Nat → Bool) (fun _ e ds h N => k e ds h N)
    (fun _ ih c e ds h N => match c with
      | .seq x y => Res.rec (motive := fun _ => Bool) false (fun X e1 ds1 h1 N1 => Ex.rec (motive := fun _ => Bool) (ih y e1 ds1 h1 N1) (fun _ => false) false X) ((evCode P nt x).f call dr none e ds h N)
      | _ => false) n
theorem runN_ok (hcall : CallOk P call) (hdr : DrawOk P dr) {k : Tr Value → List Nat → Tr Ob → Nat → Bool} : ∀ (n : Nat) (c : Code) (e : Tr Value) (ds : List Nat) (h : Tr Ob) (N : Nat), runN P fn.ntmps call dr k n c e ds h N = true →
    (∀ e ds h N, k e ds h N = true → Left P fn (dropC n c) e ds h N v) → Left P fn c e ds h N v
  | 0, c, e, ds, h, N, hr, hk => hk _ _ _ _ hr
  | n + 1, c, e, ds, h, N, hr, hk => by
    cases c with
    | seq x y =>
      have hr' : Res.rec (motive := fun _ => Bool) false (fun X e1 ds1 h1 N1 => Ex.rec (motive := fun _ => Bool) (runN P fn.ntmps call dr k n y e1 ds1 h1 N1) (fun _ => false) false X) ((evCode P fn.ntmps x).f call dr none e ds h N) = true := hr
      cases hc : (evCode P fn.ntmps x).f call dr none e ds h N with
      | no => rw [hc] at hr'; cases hr'
      | ok X e1 ds1 h1 N1 =>
        rw [hc] at hr'
        cases X with
        | n => exact Left.seq hcall hdr hc (runN_ok hcall hdr n y _ _ _ _ hr' hk)
        | x id => cases hr'
        | r => cases hr'
    | _ => cases hr

/-- A state between pieces: how many pieces of the body are done; slots, marks, blocks, the next number. -/
structure Stt where
  k : Nat
  e : List (Nat × Value)
  ds : List Nat
  h : List (Nat × Ob)
  N : Nat

noncomputable def bodyOf (P : Program) (f : Nat) : Code := Option.rec (motive := fun _ => Code) .skip (fun fi => fi.2.1) (fnOf P f)
noncomputable def ntOf (P : Program) (f : Nat) : Nat := Option.rec (motive := fun _ => Nat) 0 (fun fi => fi.1) (fnOf P f)
noncomputable def rsOf (P : Program) (f : Nat) : List ResultVar := Option.rec (motive := fun _ => List ResultVar) [] (fun fi => fi.2.2) (fnOf P f)

/-- From this state on, f's body ends with v. -/
def At (P : Program) (f : Nat) (s : Stt) (v : Value) : Prop :=
  ∀ fn, P.funcs[f]? = some fn → Left P fn (dropC s.k (bodyOf P f)) (mkT s.e) s.ds (mkT s.h) s.N v

noncomputable def isSeq : Code → Bool
  | .seq _ _ => true
  | _ => false
theorem dropC_no {c : Code} (h : isSeq c = false) : ∀ n, dropC n c = c
  | 0 => rfl
  | n + 1 => by cases c <;> first | rfl | cases h
theorem dropC_add : ∀ (k n : Nat) (c : Code), dropC n (dropC k c) = dropC (k + n) c
  | 0, n, c => by rw [Nat.zero_add]; rfl
  | k + 1, n, c => by
    have e : k + 1 + n = (k + n) + 1 := by omega
    rw [e]
    cases hs : isSeq c with
    | false => rw [dropC_no hs, dropC_no hs, dropC_no hs]
    | true =>
      cases c with
      | seq x y => exact dropC_add k n y
      | _ => cases hs

/-! ### A table of closed calls -/
def Closed (P : Program) (f : Nat) (args : List Value) (v : Value) : Prop :=
  callable P f ∧ ∀ w, Calls P f ⟨args⟩ w fun e w' => e = .returned v ∧ Below w.heap.size w w'
abbrev Tab := List (Nat × List Value × Value)
noncomputable def allPl (l : List Value) : Bool := allB plain l
def TabOk (P : Program) (tab : Tab) : Prop := ∀ x ∈ tab, Closed P x.1 x.2.1 x.2.2 ∧ allPl x.2.1 = true ∧ plain x.2.2 = true
noncomputable def look (f : Nat) (args : List Value) (tab : Tab) : Option Value :=
  List.rec (motive := fun _ => Option Value) none (fun x _ ih => Bool.rec (motive := fun _ => Option Value) ih (some x.2.2) (band (Nat.beq x.1 f) (listEq (valEq 2) x.2.1 args))) tab
theorem look_ok {f : Nat} {args : List Value} {v : Value} : ∀ {tab : Tab}, look f args tab = some v → (f, args, v) ∈ tab
  | [], h => by cases h
  | (g, as, u) :: tab, h => by
    have h' : Bool.rec (motive := fun _ => Option Value) (look f args tab) (some u) (band (Nat.beq g f) (listEq (valEq 2) as args)) = some v := h
    cases hb : band (Nat.beq g f) (listEq (valEq 2) as args) with
    | false => rw [hb] at h'; exact List.mem_cons_of_mem _ (look_ok h')
    | true =>
      rw [hb] at h'
      cases h'
      obtain ⟨h1, h2⟩ := band_ok hb
      rw [Nat.eq_of_beq_eq_true h1, listEq_ok (valEq_ok 2) _ _ h2]
      exact List.mem_cons_self
noncomputable def lookF (tab : Tab) (args : List Value) (fv : Value) : Option Value :=
  match fv with
  | .func (.func f) ⟨[]⟩ ⟨[]⟩ => look f args tab
  | _ => none
noncomputable def tabAny (P : Program) (tab : Tab) (ih : CallF) (dr : DrF) (fv : Value) (args : List Value) (h : Tr Ob) (N : Nat) : OpR :=
  Option.rec (motive := fun _ => OpR) (evAny P ih dr fv args h N) (fun v => some (v, h, N)) (lookF tab args fv)
noncomputable def evT (P : Program) (tab : Tab) (drw : CallF → DrF) (d : Nat) : CallF :=
  Nat.rec (motive := fun _ => CallF) (fun _ _ _ _ => none) (fun _ ih fv args h N => tabAny P tab ih (drw ih) fv args h N) d

theorem plain_all {args args' : List Value} (ha : RlL σ args args') (hp : allPl args = true) : args' = args := by
  apply List.ext_getElem? 
  intro i
  cases h1 : args[i]? with
  | none =>
    have := ha.len
    rw [List.getElem?_eq_none_iff] at h1 ⊢
    omega
  | some x =>
    obtain ⟨y, h2, h3⟩ := ha.get h1
    have := allB_ok hp x (List.mem_of_getElem? h1)
    rw [h2, h3.plain_eq this]

theorem tabAny_ok {tab : Tab} (ht : TabOk P tab) (hcall : CallOk P call) (hdr : DrawOk P dr) : CallOk P (tabAny P tab call dr) := by
  intro fv args h N v h' N' hr
  unfold tabAny at hr
  cases hl : lookF tab args fv with
  | none =>
    rw [hl] at hr
    exact evAny_ok hcall hdr _ _ _ _ _ _ _ hr
  | some u =>
    rw [hl] at hr
    cases hr
    unfold lookF at hl
    split at hl
    · rename_i f
      obtain ⟨⟨hc, hcl⟩, hp, hpv⟩ := ht _ (look_ok hl)
      dsimp only at hc hcl hp hpv
      refine ⟨Nat.le_refl _, fun w0 σ w fv' args' H hfv ha hf => ?_⟩
      rw [plain_all ha hp]
      have hfv' : fv' = .func (.func f) ⟨[]⟩ ⟨[]⟩ := by
        cases hfv
        · rfl
        · rename_i gs ds h3 h4 h1 h2
          have e1 : gs = [] := List.length_eq_zero_iff.1 h3.symm
          have e2 : ds = [] := List.length_eq_zero_iff.1 h1.symm
          rw [e1, e2]
      subst hfv'
      refine ⟨_, ?_, .inr (.inl ⟨f, _, rfl, (hcl w).mono ?_⟩)⟩
      · have := run_callee (w := w) (args := (⟨args⟩ : Array Value)) hc
        simp only [Deferred.ofValue, Sem.run_bind, Sem.run_pure, Result.andThen_ok, invoke]
        rw [← this]
        congr 2
        apply Array.ext'
        simp
      · rintro e w' ⟨rfl, hb⟩
        exact ⟨_, rfl, σ, Ext.refl _ _ _, H.ext hb, .sc hpv⟩
    · cases hl

theorem evT_ok {tab : Tab} (ht : TabOk P tab) {drw : CallF → DrF} (hdr : ∀ call, CallOk P call → DrawOk P (drw call)) : ∀ d, CallOk P (evT P tab drw d)
  | 0 => by intro fv args h N v h' N' hr; cases hr
  | d + 1 => tabAny_ok ht (evT_ok ht hdr d) (hdr _ (evT_ok ht hdr d))

/-! ### What a text shows by the kernel -/
noncomputable def step (P : Program) (tab : Tab) (d f : Nat) (s s' : Stt) : Bool :=
  runN P (ntOf P f) (evT P tab (evDraw P) d) (evDraw P (evT P tab (evDraw P) d))
    (fun e ds h N => band (Nat.beq N s'.N) (band (listEq Nat.beq ds s'.ds) (band (incE e s'.e) (incH h s'.h)))) (Nat.sub s'.k s.k) (dropC s.k (bodyOf P f)) (mkT s.e) s.ds (mkT s.h) s.N
noncomputable def fin (P : Program) (tab : Tab) (d f : Nat) (s : Stt) (v : Value) : Bool :=
  opV (evTail P (evT P tab (evDraw P) d) (evDraw P (evT P tab (evDraw P) d)) (ntOf P f) (rsOf P f) (dropC s.k (bodyOf P f)) (mkT s.e) s.ds (mkT s.h) s.N) v

theorem fnOf_all {f : Nat} {fn : Func} (hc : fnOf P f ≠ none) (hf : P.funcs[f]? = some fn) : fn.body = some (bodyOf P f) ∧ fn.ntmps = ntOf P f ∧ fn.results.toList = rsOf P f ∧ callable P f := by
  cases h : fnOf P f with
  | none => exact absurd h hc
  | some fi =>
    obtain ⟨nt, c, rs⟩ := fi
    obtain ⟨fn', h1, h2, h3, h4, h5⟩ := fnOf_ok h
    rw [hf] at h1
    cases h1
    refine ⟨?_, ?_, ?_, h5⟩
    · rw [h2]; unfold bodyOf; rw [h]
    · rw [h3]; unfold ntOf; rw [h]
    · rw [h4]; unfold rsOf; rw [h]

theorem At.step (hmix : P.follows .mixedOrders = true) {tab : Tab} (ht : TabOk P tab) {d f : Nat} {s s' : Stt} (hk : Nat.ble s.k s'.k = true) (hc : isNone' (fnOf P f) = false) (hr : step P tab d f s s' = true) (hn : At P f s' v) : At P f s v := by
  intro fn hf
  have hcall := evT_ok ht (fun _ hc => evDraw_ok hmix hc) d
  have hdr := evDraw_ok hmix hcall
  have hc' : fnOf P f ≠ none := fun e => by rw [e] at hc; cases hc
  obtain ⟨g1, g2, g3, g4⟩ := fnOf_all hc' hf
  unfold Go.Ev.step at hr
  rw [← g2] at hr
  refine runN_ok hcall hdr _ _ _ _ _ _ hr ?_
  intro e ds h N hk2
  obtain ⟨q1, q2⟩ := band_ok hk2
  obtain ⟨q3, q4⟩ := band_ok q2
  obtain ⟨q5, q6⟩ := band_ok q4
  have e1 := Nat.eq_of_beq_eq_true q1
  have e2 := listEq_ok (fun x y => Nat.eq_of_beq_eq_true) _ _ q3
  subst e1
  subst e2
  have hle := Nat.le_of_ble_eq_true hk
  have e3 : s.k + (Nat.sub s'.k s.k) = s'.k := by show s.k + (s'.k - s.k) = s'.k; omega
  rw [dropC_add, e3]
  exact (hn fn hf).sub (incE_ok q5) (incH_ok q6)

theorem At.fin (hmix : P.follows .mixedOrders = true) {tab : Tab} (ht : TabOk P tab) {d f : Nat} {s : Stt} (hc : isNone' (fnOf P f) = false) (hr : fin P tab d f s v = true) (hv : plain v = true) : At P f s v := by
  intro fn hf
  have hcall := evT_ok ht (fun _ hc => evDraw_ok hmix hc) d
  have hdr := evDraw_ok hmix hcall
  have hc' : fnOf P f ≠ none := fun e => by rw [e] at hc; cases hc
  obtain ⟨g1, g2, g3, g4⟩ := fnOf_all hc' hf
  unfold Go.Ev.fin at hr
  rw [← g2, ← g3] at hr
  exact Left.last hcall hdr (opV_ok hr) hv

noncomputable def numb (l : List Value) : Nat → List (Nat × Value) := List.rec (motive := fun _ => Nat → List (Nat × Value)) (fun _ => []) (fun v _ ih i => (i, v) :: ih (Nat.succ i)) l
theorem numb_env : ∀ (l : List Value) (i : Nat), mkT (numb l i) = envT l i
  | [], i => rfl
  | v :: l, i => by
    show (mkT (numb l (Nat.succ i))).set (some v) i = (envT l (Nat.succ i)).set (some v) i
    rw [numb_env l]

theorem At.closed {f : Nat} {args : List Value} (hc : isNone' (fnOf P f) = false) (hlen : Nat.ble (len args) (ntOf P f) = true) (hp : allPl args = true) (hn : At P f ⟨0, numb args 0, [], [], 0⟩ v) : Closed P f args v := by
  have hc' : fnOf P f ≠ none := fun e => by rw [e] at hc; cases hc
  cases h : fnOf P f with
  | none => exact absurd h hc'
  | some fi =>
    obtain ⟨fn, hf, _⟩ := fnOf_ok (show fnOf P f = some (fi.1, fi.2.1, fi.2.2) from h)
    obtain ⟨g1, g2, g3, g4⟩ := fnOf_all hc' hf
    refine ⟨g4, fun w => ?_⟩
    have hle := Nat.le_of_ble_eq_true hlen
    rw [len_eq, ← g2] at hle
    refine Calls.mono (callsIn_wide.1 (callsIn_of_wp_marks (F := Fr none) (n := 0) (R := fun e w' => e = .returned v ∧ Kept (.all w) w') hf g1 trivial ?_)) (fun e w' hk => ⟨hk.1, hk.2.below⟩)
    have H : HR (.all w) (fun _ => none) (mkT []) w := ⟨Kept.all _, (fun i b r h => by cases h), (fun i b r o h => by cases h), (fun i j b r r' h => by cases h), (fun i b r h => by cases h)⟩
    have hl : RlL (fun _ => none) args args := ⟨rfl, fun i a b h1 h2 => by rw [h1] at h2; cases h2; exact .sc (allB_ok hp a (List.mem_of_getElem? h1))⟩
    have hst := er_start (nt := fn.ntmps) hl hle
    have hn' := hn fn hf
    dsimp only at hn'
    rw [numb_env] at hn'
    exact hn' (.all w) (fun _ => none) { tmps := _, defers := [] } w H ⟨hst, ⟨rfl, fun i d m h => by simp at h⟩⟩ (fun _ _ => rfl)
end
end Go.Ev
