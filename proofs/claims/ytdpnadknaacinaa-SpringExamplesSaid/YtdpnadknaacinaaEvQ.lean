/-
  The evaluator, part Q: functions and rounds; the evaluator itself.
  Conditions: none; generic over the program.
-/
import Derived.Test.YtdpnadknaacinaaEvPo
namespace Go.Ev
open Go.RowKit Go.Sx
set_option linter.unusedVariables false
set_option linter.unusedSimpArgs false

noncomputable def fnOf (P : Program) (f : Nat) : Option (Nat × Code × List ResultVar) :=
  match P.funcs[f]? with
  | some fn => Bool.rec (motive := fun _ => Option (Nat × Code × List ResultVar)) (match fn.body with
    | some c => some (fn.ntmps, c, fn.results.toList)
    | none => none) none (fn.name == "runtime.NumGoroutine")
  | none => none
theorem fnOf_ok {P : Program} {f nt : Nat} {c : Code} {rs : List ResultVar} (hf : fnOf P f = some (nt, c, rs)) : ∃ fn, P.funcs[f]? = some fn ∧ fn.body = some c ∧ fn.ntmps = nt ∧ fn.results.toList = rs ∧ callable P f := by
  unfold fnOf at hf
  split at hf
  · rename_i fn hfn
    cases hn : fn.name == "runtime.NumGoroutine" with
    | true => rw [hn] at hf; cases hf
    | false =>
      rw [hn] at hf
      split at hf
      · rename_i c' hb
        cases hf
        exact ⟨fn, hfn, hb, rfl, rfl, fn, hfn, hn, by rw [hb]; rfl⟩
      · cases hf
  · cases hf

/-- The slots of a call that begins. -/
noncomputable def envT (vs : List Value) : Nat → Tr Value := List.rec (motive := fun _ => Nat → Tr Value) (fun _ => .nil) (fun v _ ih i => (ih (Nat.succ i)).set (some v) i) vs
theorem envT_get : ∀ (vs : List Value) (i t : Nat) (v : Value), (envT vs i).get t = some v → i ≤ t ∧ vs[t - i]? = some v
  | [], i, t, v, h => by cases h
  | u :: vs, i, t, v, h => by
    have h' : ((envT vs (i + 1)).set (some u) i).get t = some v := h
    rw [Tr.get_set] at h'
    by_cases e : t = i
    · rw [if_pos e] at h'
      cases h'
      subst e
      simp
    · rw [if_neg e] at h'
      obtain ⟨h1, h2⟩ := envT_get vs (i + 1) t v h'
      refine ⟨by omega, ?_⟩
      have : t - i = (t - (i + 1)) + 1 := by omega
      rw [this, List.getElem?_cons_succ]
      exact h2

section
variable {P : Program} {w0 : Fen} {w : World} {σ : Sg} {h : Tr Ob} {e : Tr Value} {n N nt : Nat} {a : Act} {o : Oper} {r : Option Nat}

theorem er_start {vs us : List Value} (hv : RlL σ vs us) (hn : us.length ≤ nt) : ER σ (envT vs 0) nt ((⟨us⟩ : Array Value) ++ Array.replicate (nt - (⟨us⟩ : Array Value).size) undef) := by
  have hs : (⟨us⟩ : Array Value).size = us.length := rfl
  refine ⟨by simp [hs]; omega, fun t v ht => ?_⟩
  obtain ⟨_, h2⟩ := envT_get vs 0 t v ht
  rw [Nat.sub_zero] at h2
  obtain ⟨x, h3, h4⟩ := hv.get h2
  refine ⟨x, h4, ?_⟩
  have hlt : t < us.length := by
    rcases Nat.lt_or_ge t us.length with h | h
    · exact h
    · rw [List.getElem?_eq_none h] at h3; cases h3
  rw [Array.getElem?_append_left (by rw [hs]; exact hlt)]
  simpa using h3

/-! ### Results -/
noncomputable def evRv (P : Program) (e : Tr Value) (h : Tr Ob) : ResultVar → Option Value
  | .tmp t => e.get t
  | .cell p ty => obind (e.get p) fun v => match v with
    | .pointer (some ⟨i, off, none⟩) => obind (cellsOf h i) fun xs => evRead P ty xs off
    | _ => none
noncomputable def evRvs (P : Program) (e : Tr Value) (h : Tr Ob) (rs : List ResultVar) : Option (List Value) :=
  List.rec (motive := fun _ => Option (List Value)) (some []) (fun x _ ih => obind (evRv P e h x) fun v => obind ih fun vs => some (v :: vs)) rs
noncomputable def pack : List Value → Value
  | [v] => v
  | vs => .tuple ⟨vs⟩

theorem evRv_ok (H : HR w0 σ h w) {tm : Array Value} (hE : ER σ e n tm) {x : ResultVar} {v : Value} (hr : evRv P e h x = some v) : ∃ u, Rl σ v u ∧ (rvRun tm x).run P w = .ok u w := by
  cases x with
  | tmp t =>
    obtain ⟨u, h1, h2⟩ := hE.at_ t v hr
    exact ⟨u, h1, by simp [rvRun, h2]⟩
  | cell p ty =>
    obtain ⟨q, hq, hr⟩ := obind_some hr
    obtain ⟨u, h1, h2⟩ := hE.at_ p q hq
    split at hr
    · rename_i i off
      obtain ⟨xs, h3, h4⟩ := obind_some hr
      cases h1
      · rename_i hp; simp [plain] at hp
      · rename_i b rr hi
        obtain ⟨cs, rest, E, h5, h6⟩ := cellsOf_ok H hi h3
        obtain ⟨y, h7, h8⟩ := evRead_ok (P := P) h4 h5 h6
        exact ⟨y, h7, by simp [rvRun, h2, asAddr, h8]⟩
    · cases hr

theorem evRvs_ok (H : HR w0 σ h w) {tm : Array Value} (hE : ER σ e n tm) : ∀ {rs : List ResultVar} {vs : List Value}, evRvs P e h rs = some vs → ∃ us, RlL σ vs us ∧ (rs.mapM (rvRun tm) : Sem (List Value)).run P w = .ok us w
  | [], vs, hr => by cases hr; exact ⟨[], .nil σ, by simp⟩
  | x :: rs, vs, hr => by
    have hr' : obind (evRv P e h x) (fun v => obind (evRvs P e h rs) fun vs => some (v :: vs)) = some vs := hr
    obtain ⟨v, h1, hr2⟩ := obind_some hr'
    obtain ⟨vs', h2, hr3⟩ := obind_some hr2
    cases hr3
    obtain ⟨u, h3, h4⟩ := evRv_ok (P := P) H hE h1
    obtain ⟨us, h5, h6⟩ := evRvs_ok H hE h2
    exact ⟨u :: us, .cons h3 h5, by simp [List.mapM_cons, h4, h6]⟩

theorem results_eq (fn : Func) (tm : Array Value) : results fn tm = (do let vs ← fn.results.mapM (rvRun tm); pure (if h : vs.size = 1 then vs[0] else .tuple vs)) := by
  unfold results
  have : (fun x => match x with
    | ResultVar.tmp t => pure (tm.getD t undef)
    | .cell a t => do loadVar t (← asAddr (tm.getD a undef)) : ResultVar → Sem Value) = rvRun tm := by
    funext x; cases x <;> rfl
  rw [← this]
  rfl

theorem pack_ok {vs us : List Value} (hv : RlL σ vs us) : Rl σ (pack vs) (if hh : (⟨us⟩ : Array Value).size = 1 then (⟨us⟩ : Array Value)[0] else .tuple ⟨us⟩) := by
  have hl := hv.len
  match vs, us, hv, hl with
  | [], [], hv, _ => exact .tup rfl (fun i a b h => by simp at h)
  | [v], [u], hv, _ => exact hv.at_ 0 v u rfl rfl
  | v :: v' :: vs, u :: u' :: us, hv, _ =>
    have : ¬ (⟨u :: u' :: us⟩ : Array Value).size = 1 := by simp
    rw [dif_neg this]
    exact .tup hv.len hv.at_

theorem run_results {fn : Func} {tm : Array Value} {rs : List ResultVar} (hrs : fn.results.toList = rs) (H : HR w0 σ h w) (hE : ER σ e n tm) {vs : List Value} (hr : evRvs P e h rs = some vs) :
    ∃ u, Rl σ (pack vs) u ∧ (results fn tm).run P w = .ok u w := by
  obtain ⟨us, h1, h2⟩ := evRvs_ok (P := P) H hE hr
  refine ⟨_, pack_ok h1, ?_⟩
  rw [results_eq]
  have h3 : (fn.results.mapM (rvRun tm) : Sem (Array Value)).run P w = .ok ⟨us⟩ w := by
    have : (fn.results.mapM (rvRun tm) : Sem (Array Value)) = Functor.map List.toArray (fn.results.toList.mapM (rvRun tm)) := by
      rw [← Array.toArray_toList (xs := fn.results), List.mapM_toArray]
    rw [this, hrs]
    simp only [Sem.run_map, h2, Result.andThen_ok]
  simp only [Sem.run_bind, h3, Result.andThen_ok, Sem.run_pure]

/-! ### The marks are taken -/
noncomputable def unmark (ds : List Nat) : Tr Ob → Option (Tr Ob) := List.rec (motive := fun _ => Tr Ob → Option (Tr Ob)) (fun h => some h) (fun d _ ih h => match h.get d with | some .d => ih (h.set none d) | _ => none) ds

theorem unmark_ok {fn : Func} {R : Ending → World → Prop} {h' : Tr Ob} {tm : Array Value} : ∀ (ds : List Nat) (l : List Deferred) (h : Tr Ob) (w : World), unmark ds h = some h' → HR w0 σ h w → MR σ ds l →
    (∀ w', HR w0 σ h' w' → ∃ u, (results fn tm).run P w' = .ok u w' ∧ R (.returned u) w') → LeavesInM (Fr none) 0 P fn tm R l .returning w
  | [], l, h, w, hr, H, hm, hR => by
    have : l = [] := by have := hm.1; simp at this; exact List.length_eq_zero_iff.1 this.symm
    subst this
    cases hr
    obtain ⟨u, h1, h2⟩ := hR w H
    show LeavesIn _ _ _ _ _ _ [] _ _
    exact ⟨u, h1, h2⟩
  | d :: ds, l, h, w, hr, H, hm, hR => by
    cases l with
    | nil => exact absurd hm.1 (by simp)
    | cons m l =>
      obtain ⟨b, rr, hσ, rfl⟩ := hm.2 0 d m rfl rfl
      have hr' : (match h.get d with | some .d => unmark ds (h.set none d) | _ => none) = some h' := hr
      split at hr'
      · rename_i ho
        have hob : w.heap[b]? = some (.deferred (some [])) := H.ob d b rr _ hσ ho
        have H' := H.lose (w' := w.putObj b (.deferred none)) hσ (by rw [ho]; rfl) World.putObj_size rfl rfl rfl (fun k hk => World.putObj_heap_other hk)
        refine ⟨by simp, .inl ⟨b, _, rfl, run_takeDeferred hob, ?_⟩⟩
        exact unmark_ok ds l _ _ hr' H' ⟨by have := hm.1; simpa using this, fun i d' m' h1 h2 => hm.2 (i + 1) d' m' (by simpa using h1) (by simpa using h2)⟩ hR
      · cases hr'

/-! ### A function, a round -/

noncomputable def evFn (P : Program) (call : CallF) (dr : DrF) (f : Nat) (args : List Value) (h : Tr Ob) (N : Nat) : OpR :=
  obind (fnOf P f) fun fi => ocond (Nat.ble (len args) fi.1)
    (Res.rec (motive := fun _ => OpR) none (fun x e ds h N => Ex.rec (motive := fun _ => OpR)
        (obind (unmark ds h) fun h' => obind (evRvs P e h' fi.2.2) fun vs => some (pack vs, h', N)) (fun _ => none)
        (obind (unmark ds h) fun h' => obind (evRvs P e h' fi.2.2) fun vs => some (pack vs, h', N)) x) ((evCode P fi.1 fi.2.1).f call dr none (envT args 0) [] h N))

theorem evFn_ok {call : CallF} (hcall : CallOk P call) {dr : DrF} (hdr : DrawOk P dr) {f : Nat} {args : List Value} {v : Value} {h' : Tr Ob} {N' : Nat} (hr : evFn P call dr f args h N = some (v, h', N')) :
    callable P f ∧ N ≤ N' ∧ ∀ w0 σ w args', HR w0 σ h w → RlL σ args args' → Fresh σ N N' →
      Calls P f ⟨args'⟩ w fun e w' => ∃ v', e = .returned v' ∧ ∃ σ', Ext σ σ' N N' ∧ HR w0 σ' h' w' ∧ Rl σ' v v' := by
  obtain ⟨⟨nt, c, rs⟩, hfi, hr1⟩ := obind_some hr
  obtain ⟨hle, hr2⟩ := ocond_some hr1
  clear hr hr1
  obtain ⟨fn, hfn, hb, hnt, hrs, hcal⟩ := fnOf_ok hfi
  have hle' := Nat.le_of_ble_eq_true hle
  rw [len_eq] at hle'
  dsimp only at hr2 hle'
  cases hcode : (evCode P nt c).f call dr none (envT args 0) [] h N with
  | no => rw [hcode] at hr2; cases hr2
  | ok x e ds h1 N1 =>
    rw [hcode] at hr2
    have hr3 : (obind (unmark ds h1) fun h' => obind (evRvs P e h' rs) fun vs => (some (pack vs, h', N1) : OpR)) = some (v, h', N') ∧ (x = .n ∨ x = .r) := by
      cases x with
      | n => exact ⟨hr2, .inl rfl⟩
      | x id => cases hr2
      | r => exact ⟨hr2, .inr rfl⟩
    obtain ⟨hr3, hx⟩ := hr3
    obtain ⟨h2, hum, hr4⟩ := obind_some hr3
    obtain ⟨vs, hvs, hr5⟩ := obind_some hr4
    cases hr5
    obtain ⟨g1, g2⟩ := evCode_ok (nt := nt) (r := none) hcall hdr c _ _ _ _ _ _ _ _ _ hcode
    refine ⟨hcal, g1, fun w0 σ w args' H ha hf => ?_⟩
    refine callsIn_wide.1 (callsIn_of_wp_marks (F := Fr none) (n := 0) hfn hb trivial ?_)
    rw [hnt]
    have hst := er_start (nt := nt) ha (by rw [← ha.len]; exact hle')
    refine wpIn_mono (g2 w0 σ { tmps := _, defers := [] } w none H ⟨hst, ⟨rfl, fun i d m h => by simp at h⟩⟩ hf trivial) ?_
    rintro E a' w' ⟨rfl, σ', g3, g4, g5⟩
    have hleave : LeavesInM (Fr none) 0 P fn a'.tmps (fun e w' => ∃ v', e = .returned v' ∧ ∃ σ', Ext σ σ' N N' ∧ HR w0 σ' h' w' ∧ Rl σ' (pack vs) v') a'.defers .returning w' := by
      -- what goes out is read behind the marks
      refine unmark_ok (σ := σ') ds a'.defers h1 w' hum g4 g5.marks ?_
      intro w2 H2
      obtain ⟨u, q1, q2⟩ := run_results hrs H2 g5.env hvs
      exact ⟨u, q2, u, rfl, σ', g3, H2, q1⟩
    rcases hx with rfl | rfl
    · exact hleave
    · exact hleave


/-- yield's arguments in the loop's parameters. -/
noncomputable def putAll (ps : List Nat) : List Value → Tr Value → Tr Value :=
  List.rec (motive := fun _ => List Value → Tr Value → Tr Value) (fun _ e => e) (fun p _ ih vs e => List.rec (motive := fun _ => Tr Value) e (fun v vs _ => ih vs (e.set (some v) p)) vs) ps
theorem putAll_ok : ∀ (ps : List Nat) (vs us : List Value) (e : Tr Value) (tm : Array Value), RlL σ vs us → ER σ e nt tm → (∀ p ∈ ps, p < nt) →
    ER σ (putAll ps vs e) nt ((ps.zip us).foldl (fun t (x : Nat × Value) => t.setIfInBounds x.1 x.2) tm)
  | [], vs, us, e, tm, hv, hE, hp => hE
  | p :: ps, [], us, e, tm, hv, hE, hp => by rw [hv.of_nil]; exact hE
  | p :: ps, v :: vs, us, e, tm, hv, hE, hp => by
    obtain ⟨u, us', rfl, h1, h2⟩ := hv.uncons
    have hput := put_ok (a := { tmps := tm, defers := [] }) (d := some p) hE (fun t ht => by cases ht; exact hp p (by simp)) h1
    exact putAll_ok ps vs us' (e.set (some v) p) (tm.setIfInBounds p u) h2 hput (fun q hq => hp q (by simp [hq]))

noncomputable def allLt (nt : Nat) (ps : List Nat) : Bool := List.rec (motive := fun _ => Bool) true (fun p _ ih => Bool.rec (motive := fun _ => Bool) false ih (Nat.ble (Nat.succ p) nt)) ps
theorem allLt_ok : ∀ {ps : List Nat}, allLt nt ps = true → ∀ p ∈ ps, p < nt
  | [], _, p, hp => by cases hp
  | q :: ps, h, p, hp => by
    have h' : Bool.rec (motive := fun _ => Bool) false (allLt nt ps) (Nat.ble (Nat.succ q) nt) = true := h
    cases hb : Nat.ble (Nat.succ q) nt with
    | false => rw [hb] at h'; cases h'
    | true =>
      rw [hb] at h'
      rcases List.mem_cons.1 hp with e | e
      · subst e; exact Nat.le_of_ble_eq_true hb
      · exact allLt_ok h' p e

/-- The record l is of another state. -/
noncomputable def setSt (h : Tr Ob) (l : Nat) (ok : LoopState → Bool) (st : LoopState) (pe : Option Ex) : Option (Tr Ob) :=
  match h.get l with
  | some (.l st0 pe0 nt e ps asg body df) => ocond (ok st0) (some (h.set (some (.l st (Option.rec (motive := fun _ => Ex) pe0 (fun x => x) pe) nt e ps asg body df)) l))
  | _ => none
def isReady : LoopState → Bool
  | .ready => true
  | _ => false
noncomputable def isN : Ex → Bool
  | .n => true
  | _ => false

noncomputable def evRound (P : Program) (call : CallF) (dr : DrF) (l : Nat) (args : List Value) (h : Tr Ob) (N : Nat) : OpR :=
  match h.get l with
  | some (.l .ready _ nt e ps asg body _) => ocond (Nat.beq (len args) (len ps)) (ocond (allLt nt ps)
    (Res.rec (motive := fun _ => OpR) none (fun x1 e1 ds1 h1 N1 => ocond (isN x1) (ocond (List.rec (motive := fun _ => Bool) true (fun _ _ _ => false) ds1) (obind (setSt h1 l isReady .busy none) fun h2 =>
      Res.rec (motive := fun _ => OpR) none (fun x3 e3 ds3 h3 N3 => obind (setSt h3 l (fun _ => true) (Bool.rec (motive := fun _ => LoopState) .done .ready (isN x3)) (some x3)) fun h4 => some (.bool (isN x3), h4, N3))
        ((evCode P nt body).f call dr (some l) e1 [] h2 N1)))) ((evCode P nt asg).f call dr (some l) (putAll ps args e) [] h N)))
  | _ => none

theorem setSt_ok {l b rr : Nat} {ok : LoopState → Bool} {st : LoopState} {pe : Option Ex} {h' : Tr Ob} (hr : setSt h l ok st pe = some h') (H : HR w0 σ h w) (hl : σ l = some (b, rr)) :
    ∃ rec : Loop, w.heap[b]? = some (.loop rec) ∧ ok rec.state = true ∧ HR w0 σ h' (w.putObj b (.loop { rec with state := st, pending := match pe with | none => rec.pending | some x => x.jump })) := by
  unfold setSt at hr
  split at hr
  · rename_i st0 pe0 nt e ps asg body df ho
    obtain ⟨h1, hr1⟩ := ocond_some hr
    cases hr1
    obtain ⟨fn, tm, db, dr, g1, g2, g3⟩ := H.ob l b rr _ hl ho
    refine ⟨_, g3, h1, H.write hl (by rw [ho]; rfl) World.putObj_size rfl rfl rfl (fun k hk => World.putObj_heap_other hk) ?_⟩
    refine ⟨fn, tm, db, dr, g1, g2, ?_⟩
    rw [World.putObj_heap_same (H.low l b rr hl)]
    cases pe <;> rfl
  · cases hr

theorem isReady_ok {st : LoopState} (h : isReady st = true) : st = .ready := by cases st <;> first | rfl | cases h

theorem evRound_ok {call : CallF} (hcall : CallOk P call) {dr : DrF} (hdr : DrawOk P dr) {l : Nat} {args : List Value} {v : Value} {h' : Tr Ob} {N' : Nat} (hr : evRound P call dr l args h N = some (v, h', N')) :
    N ≤ N' ∧ ∀ w0 σ w b rr args', HR w0 σ h w → σ l = some (b, rr) → RlL σ args args' → Fresh σ N N' →
      ∃ fn tm asg body, (Instr.yield b ⟨args'⟩).run P w = .ok (.round b fn tm asg body) w ∧
        RoundIn (Fr none) 0 P b fn tm asg body w fun e w' => ∃ v', e = .returned v' ∧ ∃ σ', Ext σ σ' N N' ∧ HR w0 σ' h' w' ∧ Rl σ' v v' := by
  unfold evRound at hr
  split at hr
  · rename_i pe0 nt e ps asg body df ho
    obtain ⟨hlen, hr1⟩ := ocond_some hr
    obtain ⟨hlt, hr2⟩ := ocond_some hr1
    clear hr hr1
    have hlen' := Nat.eq_of_beq_eq_true hlen
    rw [len_eq, len_eq] at hlen'
    cases hc1 : (evCode P nt asg).f call dr (some l) (putAll ps args e) [] h N with
    | no => rw [hc1] at hr2; cases hr2
    | ok x1 e1 ds1 h1 N1 =>
      rw [hc1] at hr2
      obtain ⟨hx1, hr3⟩ := ocond_some hr2
      obtain ⟨hds, hr4⟩ := ocond_some hr3
      obtain ⟨h2, hset, hr5⟩ := obind_some hr4
      clear hr2 hr3 hr4
      have hx1' : x1 = .n := by cases x1 <;> first | rfl | cases hx1
      subst hx1'
      have hds' : ds1 = [] := by cases ds1 with | nil => rfl | cons d ds => cases hds
      subst hds'
      cases hc3 : (evCode P nt body).f call dr (some l) e1 [] h2 N1 with
      | no => rw [hc3] at hr5; cases hr5
      | ok x3 e3 ds3 h3 N3 =>
        rw [hc3] at hr5
        obtain ⟨h4, hset4, hr6⟩ := obind_some hr5
        clear hr5
        cases hr6
        obtain ⟨g1, g2⟩ := evCode_ok (nt := nt) (r := some l) hcall hdr asg _ _ _ _ _ _ _ _ _ hc1
        obtain ⟨g3, g4⟩ := evCode_ok (nt := nt) (r := some l) hcall hdr body _ _ _ _ _ _ _ _ _ hc3
        refine ⟨Nat.le_trans g1 g3, fun w0 σ w b rr args' H hσ ha hf => ?_⟩
        obtain ⟨fn, tm, db, drr, q1, q2, q3⟩ := H.ob l b rr _ hσ ho
        have hy := run_yield (P := P) (args := ⟨args'⟩) q3 (by show args'.length = ps.length; rw [← ha.len]; exact hlen')
        refine ⟨_, _, _, _, hy, roundIn_of_wpIn trivial ?_⟩
        dsimp only
        have hfold : ((⟨ps⟩ : Array Nat).zip ⟨args'⟩).foldl (fun tmps (x : Nat × Value) => tmps.setIfInBounds x.1 x.2) tm = (ps.zip args').foldl (fun t (x : Nat × Value) => t.setIfInBounds x.1 x.2) tm := by
          rw [← Array.foldl_toList]; simp
        have hER := putAll_ok ps args args' e tm ha q2 (allLt_ok hlt)
        rw [← hfold] at hER
        have hb := g2 w0 σ { tmps := ((⟨ps⟩ : Array Nat).zip ⟨args'⟩).foldl (fun tmps (x : Nat × Value) => tmps.setIfInBounds x.1 x.2) tm, defers := [] } w (some b) H ⟨hER, ⟨rfl, fun i d m h => by simp at h⟩⟩ (hf.sub (Nat.le_refl _) g3) ⟨rr, hσ⟩
        refine wpIn_mono hb ?_
        rintro E a1 w1 ⟨rfl, σ1, k1, k2, k3⟩
        have hle1 := k1.le (hf.sub (Nat.le_refl _) g3)
        have hσ1 := hle1 _ _ hσ
        obtain ⟨rec1, r1, r2, r3⟩ := setSt_ok hset k2 hσ1
        have hbr := run_beginRound (P := P) r1 (isReady_ok r2)
        show ∃ w₂, (Instr.beginRound b).run P w1 = .ok () w₂ ∧ _
        refine ⟨_, hbr, ?_⟩
        have hf1 := k1.fresh hf g1
        have hbody := g4 w0 σ1 a1 _ (some b) r3 k3 hf1 ⟨rr, hσ1⟩
        refine wpIn_mono hbody ?_
        rintro E3 a3 w3 ⟨rfl, σ3, k4, k5, k6⟩
        have hle3 := k4.le hf1
        have hσ3 := hle3 _ _ hσ1
        obtain ⟨rec3, r4, r5, r6⟩ := setSt_ok hset4 k5 hσ3
        have hend := run_endRound (P := P) x3.jump r4
        have fin : ∃ v w', (Instr.endRound b x3.jump).run P w3 = .ok v w' ∧ ∃ v', Ending.returned v = .returned v' ∧ ∃ σ', Ext σ σ' N N' ∧ HR w0 σ' h' w' ∧ Rl σ' (.bool (isN x3)) v' := by
          refine ⟨_, _, hend, _, rfl, σ3, k1.trans k4 g1 g3, ?_, ?_⟩
          · have e1 : (if x3.jump.isNone then LoopState.ready else LoopState.done) = (Bool.rec (motive := fun _ => LoopState) .done .ready (isN x3)) := by cases x3 <;> rfl
            rw [e1]
            exact r6
          · have e2 : x3.jump.isNone = isN x3 := by cases x3 <;> rfl
            rw [e2]
            exact .sc rfl
        cases x3 <;> exact fin
  · cases hr

/-! ### A call whose first argument's capacity decides: both cases -/
/-- Blocks of which the value is made are older than N. -/
noncomputable def oldV (N : Nat) (v : Value) : Bool :=
  match v with
  | .pointer (some ⟨i, _, none⟩) => Nat.ble (Nat.succ i) N
  | .slice (some ⟨i, _, _⟩) _ _ => Nat.ble (Nat.succ i) N
  | .map (some i) => Nat.ble (Nat.succ i) N
  | v => plain v
theorem oldV_ok {σ σ1 : Sg} {N N1 : Nat} {v x : Value} (ho : oldV N v = true) (hE : Ext σ σ1 N N1) (hr : Rl σ1 v x) : Rl σ v x := by
  have key : ∀ {i : Nat} {p : Nat × Nat}, Nat.ble (Nat.succ i) N = true → σ1 i = some p → σ i = some p := fun hi h => by
    rw [← hE _ (.inl (Nat.le_of_ble_eq_true hi))]; exact h
  unfold oldV at ho
  split at ho
  · cases hr
    · rename_i hp; simp [plain] at hp
    · rename_i h; exact .ptr (key ho h)
  · cases hr
    · rename_i hp; simp [plain] at hp
    · rename_i h; exact .sl (key ho h)
    · rename_i h h2 h3; exact .sx (key ho h) h2 h3
  · cases hr
    · rename_i hp; simp [plain] at hp
    · rename_i h; exact .mp (key ho h)
  · rw [hr.plain_eq ho]; exact .sc ho
noncomputable def allOld (N : Nat) (l : List Value) : Bool := List.rec (motive := fun _ => Bool) true (fun v _ ih => Bool.rec (motive := fun _ => Bool) false ih (oldV N v)) l
theorem allOld_ok {σ σ1 : Sg} {N N1 : Nat} (hE : Ext σ σ1 N N1) : ∀ {l cs : List Value}, allOld N l = true → RlL σ1 l cs → RlL σ l cs
  | [], cs, _, hr => by rw [hr.of_nil]; exact .nil σ
  | v :: l, cs, h, hr => by
    obtain ⟨x, cs', rfl, h1, h2⟩ := hr.uncons
    have h' : Bool.rec (motive := fun _ => Bool) false (allOld N l) (oldV N v) = true := h
    cases hv : oldV N v with
    | false => rw [hv] at h'; cases h'
    | true => rw [hv] at h'; exact .cons (oldV_ok hv hE h1) (allOld_ok hE h' h2)

/-- All but two blocks stays as it is. -/
def fen2 (w : World) (bi bj : Nat) : Fen := ⟨w, fun k => k < w.heap.size ∧ k ≠ bi ∧ k ≠ bj, fun _ h => h.1⟩

theorem HR.two (H : HR w0 σ h w) {i j bi ri bj rj : Nat} (hi : σ i = some (bi, ri)) (hj : σ j = some (bj, rj)) (hij : i ≠ j) (li : (h.get i).isSome = true) (lj : (h.get j).isSome = true)
    {oi oj : Ob} (h1 : OR σ w bi ri oi) (h2 : h.get j = some oj) : HR (fen2 w bi bj) σ ((Tr.set .nil (some oi) i).set (some oj) j) w := by
  have hget : ∀ k o, ((Tr.set .nil (some oi) i).set (some oj) j).get k = some o → (k = j ∧ o = oj) ∨ (k = i ∧ o = oi) := by
    intro k o hk
    rw [Tr.get_set] at hk
    by_cases e : k = j
    · rw [if_pos e] at hk; cases hk; exact .inl ⟨e, rfl⟩
    · rw [if_neg e, Tr.get_set] at hk
      by_cases e2 : k = i
      · rw [if_pos e2] at hk; cases hk; exact .inr ⟨e2, rfl⟩
      · rw [if_neg e2] at hk; cases hk
  have hlive : ∀ k, (((Tr.set .nil (some oi) i).set (some oj) j).get k).isSome = true → k = j ∨ k = i := by
    intro k hk
    cases hg : ((Tr.set .nil (some oi) i).set (some oj) j).get k with
    | none => rw [hg] at hk; cases hk
    | some o => rcases hget k o hg with ⟨e, _⟩ | ⟨e, _⟩; exact .inl e; exact .inr e
  refine ⟨⟨rfl, rfl, rfl, Nat.le_refl _, fun _ _ => rfl⟩, H.low, ?_, ?_, ?_⟩
  · intro k b r o hk ho
    rcases hget k o ho with ⟨rfl, rfl⟩ | ⟨rfl, rfl⟩
    · exact H.ob _ _ _ _ hk h2
    · rw [hi] at hk; cases hk; exact h1
  · intro k l b r r' hk hl h3 h4
    rcases hlive k h3 with rfl | rfl <;> rcases hlive l h4 with rfl | rfl
    · rfl
    · exact H.inj _ _ _ _ _ hk hl lj li
    · exact H.inj _ _ _ _ _ hk hl li lj
    · rfl
  · intro k b r hk h3 hF
    rcases hlive k h3 with rfl | rfl
    · rw [hj] at hk; cases hk; exact hF.2.2 rfl
    · rw [hi] at hk; cases hk; exact hF.2.1 rfl

theorem HR.back (H : HR w0 σ h w) {i j bi ri bj rj : Nat} (hi : σ i = some (bi, ri)) (hj : σ j = some (bj, rj)) (li : (h.get i).isSome = true) (lj : (h.get j).isSome = true)
    {σ1 : Sg} {h1 : Tr Ob} {w1 : World} {N N1 : Nat} (hE : Ext σ σ1 N N1) (H1 : HR (fen2 w bi bj) σ1 h1 w1) {k bk rk : Nat} (hk : σ1 k = some (bk, rk)) {xs : List Value} {T : TypeId} {z : Nat} (hg : h1.get k = some (.g xs T z))
    (hold : allOld N xs = true) {K : Nat} (hK : σ K = none) : HR w0 (upd σ K (bk, rk)) (((h.set none i).set none j).set (some (.g xs T z)) K) w1 := by
  have hget : ∀ l o, ((h.set none i).set none j).get l = some o → l ≠ i ∧ l ≠ j ∧ h.get l = some o := by
    intro l o hl
    rw [Tr.get_set] at hl
    by_cases e : l = j
    · rw [if_pos e] at hl; cases hl
    · rw [if_neg e, Tr.get_set] at hl
      by_cases e2 : l = i
      · rw [if_pos e2] at hl; cases hl
      · rw [if_neg e2] at hl; exact ⟨e2, e, hl⟩
  have hlive : ∀ l, (((h.set none i).set none j).get l).isSome = true → l ≠ i ∧ l ≠ j ∧ (h.get l).isSome = true := by
    intro l hl
    cases hg : ((h.set none i).set none j).get l with
    | none => rw [hg] at hl; cases hl
    | some o => obtain ⟨e1, e2, e3⟩ := hget l o hg; exact ⟨e1, e2, by rw [e3]; rfl⟩
  have hF : ∀ l b r, σ l = some (b, r) → l ≠ i → l ≠ j → (h.get l).isSome = true → (fen2 w bi bj).F b := by
    intro l b r hl e1 e2 hlv
    exact ⟨H.low l b r hl, fun e => e1 (H.inj l i b r ri hl (by rw [e]; exact hi) hlv li), fun e => e2 (H.inj l j b r rj hl (by rw [e]; exact hj) hlv lj)⟩
  have hsz : w.heap.size ≤ w1.heap.size := H1.bel.size
  have hmid : HR w0 σ ((h.set none i).set none j) w1 := by
    refine ⟨⟨H1.bel.os.trans H.bel.os, H1.bel.tape.trans H.bel.tape, H1.bel.output.trans H.bel.output, Nat.le_trans H.bel.size hsz, fun k hk => ?_⟩, ?_, ?_, ?_, ?_⟩
    · refine (H1.bel.block k ⟨Nat.lt_of_lt_of_le (w0.lt k hk) H.bel.size, fun e => H.own i bi ri hi li (e ▸ hk), fun e => H.own j bj rj hj lj (e ▸ hk)⟩).trans (H.bel.block k hk)
    · exact fun l b r hl => Nat.lt_of_lt_of_le (H.low l b r hl) hsz
    · intro l b r o hl ho
      obtain ⟨e1, e2, e3⟩ := hget l o ho
      exact (H.ob l b r o hl e3).mono (SLe.refl σ) (H1.bel.block b (hF l b r hl e1 e2 (by rw [e3]; rfl)))
    · intro l m b r r' hl hm h3 h4
      exact H.inj l m b r r' hl hm (hlive l h3).2.2 (hlive m h4).2.2
    · intro l b r hl h3
      exact H.own l b r hl (hlive l h3).2.2
  have hnF : ¬ (fen2 w bi bj).F bk := H1.own k bk rk hk (by rw [hg]; rfl)
  refine hmid.add hK (H1.low k bk rk hk) ?_ ?_ ?_
  · intro hw0
    refine hnF ⟨Nat.lt_of_lt_of_le (w0.lt bk hw0) H.bel.size, fun e => H.own i bi ri hi li (e ▸ hw0), fun e => H.own j bj rj hj lj (e ▸ hw0)⟩
  · intro l r' hl h3
    obtain ⟨e1, e2, e3⟩ := hlive l h3
    exact hnF (hF l bk r' hl e1 e2 e3)
  · intro σ' hle
    obtain ⟨cs, rest, q1, q2, q3, q4⟩ := H1.ob k bk rk _ hk hg
    exact ⟨cs, rest, (allOld_ok hE hold q1).mono hle, q2, q3, q4⟩

noncomputable def vlistEq (eq : Value → Value → Bool) (l : List Value) : List Value → Bool :=
  List.rec (motive := fun _ => List Value → Bool) (fun r => List.rec (motive := fun _ => Bool) true (fun _ _ _ => false) r)
    (fun x _ ih r => List.rec (motive := fun _ => Bool) false (fun y r' _ => Bool.rec (motive := fun _ => Bool) false (ih r') (eq x y)) r) l
theorem vlistEq_ok {eq : Value → Value → Bool} (he : ∀ x y, eq x y = true → x = y) : ∀ (l r : List Value), vlistEq eq l r = true → l = r
  | [], [], _ => rfl
  | [], y :: r, h => by cases h
  | x :: l, [], h => by cases h
  | x :: l, y :: r, h => by
    have h' : Bool.rec (motive := fun _ => Bool) false (vlistEq eq l r) (eq x y) = true := h
    cases hb : eq x y with
    | false => rw [hb] at h'; cases h'
    | true => rw [hb] at h'; rw [he x y hb, vlistEq_ok he l r h']

/-- What comes out of one case. -/
noncomputable def outOf (q : Value × Tr Ob × Nat) (N : Nat) : Option (Nat × List Value × Nat × Nat) :=
  match q.1 with
  | .slice (some ⟨k, 0, some 0⟩) m _ => match q.2.1.get k with
    | some (.g xs T z) => ocond (allOld N xs) (some (m, xs, T, z))
    | _ => none
  | _ => none
theorem outOf_ok {q : Value × Tr Ob × Nat} {m : Nat} {xs : List Value} {T z : Nat} (h : outOf q N = some (m, xs, T, z)) : ∃ k c, q.1 = .slice (some ⟨k, 0, some 0⟩) m c ∧ q.2.1.get k = some (.g xs T z) ∧ allOld N xs = true := by
  unfold outOf at h
  split at h
  · rename_i k m' c hq
    split at h
    · rename_i hg
      obtain ⟨h3, h4⟩ := ocond_some h
      cases h4
      exact ⟨k, c, hq, hg, h3⟩
    · cases h
  · cases h

noncomputable def mxN (a b : Nat) : Nat := Bool.rec (motive := fun _ => Nat) a b (Nat.ble a b)
theorem mxN_ok (a b : Nat) : a ≤ mxN a b ∧ b ≤ mxN a b := by
  unfold mxN
  cases h : Nat.ble a b with
  | true => exact ⟨Nat.le_of_ble_eq_true h, Nat.le_refl _⟩
  | false =>
    refine ⟨Nat.le_refl _, ?_⟩
    rcases Nat.lt_or_ge b a with h1 | h1
    · exact Nat.le_of_lt h1
    · rw [Nat.ble_eq_true_of_le h1] at h; cases h

noncomputable def evSplit (P : Program) (veq : Value → Value → Bool) (call : CallF) (dr : DrF) (f : Nat) (args : List Value) (h : Tr Ob) (N : Nat) : OpR :=
  match args with
  | [.slice (some ⟨i, 0, some 0⟩) n _, y, .slice (some ⟨j, oj, sj⟩) nj cj] => ocond (notB (Nat.beq i j)) (match h.get i, h.get j with
    | some (.g xs T z), some obj => ocond (Nat.beq (len xs) (Nat.mul n z)) (ocond (Nat.ble 1 z)
        (obind (evFn P call dr f [.slice (some ⟨i, 0, none⟩) n n, y, .slice (some ⟨j, oj, sj⟩) nj cj] ((Tr.set .nil (some (.c xs T)) i).set (some obj) j) N) fun a =>
         fN (Nat.succ n) fun n1 => obind (evFn P call dr f [.slice (some ⟨i, 0, some 0⟩) n n1, y, .slice (some ⟨j, oj, sj⟩) nj cj] ((Tr.set .nil (some (.g (app xs (reps [.chan none] z)) T z)) i).set (some obj) j) N) fun b =>
         obind (outOf a N) fun oa => obind (outOf b N) fun ob => ocond (Nat.beq oa.1 ob.1) (ocond (vlistEq veq oa.2.1 ob.2.1) (ocond (Nat.beq oa.2.2.1 ob.2.2.1) (ocond (Nat.beq oa.2.2.2 ob.2.2.2)
          (fN (mxN a.2.2 b.2.2) fun K => some (.slice (some ⟨K, 0, some 0⟩) oa.1 0, ((h.set none i).set none j).set (some (.g oa.2.1 oa.2.2.1 oa.2.2.2)) K, Nat.succ K)))))))
    | _, _ => none)
  | _ => none

theorem evSplit_ok {call : CallF} (hcall : CallOk P call) {dr : DrF} (hdr : DrawOk P dr) {veq : Value → Value → Bool} (hveq : ∀ x y, veq x y = true → x = y) {f : Nat} {args : List Value} {v : Value} {h' : Tr Ob} {N' : Nat} (hr : evSplit P veq call dr f args h N = some (v, h', N')) :
    callable P f ∧ N ≤ N' ∧ ∀ w0 σ w args', HR w0 σ h w → RlL σ args args' → Fresh σ N N' →
      Calls P f ⟨args'⟩ w fun e w' => ∃ v', e = .returned v' ∧ ∃ σ', Ext σ σ' N N' ∧ HR w0 σ' h' w' ∧ Rl σ' v v' := by
  unfold evSplit at hr
  split at hr
  · rename_i i n c0 y j oj sj nj cj
    obtain ⟨hij, hr⟩ := ocond_some hr
    have hij' : i ≠ j := fun e => by have := notB_ok hij; rw [e, Nat.beq_refl] at this; cases this
    split at hr
    · rename_i xs T z obj hgi hgj
      obtain ⟨hlx, y1⟩ := ocond_some hr
      obtain ⟨hz1, y2⟩ := ocond_some y1
      obtain ⟨⟨va, ha, Na⟩, hA, y3⟩ := obind_some y2
      rw [fN_eq] at y3
      obtain ⟨⟨vb, hb, Nb⟩, hB, y4⟩ := obind_some y3
      obtain ⟨⟨ma, xa, Ta, za⟩, hoa, y5⟩ := obind_some y4
      obtain ⟨⟨mb, xb, Tb, zb⟩, hob, y6⟩ := obind_some y5
      obtain ⟨e1, y7⟩ := ocond_some y6
      obtain ⟨e2, y8⟩ := ocond_some y7
      obtain ⟨e3, y9⟩ := ocond_some y8
      obtain ⟨e4, y10⟩ := ocond_some y9
      rw [fN_eq] at y10
      clear hr y1 y2 y3 y4 y5 y6 y7 y8 y9
      have d1 : ma = mb := Nat.eq_of_beq_eq_true e1
      have d2 : xa = xb := vlistEq_ok hveq _ _ e2
      have d3 : Ta = Tb := Nat.eq_of_beq_eq_true e3
      have d4 : za = zb := Nat.eq_of_beq_eq_true e4
      clear e1 e2 e3 e4
      dsimp only at y10
      subst d1; subst d2; subst d3; subst d4
      obtain ⟨ka, ca, qa1, qa2, qa3⟩ := outOf_ok hoa
      obtain ⟨kb, cb, qb1, qb2, qb3⟩ := outOf_ok hob
      dsimp only at qa1 qa2 qb1 qb2
      subst qa1; subst qb1
      obtain ⟨hmx1, hmx2⟩ := mxN_ok Na Nb
      obtain ⟨hcal, gA1, gA2⟩ := evFn_ok hcall hdr hA
      obtain ⟨_, gB1, gB2⟩ := evFn_ok hcall hdr hB
      generalize hKe : mxN Na Nb = K at y10 hmx1 hmx2
      cases y10
      refine ⟨hcal, by omega, fun w0 σ w args' H hl hf => ?_⟩
      obtain ⟨x', r1, rfl, p1, p2⟩ := hl.uncons
      obtain ⟨y', r2, rfl, p3, p4⟩ := p2.uncons
      obtain ⟨v', r3, rfl, p5, p6⟩ := p4.uncons
      rw [p6.of_nil]
      obtain ⟨bj, rj, o2, n2, c2, hj, hv'⟩ := blkOf_some (show blkOf (.slice (some ⟨j, oj, sj⟩) nj cj) = some j from rfl) p5
      have hlx' := Nat.eq_of_beq_eq_true hlx
      rw [len_eq] at hlx'
      have hz1' : 1 ≤ z := Nat.le_of_ble_eq_true hz1
      have li : (h.get i).isSome = true := by rw [hgi]; rfl
      have lj : (h.get j).isSome = true := by rw [hgj]; rfl
      have hKσ : σ K = none := hf K (by omega) (Nat.lt_succ_self _)
      -- how it ends in either case
      have fin : ∀ {σ1 : Sg} {h1 : Tr Ob} {w1 : World} {N1 k c : Nat} {u : Value} {bi ri : Nat}, σ i = some (bi, ri) → N ≤ N1 → N1 ≤ K → Ext σ σ1 N N1 → HR (fen2 w bi bj) σ1 h1 w1 → h1.get k = some (.g xa Ta za) → allOld N xa = true → Rl σ1 (.slice (some ⟨k, 0, some 0⟩) ma c) u →
          ∃ σ', Ext σ σ' N (K + 1) ∧ HR w0 σ' (((h.set none i).set none j).set (some (.g xa Ta za)) K) w1 ∧ Rl σ' (.slice (some ⟨K, 0, some 0⟩) ma 0) u := by
        intro σ1 h1 w1 N1 k c u bi ri hi t1 t2 hE H1 hg hold hu
        cases hu
        · rename_i hp; simp [plain] at hp
        rename_i bk rk hk hle hcc
        refine ⟨upd σ K (bk, rk), ?_, H.back hi hj li lj hE H1 hk hg hold hKσ, .sx (upd_same _ _ _) hle (by omega)⟩
        intro l hl
        exact upd_other (by omega)
      cases p1
      · rename_i hp; simp [plain] at hp
      rename_i bi ri hi hle hcc
      have hle' : 0 + n ≤ ri := hle
      obtain ⟨cs, rest, s1, s2, s3, s4⟩ := H.ob i bi ri _ hi hgi
      have hcs : cs.length = n * z := by rw [← s1.len]; exact hlx'
      by_cases hrn : ri = n
      · -- no room
        have hrest : rest = [] := by
          have : rest.length = 0 := by rw [List.length_append, hcs, hrn] at s3; omega
          exact List.length_eq_zero_iff.1 this
        have HA := H.two hi hj hij' li lj (oi := .c xs T) ⟨cs, s1, by rw [s2, hrest, List.append_nil]⟩ hgj
        refine Calls.mono (gA2 _ σ w [.slice (some ⟨bi, 0, none⟩) n (ri - 0), y', v'] HA ?_ (fun l h1 h2 => hf l h1 (by omega))) ?_
        · refine .cons ?_ (.cons p3 (.cons p5 (.nil σ)))
          rw [hrn]
          exact .sl hi
        · rintro e w1 ⟨u, rfl, σ1, t1, t2, t3⟩
          exact ⟨u, rfl, fin hi gA1 hmx1 t1 t2 qa2 qa3 t3⟩
      · -- room for one
        have hroom : n + 1 ≤ ri := by omega
        have hrl : z ≤ rest.length := by
          have h1 : (n + 1) * z ≤ ri * z := Nat.mul_le_mul_right _ hroom
          rw [List.length_append, hcs] at s3
          rw [Nat.add_mul] at h1
          omega
        have hfl : ∀ (l : List Value), flat l = true → ∀ m, m ≤ l.length → RlL σ (reps [.chan none] m) (l.take m) := by
          intro l hl m
          induction m generalizing l with
          | zero => intro _; rw [List.take_zero]; exact .nil σ
          | succ m ih =>
            intro hm
            cases l with
            | nil => simp at hm
            | cons u l =>
              unfold flat at hl
              rw [List.all_cons, Bool.and_eq_true] at hl
              rw [reps_succ, List.take_succ_cons]
              exact .cons (.an hl.1) (ih l hl.2 (by simpa using hm))
        have HB := H.two hi hj hij' li lj (oi := .g (app xs (reps [.chan none] z)) T z) ⟨cs ++ rest.take z, rest.drop z, by rw [app_eq]; exact s1.append (hfl rest s4 z hrl),
          by rw [s2, List.append_assoc, List.take_append_drop], by rw [List.append_assoc, List.take_append_drop]; exact s3, by unfold flat at s4 ⊢; rw [List.all_eq_true] at s4 ⊢; exact fun x hx => s4 x (List.mem_of_mem_drop hx)⟩ hgj
        refine Calls.mono (gB2 _ σ w [.slice (some ⟨bi, 0, none⟩) n (ri - 0), y', v'] HB ?_ (fun l h1 h2 => hf l h1 (by omega))) ?_
        · exact .cons (.sx hi hle (by omega)) (.cons p3 (.cons p5 (.nil σ)))
        · rintro e w1 ⟨u, rfl, σ1, t1, t2, t3⟩
          exact ⟨u, rfl, fin hi gB1 hmx2 t1 t2 qb2 qb3 t3⟩
    · cases hr
  · cases hr


/-! ### The evaluator -/
noncomputable def noBody (P : Program) (f : Nat) : Bool := match P.funcs[f]? with
  | some fn => isNone' fn.body
  | none => false
noncomputable def evAny (P : Program) (ih : CallF) (dr : DrF) (fv : Value) (args : List Value) (h : Tr Ob) (N : Nat) : OpR :=
  match fv with
  | .func (.func f) ⟨fs⟩ ⟨cs⟩ => Bool.rec (motive := fun _ => OpR) (oor (evFn P ih dr f (app fs (app args cs)) h N) (evSplit P (valEq 9) ih dr f (app fs (app args cs)) h N)) (ocond (Nat.beq (len args) 2) (evOver P f (app fs (app args cs)) h N)) (noBody P f)
  | .func (.yield l) ⟨[]⟩ ⟨[]⟩ => evRound P ih dr l args h N
  | _ => none
noncomputable def ev (P : Program) (drw : CallF → DrF) (d : Nat) : CallF :=
  Nat.rec (motive := fun _ => CallF) (fun _ _ _ _ => none) (fun _ ih fv args h N => evAny P ih (drw ih) fv args h N) d

theorem evAny_ok {ih' : CallF} {dr : DrF} (ih : CallOk P ih') (hdr : DrawOk P dr) : CallOk P (evAny P ih' dr) := by
    intro fv args h N v h' N' hr'
    unfold evAny at hr'
    split at hr'
    · rename_i f fs cs
      rw [app_eq, app_eq] at hr'
      cases hnb : noBody P f with
      | true =>
        rw [hnb] at hr'
        obtain ⟨hl2, hr2⟩ := ocond_some (show ocond (Nat.beq (len args) 2) (evOver P f (fs ++ (args ++ cs)) h N) = some (v, h', N') from hr')
        clear hr'
        have hl2 := Nat.eq_of_beq_eq_true hl2
        rw [len_eq] at hl2
        obtain ⟨rfl, rfl, rfl, g2⟩ := evOver_ok hr2
        refine ⟨Nat.le_refl _, fun w0 σ w fv' args' H hfv ha hf => ?_⟩
        cases hfv
        · rename_i hp; simp [plain] at hp
        rename_i gs ds h3 h4 h1 h2
        have hcl := g2 w0 σ w _ H ((RlL.mk h3 h4).append (ha.append (RlL.mk h1 h2)))
        refine ⟨_, ?_, .inl ⟨.bool false, rfl, ⟨σ, .refl _ _ _, H, .sc rfl⟩, ha.len.symm.trans hl2⟩⟩
        simp only [Deferred.ofValue, Sem.run_bind, Sem.run_pure, Result.andThen_ok, invoke]
        rw [← hcl]
        congr 2
        apply Array.ext'
        simp
      | false =>
      rw [hnb] at hr'
      have hr2 : oor (evFn P ih' dr f (fs ++ (args ++ cs)) h N) (evSplit P (valEq 9) ih' dr f (fs ++ (args ++ cs)) h N) = some (v, h', N') := hr'
      clear hr'
      have hboth : callable P f ∧ N ≤ N' ∧ ∀ w0 σ w args', HR w0 σ h w → RlL σ (fs ++ (args ++ cs)) args' → Fresh σ N N' →
          Calls P f ⟨args'⟩ w fun e w' => ∃ v', e = .returned v' ∧ ∃ σ', Ext σ σ' N N' ∧ HR w0 σ' h' w' ∧ Rl σ' v v' := by
        rcases oor_some hr2 with hr3 | hr3
        · exact evFn_ok ih hdr hr3
        · exact evSplit_ok ih hdr (valEq_ok 9) hr3
      obtain ⟨hcal, g1, g2⟩ := hboth
      refine ⟨g1, fun w0 σ w fv' args' H hfv ha hf => ?_⟩
      cases hfv
      · rename_i hp; simp [plain] at hp
      rename_i gs ds h3 h4 h1 h2
      have hcl := g2 w0 σ w _ H ((RlL.mk h3 h4).append (ha.append (RlL.mk h1 h2))) hf
      refine ⟨_, ?_, .inr (.inl ⟨f, _, rfl, hcl⟩)⟩
      have := run_callee (w := w) (args := (⟨gs ++ (args' ++ ds)⟩ : Array Value)) hcal
      simp only [Deferred.ofValue, Sem.run_bind, Sem.run_pure, Result.andThen_ok, invoke]
      rw [← this]
      congr 2
      apply Array.ext'
      simp
    · rename_i l
      obtain ⟨g1, g2⟩ := evRound_ok ih hdr hr'
      refine ⟨g1, fun w0 σ w fv' args' H hfv ha hf => ?_⟩
      cases hfv
      · rename_i hp; simp [plain] at hp
      rename_i b rr hσ
      obtain ⟨fn, tm, asg, body, q1, q2⟩ := g2 w0 σ w b rr args' H hσ ha hf
      refine ⟨_, ?_, .inr (.inr ⟨⟨b, rfl⟩, b, fn, tm, asg, body, rfl, q2⟩)⟩
      simp only [Deferred.ofValue, Sem.run_bind, Sem.run_pure, Result.andThen_ok, invoke]
      rw [← q1]
      congr 2
      apply Array.ext'
      simp
    · cases hr'

theorem ev_ok {drw : CallF → DrF} (hdr : ∀ call, CallOk P call → DrawOk P (drw call)) : ∀ d, CallOk P (ev P drw d)
  | 0 => by intro fv args h N v h' N' hr; cases hr
  | d + 1 => evAny_ok (ev_ok hdr d) (hdr _ (ev_ok hdr d))

/-- A closed call: what the evaluator says holds in whatever world. -/
theorem ev_closed {drw : CallF → DrF} (hdr : ∀ call, CallOk P call → DrawOk P (drw call)) {d f : Nat} {v : Value} {h' : Tr Ob} {N' : Nat} (hr : ev P drw d (.func (.func f) ⟨[]⟩ ⟨[]⟩) [] .nil 0 = some (v, h', N')) (hv : plain v = true) (w : World) :
    Calls P f #[] w fun e w' => e = .returned v ∧ Below w.heap.size w w' := by
  cases d with
  | zero => cases hr
  | succ d =>
    have hr0 : Bool.rec (motive := fun _ => OpR) (oor (evFn P (ev P drw d) (drw (ev P drw d)) f (app [] (app [] [])) .nil 0) (evSplit P (valEq 9) (ev P drw d) (drw (ev P drw d)) f (app [] (app [] [])) .nil 0)) (ocond (Nat.beq (len ([] : List Value)) 2) (evOver P f (app [] (app [] [])) .nil 0)) (noBody P f) = some (v, h', N') := hr
    have hr' : evFn P (ev P drw d) (drw (ev P drw d)) f (app [] (app [] [])) .nil 0 = some (v, h', N') := by
      cases hnb : noBody P f with
      | true => rw [hnb] at hr0; cases hr0
      | false =>
        rw [hnb] at hr0
        rcases oor_some (show oor _ _ = some (v, h', N') from hr0) with h1 | h1
        · exact h1
        · cases h1
    have ih := ev_ok hdr d
    obtain ⟨_, _, g2⟩ := evFn_ok ih (hdr _ ih) hr'
    have H : HR (.all w) (fun _ => none) .nil w := ⟨Kept.all _, (fun i b r h => by cases h), (fun i b r o h => by cases h), (fun i j b r r' h => by cases h), (fun i b r h => by cases h)⟩
    refine (g2 (.all w) (fun _ => none) w [] H (.nil _) (fun i _ _ => rfl)).mono ?_
    rintro e w' ⟨v', rfl, σ', _, H', hrl⟩
    exact ⟨by rw [hrl.plain_eq hv], H'.bel.below⟩

end
end Go.Ev
