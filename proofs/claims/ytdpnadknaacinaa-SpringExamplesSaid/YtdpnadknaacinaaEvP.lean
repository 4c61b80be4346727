/-
  The evaluator, part P: ranges over functions, rounds, functions: soundness.
  Conditions: none; generic over the program.
-/
import Derived.Test.YtdpnadknaacinaaEvO
namespace Go.Ev
open Go.RowKit Go.Sx
set_option linter.unusedVariables false
set_option linter.unusedSimpArgs false

theorem run_enterLoop_in {P : Program} {w : World} {l₀ : Nat} {r₀ : Loop} (h : w.heap[l₀]? = some (.loop r₀)) (fn : FuncId) (tmps : Array Value) (ps : Array Tmp) (assign body : Code) :
    (Instr.enterLoop fn tmps ps assign body (some l₀)).run P w =
      .ok (w.heap.size, []) (w.alloc (.loop { state := .ready, pending := none, fn, tmps, params := ps, assign, body, defers := r₀.defers })) := by
  unfold Instr.enterLoop
  simp only [Sem.run_bind, run_getLoop h, run_newObj_alloc, Result.andThen, Sem.run_pure]

section
variable {P : Program} {w0 : Fen} {w : World} {σ : Sg} {h : Tr Ob} {e : Tr Value} {n N nt : Nat} {a : Act} {o : Oper} {r : Option Nat}

theorem callee_fn {call : CallF} (hcall : CallOk P call) {fv fv' : Value} {args args' : List Value} {v : Value} {h' : Tr Ob} {N' : Nat} (hr : call fv args h N = some (v, h', N')) (hfn : isFn fv = true) (hl2 : args.length ≠ 2)
    (H : HR w0 σ h w) (hfv : Rl σ fv fv') (ha : RlL σ args args') (hf : Fresh σ N N') :
    ∃ d f as, (Deferred.ofValue fv' ⟨args'⟩).run P w = .ok d w ∧ (invoke d.target d.args).run P w = .ok (.enter f as) w ∧ Calls P f as w fun e w' => ∃ v', e = .returned v' ∧ ∃ σ', Ext σ σ' N N' ∧ HR w0 σ' h' w' ∧ Rl σ' v v' := by
  obtain ⟨nx, hrun, hnx⟩ := (hcall _ _ _ _ _ _ _ hr).2 w0 σ w _ _ H hfv ha hf
  cases hfv <;> first | (simp [isFn] at hfn; done) | skip
  · rename_i hp; unfold isFn at hfn; split at hfn <;> simp_all [plain]
  rename_i f fs gs cs ds h3 h4 h1 h2
  have hof : (Deferred.ofValue (.func (.func f) ⟨gs⟩ ⟨ds⟩) ⟨args'⟩).run P w = .ok { target := .fn (.func f) ⟨ds⟩, args := (⟨gs⟩ : Array Value) ++ ⟨args'⟩ } w := by simp [Deferred.ofValue]
  rw [Sem.run_bind, hof, Result.andThen_ok] at hrun
  rcases hnx with ⟨v', rfl, _, h5⟩ | ⟨f', as, rfl, hc⟩ | ⟨⟨l, hl⟩, _⟩
  · exact absurd (ha.len.trans h5) hl2
  · exact ⟨_, f', as, hof, hrun, hc⟩
  · cases hl

theorem evEnd_ok {l b rr : Nat} {ds : List Nat} {N' : Nat} {x : Ex} {e' : Tr Value} {ds' : List Nat} {h' : Tr Ob} (hr : evEnd l e ds h N = .ok x e' ds' h' N') (H : HR w0 σ h w) (hl : σ l = some (b, rr)) :
    e' = e ∧ ds' = ds ∧ N' = N ∧ ∃ w', (Instr.endLoop b).run P w = .ok x.jump w' ∧ HR w0 σ h' w' := by
  unfold evEnd at hr
  split at hr
  · rename_i pe n' e1 ps asg body df ho
    cases hr
    obtain ⟨fn, tm, db, dr, h1, h2, h3⟩ := H.ob l b rr _ hl ho
    have hend := run_endLoop (P := P) h3 (by simp)
    refine ⟨rfl, rfl, rfl, _, hend, H.write hl (by rw [ho]; rfl) World.putObj_size rfl rfl rfl (fun k hk => World.putObj_heap_other hk) ?_⟩
    exact ⟨fn, tm, db, dr, h1, h2, World.putObj_heap_same (H.low l b rr hl)⟩
  · rename_i pe n' e1 ps asg body df ho
    cases hr
    obtain ⟨fn, tm, db, dr, h1, h2, h3⟩ := H.ob l b rr _ hl ho
    have hend := run_endLoop (P := P) h3 (by simp)
    refine ⟨rfl, rfl, rfl, _, hend, H.write hl (by rw [ho]; rfl) World.putObj_size rfl rfl rfl (fun k hk => World.putObj_heap_other hk) ?_⟩
    exact ⟨fn, tm, db, dr, h1, h2, World.putObj_heap_same (H.low l b rr hl)⟩
  · cases hr

/-- The loop's record is laid. -/
theorem lay_loop (H : HR w0 σ h w) {M df db dr : Nat} {tm : Array Value} {fn : Nat} {ps : List Nat} {asg body : Code} (hM : σ M = none) (hdf : σ df = some (db, dr)) (hE : ER σ e nt tm) :
    HR w0 (upd σ M (w.heap.size, 0)) (h.set (some (.l .ready .n nt e ps asg body df)) M) (w.alloc (.loop { state := .ready, pending := none, fn, tmps := tm, params := ⟨ps⟩, assign := asg, body, defers := db })) :=
  H.alloc hM (fun σ' hl => ⟨fn, tm, db, dr, hl _ _ hdf, hE.mono hl, heap_new w _⟩)

theorem jump_wp {x : Ex} {Q : Exit → Act → World → Prop} {rb : Option Nat} (hQ : Q x.exit a w) :
    (match x.jump with
      | none => Q .normal a w
      | some c => c.wpIn (Fr rb) 0 P Q a w) := by
  cases x with
  | n => exact hQ
  | x id => exact wpIn_exit hQ
  | r => exact wpIn_ret hQ

theorem COk.range {call : CallF} (hcall : CallOk P call) (f : Operand) (ps : Array Nat) (asg body : Code) : COk P nt r (.rangeFunc f ps asg body) (evRange call nt r f ps.toList asg body) := by
  intro e ds h N x e' ds' h' N' hr
  unfold evRange at hr
  split at hr
  · rename_i fv hfv
    cases hfn : isFn fv with
    | false => rw [hfn] at hr; cases hr
    | true =>
      rw [hfn] at hr
      cases r with
      | none =>
        dsimp only at hr
        cases hc : call fv [.func (.yield (Nat.succ N)) ⟨[]⟩ ⟨[]⟩] ((h.set (some .d) N).set (some (.l .ready .n nt e ps.toList asg body N)) (Nat.succ N)) (Nat.succ (Nat.succ N)) with
        | none => rw [hc] at hr; cases hr
        | some res =>
          rw [hc] at hr
          obtain ⟨v1, h1, N1⟩ := res
          have hr1 : evEnd (Nat.succ N) e (N :: ds) h1 N1 = .ok x e' ds' h' N' := hr
          have hNN : N' = N1 := by
            unfold evEnd at hr1
            split at hr1 <;> cases hr1 <;> rfl
          subst hNN
          have hN2 := (hcall _ _ _ _ _ _ _ hc).1
          refine ⟨by omega, fun w0 σ a w rb H hA hf hrr => ?_⟩
          have hrb : rb = none := by cases rb with | none => rfl | some b => exact hrr.elim
          subst hrb
          refine wpIn_rangeFunc fun fn hF => ?_
          have hro : (Fr none).round = none := rfl
          rw [hro]
          have hM0 : σ N = none := hf N (Nat.le_refl _) (by omega)
          have H1 : HR w0 (upd σ N (w.heap.size, 0)) (h.set (some .d) N) (w.alloc (.deferred (some []))) := H.alloc hM0 (fun σ' hl => heap_new w _)
          have hle1 : SLe σ (upd σ N (w.heap.size, 0)) := upd_le hM0
          have hM1 : (upd σ N (w.heap.size, 0)) (N + 1) = none := by rw [upd_other (by omega)]; exact hf (N + 1) (by omega) (by omega)
          have H2 := lay_loop (fn := fn) (ps := ps.toList) (asg := asg) (body := body) H1 hM1 (upd_same _ _ _) (hA.env.mono hle1)
          have hle2 := upd_le (x := ((w.alloc (.deferred (some []))).heap.size, 0)) hM1
          have hpsa : (⟨ps.toList⟩ : Array Nat) = ps := by simp
          rw [hpsa] at H2
          have hsz : (w.alloc (.deferred (some []))).heap.size = w.heap.size + 1 := by simp
          rw [hsz] at H2 hle2
          have hσN1 : (upd (upd σ N (w.heap.size, 0)) (N + 1) (w.heap.size + 1, 0)) (N + 1) = some (w.heap.size + 1, 0) := upd_same _ _ _
          obtain ⟨d, f', as, g1, g2, g3⟩ := callee_fn hcall hc hfn (by simp) H2 ((evo_ok hA.env hfv).mono (hle1.trans hle2)) (RlL.cons (.yl hσN1) (.nil _)) (fun i hi1 hi2 => by
            rw [upd_other (by omega), upd_other (by omega)]; exact hf i (by omega) hi2)
          refine ⟨_, _, _, d, _, f', as, _, run_enterLoop_outer fn a.tmps ps asg body, ?_, fun _ _ => trivial, g2, fun h' => absurd h' (by simp [Fr, Fence.wide]), ?_⟩
          · have hres : resolve a.eval (rangeCall f (w.heap.size + 1)) 0 = Deferred.ofValue (a.eval f) #[.func (.yield (w.heap.size + 1)) #[] #[]] := by
              simp [resolve, Act.eval]
            rw [hres]
            exact g1
          · refine callsIn_fr (Calls.mono g3 ?_)
            rintro E w3 ⟨v3, rfl, σ3, g4, g5, g6⟩
            have hσ3 : σ3 (N + 1) = some (w.heap.size + 1, 0) := by rw [g4 (N + 1) (by omega)]; exact hσN1
            obtain ⟨e1, e2, e3, w4, g7, g8⟩ := evEnd_ok (P := P) hr1 g5 hσ3
            subst e1; subst e2
            refine ⟨x.jump, w4, g7, ?_⟩
            have hext : Ext σ σ3 N N' := fun i hi => by
              rw [g4 i (by omega), upd_other (by omega), upd_other (by omega)]
            have hle3 := hext.le hf
            have hpost : CPost w0 σ nt N x e' (N :: ds) h' N' x.exit { a with defers := [Sx.mark w.heap.size] ++ a.defers } w4 := by
              refine ⟨rfl, σ3, hext, g8, ⟨hA.env.mono hle3, ?_⟩⟩
              have hσ3N : σ3 N = some (w.heap.size, 0) := by rw [g4 N (by omega), upd_other (by omega), upd_same]
              exact (hA.marks.mono hle3).cons hσ3N
            exact jump_wp hpost
      | some l =>
        dsimp only at hr
        split at hr
        · rename_i st0 pe0 n0 e0 ps0 asg0 body0 df ho
          cases hc : call fv [.func (.yield N) ⟨[]⟩ ⟨[]⟩] (h.set (some (.l .ready .n nt e ps.toList asg body df)) N) (Nat.succ N) with
          | none => rw [hc] at hr; cases hr
          | some res =>
            rw [hc] at hr
            obtain ⟨v1, h1, N1⟩ := res
            have hr1 : evEnd N e ds h1 N1 = .ok x e' ds' h' N' := hr
            have hNN : N' = N1 := by
              unfold evEnd at hr1
              split at hr1 <;> cases hr1 <;> rfl
            subst hNN
            have hN2 := (hcall _ _ _ _ _ _ _ hc).1
            refine ⟨by omega, fun w0 σ a w rb H hA hf hrr => ?_⟩
            cases rb with
            | none => exact hrr.elim
            | some rb =>
            obtain ⟨rr, hσl⟩ := hrr
            refine wpIn_rangeFunc fun fn hF => ?_
            have hro : (Fr (some rb)).round = some rb := rfl
            rw [hro]
            have hM0 : σ N = none := hf N (Nat.le_refl _) (by omega)
            obtain ⟨fn0, tm0, db, dr, q1, q2, q3⟩ := H.ob l rb rr _ hσl ho
            have H2 := lay_loop (fn := fn) (ps := ps.toList) (asg := asg) (body := body) H hM0 q1 hA.env
            have hle2 := upd_le (x := (w.heap.size, 0)) hM0
            have hpsa : (⟨ps.toList⟩ : Array Nat) = ps := by simp
            rw [hpsa] at H2
            have hσN1 : (upd σ N (w.heap.size, 0)) N = some (w.heap.size, 0) := upd_same _ _ _
            obtain ⟨d, f', as, g1, g2, g3⟩ := callee_fn hcall hc hfn (by simp) H2 ((evo_ok hA.env hfv).mono hle2) (RlL.cons (.yl hσN1) (.nil _)) (fun i hi1 hi2 => by
              rw [upd_other (by omega)]; exact hf i (by omega) hi2)
            refine ⟨_, _, _, d, _, f', as, _, run_enterLoop_in q3 fn a.tmps ps asg body, ?_, fun _ _ => trivial, g2, fun h' => absurd h' (by simp [Fr, Fence.wide]), ?_⟩
            · have hres : resolve a.eval (rangeCall f w.heap.size) 0 = Deferred.ofValue (a.eval f) #[.func (.yield w.heap.size) #[] #[]] := by
                simp [resolve, Act.eval]
              rw [hres]
              exact g1
            · refine callsIn_fr (Calls.mono g3 ?_)
              rintro E w3 ⟨v3, rfl, σ3, g4, g5, g6⟩
              have hσ3 : σ3 N = some (w.heap.size, 0) := by rw [g4 N (by omega)]; exact hσN1
              obtain ⟨e1, e2, e3, w4, g7, g8⟩ := evEnd_ok (P := P) hr1 g5 hσ3
              subst e1; subst e2
              refine ⟨x.jump, w4, g7, ?_⟩
              have hext : Ext σ σ3 N N' := fun i hi => by
                rw [g4 i (by omega), upd_other (by omega)]
              have hle3 := hext.le hf
              have hpost : CPost w0 σ nt N x e' ds' h' N' x.exit { a with defers := [] ++ a.defers } w4 := by
                refine ⟨rfl, σ3, hext, g8, ⟨hA.env.mono hle3, ?_⟩⟩
                exact hA.marks.mono hle3
              exact jump_wp hpost
        · cases hr
  · cases hr

/-- Whatever the code. -/
theorem evCode_ok {call : CallF} (hcall : CallOk P call) {dr : Nat → Array Oper → Tr Value → Tr Ob → Nat → RgR} (hdr : DrawOk P dr) : ∀ c : Code, COk P nt r c ((evCode P nt c).f call dr r)
  | .skip => by
    intro e ds h N x e' ds' h' N' hr
    cases hr
    exact ⟨Nat.le_refl _, fun w0 σ a w rb H hA hf hrr => wpIn_skip ⟨rfl, σ, Ext.refl _ _ _, H, hA⟩⟩
  | .region id ops draw => by
    intro e ds h N x e' ds' h' N' hr
    cases draw with
    | false =>
      have hr' : rgk ((evOps P nt ops ops.toList).f call e h N) ds = .ok x e' ds' h' N' := hr
      obtain ⟨rfl, rfl, hq⟩ := rgk_ok hr'
      obtain ⟨g1, g2⟩ := evOps_ok (w0 := default) (rb := none) (Q := fun _ _ _ => True) hcall _ _ _ _ _ _ _ hq
      refine ⟨g1, fun w0 σ a w rb H hA hf hrr => wpIn_region_list ?_⟩
      refine (evOps_ok hcall _ _ _ _ _ _ _ hq).2 σ a w H hA.env hf ?_
      intro σ' a' w' g3 g4 g5 g6
      exact ⟨rfl, σ', g3, g4, ⟨g5, by rw [g6]; exact hA.marks.mono (g3.le hf)⟩⟩
    | true =>
      have hr' : rgk (dr nt ops e h N) ds = .ok x e' ds' h' N' := hr
      obtain ⟨rfl, rfl, hq⟩ := rgk_ok hr'
      obtain ⟨g1, g2⟩ := hdr _ _ _ _ _ _ _ _ hq
      refine ⟨g1, fun w0 σ a w rb H hA hf hrr => ?_⟩
      refine g2 w0 σ a w id rb _ H hA.env hf ?_
      intro σ' a' w' g3 g4 g5 g6
      exact ⟨rfl, σ', g3, g4, ⟨g5, by rw [g6]; exact hA.marks.mono (g3.le hf)⟩⟩
  | .seq x y => (evCode_ok hcall hdr x).seq (evCode_ok hcall hdr y)
  | .cond c x y => by
    intro e ds h N X e' ds' h' N' hr
    have hr' : ccond ((cOd c).g e) ((evCode P nt x).f call dr r e ds h N) ((evCode P nt y).f call dr r e ds h N) = .ok X e' ds' h' N' := hr
    rw [cOd_eq] at hr'
    unfold ccond at hr'
    split at hr'
    · rename_i b hb
      cases b with
      | true =>
        obtain ⟨g1, g2⟩ := evCode_ok hcall hdr x _ _ _ _ _ _ _ _ _ hr'
        exact ⟨g1, fun w0 σ a w rb H hA hf hrr => wpIn_cond_true (rl_bool (evo_ok hA.env hb)) (g2 w0 σ a w rb H hA hf hrr)⟩
      | false =>
        obtain ⟨g1, g2⟩ := evCode_ok hcall hdr y _ _ _ _ _ _ _ _ _ hr'
        exact ⟨g1, fun w0 σ a w rb H hA hf hrr => wpIn_cond_false (rl_bool (evo_ok hA.env hb)) (g2 w0 σ a w rb H hA hf hrr)⟩
    · cases hr'
  | .block id x => (evCode_ok hcall hdr x).block
  | .loop x => (evCode_ok hcall hdr x).loop fuel
  | .rangeFunc f ps asg body => COk.range hcall f ps asg body
  | .exit id => by
    intro e ds h N x e' ds' h' N' hr
    cases hr
    exact ⟨Nat.le_refl _, fun w0 σ a w rb H hA hf hrr => wpIn_exit ⟨rfl, σ, Ext.refl _ _ _, H, hA⟩⟩
  | .scope x => by
    have ih := evCode_ok hcall hdr x
    intro e ds h N X e' ds' h' N' hr
    cases r with
    | some l => cases hr
    | none =>
      have hr' : (evCode P nt x).f call dr none e ds h N = .ok X e' ds' h' N' := hr
      obtain ⟨g1, g2⟩ := ih _ _ _ _ _ _ _ _ _ hr'
      refine ⟨g1, fun w0 σ a w rb H hA hf hrr => ?_⟩
      have hrb : rb = none := by cases rb with | none => rfl | some b => exact hrr.elim
      subst hrb
      refine (wpIn_wide (n := 0)).2 (wp_scope_straight ((wpIn_wide (n := 0)).1 ?_))
      refine wpIn_mono (g2 w0 σ a w none H hA hf hrr) ?_
      rintro E a1 w1 hq
      have hE := hq.1
      subst hE
      cases X <;> exact hq
  | .label l => by
    intro e ds h N x e' ds' h' N' hr
    cases hr
    exact ⟨Nat.le_refl _, fun w0 σ a w rb H hA hf hrr => wpIn_label ⟨rfl, σ, Ext.refl _ _ _, H, hA⟩⟩
  | .goto l => by intro e ds h N x e' ds' h' N' hr; cases hr
  | .ret => by
    intro e ds h N x e' ds' h' N' hr
    cases hr
    exact ⟨Nat.le_refl _, fun w0 σ a w rb H hA hf hrr => wpIn_ret ⟨rfl, σ, Ext.refl _ _ _, H, hA⟩⟩
  | .refuse s => by intro e ds h N x e' ds' h' N' hr; cases hr

end
end Go.Ev
