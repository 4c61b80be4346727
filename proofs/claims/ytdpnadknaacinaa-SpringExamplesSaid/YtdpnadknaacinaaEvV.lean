/-
  The evaluator, part V: the run of a region that draws gives a plan: the proof; the evaluator's soundness.
  Conditions: none; generic over the program.
-/
import Derived.Test.YtdpnadknaacinaaEvU
namespace Go.Ev
open Go.RowKit Go.Sx
set_option linter.unusedVariables false
set_option linter.unusedSimpArgs false

section
variable {P : Program} {call : CallF} {nt N0 : Nat} {ops : Array Oper} {e0 : Tr Value}

def PendOk (T : List Tk) (pend : List Pd) : Prop :=
  ∀ τ ∈ T, τ.kd = .heap → (∃ τe ∈ T, τe.isE ∧ τe.anc.testBit τ.i = true) ∨ ∃ pd ∈ pend, pd.i = τ.i ∧ pd.o = τ.o ∧ pd.R = τ.R ∧ pd.v = τ.v ∧ pd.lo = τ.lo ∧ (pd.nw = true → τ.hi = τ.lo + 1)

theorem again_ok {h : Tr Ob} {pd : Pd} (ha : again P h pd = true) : ∃ ob, evPas P pd.o pd.R h pd.lo = some (pd.v, ob) ∧ ∀ o, ob = some o → h.get pd.lo = some o ∧ pd.nw = true := by
  unfold again at ha
  cases hp : evPas P pd.o pd.R h pd.lo with
  | none => rw [hp] at ha; cases ha
  | some r =>
    rw [hp] at ha
    obtain ⟨v, ob⟩ := r
    obtain ⟨h1, h2⟩ := band_ok ha
    have := valEq_ok _ _ _ h1
    dsimp only at this
    subst this
    refine ⟨ob, rfl, fun o ho => ?_⟩
    subst ho
    obtain ⟨h3, h4⟩ := band_ok h2
    exact ⟨obEq_ok h4, h3⟩

theorem prune_mem : ∀ {anc : Nat} {pend : List Pd} {pd : Pd}, pd ∈ pend → anc.testBit pd.i = false → pd ∈ prune anc pend
  | anc, [], pd, h, _ => by cases h
  | anc, x :: pend, pd, h, hb => by
    show pd ∈ Bool.rec (motive := fun _ => List Pd) (x :: prune anc pend) (prune anc pend) (anc.testBit x.i)
    rcases List.mem_cons.1 h with e | e
    · subst e; rw [hb]; exact List.mem_cons_self
    · cases anc.testBit x.i with
      | true => exact prune_mem e hb
      | false => exact List.mem_cons_of_mem _ (prune_mem e hb)

theorem complete_ok {tbl : List (Nat × Nat)} : ∀ (l : List Oper) (i : Nat), List.rec (motive := fun _ => Nat → Bool) (fun _ => true) (fun _ _ ih i => band (Option.rec (motive := fun _ => Bool) false (fun _ => true) (lookN tbl i)) (ih (Nat.succ i))) l i = true →
    ∀ j, j < l.length → ∃ m, lookN tbl (i + j) = some m
  | [], i, h, j, hj => by simp at hj
  | x :: l, i, h, j, hj => by
    obtain ⟨h1, h2⟩ := band_ok h
    cases j with
    | zero =>
      cases hl : lookN tbl i with
      | none => rw [hl] at h1; cases h1
      | some m => exact ⟨m, by simpa using hl⟩
    | succ j =>
      have := complete_ok l (Nat.succ i) h2 j (by simpa using hj)
      have e : i + (j + 1) = Nat.succ i + j := by omega
      rw [e]; exact this

theorem dRun_plan (hcall : CallOk P call) {e' : Tr Value} {h' : Tr Ob} {N' : Nat} : ∀ (L : List It) (T : List Tk) (tbl rds : List (Nat × Nat)) (effs : List Nat) (E : Tr Value) (H : Tr Ob) (N st : Nat) (pend : List Pd),
    schk nt ops.toList (dtab ops.toList 0) L tbl rds effs = true → Acc P nt ops e0 N0 T tbl rds effs E N st → PendOk T pend → dRun P call ops L E H N pend = some (e', h', N') →
    ∃ (T' : List Tk) (Hs : Nat → Tr Ob) (m : Nat) (tbl' rds' : List (Nat × Nat)) (effs' : List Nat), Acc P nt ops e0 N0 T' tbl' rds' effs' e' N' m ∧ (∀ τ ∈ T, τ ∈ T') ∧ (∀ i, i < ops.size → ∃ k, lookN tbl' i = some k) ∧ Hs m = h' ∧ st ≤ m ∧
      (∀ τ ∈ T', τ ∈ T ∨ st ≤ τ.st) ∧
      (∀ τ ∈ T', τ.kd = .heap → ∀ k, st ≤ k → τ.st ≤ k → k ≤ m → (∀ τe ∈ T', τe.isE → τe.st < k → τe.anc.testBit τ.i = false) →
        ∃ ob, evPas P τ.o τ.R (Hs k) τ.lo = some (τ.v, ob) ∧ (∀ o, ob = some o → (Hs k).get τ.lo = some o ∧ τ.hi = τ.lo + 1)) ∧
      (∀ τ ∈ T', τ.isE → τ ∈ T ∨ ∃ hx, evStep P call τ.o τ.R (Hs τ.st) τ.lo = some (τ.v, hx, τ.hi) ∧ ∀ id, hx.get id = (Hs (τ.st + 1)).get id ∨ ∃ τ' ∈ T', τ'.st = τ.st + 1 ∧ τ'.lo ≤ id ∧ id < τ'.hi) ∧
      (∀ id, H.get id = (Hs st).get id ∨ ∃ τ ∈ T', τ.st = st ∧ τ.lo ≤ id ∧ id < τ.hi)
  | [], T, tbl, rds, effs, E, H, N, st, pend, hs, A, hp, hr => by
    obtain ⟨h1, h2⟩ := ocond_some hr
    obtain ⟨rfl, rfl, rfl⟩ : e' = E ∧ h' = H ∧ N' = N := by cases h2; exact ⟨rfl, rfl, rfl⟩
    refine ⟨T, fun _ => h', st, tbl, rds, effs, A, fun _ h => h, fun i hi => ?_, rfl, Nat.le_refl _, fun τ h => .inl h, ?_, fun τ h _ => .inl h, fun id => .inl rfl⟩
    · have := complete_ok ops.toList 0 hs i (by simpa using hi)
      simpa using this
    · intro τ hτ hk k h3 h4 h5 h6
      have hks : k = st := by omega
      subst hks
      rcases hp τ hτ hk with ⟨τe, g1, g2, g3⟩ | ⟨pd, g1, g2, g3, g4, g5, g6, g7⟩
      · have := h6 τe g1 g2 ((A.effm τe g1).1 g2)
        rw [g3] at this
        cases this
      · obtain ⟨ob, q1, q2⟩ := again_ok (allB_ok h1 pd g1)
        rw [g3, g4, g5, g6] at q1
        refine ⟨ob, q1, fun o ho => ?_⟩
        obtain ⟨q3, q4⟩ := q2 o ho
        rw [g6] at q3
        exact ⟨q3, g7 q4⟩
  | it :: L, T, tbl, rds, effs, E, H, N, st, pend, hs, A, hp, hr => by
    have hs' : Option.rec (motive := fun _ => Bool) false (fun o => band (sItem nt (dtab ops.toList 0) tbl rds effs it o) (schk nt ops.toList (dtab ops.toList 0) L ((it.i, it.anc) :: tbl) (addR it.i it.lk rds) (Bool.rec (motive := fun _ => List Nat) effs (it.i :: effs) it.eff))) (nth ops.toList it.i) = true := hs
    obtain ⟨o, hop, hr1⟩ := obind_some hr
    obtain ⟨b, hb, hr2⟩ := obind_some hr1
    clear hr hr1 hs
    rw [hop] at hs'
    obtain ⟨hsi, hsl⟩ := band_ok hs'
    clear hs'
    cases b with
    | false =>
      -- the operation is not wanted
      have hr3 : dRun P call ops L (put E o.dst undef) H N pend = some (e', h', N') := hr2
      have A' := A.add (it := it) (τ := { i := it.i, o := o, anc := it.anc, R := rst it.lk E, v := undef, lo := N, hi := N, st := st, kd := .skip, rk := tbl.length }) hsi rfl rfl hop rfl rfl (Nat.le_refl _) (Nat.le_refl _) (Nat.le_refl _) rfl hb (fun _ => rfl) (fun h => by cases h)
        (effs' := Bool.rec (motive := fun _ => List Nat) effs (it.i :: effs) it.eff) (st' := st) (.inr ⟨(fun h => by cases h), (by cases it.eff <;> first | exact .inl rfl | exact .inr rfl), rfl⟩)
      obtain ⟨T', Hs, m, tbl', rds', effs', q1, q2, q3, q4, q5, q6, q7, q8, q9⟩ := dRun_plan hcall L _ _ _ _ _ _ _ _ _ hsl A' (fun τ hτ hk => by
        rcases List.mem_cons.1 hτ with e | e
        · subst e; cases hk
        · rcases hp τ e hk with ⟨τe, g1, g2⟩ | g
          · exact .inl ⟨τe, List.mem_cons_of_mem _ g1, g2⟩
          · exact .inr g) hr3
      refine ⟨T', Hs, m, tbl', rds', effs', q1, fun τ h => q2 τ (List.mem_cons_of_mem _ h), q3, q4, q5, fun τ h => ?_, q7, fun τ h hE => ?_, q9⟩
      · rcases q6 τ h with g | g
        · rcases List.mem_cons.1 g with e | e
          · subst e; exact .inr (Nat.le_refl _)
          · exact .inl e
        · exact .inr g
      · rcases q8 τ h hE with g | g
        · rcases List.mem_cons.1 g with e | e
          · subst e; cases hE
          · exact .inl e
        · exact .inr g
    | true =>
      cases hef : it.eff with
      | false =>
        rw [hef] at hr2 hsl
        have hr3 : Option.rec (motive := fun _ => RgR)
          (obind (evPas P o (rst it.lk E) H N) fun r => Option.rec (motive := fun _ => RgR)
            (dRun P call ops L (put E o.dst r.1) H N (⟨it.i, o, rst it.lk E, r.1, N, false⟩ :: pend))
            (fun ob => dRun P call ops L (put E o.dst r.1) (H.set (some ob) N) (Nat.succ N) (⟨it.i, o, rst it.lk E, r.1, N, true⟩ :: pend)) r.2)
          (fun v => dRun P call ops L (put E o.dst v) H N pend) (evPure P o (rst it.lk E) .nil) = some (e', h', N') := hr2
        clear hr2
        cases hpu : evPure P o (rst it.lk E) .nil with
        | some v =>
          rw [hpu] at hr3
          have A' := A.add (it := it) (τ := { i := it.i, o := o, anc := it.anc, R := rst it.lk E, v := v, lo := N, hi := N, st := st, kd := .pure, rk := tbl.length }) hsi rfl rfl hop rfl rfl (Nat.le_refl _) (Nat.le_refl _) (Nat.le_refl _) rfl hb (fun h => by cases h) (fun _ => hpu)
            (effs' := effs) (st' := st) (.inr ⟨(fun h => by cases h), .inl rfl, rfl⟩)
          obtain ⟨T', Hs, m, tbl', rds', effs', q1, q2, q3, q4, q5, q6, q7, q8, q9⟩ := dRun_plan hcall L _ _ _ _ _ _ _ _ _ hsl A' (fun τ hτ hk => by
            rcases List.mem_cons.1 hτ with e | e
            · subst e; cases hk
            · rcases hp τ e hk with ⟨τe, g1, g2⟩ | g
              · exact .inl ⟨τe, List.mem_cons_of_mem _ g1, g2⟩
              · exact .inr g) hr3
          refine ⟨T', Hs, m, tbl', rds', effs', q1, fun τ h => q2 τ (List.mem_cons_of_mem _ h), q3, q4, q5, fun τ h => ?_, q7, fun τ h hE => ?_, q9⟩
          · rcases q6 τ h with g | g
            · rcases List.mem_cons.1 g with e | e
              · subst e; exact .inr (Nat.le_refl _)
              · exact .inl e
            · exact .inr g
          · rcases q8 τ h hE with g | g
            · rcases List.mem_cons.1 g with e | e
              · subst e; cases hE
              · exact .inl e
            · exact .inr g
        | none =>
          rw [hpu] at hr3
          obtain ⟨⟨v, ob⟩, hpa, hr4⟩ := obind_some hr3
          clear hr3
          cases ob with
          | none =>
            have hr5 : dRun P call ops L (put E o.dst v) H N (⟨it.i, o, rst it.lk E, v, N, false⟩ :: pend) = some (e', h', N') := hr4
            have A' := A.add (it := it) (τ := { i := it.i, o := o, anc := it.anc, R := rst it.lk E, v := v, lo := N, hi := N, st := st, kd := .heap, rk := tbl.length }) hsi rfl rfl hop rfl rfl (Nat.le_refl _) (Nat.le_refl _) (Nat.le_refl _) rfl hb (fun h => by cases h) (fun h => by cases h)
              (effs' := effs) (st' := st) (.inr ⟨(fun h => by cases h), .inl rfl, rfl⟩)
            obtain ⟨T', Hs, m, tbl', rds', effs', q1, q2, q3, q4, q5, q6, q7, q8, q9⟩ := dRun_plan hcall L _ _ _ _ _ _ _ _ _ hsl A' (fun τ hτ hk => by
              rcases List.mem_cons.1 hτ with e | e
              · subst e; exact .inr ⟨_, List.mem_cons_self, rfl, rfl, rfl, rfl, rfl, (fun h => by cases h)⟩
              · rcases hp τ e hk with ⟨τe, g1, g2⟩ | ⟨pd, g1, g2⟩
                · exact .inl ⟨τe, List.mem_cons_of_mem _ g1, g2⟩
                · exact .inr ⟨pd, List.mem_cons_of_mem _ g1, g2⟩) hr5
            refine ⟨T', Hs, m, tbl', rds', effs', q1, fun τ h => q2 τ (List.mem_cons_of_mem _ h), q3, q4, q5, fun τ h => ?_, q7, fun τ h hE => ?_, q9⟩
            · rcases q6 τ h with g | g
              · rcases List.mem_cons.1 g with e | e
                · subst e; exact .inr (Nat.le_refl _)
                · exact .inl e
              · exact .inr g
            · rcases q8 τ h hE with g | g
              · rcases List.mem_cons.1 g with e | e
                · subst e; cases hE
                · exact .inl e
              · exact .inr g
          | some ob =>
            have hr5 : dRun P call ops L (put E o.dst v) (H.set (some ob) N) (Nat.succ N) (⟨it.i, o, rst it.lk E, v, N, true⟩ :: pend) = some (e', h', N') := hr4
            have A' := A.add (it := it) (τ := { i := it.i, o := o, anc := it.anc, R := rst it.lk E, v := v, lo := N, hi := N + 1, st := st, kd := .heap, rk := tbl.length }) hsi rfl rfl hop rfl rfl (Nat.le_refl _) (Nat.le_succ _) (Nat.le_refl _) rfl hb (fun h => by cases h) (fun h => by cases h)
              (effs' := effs) (st' := st) (.inr ⟨(fun h => by cases h), .inl rfl, rfl⟩)
            obtain ⟨T', Hs, m, tbl', rds', effs', q1, q2, q3, q4, q5, q6, q7, q8, q9⟩ := dRun_plan hcall L _ _ _ _ _ _ _ _ _ hsl A' (fun τ hτ hk => by
              rcases List.mem_cons.1 hτ with e | e
              · subst e; exact .inr ⟨_, List.mem_cons_self, rfl, rfl, rfl, rfl, rfl, (fun _ => rfl)⟩
              · rcases hp τ e hk with ⟨τe, g1, g2⟩ | ⟨pd, g1, g2⟩
                · exact .inl ⟨τe, List.mem_cons_of_mem _ g1, g2⟩
                · exact .inr ⟨pd, List.mem_cons_of_mem _ g1, g2⟩) hr5
            refine ⟨T', Hs, m, tbl', rds', effs', q1, fun τ h => q2 τ (List.mem_cons_of_mem _ h), q3, q4, q5, fun τ h => ?_, q7, fun τ h hE => ?_, fun id => ?_⟩
            · rcases q6 τ h with g | g
              · rcases List.mem_cons.1 g with e | e
                · subst e; exact .inr (Nat.le_refl _)
                · exact .inl e
              · exact .inr g
            · rcases q8 τ h hE with g | g
              · rcases List.mem_cons.1 g with e | e
                · subst e; cases hE
                · exact .inl e
              · exact .inr g
            · by_cases e : id = N
              · subst e
                exact .inr ⟨_, q2 _ List.mem_cons_self, rfl, Nat.le_refl _, Nat.lt_succ_self _⟩
              · rcases q9 id with g | g
                · rw [Tr.get_set, if_neg e] at g
                  exact .inl g
                · exact .inr g
      | true =>
        rw [hef] at hr2 hsl
        obtain ⟨hag, hr3⟩ := ocond_some hr2
        obtain ⟨⟨v, hx, Nx⟩, hst, hr4⟩ := obind_some hr3
        clear hr2 hr3
        have hNx : N ≤ Nx := evStep_num hcall hst
        have hr5 : dRun P call ops L (put E o.dst v) hx Nx (prune it.anc pend) = some (e', h', N') := hr4
        obtain ⟨τ0, hτ0⟩ : ∃ τ0 : Tk, τ0 = { i := it.i, o := o, anc := it.anc, R := rst it.lk E, v := v, lo := N, hi := Nx, st := st, kd := .eff, rk := tbl.length } := ⟨_, rfl⟩
        have hE0 : τ0.isE := by rw [hτ0]; rfl
        have A' := A.add (it := it) (τ := τ0) (by rw [hτ0]; exact hsi) (by rw [hτ0]) (by rw [hτ0]) (by rw [hτ0]; exact hop) (by rw [hτ0]) (by rw [hτ0]) (by rw [hτ0]; exact Nat.le_refl _) (by rw [hτ0]; exact hNx) (N' := Nx) (by rw [hτ0]; exact Nat.le_refl _) (by rw [hτ0]) (by rw [hτ0]; exact hb)
          (by rw [hτ0]; exact fun h => by cases h) (by rw [hτ0]; exact fun h => by cases h) (effs' := it.i :: effs) (st' := st + 1) (.inl ⟨hE0, by rw [hτ0], rfl⟩)
        have hput : put E τ0.o.dst τ0.v = put E o.dst v := by rw [hτ0]
        rw [hput] at A'
        obtain ⟨T', Hs, m, tbl', rds', effs', q1, q2, q3, q4, q5, q6, q7, q8, q9⟩ := dRun_plan hcall L _ _ _ _ _ _ _ _ _ hsl A' (fun τ hτ hk => by
          rcases List.mem_cons.1 hτ with e | e
          · rw [e, hτ0] at hk; cases hk
          · rcases hp τ e hk with ⟨τe, g1, g2⟩ | ⟨pd, g1, g2, g3⟩
            · exact .inl ⟨τe, List.mem_cons_of_mem _ g1, g2⟩
            · cases hbit : it.anc.testBit τ.i with
              | true => exact .inl ⟨τ0, List.mem_cons_self, hE0, by rw [hτ0]; exact hbit⟩
              | false => exact .inr ⟨pd, prune_mem g1 (by rw [g2]; exact hbit), g2, g3⟩) hr5
        have hH1 : ∀ k, st < k → (if k ≤ st then H else Hs k) = Hs k := fun k h => if_neg (by omega)
        have hH0 : (if st ≤ st then H else Hs st) = H := if_pos (Nat.le_refl _)
        refine ⟨T', fun k => if k ≤ st then H else Hs k, m, tbl', rds', effs', q1, fun τ h => q2 τ (List.mem_cons_of_mem _ h), q3, ?_, by omega, fun τ h => ?_, ?_, fun τ h hE => ?_, fun id => .inl ?_⟩
        · dsimp only; rw [hH1 m (by omega)]; exact q4
        · rcases q6 τ h with g | g
          · rcases List.mem_cons.1 g with e | e
            · subst e; exact .inr (by rw [hτ0]; exact Nat.le_refl _)
            · exact .inl e
          · exact .inr (by omega)
        · intro τ hτ hk k h3 h4 h5 h6
          dsimp only
          rcases Nat.lt_or_ge st k with hlt | hge
          · rw [hH1 k hlt]
            exact q7 τ hτ hk k hlt h4 h5 h6
          · have hks : k = st := by omega
            subst hks
            rw [hH0]
            have hτT : τ ∈ T := by
              rcases q6 τ hτ with g | g
              · rcases List.mem_cons.1 g with e | e
                · rw [e, hτ0] at hk; cases hk
                · exact e
              · omega
            rcases hp τ hτT hk with ⟨τe, g1, g2, g3⟩ | ⟨pd, g1, g2, g3, g4, g5, g6, g7⟩
            · have := h6 τe (q2 τe (List.mem_cons_of_mem _ g1)) g2 ((A.effm τe g1).1 g2)
              rw [g3] at this
              cases this
            · obtain ⟨ob, r1, r2⟩ := again_ok (allB_ok hag pd g1)
              rw [g3, g4, g5, g6] at r1
              refine ⟨ob, r1, fun o ho => ?_⟩
              obtain ⟨r3, r4⟩ := r2 o ho
              rw [g6] at r3
              exact ⟨r3, g7 r4⟩
        · rcases q8 τ h hE with g | ⟨hy, g1, g2⟩
          · rcases List.mem_cons.1 g with e | e
            · right
              have hs0 : τ.st = st := by rw [e, hτ0]
              refine ⟨hx, ?_, fun id => ?_⟩
              · dsimp only
                rw [hs0, hH0, e, hτ0]
                exact hst
              · dsimp only
                rw [hs0, hH1 (st + 1) (Nat.lt_succ_self _)]
                exact q9 id
            · exact .inl e
          · rcases q6 τ h with g3 | g3
            · rcases List.mem_cons.1 g3 with e | e
              · right
                have hs0 : τ.st = st := by rw [e, hτ0]
                refine ⟨hx, ?_, fun id => ?_⟩
                · dsimp only
                  rw [hs0, hH0, e, hτ0]
                  exact hst
                · dsimp only
                  rw [hs0, hH1 (st + 1) (Nat.lt_succ_self _)]
                  exact q9 id
              · exact .inl e
            · right
              refine ⟨hy, ?_, fun id => ?_⟩
              · dsimp only
                rw [hH1 τ.st (by omega)]
                exact g1
              · dsimp only
                rw [hH1 (τ.st + 1) (by omega)]
                exact g2 id
        · dsimp only; rw [hH0]

/-- A drawn region goes as the evaluator says. -/
theorem evDraw_ok (hmix : P.follows .mixedOrders = true) (hcall : CallOk P call) : DrawOk P (evDraw P call) := by
  intro nt ops e h N e' h' N' hr
  obtain ⟨L, hL, hr1⟩ := obind_some hr
  have hL' : ocond (schk nt ops.toList (dtab ops.toList 0) (order ops (Nat.succ (len ops.toList)) [] (number ops.toList 0)) [] [] []) (some (order ops (Nat.succ (len ops.toList)) [] (number ops.toList 0))) = some L := hL
  obtain ⟨hs, hL2⟩ := ocond_some hL'
  cases hL2
  have A : Acc P nt ops e N [] [] [] [] e N 0 := by
    refine ⟨?_, ?_, ?_, ?_, ?_, ?_, ?_, ?_, ?_, ?_, ?_, ?_, ?_, ?_, ?_, ?_, ?_, ?_, ?_, ?_, ?_, ?_⟩
    · intro i m hm; cases hm
    · intro τ hτ; cases hτ
    · intro τ hτ; cases hτ
    · intro τ hτ; cases hτ
    · intro τ hτ; cases hτ
    · intro τ hτ; cases hτ
    · intro τ hτ; cases hτ
    · intro τ hτ; cases hτ
    · intro τ hτ; cases hτ
    · intro τ hτ; cases hτ
    · intro τ hτ; cases hτ
    · intro τ hτ; cases hτ
    · intro k hk; omega
    · exact ⟨Nat.le_refl _, fun τ hτ => by cases hτ⟩
    · intro τ hτ; cases hτ
    · intro τ hτ; cases hτ
    · intro τ hτ; cases hτ
    · intro τ hτ; cases hτ
    · intro τ hτ; cases hτ
    · intro τ hτ; cases hτ
    · intro τ hτ; cases hτ
    · intro t v ht; exact .inr ⟨ht, fun τ hτ => by cases hτ⟩
  obtain ⟨T, Hs, m, tbl, rds, effs, q1, q2, q3, q4, q5, q6, q7, q8, q9⟩ := dRun_plan hcall _ _ _ _ _ _ _ _ _ _ hs A (fun τ hτ => by cases hτ) hr1
  have p : Plan P call nt ops e h N T Hs m e' N' := by
    refine ⟨?_, q1.uniq, q1.op, q1.edge, q1.anc, q1.rank, q1.effs, q1.effu, q1.effm, q1.effx, q1.num, q1.disj, ?_, ?_, q1.want, q1.skip, q1.pure, ?_, ?_, ?_, q1.cur⟩
    · intro i hi
      obtain ⟨k, hk⟩ := q3 i hi
      obtain ⟨τ, h1, h2, _⟩ := q1.tbl1 _ _ (lookN_mem hk)
      exact ⟨τ, h1, h2⟩
    · intro τ hτ t ht
      obtain ⟨h1, h2⟩ := q1.dst τ hτ t ht
      exact ⟨h1, fun τ' h3 h4 => h2 τ'.i τ'.o (q1.op τ' h3) h4⟩
    · exact q1.env
    · intro τ hτ hk k h1 h2 h3
      exact q7 τ hτ hk k (Nat.zero_le _) h1 h2 h3
    · intro τ hτ hE
      rcases q8 τ hτ hE with g | g
      · cases g
      · exact g
    · intro id
      rcases q9 id with g | ⟨τ, g1, g2, g3⟩
      · exact .inl g
      · exact .inr ⟨τ, g1, g3⟩
  refine ⟨q1.num.1, fun w0 σ a w id rb Q H hE hf hQ => ?_⟩
  subst q4
  exact p.sound hcall hmix H hE hf hQ

/-- A closed call. -/
theorem closed (hmix : P.follows .mixedOrders = true) {d f : Nat} {v : Value} {h' : Tr Ob} {N' : Nat} (hr : ev P (evDraw P) d (.func (.func f) ⟨[]⟩ ⟨[]⟩) [] .nil 0 = some (v, h', N')) (hv : plain v = true) (w : World) :
    Calls P f #[] w fun e w' => e = .returned v ∧ Below w.heap.size w w' := ev_closed (fun _ hc => evDraw_ok hmix hc) hr hv w
end
end Go.Ev
