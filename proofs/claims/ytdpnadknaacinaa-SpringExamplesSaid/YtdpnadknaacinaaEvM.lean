/-
  The evaluator, part M: maps asked, keys taken out, clear; one operation put together, but for calls of functions.
  Conditions: none; generic over the program.
-/
import Derived.Test.YtdpnadknaacinaaEvL
namespace Go.Ev
open Go.RowKit Go.Sx
set_option linter.unusedVariables false
set_option linter.unusedSimpArgs false

section
variable {P : Program} {w0 : Fen} {w : World} {σ : Sg} {h : Tr Ob} {e : Tr Value} {n N : Nat} {a : Act} {o : Oper}

theorem isEmpty_eq {es : List (Value × Value × Nat)} {xs : List MapEntry} (hm : MER σ es xs) : noE es = (⟨xs⟩ : Array MapEntry).isEmpty := by
  have := hm.1
  cases es <;> cases xs <;> simp_all [noE]

theorem evLookup_ok (H : HR w0 σ h w) {T : Nat} {m m' k k' r : Value} {ok : Bool} (hr : evLookup P T m k ok h = some r) (hm : Rl σ m m') (hk : Rl σ k k') :
    ∃ x, Rl σ r x ∧ (Instr.lookup T m' k' ok).run P w = .ok x w := by
  obtain ⟨⟨kt, et⟩, hT, hr1⟩ := obind_some hr
  obtain ⟨⟨i, es, c⟩, hma, hr2⟩ := obind_some hr1
  obtain ⟨q, hck, hr3⟩ := obind_some hr2
  obtain ⟨r0, hfi, hr4⟩ := obind_some hr3
  clear hr hr1 hr2 hr3
  obtain ⟨b, rr, xs, hi, hX, hxs, hw, hl⟩ := mapAt_ok H hma hm
  obtain ⟨hk', hfind⟩ := evFind_ok hfi hk hxs w
  have hT' := mapT_ok hT
  have hck' : (Instr.checkKey (⟨xs⟩ : Array MapEntry).isEmpty 10000 kt k').run P w = .ok () w := by
    dsimp only [chk] at hck
    have := still_run w _ hck
    rw [isEmpty_eq hxs] at this
    rw [hk']
    exact this
  cases r0 with
  | none =>
    obtain ⟨z, hz, hr5⟩ := obind_some hr4
    obtain ⟨hz1, hz2⟩ := zval_ok hz w
    dsimp only at hfind
    cases ok with
    | false => cases hr5; exact ⟨z, hz2 σ, by simp only [Instr.lookup, Sem.run_bind, run_underlying hT', Result.andThen_ok, hX, run_getMap hw, Sem.run_pure, hck', hfind, hz1]; rfl⟩
    | true =>
      cases hr5
      exact ⟨_, .tup rfl (RlL.cons (hz2 σ) (RlL.cons (.sc rfl) (.nil σ))).at_, by simp only [Instr.lookup, Sem.run_bind, run_underlying hT', Result.andThen_ok, hX, run_getMap hw, Sem.run_pure, hck', hfind, hz1]; rfl⟩
  | some j =>
    obtain ⟨x0, hx0, hr5⟩ := obind_some hr4
    rw [nth_eq] at hx0
    obtain ⟨x1, y1, g1, g2, g3, g4, g5, g6⟩ := hfind
    rw [hx0] at g1
    cases g1
    cases ok with
    | false => cases hr5; exact ⟨_, g4, by simp only [Instr.lookup, Sem.run_bind, run_underlying hT', Result.andThen_ok, hX, run_getMap hw, Sem.run_pure, hck', g6]; rfl⟩
    | true =>
      cases hr5
      exact ⟨.tuple ⟨[y1.val, .bool true]⟩, .tup rfl (RlL.cons g4 (RlL.cons (.sc rfl) (.nil σ))).at_, by simp only [Instr.lookup, Sem.run_bind, run_underlying hT', Result.andThen_ok, hX, run_getMap hw, Sem.run_pure, hck', g6]; rfl⟩

/-- The entry is taken out. -/
noncomputable def dropAt {α : Type} (es : List α) : Nat → List α :=
  List.rec (motive := fun _ => Nat → List α) (fun _ => []) (fun x t ih n => Nat.rec (motive := fun _ => List α) t (fun m _ => x :: ih m) n) es
theorem dropAt_eq {α : Type} : ∀ (es : List α) (i : Nat), dropAt es i = es.eraseIdx i
  | [], i => by cases i <;> rfl
  | x :: es, 0 => rfl
  | x :: es, i + 1 => by rw [List.eraseIdx_cons_succ, ← dropAt_eq es i]; rfl
theorem MER.erase : ∀ {es : List (Value × Value × Nat)} {xs : List MapEntry} (i : Nat), MER σ es xs → MER σ (es.eraseIdx i) (xs.eraseIdx i)
  | [], xs, i, hm => by
    have : xs = [] := by have := hm.1; simp at this; exact List.length_eq_zero_iff.1 this.symm
    subst this; simpa using hm
  | x :: es, xs, 0, hm => by
    obtain ⟨y, ys, rfl, h1, h2, h3, h4⟩ := hm.uncons
    simpa using h4
  | x :: es, xs, i + 1, hm => by
    obtain ⟨y, ys, rfl, h1, h2, h3, h4⟩ := hm.uncons
    have ih := MER.erase i h4
    simp only [List.eraseIdx_cons_succ]
    refine ⟨by have := ih.1; simpa using this, fun j b z hb hz => ?_⟩
    cases j with
    | zero => simp at hb hz; subst hb; subst hz; exact ⟨h1, h2, h3⟩
    | succ j => exact ih.2 j b z (by simpa using hb) (by simpa using hz)

noncomputable def evDelete (P : Program) (T : TypeId) (m k : Value) (h : Tr Ob) (N : Nat) : OpR :=
  obind (mapT P T) fun ke => obind (mapAt h m) fun iec => obind (chk P (noE iec.2.1) ke.1 k) fun _ => obind (evFind P ke.1 k iec.2.1) fun r =>
    match r with
    | none => some (.tuple ⟨[]⟩, h, N)
    | some j => some (.tuple ⟨[]⟩, h.set (some (.m (dropAt iec.2.1 j) iec.2.2)) iec.1, N)

theorem evDelete_ok (H : HR w0 σ h w) {T : Nat} {x y : Operand} {ts : List TypeId} (ho : o.op = .call { callee := .builtin .delete, args := ⟨[x, y]⟩, argTypes := ⟨T :: ts⟩ }) {m k : Value} (hm : Rl σ m (a.eval x)) (hk : Rl σ k (a.eval y))
    {v : Value} {h' : Tr Ob} {N' : Nat} (hr : evDelete P T m k h N = some (v, h', N')) : N' = N ∧ EOk P w0 σ N o a w v h' N' := by
  obtain ⟨⟨kt, et⟩, hT, hr1⟩ := obind_some hr
  obtain ⟨⟨i, es, c⟩, hma, hr2⟩ := obind_some hr1
  obtain ⟨q, hck, hr3⟩ := obind_some hr2
  obtain ⟨r0, hfi, hr4⟩ := obind_some hr3
  clear hr hr1 hr2 hr3
  obtain ⟨b, rr, xs, hi, hX, hxs, hw, hl⟩ := mapAt_ok H hma hm
  obtain ⟨hk', hfind⟩ := evFind_ok hfi hk hxs w
  have hT' := mapT_ok hT
  have hck' : (Instr.checkKey (⟨xs⟩ : Array MapEntry).isEmpty 10000 kt (a.eval y)).run P w = .ok () w := by
    dsimp only [chk] at hck
    have := still_run w _ hck
    rw [isEmpty_eq hxs] at this
    rw [hk']
    exact this
  have e1 : (⟨[x, y]⟩ : Array Operand).map a.eval = #[a.eval x, a.eval y] := by simp
  have fin : ∀ {w' : World}, HR w0 σ h' w' → N' = N → v = .tuple ⟨[]⟩ → (Builtin.delete_ ⟨T :: ts⟩ o.type #[a.eval x, a.eval y]).run P w = .ok (.tuple #[]) w' → N' = N ∧ EOk P w0 σ N o a w v h' N' := by
    intro w' h1 h2 h3 h4
    subst h2; subst h3
    refine ⟨rfl, σ, .tuple #[], w', Ext.refl _ _ _, h1, .tup rfl (fun i a b h => by simp at h), .inl ?_⟩
    simp only [execOp, ho, resolve, e1, invoke, builtin, Sem.run_bind, Sem.run_pure, Result.andThen_ok, h4]
  have htt : (⟨T :: ts⟩ : Array TypeId)[0]? = some T := by simp
  have h0 : (#[.map (some b), a.eval y] : Array Value)[0]? = some (.map (some b)) := rfl
  have h1 : (#[.map (some b), a.eval y] : Array Value)[1]? = some (a.eval y) := rfl
  cases r0 with
  | none =>
    cases hr4
    have hput : HR w0 σ h (w.putObj b (.map ⟨xs⟩ c)) := by
      have e2 : w.putObj b (.map ⟨xs⟩ c) = w := by
        unfold World.putObj
        have : w.heap.setIfInBounds b (.map ⟨xs⟩ c) = w.heap := by
          apply Array.ext_getElem?
          intro k
          by_cases e : k = b
          · subst e; rw [Array.getElem?_setIfInBounds_self_of_lt (lt_of_get hw), hw]
          · rw [Array.getElem?_setIfInBounds_ne (Ne.symm e)]
        rw [this]
      rw [e2]; exact H
    refine fin hput rfl rfl ?_
    dsimp only at hfind
    rw [hX]
    simp only [Builtin.delete_, htt, h0, h1, Sem.run_bind, run_underlying hT', Result.andThen_ok, run_getMap hw, hck', hfind, run_setMap hw, Sem.run_pure]
  | some j =>
    cases hr4
    have herase : (⟨xs⟩ : Array MapEntry).eraseIdxIfInBounds j = ⟨xs.eraseIdx j⟩ := by
      apply Array.ext'; simp
    obtain ⟨x1, y1, g1, g2, g3, g4, g5, g6⟩ := hfind
    refine fin (H.putMap hi hl hw (by rw [dropAt_eq]; exact hxs.erase j)) rfl rfl ?_
    rw [hX]
    simp only [Builtin.delete_, htt, h0, h1, Sem.run_bind, run_underlying hT', Result.andThen_ok, run_getMap hw, hck', g6, run_setMap hw, Sem.run_pure, herase]

noncomputable def evClear (P : Program) (T : TypeId) (v : Value) (h : Tr Ob) (N : Nat) : OpR :=
  match v with
  | .slice none _ _ => obind (elemOf P T) fun _ => some (.tuple ⟨[]⟩, h, N)
  | .slice (some ⟨i, off, _⟩) n _ => obind (elemOf P T) fun el => obind (elz P el) fun zz => ocond (allF zz.2) (obind (evWrite h i off (reps zz.2 n)) fun h' => some (.tuple ⟨[]⟩, h', N))
  | _ => none


theorem evClear_ok (H : HR w0 σ h w) {T : Nat} {x : Operand} {ts : List TypeId} (ho : o.op = .call { callee := .builtin .clear, args := ⟨[x]⟩, argTypes := ⟨T :: ts⟩ }) {s : Value} (hs : Rl σ s (a.eval x))
    {v : Value} {h' : Tr Ob} {N' : Nat} (hr : evClear P T s h N = some (v, h', N')) : N' = N ∧ EOk P w0 σ N o a w v h' N' := by
  have e1 : (⟨[x]⟩ : Array Operand).map a.eval = #[a.eval x] := by simp
  have fin : ∀ {w' : World}, HR w0 σ h' w' → N' = N → v = .tuple ⟨[]⟩ → (Builtin.clear_ ⟨T :: ts⟩ o.type #[a.eval x]).run P w = .ok (.tuple #[]) w' → N' = N ∧ EOk P w0 σ N o a w v h' N' := by
    intro w' h1 h2 h3 h4
    subst h2; subst h3
    refine ⟨rfl, σ, .tuple #[], w', Ext.refl _ _ _, h1, .tup rfl (fun i a b h => by simp at h), .inl ?_⟩
    simp only [execOp, ho, resolve, e1, invoke, builtin, Sem.run_bind, Sem.run_pure, Result.andThen_ok, h4]
  have htt : (⟨T :: ts⟩ : Array TypeId)[0]? = some T := by simp
  generalize hX : a.eval x = X at hs fin
  have h0 : (#[X] : Array Value)[0]? = some X := rfl
  unfold evClear at hr
  split at hr
  · rename_i n c
    obtain ⟨el, he, hr1⟩ := obind_some hr
    cases hr1
    have := hs.plain_eq rfl; subst this
    refine fin H rfl rfl ?_
    simp [Builtin.clear_, htt, run_underlying (elemOf_ok he)]
  · rename_i i off sp n c
    obtain ⟨el, he, hr1⟩ := obind_some hr
    obtain ⟨⟨z, zs⟩, hz, hr2⟩ := obind_some hr1
    obtain ⟨hf, hr3⟩ := ocond_some hr2
    obtain ⟨h3, hwr, hr4⟩ := obind_some hr3
    clear hr hr1 hr2 hr3
    cases hr4
    obtain ⟨g1, g2, g3, g4⟩ := elz_ok hz
    obtain ⟨g5, g6⟩ := zer_ok g2
    obtain ⟨t, ht, hrz⟩ := run_zero g5 w
    have key : ∀ b r, σ i = some (b, r) → (∃ c', X = .slice (some ⟨b, off, none⟩) n c') → N = N ∧ EOk P w0 σ N o a w (.tuple ⟨[]⟩) h' N := by
      rintro b r hi ⟨c', rfl⟩
      obtain ⟨cs, E, q1, q2, q3⟩ := evWrite_ok H hi hwr (reps_rl (g6 σ) n)
      have hfl : ∀ m, flat (reps zs m) = true := by
        intro m
        have hz1 := allF_ok (g6 σ) hf
        induction m with
        | zero => rfl
        | succ m ih => rw [reps_succ]; unfold flat at ih hz1 ⊢; rw [List.all_append, hz1, ih]; rfl
      by_cases hn : n = 0
      · subst hn
        have e2 : w.setRow b (setL cs off (reps zs 0)).toArray = w := setRow_self w b ⟨cs⟩ E (0, 0) q1
        rw [e2] at q3
        exact fin q3 rfl rfl (by simp [Builtin.clear_, htt, run_underlying (elemOf_ok he)])
      · have hst := run_storeCells_at P b off E (reps zs n) 0 ⟨cs⟩ w q1 (by simpa using q2) (by have := hfl n; simpa [flat] using this)
        rw [Nat.add_zero] at hst
        have hst' : (storeCells ⟨b, off, none⟩ (reps zs n)).run P w = .ok () (w.setRow b (setL cs off (reps zs n)).toArray) := by rw [setL_eq _ _ _ q2]; simpa using hst
        have hzc : (Builtin.zeroCells ⟨zs⟩ n).toList = reps zs n := by
          have := range_reps zs n z g3
          have e3 : (⟨zs⟩ : Array Value).size = z := g3
          unfold Builtin.zeroCells
          rw [e3] at this ⊢
          rw [this]
        refine fin q3 rfl rfl ?_
        obtain ⟨m, rfl⟩ := Nat.exists_eq_succ_of_ne_zero hn
        simp [Builtin.clear_, htt, run_underlying (elemOf_ok he), hrz, ht, hzc, hst']
    cases hs
    · rename_i hp; simp [plain] at hp
    · rename_i b r hi; exact key b r hi ⟨_, rfl⟩
    · rename_i b r ee hi hle hcc; exact key _ _ hi ⟨_, rfl⟩
  · cases hr

theorem inPlace_num {i off at_ : Nat} {sp : Option Nat} {m c : Nat} {news : List Value} {v : Value} {h' : Tr Ob} {N' : Nat} (hr : inPlace i off at_ sp m c news h N = some (v, h', N')) : N' = N + 1 := by
  obtain ⟨_, hr⟩ := ocond_some hr
  obtain ⟨_, _, hr⟩ := obind_some hr
  cases hr; rfl
theorem evAppend_num {T : Nat} {s u v : Value} {h' : Tr Ob} {N' : Nat} (hr : evAppend P T s u h N = some (v, h', N')) : N' = N + 1 := by
  obtain ⟨ez, _, hr1⟩ := obind_some hr
  obtain ⟨k, _, hr2⟩ := obind_some hr1
  rw [fN_eq] at hr2
  obtain ⟨news, _, hr3⟩ := obind_some hr2
  clear hr hr1 hr2
  have hr := hr3; clear hr3
  split at hr
  · obtain ⟨_, hr1⟩ := ocond_some hr
    obtain ⟨_, hr2⟩ := ocond_some hr1
    obtain ⟨_, hr3⟩ := ocond_some hr2
    clear hr hr1 hr2
    cases hk : Nat.beq k 0 <;> rw [hk] at hr3 <;> cases hr3 <;> rfl
  · rename_i i off n c
    rw [fN_eq, fN_eq] at hr
    cases hk : Nat.ble (Nat.add n k) c with
    | true => rw [hk] at hr; exact inPlace_num hr
    | false =>
      rw [hk] at hr
      obtain ⟨_, hr1⟩ := ocond_some hr
      obtain ⟨_, _, hr2⟩ := obind_some hr1
      cases hr2; rfl
  · rename_i i off eo n c
    rw [fN_eq, fN_eq] at hr
    split at hr
    · rename_i xs E z' _
      obtain ⟨_, hr1⟩ := ocond_some hr
      obtain ⟨_, hr2⟩ := ocond_some hr1
      obtain ⟨_, hr3⟩ := ocond_some hr2
      clear hr hr1 hr2
      have hr := hr3; clear hr3
      cases hk : Nat.ble (Nat.add off (Nat.add (Nat.mul n ez.2) (Nat.mul k ez.2))) (len xs) with
      | true => rw [hk] at hr; exact inPlace_num hr
      | false =>
        rw [hk] at hr
        obtain ⟨_, hr1⟩ := ocond_some hr
        obtain ⟨_, hr2⟩ := ocond_some hr1
        obtain ⟨_, hr3⟩ := ocond_some hr2
        obtain ⟨_, hr4⟩ := ocond_some hr3
        cases hr4; rfl
    · cases hr
  · cases hr

/-- One operation, but for calls of functions. -/
noncomputable def evOp (P : Program) (o : Oper) (e : Tr Value) (h : Tr Ob) (N : Nat) : OpR :=
  match o.op with
  | .alloc T => obind (zer P T) fun z => some (.pointer (some ⟨N, 0, none⟩), h.set (some (.c z T)) N, Nat.succ N)
  | .box T x => obind (evo e x) fun v => evBox T v h N
  | .build T ⟨ps⟩ => obind (evParts e ps) fun qs => obind (evBuild P T qs) fun v => some (v, h, N)
  | .buildSlice T m ⟨ps⟩ => obind (evParts e ps) fun qs => evBuildSlice P T m qs h N
  | .makeSlice T x y => obind (evo e x) fun l => obind (evo e y) fun c => evMakeSlice P T l c h N
  | .store T x y => obind (evo e x) fun p => obind (evo e y) fun v => evStore P T p v h N
  | .makeMap _ none => evMakeMap h N
  | .mapUpdate T x y z => obind (evo e x) fun m => obind (evo e y) fun k => obind (evo e z) fun v => evMapPut P T m k v h N
  | .insert T x y z => obind (evo e x) fun m => obind (evo e y) fun k => obind (evo e z) fun v => evMapPut P T m k v h N
  | .lookup T x y ok => obind (evo e x) fun m => obind (evo e y) fun k => obind (evLookup P T m k ok h) fun v => some (v, h, N)
  | .call { callee := .builtin .append, args := ⟨[x, y]⟩, argTypes := ⟨[T, T']⟩ } => obind (evo e x) fun s => obind (evo e y) fun u => Bool.rec (motive := fun _ => OpR) (evGrowZ P T T' s u h N) (evAppend P T s u h N) (Nat.beq T T')
  | .call { callee := .builtin .copy, args := ⟨[x, y]⟩, argTypes := ⟨[T, T']⟩ } => ocond (Nat.beq T T') (obind (evo e x) fun s => obind (evo e y) fun u => evCopy P T s u h N)
  | .call { callee := .builtin .delete, args := ⟨[x, y]⟩, argTypes := ⟨T :: _⟩ } => obind (evo e x) fun s => obind (evo e y) fun u => evDelete P T s u h N
  | .call { callee := .builtin .clear, args := ⟨[x]⟩, argTypes := ⟨T :: _⟩ } => obind (evo e x) fun s => evClear P T s h N
  | _ => obind (evPure P o e h) fun v => some (v, h, N)

theorem evStore_num {T : Nat} {p u v : Value} {h' : Tr Ob} {N' : Nat} (hr : evStore P T p u h N = some (v, h', N')) : N' = N := by
  unfold evStore at hr
  split at hr
  · obtain ⟨_, _, hr⟩ := obind_some hr
    obtain ⟨_, hr⟩ := ocond_some hr
    obtain ⟨_, hr⟩ := ocond_some hr
    obtain ⟨_, _, hr⟩ := obind_some hr
    cases hr; rfl
  · cases hr
theorem evMapPut_num {T : Nat} {m k u v : Value} {h' : Tr Ob} {N' : Nat} (hr : evMapPut P T m k u h N = some (v, h', N')) : N' = N := by
  obtain ⟨_, _, hr⟩ := obind_some hr
  obtain ⟨_, _, hr⟩ := obind_some hr
  obtain ⟨_, _, hr⟩ := obind_some hr
  obtain ⟨r, _, hr⟩ := obind_some hr
  cases r with
  | none =>
    dsimp only at hr
    rw [fN_eq] at hr
    cases hr; rfl
  | some j =>
    obtain ⟨_, _, hr⟩ := obind_some hr
    obtain ⟨_, hr⟩ := ocond_some hr
    cases hr; rfl
theorem evCopy_num {T : Nat} {s u v : Value} {h' : Tr Ob} {N' : Nat} (hr : evCopy P T s u h N = some (v, h', N')) : N' = N := by
  obtain ⟨ez, _, hr1⟩ := obind_some hr
  obtain ⟨k, _, hr2⟩ := obind_some hr1
  clear hr hr1
  have hr := hr2; clear hr2
  split at hr
  · obtain ⟨_, hr1⟩ := ocond_some hr
    cases hr1; rfl
  · rename_i i off sp n c
    rw [fN_eq, fN_eq] at hr
    obtain ⟨_, _, hr1⟩ := obind_some hr
    obtain ⟨_, hr2⟩ := ocond_some hr1
    obtain ⟨_, _, hr3⟩ := obind_some hr2
    cases hr3; rfl
  · cases hr
theorem evDelete_num {T : Nat} {m k v : Value} {h' : Tr Ob} {N' : Nat} (hr : evDelete P T m k h N = some (v, h', N')) : N' = N := by
  obtain ⟨_, _, hr⟩ := obind_some hr
  obtain ⟨_, _, hr⟩ := obind_some hr
  obtain ⟨_, _, hr⟩ := obind_some hr
  obtain ⟨r, _, hr⟩ := obind_some hr
  cases r <;> cases hr <;> rfl
theorem evClear_num {T : Nat} {s v : Value} {h' : Tr Ob} {N' : Nat} (hr : evClear P T s h N = some (v, h', N')) : N' = N := by
  unfold evClear at hr
  split at hr
  · obtain ⟨_, _, hr⟩ := obind_some hr
    cases hr; rfl
  · obtain ⟨_, _, hr⟩ := obind_some hr
    obtain ⟨_, _, hr⟩ := obind_some hr
    obtain ⟨_, hr⟩ := ocond_some hr
    obtain ⟨_, _, hr⟩ := obind_some hr
    cases hr; rfl
  · cases hr

theorem evOp_num {v : Value} {h' : Tr Ob} {N' : Nat} (hr : evOp P o e h N = some (v, h', N')) : N ≤ N' := by
  unfold evOp at hr
  split at hr
  · obtain ⟨z, hz, hr⟩ := obind_some hr
    cases hr; exact Nat.le_succ N
  · obtain ⟨u, hx, hr⟩ := obind_some hr
    cases hr; exact Nat.le_succ N
  · obtain ⟨qs, hq, hr⟩ := obind_some hr
    obtain ⟨u, hu, hr⟩ := obind_some hr
    cases hr; exact Nat.le_refl _
  · obtain ⟨qs, hq, hr⟩ := obind_some hr
    obtain ⟨_, _, hr⟩ := obind_some hr
    obtain ⟨_, _, hr⟩ := obind_some hr
    obtain ⟨_, hr⟩ := ocond_some hr
    obtain ⟨_, _, hr⟩ := obind_some hr
    cases hr; exact Nat.le_succ N
  · obtain ⟨l, hl, hr⟩ := obind_some hr
    obtain ⟨c, hc, hr⟩ := obind_some hr
    obtain ⟨_, _, hr⟩ := obind_some hr
    obtain ⟨_, _, hr⟩ := obind_some hr
    obtain ⟨_, _, hr⟩ := obind_some hr
    obtain ⟨_, _, hr⟩ := obind_some hr
    obtain ⟨_, _, hr⟩ := obind_some hr
    obtain ⟨_, hr⟩ := ocond_some hr
    obtain ⟨_, hr⟩ := ocond_some hr
    obtain ⟨_, hr⟩ := ocond_some hr
    cases hr; exact Nat.le_succ N
  · obtain ⟨l, hl, hr⟩ := obind_some hr
    obtain ⟨c, hc, hr⟩ := obind_some hr
    exact Nat.le_of_eq (evStore_num hr).symm
  · cases hr; exact Nat.le_succ N
  · obtain ⟨m, hm, hr⟩ := obind_some hr
    obtain ⟨k, hk, hr⟩ := obind_some hr
    obtain ⟨u, hu, hr⟩ := obind_some hr
    exact Nat.le_of_eq (evMapPut_num hr).symm
  · obtain ⟨m, hm, hr⟩ := obind_some hr
    obtain ⟨k, hk, hr⟩ := obind_some hr
    obtain ⟨u, hu, hr⟩ := obind_some hr
    exact Nat.le_of_eq (evMapPut_num hr).symm
  · obtain ⟨m, hm, hr⟩ := obind_some hr
    obtain ⟨k, hk, hr⟩ := obind_some hr
    obtain ⟨u, hu, hr⟩ := obind_some hr
    cases hr; exact Nat.le_refl _
  · rename_i xx yy T T' ho0
    obtain ⟨s, hs, hr⟩ := obind_some hr
    obtain ⟨u, hu, hr⟩ := obind_some hr
    cases hT : Nat.beq T T' with
    | true =>
      rw [hT] at hr
      have := evAppend_num hr
      omega
    | false =>
      rw [hT] at hr
      have := evGrowZ_num hr
      omega
  · obtain ⟨hT, hr⟩ := ocond_some hr
    obtain ⟨s, hs, hr⟩ := obind_some hr
    obtain ⟨u, hu, hr⟩ := obind_some hr
    exact Nat.le_of_eq (evCopy_num hr).symm
  · obtain ⟨s, hs, hr⟩ := obind_some hr
    obtain ⟨u, hu, hr⟩ := obind_some hr
    exact Nat.le_of_eq (evDelete_num hr).symm
  · obtain ⟨s, hs, hr⟩ := obind_some hr
    exact Nat.le_of_eq (evClear_num hr).symm
  · obtain ⟨u, hu, hr⟩ := obind_some hr
    cases hr; exact Nat.le_refl _

theorem evOp_ok (H : HR w0 σ h w) (hE : ER σ e n a.tmps) {v : Value} {h' : Tr Ob} {N' : Nat} (hr : evOp P o e h N = some (v, h', N')) (hf : Fresh σ N N') : N ≤ N' ∧ EOk P w0 σ N o a w v h' N' := by
  unfold evOp at hr
  split at hr
  · rename_i T ho
    obtain ⟨z, hz, hr⟩ := obind_some hr
    cases hr
    exact ⟨Nat.le_succ N, evAlloc_ok H hf ho hz⟩
  · rename_i T x ho
    obtain ⟨u, hx, hr⟩ := obind_some hr
    cases hr
    exact ⟨Nat.le_succ N, evBox_ok H hE hf ho hx⟩
  · rename_i T ps ho
    obtain ⟨qs, hq, hr⟩ := obind_some hr
    obtain ⟨u, hu, hr⟩ := obind_some hr
    cases hr
    obtain ⟨us, h1, h2⟩ := evParts_ok hE hq
    obtain ⟨x, h3, h4⟩ := evBuild_ok (w := w) (parts := (⟨ps⟩ : Array (Nat × Operand)).map fun (i, x) => (i, a.eval x)) hu h1 (by rw [← h2]; simp)
    refine ⟨Nat.le_refl _, σ, x, w, Ext.refl _ _ _, H, h3, .inl ?_⟩
    simp only [execOp, ho, Sem.run_bind, h4, Sem.run_pure, Result.andThen_ok]
  · rename_i T m ps ho
    obtain ⟨qs, hq, hr⟩ := obind_some hr
    have hN : N' = N + 1 := by
      obtain ⟨_, _, hr⟩ := obind_some hr
      obtain ⟨_, _, hr⟩ := obind_some hr
      obtain ⟨_, hr⟩ := ocond_some hr
      obtain ⟨_, _, hr⟩ := obind_some hr
      cases hr; rfl
    subst hN
    exact ⟨Nat.le_succ N, (evBuildSlice_ok H hE hf ho hq hr).2⟩
  · rename_i T x y ho
    obtain ⟨l, hl, hr⟩ := obind_some hr
    obtain ⟨c, hc, hr⟩ := obind_some hr
    have hN : N' = N + 1 := by
      obtain ⟨_, _, hr⟩ := obind_some hr
      obtain ⟨_, _, hr⟩ := obind_some hr
      obtain ⟨_, _, hr⟩ := obind_some hr
      obtain ⟨_, _, hr⟩ := obind_some hr
      obtain ⟨_, _, hr⟩ := obind_some hr
      obtain ⟨_, hr⟩ := ocond_some hr
      obtain ⟨_, hr⟩ := ocond_some hr
      obtain ⟨_, hr⟩ := ocond_some hr
      cases hr; rfl
    subst hN
    exact ⟨Nat.le_succ N, (evMakeSlice_ok H hf ho (evo_ok hE hl) (evo_ok hE hc) hr).2⟩
  · rename_i T x y ho
    obtain ⟨l, hl, hr⟩ := obind_some hr
    obtain ⟨c, hc, hr⟩ := obind_some hr
    obtain ⟨h1, h2⟩ := evStore_ok H ho (evo_ok hE hl) (evo_ok hE hc) hr
    exact ⟨by omega, h2⟩
  · rename_i T ho
    cases hr
    exact ⟨Nat.le_succ N, evMakeMap_ok H hf ho⟩
  · rename_i T x y z ho
    obtain ⟨m, hm, hr⟩ := obind_some hr
    obtain ⟨k, hk, hr⟩ := obind_some hr
    obtain ⟨u, hu, hr⟩ := obind_some hr
    obtain ⟨h1, h2⟩ := evMapPut_ok H (.inl ho) (evo_ok hE hm) (evo_ok hE hk) (evo_ok hE hu) hr
    exact ⟨by omega, h2⟩
  · rename_i T x y z ho
    obtain ⟨m, hm, hr⟩ := obind_some hr
    obtain ⟨k, hk, hr⟩ := obind_some hr
    obtain ⟨u, hu, hr⟩ := obind_some hr
    obtain ⟨h1, h2⟩ := evMapPut_ok H (.inr ho) (evo_ok hE hm) (evo_ok hE hk) (evo_ok hE hu) hr
    exact ⟨by omega, h2⟩
  · rename_i T x y ok ho
    obtain ⟨m, hm, hr⟩ := obind_some hr
    obtain ⟨k, hk, hr⟩ := obind_some hr
    obtain ⟨u, hu, hr⟩ := obind_some hr
    cases hr
    obtain ⟨x', h3, h4⟩ := evLookup_ok H hu (evo_ok hE hm) (evo_ok hE hk)
    refine ⟨Nat.le_refl _, σ, x', w, Ext.refl _ _ _, H, h3, .inl ?_⟩
    simp only [execOp, ho, Sem.run_bind, h4, Sem.run_pure, Result.andThen_ok]
  · rename_i x y T T' ho
    obtain ⟨s, hs, hr⟩ := obind_some hr
    obtain ⟨u, hu, hr⟩ := obind_some hr
    cases hT : Nat.beq T T' with
    | false =>
      rw [hT] at hr
      have hr' : evGrowZ P T T' s u h N = some (v, h', N') := hr
      clear hr
      have hN := evGrowZ_num hr'
      subst hN
      exact ⟨Nat.le_succ N, evGrowZ_ok H hf ho (evo_ok hE hs) (evo_ok hE hu) hr'⟩
    | true =>
    rw [hT] at hr
    have hT' := Nat.eq_of_beq_eq_true hT
    clear hT
    have hr' : evAppend P T s u h N = some (v, h', N') := hr
    clear hr
    subst hT'
    have hN := evAppend_num hr'
    subst hN
    exact ⟨Nat.le_succ N, (evAppend_ok H hf ho (evo_ok hE hs) (evo_ok hE hu) hr').2⟩
  · rename_i x y T T' ho
    obtain ⟨hT, hr⟩ := ocond_some hr
    obtain ⟨s, hs, hr⟩ := obind_some hr
    obtain ⟨u, hu, hr⟩ := obind_some hr
    have hT' := Nat.eq_of_beq_eq_true hT
    clear hT
    have hr' : evCopy P T s u h N = some (v, h', N') := hr
    clear hr
    subst hT'
    obtain ⟨h1, h2⟩ := evCopy_ok H ho (evo_ok hE hs) (evo_ok hE hu) hr'
    exact ⟨by omega, h2⟩
  · rename_i x y T ts ho
    obtain ⟨s, hs, hr⟩ := obind_some hr
    obtain ⟨u, hu, hr⟩ := obind_some hr
    obtain ⟨h1, h2⟩ := evDelete_ok H ho (evo_ok hE hs) (evo_ok hE hu) hr
    exact ⟨by omega, h2⟩
  · rename_i x T ts ho
    obtain ⟨s, hs, hr⟩ := obind_some hr
    obtain ⟨h1, h2⟩ := evClear_ok H ho (evo_ok hE hs) hr
    exact ⟨by omega, h2⟩
  · obtain ⟨u, hu, hr⟩ := obind_some hr
    cases hr
    exact ⟨Nat.le_refl _, (evPure_ok H hE hu).eok H⟩

end
end Go.Ev
