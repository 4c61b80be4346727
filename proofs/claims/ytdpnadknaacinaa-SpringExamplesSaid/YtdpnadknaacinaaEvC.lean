/-
  The evaluator, part C: operations that yield a value and leave the memory as it lies.
  Conditions: none; generic over the program.
-/
import Derived.Test.YtdpnadknaacinaaEvB
namespace Go.Ev
open Go.RowKit Go.Sx
set_option linter.unusedVariables false
set_option linter.unusedSimpArgs false

/-! ### Lists -/
section
variable {α : Type}
noncomputable def nth (l : List α) : Nat → Option α :=
  List.rec (motive := fun _ => Nat → Option α) (fun _ => none) (fun v _ ih n => Nat.rec (motive := fun _ => Option α) (some v) (fun m _ => ih m) n) l
noncomputable def drp (l : List α) : Nat → List α :=
  List.rec (motive := fun _ => Nat → List α) (fun _ => []) (fun v t ih n => Nat.rec (motive := fun _ => List α) (v :: t) (fun m _ => ih m) n) l
noncomputable def tak (l : List α) : Nat → List α :=
  List.rec (motive := fun _ => Nat → List α) (fun _ => []) (fun v t ih n => Nat.rec (motive := fun _ => List α) [] (fun m _ => v :: ih m) n) l
noncomputable def len (l : List α) : Nat := List.rec (motive := fun _ => Nat) 0 (fun _ _ ih => Nat.succ ih) l
noncomputable def app (l r : List α) : List α := List.rec (motive := fun _ => List α) r (fun v _ ih => v :: ih) l
theorem nth_eq : ∀ (l : List α) (n : Nat), nth l n = l[n]?
  | [], n => by simp; rfl
  | v :: l, 0 => rfl
  | v :: l, n + 1 => by rw [List.getElem?_cons_succ, ← nth_eq l n]; rfl
theorem drp_eq : ∀ (l : List α) (n : Nat), drp l n = l.drop n
  | [], n => by simp; rfl
  | v :: l, 0 => rfl
  | v :: l, n + 1 => by rw [List.drop_succ_cons, ← drp_eq l n]; rfl
theorem tak_eq : ∀ (l : List α) (n : Nat), tak l n = l.take n
  | [], n => by simp; rfl
  | v :: l, 0 => rfl
  | v :: l, n + 1 => by rw [List.take_succ_cons, ← tak_eq l n]; rfl
theorem len_eq : ∀ (l : List α), len l = l.length
  | [] => rfl
  | v :: l => by show Nat.succ (len l) = _; rw [len_eq l]; rfl
theorem app_eq : ∀ (l r : List α), app l r = l ++ r
  | [], r => rfl
  | v :: l, r => by show v :: app l r = _; rw [app_eq l r]; rfl
/-- vs over the head of cs. -/
noncomputable def over (vs : List α) : List α → List α :=
  List.rec (motive := fun _ => List α → List α) (fun cs => cs) (fun v _ ih cs => List.rec (motive := fun _ => List α) [] (fun _ t _ => v :: ih t) cs) vs
noncomputable def lay (cs : List α) (vs : List α) : Nat → List α :=
  List.rec (motive := fun _ => Nat → List α) (fun _ => []) (fun c t ih n => Nat.rec (motive := fun _ => List α) (over vs (c :: t)) (fun m _ => c :: ih m) n) cs
end
theorem setL_nil : ∀ (vs : List Value) (off : Nat), setL [] off vs = []
  | [], off => rfl
  | v :: vs, off => by simp [setL, setL_nil vs]
theorem setL_cons_succ : ∀ (vs : List Value) (c : Value) (t : List Value) (off : Nat), setL (c :: t) (off + 1) vs = c :: setL t off vs
  | [], c, t, off => rfl
  | v :: vs, c, t, off => by simp only [setL, List.set_cons_succ]; exact setL_cons_succ vs c _ _
theorem over_eq : ∀ (vs cs : List Value), over vs cs = setL cs 0 vs
  | [], cs => rfl
  | v :: vs, [] => by rw [setL_nil]; rfl
  | v :: vs, c :: t => by
    show v :: over vs t = _
    rw [over_eq vs t]
    simp only [setL, List.set_cons_zero]
    rw [setL_cons_succ]
theorem lay_eq (vs : List Value) : ∀ (cs : List Value) (off : Nat), lay cs vs off = setL cs off vs
  | [], off => by rw [setL_nil]; rfl
  | c :: t, 0 => over_eq vs (c :: t)
  | c :: t, off + 1 => by rw [setL_cons_succ, ← lay_eq vs t off]; rfl

noncomputable def obind {α β : Type} (x : Option α) (f : α → Option β) : Option β := Option.rec (motive := fun _ => Option β) none f x
theorem obind_some {α β : Type} {x : Option α} {f : α → Option β} {b : β} (h : obind x f = some b) : ∃ a, x = some a ∧ f a = some b := by
  cases x with
  | none => cases h
  | some a => exact ⟨a, rfl, h⟩
noncomputable def ocond {β : Type} (b : Bool) (x : Option β) : Option β := Bool.rec (motive := fun _ => Option β) none x b
theorem ocond_some {β : Type} {b : Bool} {x : Option β} {y : β} (h : ocond b x = some y) : b = true ∧ x = some y := by
  cases b with
  | false => cases h
  | true => exact ⟨rfl, h⟩

/-- Three results, handed on one by one. -/
noncomputable def orun {α β γ δ : Type} (x : Option (α × β × γ)) (f : α → β → γ → Option δ) : Option δ :=
  Option.rec (motive := fun _ => Option δ) none (fun r => Prod.rec (motive := fun _ => Option δ) (fun a r2 => Prod.rec (motive := fun _ => Option δ) (fun b c => f a b c) r2) r) x
theorem orun_some {α β γ δ : Type} {x : Option (α × β × γ)} {f : α → β → γ → Option δ} {d : δ} (h : orun x f = some d) : ∃ a b c, x = some (a, b, c) ∧ f a b c = some d := by
  cases x with
  | none => cases h
  | some r => exact ⟨r.1, r.2.1, r.2.2, rfl, h⟩

/-! ### What asks nothing of the world -/
noncomputable def still {α : Type} (P : Program) (s : Sem α) : Option α :=
  Sem.rec (motive := fun _ => Option α) (fun a => some a) (fun _ _ _ _ => none) (fun _ _ _ _ _ => none) (fun _ _ _ => none) (fun _ _ _ => none) (fun _ _ _ _ => none) (fun _ _ _ => none)
    (fun _ _ _ => none) (fun _ _ _ _ => none) (fun _ _ _ => none) (fun _ _ _ => none) (fun _ ih => ih P) (fun _ _ ih => ih) (fun _ => none) s
theorem still_run {α : Type} {P : Program} {a : α} (w : World) : ∀ (s : Sem α), still P s = some a → s.run P w = .ok a w
  | .pure b, h => by cases h; rfl
  | .program k, h => still_run w (k P) h
  | .mark m k, h => still_run w k h
  | .load _ _ _, h => by cases h
  | .store _ _ _ _, h => by cases h
  | .new _ _, h => by cases h
  | .shape _ _, h => by cases h
  | .freeze _ _ _, h => by cases h
  | .frozen _ _, h => by cases h
  | .getObj _ _, h => by cases h
  | .setObj _ _ _, h => by cases h
  | .choose _ _, h => by cases h
  | .sys _ _, h => by cases h
  | .halt _, h => by cases h

/-- An operation's value; the world stays. -/
def VOk (P : Program) (σ : Sg) (o : Oper) (a : Act) (w : World) (v : Value) : Prop := ∃ x, Rl σ v x ∧ (execOp a.eval o).run P w = .ok (.value x) w

theorem rl_int {σ : Sg} {k : IntKind} {n : Int} {x : Value} (h : Rl σ (.int k n) x) : x = .int k n := h.plain_eq rfl
theorem rl_bool {σ : Sg} {b : Bool} {x : Value} (h : Rl σ (.bool b) x) : x = .bool b := h.plain_eq rfl

/-! ### Binary operators -/
noncomputable def inI64 (z : Int) : Bool := Int.rec (motive := fun _ => Bool) (fun n => Nat.ble n 9223372036854775807) (fun n => Nat.ble n 9223372036854775807) z
theorem inI64_ok {z : Int} (h : inI64 z = true) : IntKind.i64.wrap z = z := by
  refine wrap_in ?_
  cases z with
  | ofNat n => have := Nat.le_of_ble_eq_true (show Nat.ble n 9223372036854775807 = true from h); constructor <;> simp <;> omega
  | negSucc n => have := Nat.le_of_ble_eq_true (show Nat.ble n 9223372036854775807 = true from h); constructor <;> omega

/-- i ≤ j, i = j of whole numbers. -/
noncomputable def ileB (i j : Int) : Bool :=
  Int.rec (motive := fun _ => Bool) (fun a => Int.rec (motive := fun _ => Bool) (fun b => Nat.ble a b) (fun _ => false) j)
    (fun a => Int.rec (motive := fun _ => Bool) (fun _ => true) (fun b => Nat.ble b a) j) i
noncomputable def ieqB (i j : Int) : Bool :=
  Int.rec (motive := fun _ => Bool) (fun a => Int.rec (motive := fun _ => Bool) (fun b => Nat.beq a b) (fun _ => false) j)
    (fun a => Int.rec (motive := fun _ => Bool) (fun _ => false) (fun b => Nat.beq a b) j) i
theorem ileB_eq (i j : Int) : ileB i j = decide (i ≤ j) := by
  rw [Bool.eq_iff_iff, decide_eq_true_eq]
  cases i with
  | ofNat a => cases j with
    | ofNat b => exact ⟨fun h => by have := Nat.le_of_ble_eq_true (show Nat.ble a b = true from h); simp; omega, fun h => Nat.ble_eq_true_of_le (by simp at h; omega)⟩
    | negSucc b => exact ⟨(fun h => by cases h), (fun h => by simp at h; omega)⟩
  | negSucc a => cases j with
    | ofNat b => exact ⟨fun h => by simp; omega, fun h => rfl⟩
    | negSucc b => exact ⟨fun h => by have := Nat.le_of_ble_eq_true (show Nat.ble b a = true from h); omega, fun h => Nat.ble_eq_true_of_le (by omega)⟩
theorem ieqB_eq (i j : Int) : ieqB i j = decide (i = j) := by
  rw [Bool.eq_iff_iff, decide_eq_true_eq]
  cases i with
  | ofNat a => cases j with
    | ofNat b => exact ⟨fun h => by have := Nat.eq_of_beq_eq_true (show Nat.beq a b = true from h); rw [this], fun h => by cases h; exact Nat.beq_refl a⟩
    | negSucc b => exact ⟨(fun h => by cases h), (fun h => by cases h)⟩
  | negSucc a => cases j with
    | ofNat b => exact ⟨(fun h => by cases h), (fun h => by cases h)⟩
    | negSucc b => exact ⟨fun h => by have := Nat.eq_of_beq_eq_true (show Nat.beq a b = true from h); rw [this], fun h => by cases h; exact Nat.beq_refl a⟩
noncomputable def bnot (b : Bool) : Bool := Bool.rec (motive := fun _ => Bool) true false b
theorem bnot_eq (b : Bool) : bnot b = !b := by cases b <;> rfl
noncomputable def ibin (b : BinOp) (i j : Int) : Option Value :=
  match b with
  | .add => fI (Int.add i j) fun r => ocond (inI64 r) (some (.int .i64 r))
  | .sub => fI (Int.sub i j) fun r => ocond (inI64 r) (some (.int .i64 r))
  | .mul => fI (Int.mul i j) fun r => ocond (inI64 r) (some (.int .i64 r))
  | .eql => some (.bool (ieqB i j))
  | .neq => some (.bool (bnot (ieqB i j)))
  | .leq => some (.bool (ileB i j))
  | .geq => some (.bool (ileB j i))
  | .lss => some (.bool (bnot (ileB j i)))
  | .gtr => some (.bool (bnot (ileB i j)))
  | _ => none
theorem ibin_ok {b : BinOp} {i j : Int} {v : Value} (h : ibin b i j = some v) {x y : Operand} {T : TypeId} {P : Program} (w : World) :
    plain v = true ∧ (do eqGuard b T x y (.int .i64 i) (.int .i64 j); binOp b T (.int .i64 i) (.int .i64 j) : Sem Value).run P w = .ok v w := by
  have e1 : ∀ a b : Int, (!decide (b ≤ a)) = decide (a < b) := fun a b => by rw [Bool.eq_iff_iff]; simp
  cases b <;> simp only [ibin, reduceCtorEq] at h
  case add =>
    rw [fI_eq] at h
    obtain ⟨h1, h2⟩ := ocond_some h
    cases h2
    have h4 : IntKind.i64.wrap (i + j) = i + j := inI64_ok h1
    exact ⟨rfl, by simp [eqGuard, binOp, Op.intArith, h4]; try rfl⟩
  case sub =>
    rw [fI_eq] at h
    obtain ⟨h1, h2⟩ := ocond_some h
    cases h2
    have h4 : IntKind.i64.wrap (i - j) = i - j := inI64_ok h1
    exact ⟨rfl, by simp [eqGuard, binOp, Op.intArith, h4]; try rfl⟩
  case mul =>
    rw [fI_eq] at h
    obtain ⟨h1, h2⟩ := ocond_some h
    cases h2
    have h4 : IntKind.i64.wrap (i * j) = i * j := inI64_ok h1
    exact ⟨rfl, by simp [eqGuard, binOp, Op.intArith, h4]; try rfl⟩
  all_goals
    cases h
    refine ⟨rfl, ?_⟩
    simp only [ieqB_eq, ileB_eq, bnot_eq, e1]
    simp only [eqGuard, binOp, Op.intCmp, Sem.run_bind, Sem.run_pure, Result.andThen_ok]
    simp [bne, BEq.beq]

/-- Of operands that bear no block: as the model itself reckons. -/
noncomputable def sbin (P : Program) (b : BinOp) (T : TypeId) (x y : Operand) (u v : Value) : Option Value :=
  ocond (scal u) (ocond (scal v) (obind (still P (do eqGuard b T x y u v; binOp b T u v)) fun r => ocond (scal r) (some r)))
/-- Something against nil. -/
noncomputable def nbin (P : Program) (b : BinOp) (T : TypeId) (u v : Value) : Option Value :=
  match b, u, v, P.underlying T with
  | .eql, .slice (some _) _ _, .slice none _ _, some (.slice _) => some (.bool false)
  | .neq, .slice (some _) _ _, .slice none _ _, some (.slice _) => some (.bool true)
  | .eql, .map (some _), .map none, some (.map _ _) => some (.bool false)
  | .neq, .map (some _), .map none, some (.map _ _) => some (.bool true)
  | .eql, .func (.func _) _ _, .nilFunc, some (.func _ _ _) => some (.bool false)
  | .neq, .func (.func _) _ _, .nilFunc, some (.func _ _ _) => some (.bool true)
  | .eql, .pointer (some _), .pointer none, some (.pointer _) => some (.bool false)
  | .neq, .pointer (some _), .pointer none, some (.pointer _) => some (.bool true)
  | _, _, _, _ => none
noncomputable def oor {β : Type} (x y : Option β) : Option β := Option.rec (motive := fun _ => Option β) y (fun a => some a) x
theorem oor_some {β : Type} {x y : Option β} {b : β} (h : oor x y = some b) : x = some b ∨ y = some b := by
  cases x with
  | none => exact .inr h
  | some a => exact .inl h
/-- A number against one of which only a bound is known. -/
noncomputable def lbin (b : BinOp) (u v : Value) : Option Value :=
  match b, u, v with
  | .gtr, .int .i64 i, .chan (some k) => ocond (ileB i (Int.ofNat k)) (some (.bool false))
  | _, _, _ => none
theorem lbin_ok {P : Program} {b : BinOp} {T : TypeId} {x y : Operand} {u v r : Value} (h : lbin b u v = some r) {σ : Sg} {u' v' : Value} (hu : Rl σ u u') (hv : Rl σ v v') (w : World) :
    Rl σ r r ∧ (do eqGuard b T x y u' v'; binOp b T u' v' : Sem Value).run P w = .ok r w := by
  unfold lbin at h
  split at h
  · rename_i i k
    obtain ⟨h1, h2⟩ := ocond_some h
    cases h2
    rw [ileB_eq, decide_eq_true_eq] at h1
    rw [rl_int hu]
    cases hv
    · rename_i hp; simp [plain] at hp
    · rename_i m hm
      have e : ibin .gtr i (m : Int) = some (.bool false) := by
        show some (Value.bool (bnot (ileB i (m : Int)))) = _
        rw [ileB_eq, bnot_eq, decide_eq_true (by have : (Int.ofNat k : Int) = (k : Int) := rfl; omega : i ≤ (m : Int))]
        rfl
      obtain ⟨g1, g2⟩ := ibin_ok (x := x) (y := y) (T := T) (P := P) e w
      exact ⟨.sc g1, g2⟩
  · cases h
noncomputable def evBin (P : Program) (b : BinOp) (T : TypeId) (x y : Operand) (u v : Value) : Option Value :=
  match u, v with
  | .int .i64 i, .int .i64 j => oor (ibin b i j) (sbin P b T x y (.int .i64 i) (.int .i64 j))
  | u, v => oor (sbin P b T x y u v) (oor (nbin P b T u v) (lbin b u v))

theorem sbin_ok {P : Program} {b : BinOp} {T : TypeId} {x y : Operand} {u v r : Value} (h : sbin P b T x y u v = some r) {σ : Sg} {u' v' : Value} (hu : Rl σ u u') (hv : Rl σ v v') (w : World) :
    Rl σ r r ∧ (do eqGuard b T x y u' v'; binOp b T u' v' : Sem Value).run P w = .ok r w := by
  obtain ⟨h1, h⟩ := ocond_some h
  obtain ⟨h2, h⟩ := ocond_some h
  obtain ⟨r', h3, h⟩ := obind_some h
  obtain ⟨h4, h⟩ := ocond_some h
  cases h
  rw [hu.scal_eq h1, hv.scal_eq h2]
  exact ⟨scal_refl h4, still_run w _ h3⟩
theorem equal_at (T : TypeId) (u v : Value) : Op.equal T u v = Op.equalIn (9999 + 1) T u v := rfl
theorem eq_slice {P : Program} {T e : TypeId} (hT : P.underlying T = some (.slice e)) (a : Addr) (n c n' c' : Nat) (w : World) : (Op.equal T (.slice (some a) n c) (.slice none n' c')).run P w = .ok false w := by
  rw [equal_at, Op.equalIn]; simp only [Sem.run_bind, run_underlying hT, Result.andThen_ok, Sem.run_pure]
theorem eq_map {P : Program} {T k e : TypeId} (hT : P.underlying T = some (.map k e)) (a : Nat) (w : World) : (Op.equal T (.map (some a)) (.map none)).run P w = .ok false w := by
  rw [equal_at, Op.equalIn]; simp only [Sem.run_bind, run_underlying hT, Result.andThen_ok, Sem.run_pure]
theorem eq_ptr {P : Program} {T e : TypeId} (hT : P.underlying T = some (.pointer e)) (a : Addr) (w : World) : (Op.equal T (.pointer (some a)) (.pointer none)).run P w = .ok false w := by
  rw [equal_at, Op.equalIn]; simp only [Sem.run_bind, run_underlying hT, Result.andThen_ok, Sem.run_pure]
theorem eq_func {P : Program} {T : TypeId} {ps rs : Array TypeId} {va : Bool} (hT : P.underlying T = some (.func ps rs va)) (f : Fn) (a c : Array Value) (w : World) : (Op.equal T (.func f a c) .nilFunc).run P w = .ok false w := by
  rw [equal_at, Op.equalIn]; simp only [Sem.run_bind, run_underlying hT, Result.andThen_ok, Sem.run_pure]
theorem nbin_ok {P : Program} {b : BinOp} {T : TypeId} {x y : Operand} {u v r : Value} (h : nbin P b T u v = some r) {σ : Sg} {u' v' : Value} (hu : Rl σ u u') (hv : Rl σ v v') (w : World) :
    Rl σ r r ∧ (do eqGuard b T x y u' v'; binOp b T u' v' : Sem Value).run P w = .ok r w := by
  unfold nbin at h
  split at h
  all_goals first | (cases h; done) | (rename_i hT; cases h; have := hv.plain_eq rfl; subst this; refine ⟨.sc rfl, ?_⟩)
  all_goals
    cases hu <;> first | (rename_i hp; simp [plain] at hp; done) | (simp only [eqGuard, binOp, Sem.run_bind, Sem.run_pure, Result.andThen_ok, eq_slice hT]; simp; done) | (simp only [eqGuard, binOp, Sem.run_bind, Sem.run_pure, Result.andThen_ok, eq_map hT]; simp; done) | (simp only [eqGuard, binOp, Sem.run_bind, Sem.run_pure, Result.andThen_ok, eq_ptr hT]; simp; done) | (simp only [eqGuard, binOp, Sem.run_bind, Sem.run_pure, Result.andThen_ok, eq_func hT]; simp; done)

theorem evBin_ok {P : Program} {b : BinOp} {T : TypeId} {x y : Operand} {u v r : Value} (h : evBin P b T x y u v = some r) {σ : Sg} {u' v' : Value} (hu : Rl σ u u') (hv : Rl σ v v') (w : World) :
    Rl σ r r ∧ (do eqGuard b T x y u' v'; binOp b T u' v' : Sem Value).run P w = .ok r w := by
  unfold evBin at h
  split at h
  · rename_i i j
    rcases oor_some h with h | h
    · rw [rl_int hu, rl_int hv]
      obtain ⟨h1, h2⟩ := ibin_ok (x := x) (y := y) (T := T) (P := P) h w
      exact ⟨.sc h1, h2⟩
    · exact sbin_ok h hu hv w
  · rcases oor_some h with h | h
    · exact sbin_ok h hu hv w
    · rcases oor_some h with h | h
      · exact nbin_ok h hu hv w
      · exact lbin_ok h hu hv w

end Go.Ev
