/-
  The evaluator, part B: the memory told, and what becomes of it.
  Conditions: none; generic over the program.
-/
import Derived.Test.YtdpnadknaacinaaEvA
namespace Go.Ev
open Go.RowKit Go.Sx
set_option linter.unusedVariables false
set_option linter.unusedSimpArgs false

/-- How a body is left. -/
inductive Ex where
  | n
  | x (id : Nat)
  | r
def Ex.exit : Ex → Exit
  | .n => .normal
  | .x id => .exit id
  | .r => .ret
def Ex.jump : Ex → Option Code
  | .n => none
  | .x id => some (.exit id)
  | .r => some .ret

inductive Ob where
  /-- cells, all of them told -/
  | c (xs : List Value) (T : TypeId)
  /-- the cells told stand ahead; the block has room for more elements of z cells -/
  | g (xs : List Value) (T : TypeId) (z : Nat)
  /-- the block for a loop's deferred calls -/
  | d
  /-- a loop's record -/
  | l (st : LoopState) (pe : Ex) (n : Nat) (e : Tr Value) (ps : List Nat) (asg body : Code) (df : Nat)
  /-- a map -/
  | m (es : List (Value × Value × Nat)) (clock : Nat)

/-- The slots. -/
structure ER (σ : Sg) (e : Tr Value) (n : Nat) (tm : Array Value) : Prop where
  size : tm.size = n
  at_ : ∀ t v, e.get t = some v → ∃ x, Rl σ v x ∧ tm[t]? = some x

def MER (σ : Sg) (es : List (Value × Value × Nat)) (xs : List MapEntry) : Prop :=
  es.length = xs.length ∧ ∀ (i : Nat) (a : Value × Value × Nat) (x : MapEntry), es[i]? = some a → xs[i]? = some x → Rl σ a.1 x.key ∧ Rl σ a.2.1 x.val ∧ a.2.2 = x.born

def OR (σ : Sg) (w : World) (b r : Nat) : Ob → Prop
  | .c xs T => ∃ cs, RlL σ xs cs ∧ w.heap[b]? = some (.cells ⟨cs⟩ T (0, 0))
  | .g xs T z => ∃ cs rest, RlL σ xs cs ∧ w.heap[b]? = some (.cells ⟨cs ++ rest⟩ T (0, 0)) ∧ (cs ++ rest).length = r * z ∧ flat rest = true
  | .d => w.heap[b]? = some (.deferred (some []))
  | .l st pe n e ps asg body df => ∃ fn tm db dr, σ df = some (db, dr) ∧ ER σ e n tm ∧
      w.heap[b]? = some (.loop { state := st, pending := pe.jump, fn, tmps := tm, params := ⟨ps⟩, assign := asg, body, defers := db })
  | .m es clock => ∃ xs, MER σ es xs ∧ w.heap[b]? = some (.map ⟨xs⟩ clock)

/-- Where a run begins, and which blocks it leaves as they are. -/
structure Fen where
  w : World
  F : Nat → Prop
  lt : ∀ k, F k → k < w.heap.size
structure Kept (q : Fen) (w : World) : Prop where
  os : w.os = q.w.os
  tape : w.tape = q.w.tape
  output : w.output = q.w.output
  size : q.w.heap.size ≤ w.heap.size
  block : ∀ k, q.F k → w.heap[k]? = q.w.heap[k]?
theorem Kept.ext {q : Fen} {w w' : World} (h : Kept q w) (hb : Below w.heap.size w w') : Kept q w' :=
  ⟨hb.os.trans h.os, hb.tape.trans h.tape, hb.output.trans h.output, Nat.le_trans h.size hb.size, fun k hk => (hb.block k (Nat.lt_of_lt_of_le (q.lt k hk) h.size)).trans (h.block k hk)⟩
instance : Inhabited Fen := ⟨⟨default, fun _ => False, fun _ h => h.elim⟩⟩
/-- All that lies there stays as it is. -/
def Fen.all (w : World) : Fen := ⟨w, fun k => k < w.heap.size, fun _ h => h⟩
theorem Kept.below {w w' : World} (h : Kept (.all w) w') : Below w.heap.size w w' := ⟨h.os, h.tape, h.output, h.size, h.block⟩
theorem Kept.all (w : World) : Kept (.all w) w := ⟨rfl, rfl, rfl, Nat.le_refl _, fun _ _ => rfl⟩

/-- The memory h (by numbers of one's own) tells the world w; what w0 names has not changed, and no block that is told is among it. -/
structure HR (w0 : Fen) (σ : Sg) (h : Tr Ob) (w : World) : Prop where
  bel : Kept w0 w
  low : ∀ i b r, σ i = some (b, r) → b < w.heap.size
  ob : ∀ i b r o, σ i = some (b, r) → h.get i = some o → OR σ w b r o
  inj : ∀ i j b r r', σ i = some (b, r) → σ j = some (b, r') → (h.get i).isSome = true → (h.get j).isSome = true → i = j
  own : ∀ i b r, σ i = some (b, r) → (h.get i).isSome = true → ¬ w0.F b

theorem ER.mono {σ σ' : Sg} (hs : SLe σ σ') {e : Tr Value} {n : Nat} {tm : Array Value} (h : ER σ e n tm) : ER σ' e n tm :=
  ⟨h.size, fun t v hv => let ⟨x, h1, h2⟩ := h.at_ t v hv; ⟨x, h1.mono hs, h2⟩⟩
theorem MER.mono {σ σ' : Sg} (hs : SLe σ σ') {es : List (Value × Value × Nat)} {xs : List MapEntry} (h : MER σ es xs) : MER σ' es xs :=
  ⟨h.1, fun i a x ha hx => let ⟨h1, h2, h3⟩ := h.2 i a x ha hx; ⟨h1.mono hs, h2.mono hs, h3⟩⟩
theorem OR.mono {σ σ' : Sg} (hs : SLe σ σ') {w w' : World} {b r : Nat} (hw : w'.heap[b]? = w.heap[b]?) : ∀ {o : Ob}, OR σ w b r o → OR σ' w' b r o
  | .c xs T, ⟨cs, h1, h2⟩ => ⟨cs, h1.mono hs, hw.trans h2⟩
  | .g xs T z, ⟨cs, rest, h1, h2, h3⟩ => ⟨cs, rest, h1.mono hs, hw.trans h2, h3⟩
  | .d, h => by unfold OR at h ⊢; exact hw.trans h
  | .l st pe n e ps asg body df, ⟨fn, tm, db, dr, h1, h2, h3⟩ => ⟨fn, tm, db, dr, hs _ _ h1, h2.mono hs, hw.trans h3⟩
  | .m es clock, ⟨xs, h1, h2⟩ => ⟨xs, h1.mono hs, hw.trans h2⟩

section
variable {w0 : Fen} {w w' : World} {σ σ' : Sg} {h : Tr Ob}

/-- The world goes on; all that lay there lies as it lay. -/
theorem HR.ext (H : HR w0 σ h w) (hb : Below w.heap.size w w') : HR w0 σ h w' :=
  ⟨H.bel.ext hb, fun i b r hi => Nat.lt_of_lt_of_le (H.low i b r hi) hb.size,
   fun i b r o hi ho => (H.ob i b r o hi ho).mono (SLe.refl σ) (hb.block b (H.low i b r hi)), H.inj, H.own⟩

/-- A new block. -/
theorem HR.alloc (H : HR w0 σ h w) {n r : Nat} {o : Obj} {ob : Ob} (hn : σ n = none) (ho : ∀ σ', SLe σ σ' → OR σ' (w.alloc o) w.heap.size r ob) :
    HR w0 (upd σ n (w.heap.size, r)) (h.set (some ob) n) (w.alloc o) := by
  have hb := below_alloc w o
  have hle := upd_le (x := (w.heap.size, r)) hn
  refine ⟨H.bel.ext hb, ?_, ?_, ?_, ?_⟩
  · intro i b r' hi
    by_cases e : i = n
    · subst e
      rw [upd_same] at hi
      cases hi
      simp
    · rw [upd_other e] at hi
      exact Nat.lt_of_lt_of_le (H.low i b r' hi) hb.size
  · intro i b r' o' hi ho'
    rw [Tr.get_set] at ho'
    by_cases e : i = n
    · subst e
      rw [upd_same] at hi
      rw [if_pos rfl] at ho'
      cases hi; cases ho'
      exact ho _ hle
    · rw [upd_other e] at hi
      rw [if_neg e] at ho'
      exact (H.ob i b r' o' hi ho').mono hle (hb.block b (H.low i b r' hi))
  · intro i j b r1 r2 hi hj h1 h2
    rw [Tr.get_set] at h1 h2
    by_cases ei : i = n <;> by_cases ej : j = n
    · rw [ei, ej]
    · subst ei
      rw [upd_same] at hi
      rw [upd_other ej] at hj
      cases hi
      have := (H.low j _ _ hj)
      omega
    · subst ej
      rw [upd_same] at hj
      rw [upd_other ei] at hi
      cases hj
      have := (H.low i _ _ hi)
      omega
    · rw [upd_other ei] at hi
      rw [upd_other ej] at hj
      rw [if_neg ei] at h1
      rw [if_neg ej] at h2
      exact H.inj i j b r1 r2 hi hj h1 h2
  · intro i b r' hi h1 hF
    rw [Tr.get_set] at h1
    by_cases e : i = n
    · subst e
      rw [upd_same] at hi
      cases hi
      have := w0.lt _ hF
      have := H.bel.size
      omega
    · rw [upd_other e] at hi
      rw [if_neg e] at h1
      exact H.own i b r' hi h1 hF

/-- One block is written anew. -/
theorem HR.write (H : HR w0 σ h w) {i b r : Nat} {ob : Ob} (hi : σ i = some (b, r)) (hlive : (h.get i).isSome = true) (hsz : w'.heap.size = w.heap.size) (hos : w'.os = w.os) (htp : w'.tape = w.tape) (hout : w'.output = w.output)
    (hother : ∀ k, k ≠ b → w'.heap[k]? = w.heap[k]?) (ho : OR σ w' b r ob) : HR w0 σ (h.set (some ob) i) w' := by
  have hlow := H.low i b r hi
  refine ⟨⟨hos.trans H.bel.os, htp.trans H.bel.tape, hout.trans H.bel.output, by rw [hsz]; exact H.bel.size, fun k hk => (hother k (fun e => H.own i b r hi hlive (e ▸ hk))).trans (H.bel.block k hk)⟩, ?_, ?_, ?_, ?_⟩
  · intro j b' r' hj; rw [hsz]; exact H.low j b' r' hj
  · intro j b' r' o' hj ho'
    rw [Tr.get_set] at ho'
    by_cases e : j = i
    · subst e
      rw [if_pos rfl] at ho'
      rw [hi] at hj
      cases hj; cases ho'
      exact ho
    · rw [if_neg e] at ho'
      have hne : b' ≠ b := fun eb => by
        subst eb
        exact e (H.inj j i _ _ _ hj hi (by rw [ho']; rfl) hlive)
      exact (H.ob j b' r' o' hj ho').mono (SLe.refl σ) (hother b' hne)
  · intro j k b' r1 r2 hj hk h1 h2
    rw [Tr.get_set] at h1 h2
    refine H.inj j k b' r1 r2 hj hk ?_ ?_
    · by_cases e : j = i
      · subst e; exact hlive
      · rw [if_neg e] at h1; exact h1
    · by_cases e : k = i
      · subst e; exact hlive
      · rw [if_neg e] at h2; exact h2
  · intro j b' r' hj h1
    rw [Tr.get_set] at h1
    refine H.own j b' r' hj ?_
    by_cases e : j = i
    · subst e; exact hlive
    · rw [if_neg e] at h1; exact h1

/-- A block of which no more is said. -/
theorem HR.kill (H : HR w0 σ h w) (i : Nat) : HR w0 σ (h.set none i) w := by
  refine ⟨H.bel, H.low, ?_, ?_, ?_⟩
  · intro j b r o hj ho
    rw [Tr.get_set] at ho
    by_cases e : j = i
    · rw [if_pos e] at ho; cases ho
    · rw [if_neg e] at ho; exact H.ob j b r o hj ho
  · intro j k b r1 r2 hj hk h1 h2
    rw [Tr.get_set] at h1 h2
    refine H.inj j k b r1 r2 hj hk ?_ ?_
    · by_cases e : j = i
      · rw [if_pos e] at h1; cases h1
      · rw [if_neg e] at h1; exact h1
    · by_cases e : k = i
      · rw [if_pos e] at h2; cases h2
      · rw [if_neg e] at h2; exact h2
  · intro j b r hj h1
    rw [Tr.get_set] at h1
    refine H.own j b r hj ?_
    by_cases e : j = i
    · rw [if_pos e] at h1; cases h1
    · rw [if_neg e] at h1; exact h1
/-- .. and then it is changed. -/
theorem HR.lose (H : HR w0 σ h w) {i b r : Nat} (hi : σ i = some (b, r)) (hlive : (h.get i).isSome = true) (hsz : w'.heap.size = w.heap.size) (hos : w'.os = w.os) (htp : w'.tape = w.tape) (hout : w'.output = w.output)
    (hother : ∀ k, k ≠ b → w'.heap[k]? = w.heap[k]?) : HR w0 σ (h.set none i) w' := by
  have hlow := H.low i b r hi
  refine ⟨⟨hos.trans H.bel.os, htp.trans H.bel.tape, hout.trans H.bel.output, by rw [hsz]; exact H.bel.size, fun k hk => (hother k (fun e => H.own i b r hi hlive (e ▸ hk))).trans (H.bel.block k hk)⟩, ?_, ?_, (H.kill i).inj, (H.kill i).own⟩
  · intro j b' r' hj; rw [hsz]; exact H.low j b' r' hj
  · intro j b' r' o' hj ho'
    rw [Tr.get_set] at ho'
    by_cases e : j = i
    · rw [if_pos e] at ho'; cases ho'
    · rw [if_neg e] at ho'
      have hne : b' ≠ b := fun eb => by
        subst eb
        exact e (H.inj j i _ _ _ hj hi (by rw [ho']; rfl) hlive)
      exact (H.ob j b' r' o' hj ho').mono (SLe.refl σ) (hother b' hne)
end

/-! ### Operands and slots -/
noncomputable def evo (e : Tr Value) : Operand → Option Value
  | .tmp t => e.get t
  | .const v => Bool.rec (motive := fun _ => Option Value) none (some v) (scal v)
  | .func f => some (.func (.func f) ⟨[]⟩ ⟨[]⟩)
  | .global _ => none

theorem evo_ok {σ : Sg} {e : Tr Value} {n : Nat} {a : Act} (h : ER σ e n a.tmps) {x : Operand} {v : Value} (hx : evo e x = some v) : Rl σ v (a.eval x) := by
  cases x with
  | tmp t =>
    obtain ⟨y, h1, h2⟩ := h.at_ t v hx
    simpa [Act.eval, h2] using h1
  | const c =>
    have hx' : Bool.rec (motive := fun _ => Option Value) none (some c) (scal c) = some v := hx
    cases hs : scal c with
    | false => rw [hs] at hx'; cases hx'
    | true => rw [hs] at hx'; cases hx'; simpa [Act.eval] using scal_refl hs
  | func f => cases hx; exact .fn rfl (fun i a b h => by simp at h) rfl (fun i a b h => by simp at h)
  | global g => cases hx

noncomputable def evs (e : Tr Value) (l : List Operand) : Option (List Value) :=
  List.rec (motive := fun _ => Option (List Value)) (some []) (fun x _ ih => Option.rec (motive := fun _ => Option (List Value)) none (fun v => Option.rec (motive := fun _ => Option (List Value)) none (fun vs => some (v :: vs)) ih) (evo e x)) l
theorem evs_cons {e : Tr Value} {x : Operand} {l : List Operand} {vs : List Value} (h : evs e (x :: l) = some vs) : ∃ v us, vs = v :: us ∧ evo e x = some v ∧ evs e l = some us := by
  have h' : Option.rec (motive := fun _ => Option (List Value)) none (fun v => Option.rec (motive := fun _ => Option (List Value)) none (fun vs => some (v :: vs)) (evs e l)) (evo e x) = some vs := h
  cases hx : evo e x with
  | none => rw [hx] at h'; cases h'
  | some v =>
    rw [hx] at h'
    cases hl : evs e l with
    | none => rw [hl] at h'; cases h'
    | some us => rw [hl] at h'; cases h'; exact ⟨v, us, rfl, rfl, rfl⟩
theorem evs_ok {σ : Sg} {e : Tr Value} {n : Nat} {a : Act} (h : ER σ e n a.tmps) : ∀ {l : List Operand} {vs : List Value}, evs e l = some vs → RlL σ vs (l.map a.eval)
  | [], vs, hv => by cases hv; exact .nil σ
  | x :: l, vs, hv => by
    obtain ⟨v, us, rfl, h1, h2⟩ := evs_cons hv
    exact .cons (evo_ok h h1) (evs_ok h h2)

/-- A slot is written. -/
noncomputable def put (e : Tr Value) (d : Option Nat) (v : Value) : Tr Value := Option.rec (motive := fun _ => Tr Value) e (fun t => e.set (some v) t) d
theorem put_ok {σ : Sg} {e : Tr Value} {n : Nat} {a : Act} (h : ER σ e n a.tmps) {d : Option Nat} {v x : Value} (hd : ∀ t, d = some t → t < n) (hv : Rl σ v x) : ER σ (put e d v) n (a.put d x).tmps := by
  cases d with
  | none => simpa [put, Act.put] using h
  | some t =>
    have ht := hd t rfl
    refine ⟨by simp [Act.put, h.size], fun s u hu => ?_⟩
    have hu' : (e.set (some v) t).get s = some u := hu
    rw [Tr.get_set] at hu'
    by_cases e' : s = t
    · subst e'
      rw [if_pos rfl] at hu'
      cases hu'
      exact ⟨x, hv, by simp [Act.put, h.size, ht]⟩
    · rw [if_neg e'] at hu'
      obtain ⟨y, h1, h2⟩ := h.at_ s u hu'
      refine ⟨y, h1, ?_⟩
      simp only [Act.put]
      rw [Array.getElem?_setIfInBounds_ne (Ne.symm e')]
      exact h2

end Go.Ev
