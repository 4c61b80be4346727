/-
  A symbolic walk of my own over the model's regions: what the slots hold (a list), what the call's own blocks hold (a list), what the blocks that came in hold (a list); the world itself stays a name.
  Conditions: none; generic over the program.
-/
import Derived.WalkKit
import Derived.WalkSpells
import Derived.KernelRfl
import Derived.Laws.CopyRow
import Derived.ControlIn
import Derived.RangeFuncIn
import Derived.RangeFuncLeaves
import Derived.RangeFuncRecord
import Derived.Scope
import Derived.CallsIn
import Derived.TacticsIn
namespace Go.Sx
open Go.RowKit

abbrev Env := List (Nat × Value)
abbrev Blks := List (Nat × List Value × TypeId)
abbrev Args := List (Nat × List Value)

def get : Env → Nat → Option Value
  | [], _ => none
  | (k, v) :: r, t => bif Nat.beq k t then some v else get r t

def ev (l : Env) : Operand → Option Value
  | .tmp t => get l t
  | .const v => some v
  | .func f => some (.func (.func f) #[] #[])
  | .global _ => none

def holds (w : World) (b : Nat) (cs : List Value) (T : TypeId) : Prop := w.heap[b]? = some (.cells cs.toArray T (0, 0))
def reads (w : World) (b : Nat) (cs : List Value) : Prop := ∃ T fr, w.heap[b]? = some (.cells cs.toArray T fr)

/-- What a frame is like: how many slots, the marks among its deferred calls, the loop's record if it is a round, the blocks of before that it may write. -/
structure Cx where
  n : Nat
  marks : List Nat
  r : Option Nat
  wr : List Nat
  maps : List (Nat × Array MapEntry × Nat × Bool)

abbrev C0 (n : Nat) : Cx := ⟨n, [], none, [], []⟩

def Fr (r : Option Nat) : Fence := { Fence.wide with round := r }

def mark (D : Nat) : Deferred := { target := .collected D, args := #[] }

/-- What lay there lies as it lay, some blocks aside. -/
structure BelowX (S : List Nat) (w w' : World) : Prop where
  os : w'.os = w.os
  tape : w'.tape = w.tape
  output : w'.output = w.output
  size : w.heap.size ≤ w'.heap.size
  block : ∀ k, k < w.heap.size → k ∉ S → w'.heap[k]? = w.heap[k]?

theorem BelowX.refl (S : List Nat) (w : World) : BelowX S w w := ⟨rfl, rfl, rfl, Nat.le_refl _, fun _ _ _ => rfl⟩
theorem BelowX.trans {S : List Nat} {a b c : World} (h : BelowX S a b) (k : BelowX S b c) : BelowX S a c :=
  ⟨k.os.trans h.os, k.tape.trans h.tape, k.output.trans h.output, Nat.le_trans h.size k.size, fun i hi hS => (k.block i (Nat.lt_of_lt_of_le hi h.size) hS).trans (h.block i hi hS)⟩
theorem BelowX.of {S : List Nat} {a b : World} (h : Below a.heap.size a b) : BelowX S a b := ⟨h.os, h.tape, h.output, h.size, fun k hk _ => h.block k hk⟩
theorem BelowX.below {S : List Nat} {a b : World} (h : BelowX S a b) (hS : S = []) : Below a.heap.size a b := ⟨h.os, h.tape, h.output, h.size, fun k hk => h.block k hk (by simp [hS])⟩

/-- What else lies there: the marks of loops over functions, and maps (own: the call's own). -/
structure Mk (N : Cx) (w0 w : World) : Prop where
  marked : ∀ D ∈ N.marks, w.heap[D]? = some (.deferred (some [])) ∧ w0.heap.size ≤ D
  mapped : ∀ b es c own, (b, es, c, own) ∈ N.maps → w.heap[b]? = some (.map es c) ∧ (own = true → w0.heap.size ≤ b)
theorem Mk.nil {N : Cx} {w0 w : World} (h1 : N.marks = []) (h2 : N.maps = []) : Mk N w0 w := ⟨fun D hD => (by rw [h1] at hD; cases hD), fun b es c own hb => (by rw [h2] at hb; cases hb)⟩
theorem Mk.other {N : Cx} {w0 w w' : World} (h : Mk N w0 w) (ho : ∀ (b : Nat) (o : Obj), w.heap[b]? = some o → (∀ c T f, o ≠ .cells c T f) → w'.heap[b]? = some o) : Mk N w0 w' :=
  ⟨fun D hD => ⟨ho D _ (h.marked D hD).1 (by simp), (h.marked D hD).2⟩, fun b es c own hb => ⟨ho b _ (h.mapped b es c own hb).1 (by simp), (h.mapped b es c own hb).2⟩⟩

structure St (N : Cx) (w0 : World) (l : Env) (O : Blks) (A : Args) (a : Act) (w : World) : Prop where
  size : a.tmps.size = N.n
  noDef : a.defers = N.marks.map mark
  bel : BelowX N.wr w0 w
  env : ∀ t v, get l t = some v → a.tmps[t]? = some v
  own : ∀ (j b : Nat) (cs : List Value) (T : TypeId), O[j]? = some (b, cs, T) → holds w b cs T ∧ (w0.heap.size ≤ b ∨ b ∈ N.wr)
  nodup : (O.map (·.1)).Nodup
  arg : ∀ (j b : Nat) (cs : List Value), A[j]? = some (b, cs) → reads w b cs ∧ b < w0.heap.size ∧ b ∉ N.wr
  more : Mk N w0 w

theorem St.marked {N : Cx} {w0 : World} {l : Env} {O : Blks} {A : Args} {a : Act} {w : World} (h : St N w0 l O A a w) : ∀ D ∈ N.marks, w.heap[D]? = some (.deferred (some [])) ∧ w0.heap.size ≤ D := h.more.marked

section
variable {N : Cx} {w0 : World} {l : Env} {O : Blks} {A : Args} {a : Act} {w : World}

theorem lt_of_get {w : World} {b : Nat} {o : Obj} (h : w.heap[b]? = some o) : b < w.heap.size := by
  rcases Nat.lt_or_ge b w.heap.size with h1 | h1
  · exact h1
  · rw [Array.getElem?_eq_none h1] at h; cases h

theorem holds.lt {b cs T} (h : holds w b cs T) : b < w.heap.size := lt_of_get h
theorem reads.lt {b cs} (h : reads w b cs) : b < w.heap.size := by obtain ⟨T, fr, h⟩ := h; exact lt_of_get h

theorem St.eval (h : St N w0 l O A a w) {x : Operand} {v : Value} (hx : ev l x = some v) : a.eval x = v := by
  cases x with
  | tmp t => have := h.env t v hx; simp [Act.eval, this]
  | const c => simp only [ev, Option.some.injEq] at hx; simp [Act.eval, hx]
  | func f => simp only [ev, Option.some.injEq] at hx; simp [Act.eval, hx]
  | global g => simp [ev] at hx

theorem St.put (h : St N w0 l O A a w) {d : Nat} (hd : Nat.blt d N.n = true) (v : Value) : St N w0 ((d, v) :: l) O A (a.put (some d) v) w := by
  have hdN : d < N.n := by simpa [Nat.blt_eq] using hd
  refine ⟨?_, h.noDef, h.bel, ?_, h.own, h.nodup, h.arg, h.more⟩
  · simp [Act.put, h.size]
  · intro t u hu
    simp only [get] at hu
    by_cases e : d = t
    · subst e
      rw [Nat.beq_refl] at hu
      simp only [cond_true, Option.some.injEq] at hu
      subst hu
      simp [Act.put, h.size, hdN]
    · have : Nat.beq d t = false := by
        cases hb : Nat.beq d t with
        | false => rfl
        | true => exact absurd (Nat.eq_of_beq_eq_true hb) e
      rw [this] at hu
      simp only [cond_false] at hu
      have := h.env t u hu
      simp only [Act.put]
      rw [Array.getElem?_setIfInBounds_ne e]
      exact this

theorem St.put_none (h : St N w0 l O A a w) (v : Value) : St N w0 l O A (a.put none v) w := by
  simpa [Act.put] using h

/-- The world goes on; all that lay there lies as it lay. -/
theorem St.ext (h : St N w0 l O A a w) {w' : World} (hb : Below w.heap.size w w') : St N w0 l O A a w' := by
  have hs : w0.heap.size ≤ w.heap.size := h.bel.size
  refine ⟨h.size, h.noDef, h.bel.trans (.of hb), h.env, ?_, h.nodup, ?_, h.more.other (fun b o hbo _ => (hb.block b (lt_of_get hbo)).trans hbo)⟩
  · intro j b cs T hj
    obtain ⟨h1, h2⟩ := h.own j b cs T hj
    exact ⟨by unfold holds; rw [hb.block b h1.lt]; exact h1, h2⟩
  · intro j b cs hj
    obtain ⟨⟨T, fr, h1⟩, h2⟩ := h.arg j b cs hj
    exact ⟨⟨T, fr, by rw [hb.block b (lt_of_get h1)]; exact h1⟩, h2⟩

/-- New blocks come to the list. -/
theorem St.news (h : St N w0 l O A a w) {w' : World} (hb : Below w.heap.size w w') (B : Blks)
    (hB : ∀ (b : Nat) (cs : List Value) (T : TypeId), (b, cs, T) ∈ B → holds w' b cs T ∧ w.heap.size ≤ b) (hn : (B.map (·.1)).Nodup) : St N w0 l (B ++ O) A a w' := by
  have h' := h.ext hb
  have hs : w0.heap.size ≤ w.heap.size := h.bel.size
  refine ⟨h'.size, h'.noDef, h'.bel, h'.env, ?_, ?_, h'.arg, h'.more⟩
  · intro j b cs T hj
    rcases Nat.lt_or_ge j B.length with hl | hl
    · rw [List.getElem?_append_left hl] at hj
      obtain ⟨h1, h2⟩ := hB b cs T (List.mem_of_getElem? hj)
      exact ⟨h1, .inl (Nat.le_trans hs h2)⟩
    · rw [List.getElem?_append_right hl] at hj
      exact h'.own _ b cs T hj
  · rw [List.map_append, List.nodup_append]
    refine ⟨hn, h.nodup, ?_⟩
    intro x hx y hy e
    subst e
    obtain ⟨⟨b, cs, T⟩, hm, rfl⟩ := List.mem_map.1 hx
    obtain ⟨⟨b', cs', T'⟩, hm', e'⟩ := List.mem_map.1 hy
    obtain ⟨j, hj⟩ := List.mem_iff_getElem?.1 hm'
    have h1 := (hB b cs T hm).2
    have h2 := (h.own j b' cs' T' hj).1.lt
    simp only at e'
    omega

theorem below_alloc (w : World) (o : Obj) : Below w.heap.size w (w.alloc o) := (Below.refl _ _).alloc (Nat.le_refl _) _

theorem heap_new (w : World) (o : Obj) : (w.alloc o).heap[w.heap.size]? = some o := heap_alloc_new w o

theorem nodup_set : ∀ (O : Blks) (j b : Nat) (cs cs' : List Value) (T : TypeId), O[j]? = some (b, cs, T) → (O.set j (b, cs', T)).map (·.1) = O.map (·.1)
  | [], j, b, cs, cs', T, h => by simp at h
  | x :: O, 0, b, cs, cs', T, h => by simp at h; subst h; simp
  | x :: O, j + 1, b, cs, cs', T, h => by
    simp only [List.getElem?_cons_succ] at h
    simp [nodup_set O j b cs cs' T h]

/-- A block of the call's own is written anew. -/
theorem St.setRow (h : St N w0 l O A a w) (j b : Nat) (cs cs' : List Value) (T : TypeId) (hj : O[j]? = some (b, cs, T)) : St N w0 l (O.set j (b, cs', T)) A a (w.setRow b cs'.toArray) := by
  obtain ⟨h1, h2⟩ := h.own j b cs T hj
  have hother : ∀ k, k ≠ b → (w.setRow b cs'.toArray).heap[k]? = w.heap[k]? := fun k hk => setRow_other w b k _ hk
  have hsize : (w.setRow b cs'.toArray).heap.size = w.heap.size := by simp [World.setRow]
  refine ⟨h.size, h.noDef, ?_, h.env, ?_, by rw [nodup_set O j b cs cs' T hj]; exact h.nodup, ?_, ?_⟩
  · exact ⟨h.bel.os, h.bel.tape, h.bel.output, by rw [hsize]; exact h.bel.size, fun k hk hS => (hother k (by
      intro e
      subst e
      rcases h2 with h2 | h2
      · omega
      · exact hS h2)).trans (h.bel.block k hk hS)⟩
  · intro i b' cs'' T' hi
    rw [List.getElem?_set] at hi
    by_cases e : j = i
    · subst e
      have hlt : j < O.length := by
        rcases Nat.lt_or_ge j O.length with h3 | h3
        · exact h3
        · rw [List.getElem?_eq_none h3] at hj; cases hj
      simp only [if_true, hlt] at hi
      simp only [Option.some.injEq, Prod.mk.injEq] at hi
      obtain ⟨rfl, rfl, rfl⟩ := hi
      exact ⟨setRow_heap w b cs.toArray cs'.toArray T _ h1, h2⟩
    · rw [if_neg e] at hi
      obtain ⟨h3, h4⟩ := h.own i b' cs'' T' hi
      have hne : b' ≠ b := by
        intro e'
        subst e'
        have := h.nodup
        have g1 : (O.map (·.1))[i]? = some b' := by simp [hi]
        have g2 : (O.map (·.1))[j]? = some b' := by simp [hj]
        have hli : i < (O.map (·.1)).length := by
          rcases Nat.lt_or_ge i (O.map (·.1)).length with h5 | h5
          · exact h5
          · rw [List.getElem?_eq_none h5] at g1; cases g1
        exact e (((List.getElem?_inj hli this).1 (g1.trans g2.symm)).symm)
      exact ⟨by unfold holds; rw [hother b' hne]; exact h3, h4⟩
  · intro i b' cs'' hi
    obtain ⟨⟨T', fr, h3⟩, h4⟩ := h.arg i b' cs'' hi
    have hne : b' ≠ b := by
      intro e
      subst e
      rcases h2 with h2 | h2
      · omega
      · exact h4.2 h2
    exact ⟨⟨T', fr, by rw [hother b' hne]; exact h3⟩, h4⟩
  · refine h.more.other (fun k o hk hne => ?_)
    have hkb : k ≠ b := by
      intro e
      subst e
      unfold holds at h1
      rw [h1] at hk
      simp only [Option.some.injEq] at hk
      exact hne _ _ _ hk.symm
    exact (hother k hkb).trans hk

end

/-! ### One operation: it yields a value; what lay there lies as it lay. -/

/-- What an operation yields: by a ghost s, the value and the new blocks. -/
def Res {σ : Type} (val : σ → Value) (blks : σ → Blks) (ok : σ → Prop) (w : World) (v : Value) (w' : World) : Prop :=
  ∃ s, v = val s ∧ ok s ∧ (∀ (b : Nat) (cs : List Value) (T : TypeId), (b, cs, T) ∈ blks s → holds w' b cs T ∧ w.heap.size ≤ b) ∧ ((blks s).map (·.1)).Nodup

def pv (x : Value) (_ : World) (v : Value) (_ : World) : Prop := v = x

section
variable (P : Program) (N : Cx) (w0 : World)

def OpV (l : Env) (O : Blks) (A : Args) (o : Oper) (φ : World → Value → World → Prop) : Prop :=
  ∀ a w, St N w0 l O A a w → ∀ (K : Act → World → Prop) (Q : Exit → Act → World → Prop),
    (∀ v w', Below w.heap.size w w' → φ w v w' → K (a.put o.dst v) w') → o.wpIn (Fr N.r) 0 P a w K Q

/-- The region's operations that are left. -/
def OkL (ops : Array Oper) (Q : Exit → Act → World → Prop) (is : List Nat) (l : Env) (O : Blks) (A : Args) : Prop :=
  ∀ a w, St N w0 l O A a w → wpOpsIn (Fr N.r) 0 P ops Q is a w

def OkC (c : Code) (Q : Exit → Act → World → Prop) (l : Env) (O : Blks) (A : Args) : Prop :=
  ∀ a w, St N w0 l O A a w → c.wpIn (Fr N.r) 0 P Q a w
end

section
variable {P : Program} {N : Cx} {w0 : World} {l : Env} {O : Blks} {A : Args} {o : Oper} {ops : Array Oper} {Q : Exit → Act → World → Prop} {is : List Nat}

theorem callsIn_fr {r : Option Nat} {n : Nat} {f : FuncId} {args : Array Value} {w : World} {R : Ending → World → Prop} (h : Calls P f args w R) : CallsIn (Fr r) n P f args w R := (callsIn_wide (n := n)).2 h

/-- A step that is no 'defer' goes in a round as it goes anywhere. -/
theorem opIn_of {a : Act} {w : World} {K : Act → World → Prop} (hd : ∀ c, o.op ≠ .defer c)
    (h : match (execOp a.eval o).run P w with
      | .ok (.value v) w' => K (a.put o.dst v) w'
      | .ok .skip w' => K (a.put o.dst undef) w'
      | .ok (.enter f args) w' => Calls P f args w' fun
          | .returned v, w'' => K (a.put o.dst v) w''
          | .panicked chain, w'' => Q (.panic chain) a w''
          | .outgrown, _ => LetsOut Q
      | _ => False) {r : Option Nat} : o.wpIn (Fr r) 0 P a w K Q := by
  refine ⟨fun _ _ => trivial, ?_⟩
  rw [Oper.semAt_eq _ _ _ hd]
  revert h
  generalize (execOp a.eval o).run P w = R
  intro h
  match R, h with
  | .ok (.value v) w', h => exact h
  | .ok .skip w', h => exact h
  | .ok (.enter f args) w', h =>
    show ((Fr r).depth.isSome = true → 1 ≤ 0) ∧ _
    refine ⟨fun h' => absurd h' (by simp [Fr, Fence.wide]), callsIn_fr (Calls.mono h ?_)⟩
    intro e w hR
    cases e <;> exact hR
  | .ok (.defer _) _, h => exact h.elim
  | .ok (.row _ _) _, h => exact h.elim
  | .ok (.round _ _ _ _ _) _, h => exact h.elim
  | .halt _ _, h => exact h.elim

theorem opv_run {x : Value} (h : ∀ a w, St N w0 l O A a w → (execOp a.eval o).run P w = .ok (.value x) w) (hd : ∀ c, o.op ≠ .defer c := by intro c h; simp_all) : OpV P N w0 l O A o (pv x) := by
  intro a w hs K Q hK
  refine opIn_of hd ?_
  rw [h a w hs]
  exact hK x w (Below.refl _ _) rfl

theorem opv_new {mk : Nat → Value} {cs : List Value} {T : TypeId}
    (h : ∀ a w, St N w0 l O A a w → (execOp a.eval o).run P w = .ok (.value (mk w.heap.size)) (w.alloc (.cells cs.toArray T))) (hd : ∀ c, o.op ≠ .defer c := by intro c h; simp_all) :
    OpV P N w0 l O A o (Res mk (fun b => [(b, cs, T)]) (fun _ => True)) := by
  intro a w hs K Q hK
  refine opIn_of hd ?_
  rw [h a w hs]
  refine hK _ _ (below_alloc w _) ⟨w.heap.size, rfl, trivial, ?_, by simp⟩
  intro b cs' T' hm
  simp only [List.mem_singleton, Prod.mk.injEq] at hm
  obtain ⟨rfl, rfl, rfl⟩ := hm
  exact ⟨heap_new w _, Nat.le_refl _⟩

/-! ### The region, in the order of the text -/

def wantsB (ops : Array Oper) (l : Env) (o : Oper) : Option Bool :=
  match o.guard with
  | none => some true
  | some (j, c) =>
    match (ops[j]?).bind (·.dst) with
    | none => none
    | some d => match get l d with
      | some (.bool x) => some (match c, x with | true, y => y | false, y => !y)
      | some _ => some false
      | none => none

theorem wanted_of {a : Act} {w : World} {r : Bool} (hs : St N w0 l O A a w) (h : wantsB ops l o = some r) : Region.wanted o (yielded ops a.tmps) = r := by
  unfold wantsB at h
  unfold Region.wanted
  cases hg : o.guard with
  | none => rw [hg] at h; simpa using h
  | some p =>
    obtain ⟨j, c⟩ := p
    rw [hg] at h
    simp only at h ⊢
    cases hd : (ops[j]?).bind (·.dst) with
    | none => rw [hd] at h; simp at h
    | some d =>
      rw [hd] at h
      simp only at h
      cases hv : get l d with
      | none => rw [hv] at h; simp at h
      | some v =>
        rw [hv] at h
        have ht := hs.env d v hv
        by_cases hbv : ∃ x, v = .bool x
        · obtain ⟨x, rfl⟩ := hbv
          simp only [Option.some.injEq] at h
          subst h
          have : yielded ops a.tmps j = some x := by simp [yielded, hd, ht]
          rw [this]
          cases c <;> cases x <;> rfl
        · have h2 : some false = some r := by
            rw [← h]
            cases v <;> first | exact absurd ⟨_, rfl⟩ hbv | rfl
          simp only [Option.some.injEq] at h2
          subst h2
          have : yielded ops a.tmps j = none := by
            cases v <;> first | exact absurd ⟨_, rfl⟩ hbv | simp [yielded, hd, ht]
          rw [this]
          rfl

theorem okl_nil (h : ∀ a w, St N w0 l O A a w → Q .normal a w) : OkL P N w0 ops Q [] l O A := fun a w hs => h a w hs

theorem okl_v {i d : Nat} {x : Value} (ho : ops[i]? = some o) (hg : wantsB ops l o = some true) (hd : o.dst = some d) (hN : Nat.blt d N.n = true)
    (h : OpV P N w0 l O A o (pv x)) (rest : OkL P N w0 ops Q is ((d, x) :: l) O A) : OkL P N w0 ops Q (i :: is) l O A := by
  intro a w hs
  simp only [wpOpsIn, ho, wanted_of hs hg, if_true]
  refine h a w hs _ _ ?_
  intro v w' hb hv
  subst hv
  rw [hd]
  exact rest _ _ ((hs.ext hb).put hN _)

theorem okl_skip {i d : Nat} (ho : ops[i]? = some o) (hg : wantsB ops l o = some false) (hd : o.dst = some d) (hN : Nat.blt d N.n = true)
    (rest : OkL P N w0 ops Q is ((d, undef) :: l) O A) : OkL P N w0 ops Q (i :: is) l O A := by
  intro a w hs
  simp only [wpOpsIn, ho, wanted_of hs hg, Bool.false_eq_true, if_false]
  rw [hd]
  exact ⟨fun _ _ => trivial, rest _ _ (hs.put hN _)⟩

theorem okl_r {i d : Nat} {σ : Type} {val : σ → Value} {blks : σ → Blks} {ok : σ → Prop} (ho : ops[i]? = some o) (hg : wantsB ops l o = some true) (hd : o.dst = some d) (hN : Nat.blt d N.n = true)
    (h : OpV P N w0 l O A o (Res val blks ok)) (rest : ∀ s, ok s → OkL P N w0 ops Q is ((d, val s) :: l) (blks s ++ O) A) : OkL P N w0 ops Q (i :: is) l O A := by
  intro a w hs
  simp only [wpOpsIn, ho, wanted_of hs hg, if_true]
  refine h a w hs _ _ ?_
  rintro v w' hb ⟨s, rfl, hok, hB, hn⟩
  rw [hd]
  exact rest s hok _ _ ((hs.news hb (blks s) hB hn).put hN _)

/-! ### Code -/

theorem okc_seq {x y : Code} (h : OkC P N w0 x (Exit.then (y.wpIn (Fr N.r) 0 P Q) Q) l O A) : OkC P N w0 (.seq x y) Q l O A := fun a w hs => wpIn_seq (h a w hs)

theorem okc_region {id : Nat} (h : OkL P N w0 ops Q (List.range ops.size) l O A) : OkC P N w0 (.region id ops false) Q l O A := fun a w hs => wpIn_region (h a w hs)

theorem okc_then {c : Code} {Q' : Exit → Act → World → Prop} (h : OkC P N w0 c Q' l O A) : ∀ a w, St N w0 l O A a w → Exit.then (c.wpIn (Fr N.r) 0 P Q') Q .normal a w := fun a w hs => h a w hs

theorem okc_cond {c : Operand} {x y : Code} {t : Bool} (hc : ev l c = some (.bool t)) (ht : t = true → OkC P N w0 x Q l O A) (hf : t = false → OkC P N w0 y Q l O A) :
    OkC P N w0 (.cond c x y) Q l O A := by
  intro a w hs
  cases t with
  | true => exact wpIn_cond_true (hs.eval hc) (ht rfl a w hs)
  | false => exact wpIn_cond_false (hs.eval hc) (hf rfl a w hs)

theorem okc_skip (h : ∀ a w, St N w0 l O A a w → Q .normal a w) : OkC P N w0 .skip Q l O A := fun a w hs => wpIn_skip (h a w hs)
theorem okc_block {id : Nat} {c : Code} (h : OkC P N w0 c (Exit.inBlock id Q) l O A) : OkC P N w0 (.block id c) Q l O A := fun a w hs => wpIn_block (h a w hs)
theorem okc_exit {id : Nat} (h : ∀ a w, St N w0 l O A a w → Q (.exit id) a w) : OkC P N w0 (.exit id) Q l O A := fun a w hs => wpIn_exit (h a w hs)
theorem okc_ret (h : ∀ a w, St N w0 l O A a w → Q .ret a w) : OkC P N w0 .ret Q l O A := fun a w hs => wpIn_ret (h a w hs)

/-- A loop: at each head the state is one of a family. -/
theorem okc_loop {c : Code} {γ : Type} (lf : γ → Env) (Of : γ → Blks) (good : γ → Prop) (μ : γ → Nat) (g0 : γ) (h0 : good g0)
    (start : ∀ a w, St N w0 l O A a w → St N w0 (lf g0) (Of g0) A a w)
    (round : ∀ g, good g → OkC P N w0 c (Exit.then (fun a w => ∃ g', good g' ∧ μ g' < μ g ∧ St N w0 (lf g') (Of g') A a w) Q) (lf g) (Of g) A) :
    OkC P N w0 (.loop c) Q l O A := by
  intro a w hs b k cs hro hb hr
  have key : ∀ n (g : γ), μ g = n → good g → ∀ a w, St N w0 (lf g) (Of g) A a w →
      ∃ e a' w', Q e a' w' ∧ ArrivesIn (Machine.fenced P (Fr N.r)) P (lone (b.atR a (.code c :: .inLoop c :: k)) cs w) b k cs e a' w' := by
    intro n
    induction n using Nat.strongRecOn with
    | _ n ih =>
      intro g hn hg a w hs
      obtain ⟨e, a₁, w₁, hq, harr⟩ := round g hg a w hs b (.inLoop c :: k) cs hro hb hr
      cases e with
      | normal =>
        obtain ⟨g', hg', hlt, hs'⟩ := hq
        obtain ⟨e₂, a₂, w₂, hq₂, harr₂⟩ := ih (μ g') (hn ▸ hlt) g' rfl hg' a₁ w₁ hs'
        exact ⟨e₂, a₂, w₂, hq₂, .of_steps (StepsIn.trans harr (.one (fenced_calm hb hr rfl) stepR_inLoop)) harr₂⟩
      | exit id => exact ⟨_, a₁, w₁, hq, .pass (x := .inLoop c) rfl (fun _ _ => .inl (by simp)) harr⟩
      | goto l => exact ⟨_, a₁, w₁, hq, .pass (x := .inLoop c) rfl (fun _ _ => .inl (by simp)) harr⟩
      | ret => exact ⟨_, a₁, w₁, hq, .pass (x := .inLoop c) rfl (fun _ _ => .inl (by simp)) harr⟩
      | panic ch => exact ⟨_, a₁, w₁, hq, .pass (x := .inLoop c) rfl (fun _ _ => .inl (by simp)) harr⟩
      | outgrown => exact ⟨_, a₁, w₁, hq, .pass (x := .inLoop c) rfl (fun _ _ => .inl (by simp)) harr⟩
  obtain ⟨e, a', w', hq, harr⟩ := key _ g0 rfl h0 a w (start a w hs)
  exact ⟨e, a', w', hq, .of_steps (.one (fenced_calm hb hr rfl) stepR_loop) harr⟩
end

/-! ### The rules, operation by operation -/
section
variable {P : Program} {N : Cx} {w0 : World} {l : Env} {O : Blks} {A : Args} {o : Oper} {ops : Array Oper} {Q : Exit → Act → World → Prop} {is : List Nat}

theorem op_move {x : Operand} {v : Value} (ho : o.op = .move x) (hx : ev l x = some v) : OpV P N w0 l O A o (pv v) :=
  opv_run fun a w hs => by simp [execOp, ho, hs.eval hx]
theorem op_assign {x : Operand} {v : Value} (ho : o.op = .assign x) (hx : ev l x = some v) : OpV P N w0 l O A o (pv v) :=
  opv_run fun a w hs => by simp [execOp, ho, hs.eval hx]
theorem op_pick_t {c x y : Operand} {v : Value} (ho : o.op = .pick c x y) (hc : ev l c = some (.bool true)) (hx : ev l x = some v) : OpV P N w0 l O A o (pv v) :=
  opv_run fun a w hs => by simp [execOp, ho, hs.eval hx, hs.eval hc, asBool]
theorem op_pick_f {c x y : Operand} {v : Value} (ho : o.op = .pick c x y) (hc : ev l c = some (.bool false)) (hx : ev l y = some v) : OpV P N w0 l O A o (pv v) :=
  opv_run fun a w hs => by simp [execOp, ho, hs.eval hx, hs.eval hc, asBool]

def cmpB : BinOp → Int → Int → Option Bool
  | .eql, a, b => some (decide (a = b))
  | .neq, a, b => some (decide (a ≠ b))
  | .lss, a, b => some (decide (a < b))
  | .leq, a, b => some (decide (a ≤ b))
  | .gtr, a, b => some (decide (b < a))
  | .geq, a, b => some (decide (b ≤ a))
  | _, _, _ => none

theorem op_cmp {b : BinOp} {T T' : TypeId} {x y : Operand} {k : IntKind} {i j : Int} {r : Bool} (ho : o.op = .binOp b T x y T') (hx : ev l x = some (.int k i)) (hy : ev l y = some (.int k j)) (hr : cmpB b i j = some r) :
    OpV P N w0 l O A o (pv (.bool r)) :=
  opv_run fun a w hs => by
    cases b <;> simp only [cmpB, Option.some.injEq, reduceCtorEq] at hr <;> subst hr <;> simp [execOp, ho, hs.eval hx, hs.eval hy, eqGuard, binOp, Op.intCmp] <;> (rw [Bool.eq_iff_iff]; simp)

def ariB : BinOp → IntKind → Int → Int → Option Int
  | .add, k, a, b => some (k.wrap (a + b))
  | .sub, k, a, b => some (k.wrap (a - b))
  | .mul, k, a, b => some (k.wrap (a * b))
  | _, _, _, _ => none

theorem op_ari {b : BinOp} {T T' : TypeId} {x y : Operand} {k : IntKind} {i j r : Int} (ho : o.op = .binOp b T x y T') (hx : ev l x = some (.int k i)) (hy : ev l y = some (.int k j)) (hr : ariB b k i j = some r) :
    OpV P N w0 l O A o (pv (.int k r)) :=
  opv_run fun a w hs => by
    cases b <;> simp only [ariB, Option.some.injEq, reduceCtorEq] at hr <;> subst hr <;> simp [execOp, ho, hs.eval hx, hs.eval hy, eqGuard, binOp, Op.intArith]

theorem op_not {T : TypeId} {x : Operand} {r : Bool} (ho : o.op = .unOp .not T x) (hx : ev l x = some (.bool r)) : OpV P N w0 l O A o (pv (.bool (!r))) :=
  opv_run fun a w hs => by simp [execOp, ho, hs.eval hx, Op.unary]

theorem op_extract {x : Operand} {i : Nat} {vs : Array Value} {v : Value} (ho : o.op = .extract x i) (hx : ev l x = some (.tuple vs)) (hv : vs[i]? = some v) : OpV P N w0 l O A o (pv v) :=
  opv_run fun a w hs => by simp [execOp, ho, hs.eval hx, Instr.extract, hv]

/-- Where field k of struct type S lies. -/
def fieldOff (P : Program) (S k : Nat) : Option Nat :=
  match P.underlying S with
  | some (.struct fs) => match fs[k]? with
    | some f => match P.info? f.type with
      | some i => if i.size = 0 then none else some f.offset
      | none => none
    | none => none
  | _ => none

theorem op_fieldAddr {S k δ b off : Nat} {x : Operand} (ho : o.op = .fieldAddr S x k) (hx : ev l x = some (.pointer (some ⟨b, off, none⟩))) (hf : fieldOff P S k = some δ) :
    OpV P N w0 l O A o (pv (.pointer (some ⟨b, off + δ, none⟩))) :=
  opv_run fun a w hs => by
    unfold fieldOff at hf
    split at hf
    · rename_i fs hu
      split at hf
      · rename_i f hk
        split at hf
        · rename_i i hi
          split at hf
          · cases hf
          · rename_i hz
            simp only [Option.some.injEq] at hf
            subst hf
            have hadd : (⟨b, off, none⟩ : Addr).add f.offset = ⟨b, off + f.offset, none⟩ := by unfold Addr.add; split <;> simp_all
            simp [execOp, ho, hs.eval hx, Instr.fieldAt, run_underlying hu, hk, Instr.sureAddr, fieldPlace, sizeOf, typeInfo, hi, hz, hadd]
        · cases hf
      · cases hf
    · cases hf

def isAggB (P : Program) (T : Nat) : Option Bool :=
  match P.underlying T with
  | some (.struct _) => some true
  | some (.array _ _) => some true
  | some _ => some false
  | none => none
def sizeB (P : Program) (T : Nat) : Option Nat := (P.info? T).map (·.size)

theorem run_isAgg {T : Nat} {r : Bool} (h : isAggB P T = some r) (w : World) : (isAgg T).run P w = .ok r w := by
  unfold isAggB at h
  unfold isAgg
  cases hu : P.underlying T with
  | none => rw [hu] at h; cases h
  | some d => rw [Sem.run_bind, run_underlying hu w]; rw [hu] at h; cases d <;> simp_all

theorem run_sizeOf {T n : Nat} (h : sizeB P T = some n) (w : World) : (sizeOf T).run P w = .ok n w := by
  unfold sizeB at h
  cases hi : P.info? T with
  | none => rw [hi] at h; cases h
  | some i => rw [hi] at h; simp at h; simp [sizeOf, typeInfo, hi, h]

theorem add_lit (b off j : Nat) : (⟨b, off, none⟩ : Addr).add j = ⟨b, off + j, none⟩ := by unfold Addr.add; split <;> simp_all

theorem run_load1 {w : World} {b off T : Nat} {cs : List Value} {fr : Nat × Nat} {v : Value} {Ty : Nat} (hg : w.heap[b]? = some (.cells cs.toArray T fr)) (ha : isAggB P Ty = some false) (hv : cs[off]? = some v) :
    (Instr.loadAt Ty (.pointer (some ⟨b, off, none⟩))).run P w = .ok v w := by
  have hc : w.cell? ⟨b, off, none⟩ = some v := by rw [cell_of_row w b off _ T fr hg]; simpa using hv
  simp [Instr.loadAt, Instr.sureAddr, loadVar, run_isAgg ha, hc]

theorem run_loadN {w : World} {b off T n : Nat} {cs : List Value} {fr : Nat × Nat} {Ty : Nat} (hg : w.heap[b]? = some (.cells cs.toArray T fr)) (ha : isAggB P Ty = some true) (hn : sizeB P Ty = some n) (hl : off + n ≤ cs.length) :
    (Instr.loadAt Ty (.pointer (some ⟨b, off, none⟩))).run P w = .ok (.agg ((cs.drop off).take n).toArray) w := by
  have hlc := run_loadCells_list (P := P) w ⟨b, off, none⟩ ((cs.drop off).take n) (fun j v hv => by
    rw [add_lit, cell_of_row w b _ _ T fr hg]
    rw [List.getElem?_take] at hv
    split at hv
    · simpa using hv
    · cases hv)
  have e : ((cs.drop off).take n).length = n := by simp; omega
  rw [e] at hlc
  simp [Instr.loadAt, Instr.sureAddr, loadVar, run_isAgg ha, run_sizeOf hn, hlc]

/-- n cells from off on, all of them there. -/
def sub (cs : List Value) (off n : Nat) : List Value := (cs.drop off).take n

theorem op_load1 {j b off Ty : Nat} {T : TypeId} {cs : List Value} {x : Operand} {v : Value} (ho : o.op = .load Ty x) (hx : ev l x = some (.pointer (some ⟨b, off, none⟩)))
    (hj : O[j]? = some (b, cs, T)) (ha : isAggB P Ty = some false) (hv : cs[off]? = some v) : OpV P N w0 l O A o (pv v) :=
  opv_run fun a w hs => by
    have := run_load1 (P := P) (hs.own j b cs T hj).1 ha hv
    simp [execOp, ho, hs.eval hx, this]
theorem op_loadA1 {j b off Ty : Nat} {cs : List Value} {x : Operand} {v : Value} (ho : o.op = .load Ty x) (hx : ev l x = some (.pointer (some ⟨b, off, none⟩)))
    (hj : A[j]? = some (b, cs)) (ha : isAggB P Ty = some false) (hv : cs[off]? = some v) : OpV P N w0 l O A o (pv v) :=
  opv_run fun a w hs => by
    obtain ⟨T, fr, h1⟩ := (hs.arg j b cs hj).1
    have := run_load1 (P := P) h1 ha hv
    simp [execOp, ho, hs.eval hx, this]
/-- A whole block. -/
theorem op_loadW {j b Ty n : Nat} {T : TypeId} {cs : List Value} {x : Operand} (ho : o.op = .load Ty x) (hx : ev l x = some (.pointer (some ⟨b, 0, none⟩)))
    (hj : O[j]? = some (b, cs, T)) (ha : isAggB P Ty = some true) (hn : sizeB P Ty = some n) (hl : cs.length = n) : OpV P N w0 l O A o (pv (.agg cs.toArray)) :=
  opv_run fun a w hs => by
    have := run_loadN (P := P) (hs.own j b cs T hj).1 ha hn (by omega : 0 + n ≤ cs.length)
    simp [execOp, ho, hs.eval hx, this, ← hl]
/-- A part of a block, its cells told one by one. -/
theorem op_loadP {j b off Ty n : Nat} {T : TypeId} {cs vs : List Value} {x : Operand} (ho : o.op = .load Ty x) (hx : ev l x = some (.pointer (some ⟨b, off, none⟩)))
    (hj : O[j]? = some (b, cs, T)) (ha : isAggB P Ty = some true) (hn : sizeB P Ty = some n) (hvs : sub cs off n = vs) (hl : vs.length = n) : OpV P N w0 l O A o (pv (.agg vs.toArray)) :=
  opv_run fun a w hs => by
    unfold sub at hvs
    have hl' : off + n ≤ cs.length ∨ n = 0 := by rw [← hvs] at hl; simp at hl; omega
    rcases hl' with hl' | hl'
    · have := run_loadN (P := P) (hs.own j b cs T hj).1 ha hn hl'
      simp [execOp, ho, hs.eval hx, this, hvs]
    · subst hl'
      have hlc := run_loadCells_list (P := P) w ⟨b, off, none⟩ [] (fun j v hv => by simp at hv)
      simp only [List.take_zero] at hvs
      subst hvs
      simp only [List.length_nil] at hlc
      simp [execOp, ho, hs.eval hx, Instr.loadAt, Instr.sureAddr, loadVar, run_isAgg ha, run_sizeOf hn, hlc]
theorem op_loadAP {j b off Ty n : Nat} {cs vs : List Value} {x : Operand} (ho : o.op = .load Ty x) (hx : ev l x = some (.pointer (some ⟨b, off, none⟩)))
    (hj : A[j]? = some (b, cs)) (ha : isAggB P Ty = some true) (hn : sizeB P Ty = some n) (hvs : sub cs off n = vs) (hl : vs.length = n) (hpos : 0 < n) : OpV P N w0 l O A o (pv (.agg vs.toArray)) :=
  opv_run fun a w hs => by
    unfold sub at hvs
    obtain ⟨T, fr, h1⟩ := (hs.arg j b cs hj).1
    have hl' : off + n ≤ cs.length := by rw [← hvs] at hl; simp at hl; omega
    have := run_loadN (P := P) h1 ha hn hl'
    simp [execOp, ho, hs.eval hx, this, hvs]

theorem op_box {Ty : Nat} {x : Operand} {v : Value} {cs : List Value} (ho : o.op = .box Ty x) (hx : ev l x = some v) (hc : v.cells = cs.toArray) :
    OpV P N w0 l O A o (Res (fun b => .pointer (some ⟨b, 0, none⟩)) (fun b => [(b, cs, Ty)]) (fun _ => True)) :=
  opv_new fun a w hs => by simp [execOp, ho, hs.eval hx, Instr.box, newVar, newRow, hc]

def zeroB (P : Program) (T : Nat) : Option (List Value) := ((P.info? T).bind (·.zero)).map (fun v => v.cells.toList)

theorem op_alloc {Ty : Nat} {cs : List Value} (ho : o.op = .alloc Ty) (hz : zeroB P Ty = some cs) :
    OpV P N w0 l O A o (Res (fun b => .pointer (some ⟨b, 0, none⟩)) (fun b => [(b, cs, Ty)]) (fun _ => True)) :=
  opv_new fun a w hs => by
    unfold zeroB at hz
    cases hi : P.info? Ty with
    | none => rw [hi] at hz; simp at hz
    | some i =>
      cases hzz : i.zero with
      | none => rw [hi] at hz; simp [hzz] at hz
      | some v =>
        rw [hi] at hz
        simp [hzz] at hz
        subst hz
        simp [execOp, ho, Instr.alloc, zeroValue, typeInfo, hi, hzz, newVar, newRow]

theorem op_len {T : Nat} {x : Operand} {p : Option Addr} {n c e : Nat} (ho : o.op = .call { callee := .builtin .len, args := #[x], argTypes := #[T] }) (hx : ev l x = some (.slice p n c)) (hT : P.underlying T = some (.slice e)) :
    OpV P N w0 l O A o (pv (.int .i64 n)) :=
  opv_run fun a w hs => by
    simp [execOp, ho, resolve, hs.eval hx, invoke, builtin, Builtin.len_, run_underlying hT, goInt]

/-! ### Slices -/
theorem op_indexS {T e n m k i : Nat} {c : Nat} {b off : Nat} {q : Int} {x y : Operand} (ho : o.op = .indexAddr T x y) (hx : ev l x = some (.slice (some ⟨b, off, none⟩) n c)) (hy : ev l y = some (.int .i64 q))
    (hT : P.underlying T = some (.slice e)) (hm : sizeB P e = some m) (hq : q = (i : Int)) (hi : i < n) (hk : off + i * m = k) : OpV P N w0 l O A o (pv (.pointer (some ⟨b, k, none⟩))) :=
  opv_run fun a w hs => by
    subst hq
    have h1 : (0 : Int) ≤ (i : Int) ∧ (i : Int) < (n : Int) := by omega
    simp [execOp, ho, hs.eval hx, hs.eval hy, Instr.indexAt, asIntOf, run_underlying hT, h1, run_sizeOf hm, add_lit, hk, hi]

/-- An array behind an address. -/
theorem op_indexA {T e n m k i : Nat} {b off : Nat} {q : Int} {x y : Operand} (ho : o.op = .indexAddr T x y) (hx : ev l x = some (.pointer (some ⟨b, off, none⟩))) (hy : ev l y = some (.int .i64 q))
    (hT : P.underlying T = some (.array n e)) (hm : sizeB P e = some m) (hq : q = (i : Int)) (hi : i < n) (hk : off + i * m = k) : OpV P N w0 l O A o (pv (.pointer (some ⟨b, k, none⟩))) :=
  opv_run fun a w hs => by
    subst hq
    have h1 : (0 : Int) ≤ (i : Int) ∧ (i : Int) < (n : Int) := by omega
    simp [execOp, ho, hs.eval hx, hs.eval hy, Instr.indexAt, asIntOf, run_underlying hT, h1, run_sizeOf hm, add_lit, hk, hi, Instr.sureAddr]

/-! ### Literals of slices, their elements of one cell -/
theorem range_0 : Array.range 0 = #[] := rfl
theorem op_slice0 {T e m : Nat} (ho : o.op = .buildSlice T 0 #[]) (hT : P.underlying T = some (.slice e)) (hm : sizeB P e = some m) :
    OpV P N w0 l O A o (Res (fun b => .slice (some ⟨b, 0, none⟩) 0 0) (fun b => [(b, [], e)]) (fun _ => True)) :=
  opv_new fun a w hs => by
    simp [execOp, ho, Instr.buildSlice, run_underlying hT, run_sizeOf hm, Instr.fill, newRow, range_0]

theorem run_zero1 {e : Nat} {z : Value} (hz : zeroB P e = some [z]) (w : World) : ∃ t, t.cells = #[z] ∧ (zeroValue e).run P w = .ok t w := by
  unfold zeroB at hz
  cases hi : (P.info? e) with
  | none => rw [hi] at hz; simp at hz
  | some i =>
    cases hzz : i.zero with
    | none => rw [hi] at hz; simp [hzz] at hz
    | some t =>
      rw [hi] at hz; simp [hzz] at hz
      exact ⟨t, by rw [← Array.toArray_toList (xs := t.cells), hz], by simp [zeroValue, typeInfo, hi, hzz]⟩

theorem op_slice1 {T e : Nat} {x : Operand} {v z : Value} (ho : o.op = .buildSlice T 1 #[(0, x)]) (hx : ev l x = some v) (hv : v.cells = #[v]) (hT : P.underlying T = some (.slice e)) (hm : sizeB P e = some 1) (hz : zeroB P e = some [z]) :
    OpV P N w0 l O A o (Res (fun b => .slice (some ⟨b, 0, none⟩) 1 1) (fun b => [(b, [v], e)]) (fun _ => True)) :=
  opv_new fun a w hs => by
    obtain ⟨t, ht, hr⟩ := run_zero1 hz w
    simp [execOp, ho, hs.eval hx, Instr.buildSlice, run_underlying hT, run_sizeOf hm, Instr.fill, newRow, hr, hv, Array.range_succ, range_0]

theorem op_slice2 {T e : Nat} {x y : Operand} {u v z : Value} (ho : o.op = .buildSlice T 2 #[(0, x), (1, y)]) (hx : ev l x = some u) (hy : ev l y = some v) (hu : u.cells = #[u]) (hv : v.cells = #[v]) (hT : P.underlying T = some (.slice e)) (hm : sizeB P e = some 1) (hz : zeroB P e = some [z]) :
    OpV P N w0 l O A o (Res (fun b => .slice (some ⟨b, 0, none⟩) 2 2) (fun b => [(b, [u, v], e)]) (fun _ => True)) :=
  opv_new fun a w hs => by
    obtain ⟨t, ht, hr⟩ := run_zero1 hz w
    simp [execOp, ho, hs.eval hx, hs.eval hy, Instr.buildSlice, run_underlying hT, run_sizeOf hm, Instr.fill, newRow, hr, hv, hu, Array.range_succ, range_0]

/-- The parts of a literal, laid one behind the other. -/
def evAll (l : Env) : List Operand → Option (List Value)
  | [] => some []
  | x :: xs => match ev l x, evAll l xs with
    | some v, some vs => some (v :: vs)
    | _, _ => none

theorem evAll_map {xs : List Operand} {vs : List Value} {a : Act} {w : World} (hs : St N w0 l O A a w) (h : evAll l xs = some vs) : xs.map a.eval = vs := by
  induction xs generalizing vs with
  | nil => simp [evAll] at h; simp [h]
  | cons x xs ih =>
    simp only [evAll] at h
    split at h
    · rename_i v us hv hus
      simp only [Option.some.injEq] at h
      subst h
      simp [hs.eval hv, ih hus]
    · cases h

/-- Cells written one behind the other. -/
def setL : List Value → Nat → List Value → List Value
  | cs, _, [] => cs
  | cs, off, v :: vs => setL (cs.set off v) (off + 1) vs

theorem foldl_setL : ∀ (vs : List Value) (j off : Nat) (cs : List Value), (vs.zipIdx j).foldl (fun (c : Array Value) (p : Value × Nat) => c.setIfInBounds (off + p.2) p.1) cs.toArray = (setL cs (off + j) vs).toArray
  | [], _, _, _ => rfl
  | v :: vs, j, off, cs => by
    simp only [List.zipIdx_cons, List.foldl_cons, setL]
    have := foldl_setL vs (j + 1) off (cs.set (off + j) v)
    simpa [Nat.add_assoc] using this

theorem length_setL : ∀ (vs : List Value) (off : Nat) (cs : List Value), (setL cs off vs).length = cs.length
  | [], _, _ => rfl
  | v :: vs, off, cs => by simp [setL, length_setL vs]

theorem setL_eq : ∀ (vs : List Value) (off : Nat) (cs : List Value), off + vs.length ≤ cs.length → setL cs off vs = cs.take off ++ vs ++ cs.drop (off + vs.length)
  | [], off, cs, _ => by simp [setL]
  | v :: vs, off, cs, h => by
    simp only [List.length_cons] at h
    rw [setL, setL_eq vs (off + 1) (cs.set off v) (by simp; omega)]
    apply List.ext_getElem?
    intro k
    simp only [List.getElem?_append, List.getElem?_take, List.getElem?_drop, List.length_append, List.length_take, List.length_set, List.getElem?_set, List.length_cons]
    have h1 : min (off + 1) cs.length = off + 1 := by omega
    have h2 : min off cs.length = off := by omega
    simp only [h1, h2]
    rcases Nat.lt_trichotomy k off with hk | hk | hk
    · have a1 : k < off + 1 + vs.length := by omega
      have a2 : k < off + 1 := by omega
      have a3 : k < off + (vs.length + 1) := by omega
      have a4 : ¬ off = k := by omega
      simp [a1, a2, a3, a4, hk]
    · subst hk
      have a1 : k < k + 1 + vs.length := by omega
      have a3 : k < k + (vs.length + 1) := by omega
      have a4 : k < cs.length := by omega
      simp [a1, a3, a4]
    · have a2 : ¬ k < off + 1 := by omega
      have a3 : ¬ k < off := by omega
      have a4 : (k < off + 1 + vs.length) = (k < off + (vs.length + 1)) := by apply propext; constructor <;> intro _ <;> omega
      have a5 : k - off = (k - (off + 1)) + 1 := by omega
      have a6 : ¬ off = off + 1 + vs.length + (k - (off + 1 + vs.length)) := by omega
      have a7 : off + 1 + vs.length + (k - (off + 1 + vs.length)) = off + (vs.length + 1) + (k - (off + (vs.length + 1))) := by omega
      rw [a7] at a6
      simp only [a2, a3, a4, a5, if_false, List.getElem?_cons_succ, a7, a6]

/-- The places of a struct type's fields. -/
def placesB (P : Program) (t : Nat) : Option (List (Nat × Nat)) :=
  match P.underlying t with
  | some (.struct fs) => fs.toList.mapM fun f => (sizeB P f.type).map fun n => (f.offset, n)
  | _ => none

def nthP : List (Nat × Nat) → Nat → Option (Nat × Nat)
  | [], _ => none
  | x :: _, 0 => some x
  | _ :: xs, k + 1 => nthP xs k

def fillL (pl : List (Nat × Nat)) : List Value → List (Nat × List Value) → Option (List Value)
  | cs, [] => some cs
  | cs, (i, vs) :: rest => match nthP pl i with
    | none => none
    | some (off, n) => bif Nat.beq vs.length n && Nat.ble (off + vs.length) cs.length then fillL pl (setL cs off vs) rest else none

def evParts (l : Env) : List (Nat × Operand) → Option (List (Nat × Value))
  | [] => some []
  | (i, x) :: xs => match ev l x, evParts l xs with
    | some v, some vs => some ((i, v) :: vs)
    | _, _ => none

theorem nthP_get : ∀ (l : List (Nat × Nat)) (k : Nat), nthP l k = l[k]?
  | [], k => by simp [nthP]
  | x :: l, 0 => by simp [nthP]
  | x :: l, k + 1 => by simp only [nthP, List.getElem?_cons_succ]; exact nthP_get l k

theorem fill_of (pl : List (Nat × Nat)) : ∀ (ps : List (Nat × Value)) (cs cs' : List Value), fillL pl cs (ps.map fun p => (p.1, p.2.cells.toList)) = some cs' → Instr.fill (pl.toArray[·]?) cs.toArray ps = some cs'.toArray
  | [], cs, cs', h => by simp only [List.map_nil, fillL, Option.some.injEq] at h; simp [Instr.fill, h]
  | (i, v) :: ps, cs, cs', h => by
    simp only [List.map_cons, fillL, nthP_get] at h
    cases hi : pl[i]? with
    | none => rw [hi] at h; cases h
    | some x =>
      obtain ⟨off, n⟩ := x
      rw [hi] at h
      simp only at h
      cases hb : (Nat.beq v.cells.toList.length n && Nat.ble (off + v.cells.toList.length) cs.length) with
      | false => rw [hb] at h; cases h
      | true =>
        rw [hb] at h
        simp only [cond_true] at h
        rw [Bool.and_eq_true] at hb
        have h1 := Nat.eq_of_beq_eq_true hb.1
        have h2 := Nat.le_of_ble_eq_true hb.2
        simp only [Array.length_toList] at h1 h2
        have ih := fill_of pl ps _ cs' h
        have hfold : v.cells.zipIdx.foldl (fun (c : Array Value) (p : Value × Nat) => c.setIfInBounds (off + p.2) p.1) cs.toArray = (setL cs off v.cells.toList).toArray := by
          have := foldl_setL v.cells.toList 0 off cs
          rw [Nat.add_zero] at this
          rw [← this, ← Array.foldl_toList]
          simp
        have hc : ¬ ((v.cells.size ≠ n || off + v.cells.size > cs.toArray.size) = true) := by
          simp only [ne_eq, decide_not, Bool.or_eq_true, Bool.not_eq_eq_eq_not, Bool.not_true, decide_eq_false_iff_not, decide_eq_true_eq, List.size_toArray]
          omega
        simp only [Instr.fill, List.getElem?_toArray, hi]
        rw [if_neg hc]
        simp only [hfold]
        simpa using ih

theorem evParts_map {ps : List (Nat × Operand)} {vs : List (Nat × Value)} {a : Act} {w : World} (hs : St N w0 l O A a w) (h : evParts l ps = some vs) : ps.map (fun p => (p.1, a.eval p.2)) = vs := by
  induction ps generalizing vs with
  | nil => simp [evParts] at h; simp [h]
  | cons x xs ih =>
    obtain ⟨i, x⟩ := x
    simp only [evParts] at h
    split at h
    · rename_i v us hv hus
      simp only [Option.some.injEq] at h
      subst h
      simp [hs.eval hv, ih hus]
    · cases h

theorem run_places {fs : List Field} {pl : List (Nat × Nat)} (h : (fs.mapM fun f => (sizeB P f.type).map fun n => (f.offset, n)) = some pl) (w : World) :
    ((fs.mapM fun f => do pure (f.offset, ← sizeOf f.type) : Sem (List (Nat × Nat)))).run P w = .ok pl w := by
  induction fs generalizing pl with
  | nil => simp only [List.mapM_nil, Option.pure_def, Option.some.injEq] at h; simp [← h]
  | cons f fs ih =>
    simp only [List.mapM_cons, Option.pure_def, Option.bind_eq_bind, Option.bind_eq_some_iff, Option.map_eq_some_iff, Option.some.injEq] at h
    obtain ⟨p, ⟨n, hn, rfl⟩, ps, hps, rfl⟩ := h
    simp only [List.mapM_cons, Sem.run_bind, run_sizeOf hn, Result.andThen_ok, Sem.run_pure, ih hps]

theorem op_build {T : Nat} {parts : Array (Nat × Operand)} {ps : List (Nat × Value)} {zs cs : List Value} {pl : List (Nat × Nat)} (ho : o.op = .build T parts) (hps : evParts l parts.toList = some ps)
    (hz : zeroB P T = some zs) (hpl : placesB P T = some pl) (hf : fillL pl zs (ps.map fun p => (p.1, p.2.cells.toList)) = some cs) : OpV P N w0 l O A o (pv (.agg cs.toArray)) :=
  opv_run fun a w hs => by
    have h1 : (parts.map fun (i, x) => (i, a.eval x)).toList = ps := by
      have := evParts_map hs hps
      simpa using this
    unfold zeroB at hz
    cases hi : (P.info? T) with
    | none => rw [hi] at hz; simp at hz
    | some i =>
      cases hzz : i.zero with
      | none => rw [hi] at hz; simp [hzz] at hz
      | some z =>
        rw [hi] at hz; simp [hzz] at hz
        have hzc : z.cells = zs.toArray := by rw [← hz]
        unfold placesB at hpl
        split at hpl
        · rename_i fs hu
          have h2 := run_places hpl w
          have h3 : (fs.mapM fun f => do pure (f.offset, ← sizeOf f.type) : Sem (Array (Nat × Nat))).run P w = .ok pl.toArray w := by
            have : (fs.mapM fun f => do pure (f.offset, ← sizeOf f.type) : Sem (Array (Nat × Nat))) = Functor.map List.toArray (fs.toList.mapM fun f => do pure (f.offset, ← sizeOf f.type)) := by
              rw [← Array.toArray_toList (xs := fs), List.mapM_toArray]
            rw [this]
            simp only [Sem.run_map, h2, Result.andThen_ok]
          have h4 := fill_of pl ps zs cs hf
          simp at h1 h3 h4
          simp [execOp, ho, Instr.build, zeroValue, typeInfo, hi, hzz, run_underlying hu, h3, h1, hzc, h4]
        · cases hpl

/-! ### Stores -/
def flat (vs : List Value) : Bool := vs.all fun v => v.oneCell'

theorem run_storeVar {w : World} {b off Ty n : Nat} {T : TypeId} {cs vs : List Value} {v : Value} (hg : holds w b cs T) (hv : v.cells = vs.toArray) (hn : sizeB P Ty = some n) (hl : vs.length = n) (hfit : off + n ≤ cs.length) (h1 : flat vs = true) :
    (Instr.storeAt Ty (.pointer (some ⟨b, off, none⟩)) v).run P w = .ok () (w.setRow b (setL cs off vs).toArray) := by
  have hst := run_storeCells_at P b off T vs 0 cs.toArray w hg (by simp; omega) (by simpa [flat] using h1)
  rw [Nat.add_zero] at hst
  rw [setL_eq vs off cs (by omega)]
  have hsz : v.cells.size = n := by rw [hv]; simpa using hl
  simp only [Instr.storeAt, Instr.sureAddr, storeVar, Sem.run_bind, Sem.run_pure, Result.andThen_ok, run_sizeOf hn, hsz, ne_eq, not_true_eq_false, if_false]
  rw [hv]
  simpa using hst

/-- A store into the call's j-th block. -/
theorem okl_store {i j b off Ty n : Nat} {T : TypeId} {cs vs : List Value} {x y : Operand} {v : Value} (ho : ops[i]? = some o) (hg : wantsB ops l o = some true) (hd : o.dst = none) (hop : o.op = .store Ty x y)
    (hx : ev l x = some (.pointer (some ⟨b, off, none⟩))) (hy : ev l y = some v) (hv : v.cells = vs.toArray) (hj : O[j]? = some (b, cs, T)) (hn : sizeB P Ty = some n) (hl : vs.length = n) (hfit : off + n ≤ cs.length) (h1 : flat vs = true)
    (rest : OkL P N w0 ops Q is l (O.set j (b, setL cs off vs, T)) A) : OkL P N w0 ops Q (i :: is) l O A := by
  intro a w hs
  simp only [wpOpsIn, ho, wanted_of hs hg, if_true]
  have hrun := run_storeVar (P := P) (hs.own j b cs T hj).1 hv hn hl hfit h1
  have : (execOp a.eval o).run P w = .ok .skip (w.setRow b (setL cs off vs).toArray) := by
    simp [execOp, hop, hs.eval hx, hs.eval hy, hrun]
  refine opIn_of (fun c h => by rw [hop] at h; cases h) ?_
  rw [this, hd]
  exact rest _ _ (hs.setRow j b cs _ T hj)

/-- A store of a whole block. -/
theorem okl_storeW {i j b Ty n : Nat} {T : TypeId} {cs vs : List Value} {x y : Operand} {v : Value} (ho : ops[i]? = some o) (hg : wantsB ops l o = some true) (hd : o.dst = none) (hop : o.op = .store Ty x y)
    (hx : ev l x = some (.pointer (some ⟨b, 0, none⟩))) (hy : ev l y = some v) (hv : v.cells = vs.toArray) (hj : O[j]? = some (b, cs, T)) (hn : sizeB P Ty = some n) (hl : vs.length = n) (hfit : cs.length = n) (h1 : flat vs = true)
    (rest : OkL P N w0 ops Q is l (O.set j (b, vs, T)) A) : OkL P N w0 ops Q (i :: is) l O A := by
  refine okl_store ho hg hd hop hx hy hv hj hn hl (by omega) h1 ?_
  have : setL cs 0 vs = vs := by rw [setL_eq vs 0 cs (by omega)]; simp; omega
  rw [this]; exact rest

theorem max_if (i j : Int) : (if j > i then j else i) = max i j := by split <;> omega
theorem min_if (i j : Int) : (if j < i then j else i) = min i j := by split <;> omega
theorem op_max {ts : Array TypeId} {x y : Operand} {k : IntKind} {i j : Int} (ho : o.op = .call { callee := .builtin .max, args := #[x, y], argTypes := ts }) (hx : ev l x = some (.int k i)) (hy : ev l y = some (.int k j)) :
    OpV P N w0 l O A o (pv (.int k (max i j))) :=
  opv_run fun a w hs => by
    have := max_if i j
    simp [execOp, ho, resolve, hs.eval hx, hs.eval hy, invoke, builtin, Builtin.max_, Builtin.max2]
    omega
theorem op_min {ts : Array TypeId} {x y : Operand} {k : IntKind} {i j : Int} (ho : o.op = .call { callee := .builtin .min, args := #[x, y], argTypes := ts }) (hx : ev l x = some (.int k i)) (hy : ev l y = some (.int k j)) :
    OpV P N w0 l O A o (pv (.int k (min i j))) :=
  opv_run fun a w hs => by
    have := min_if i j
    simp [execOp, ho, resolve, hs.eval hx, hs.eval hy, invoke, builtin, Builtin.min_, Builtin.min2]
    omega
theorem op_quo {T T' : TypeId} {x y : Operand} {k : IntKind} {i j : Int} (ho : o.op = .binOp .quo T x y T') (hx : ev l x = some (.int k i)) (hy : ev l y = some (.int k j)) (hj : j ≠ 0) :
    OpV P N w0 l O A o (pv (.int k (k.wrap (i.tdiv j)))) :=
  opv_run fun a w hs => by simp [execOp, ho, hs.eval hx, hs.eval hy, eqGuard, binOp, Op.intDiv, hj]
theorem op_rem {T T' : TypeId} {x y : Operand} {k : IntKind} {i j : Int} (ho : o.op = .binOp .rem T x y T') (hx : ev l x = some (.int k i)) (hy : ev l y = some (.int k j)) (hj : j ≠ 0) :
    OpV P N w0 l O A o (pv (.int k (i.tmod j))) :=
  opv_run fun a w hs => by simp [execOp, ho, hs.eval hx, hs.eval hy, eqGuard, binOp, Op.intDiv, hj]

theorem wrap_in {n : Int} (h : -9223372036854775808 ≤ n ∧ n ≤ 9223372036854775807) : IntKind.i64.wrap n = n := IntWalk.i64_in _ h
/-- A quotient of numbers that are not negative. -/
theorem op_quoP {T T' : TypeId} {x y : Operand} {i j : Int} (ho : o.op = .binOp .quo T x y T') (hx : ev l x = some (.int .i64 i)) (hy : ev l y = some (.int .i64 j)) (hj : 0 ≤ i ∧ i ≤ 9223372036854775807 ∧ 0 < j) :
    OpV P N w0 l O A o (pv (.int .i64 (i / j))) := by
  have h1 := op_quo (P := P) (N := N) (w0 := w0) (O := O) (A := A) ho hx hy (by omega : j ≠ 0)
  have h2 : i.tdiv j = i / j := Int.tdiv_eq_ediv_of_nonneg hj.1
  have h3 := Int.ediv_nonneg hj.1 (by omega : 0 ≤ j)
  have h4 := Int.ediv_le_self j hj.1
  rw [h2, wrap_in (by omega)] at h1
  exact h1

/-- int's arithmetic that stays in range. -/
theorem op_add {T T' : TypeId} {x y : Operand} {i j : Int} (ho : o.op = .binOp .add T x y T') (hx : ev l x = some (.int .i64 i)) (hy : ev l y = some (.int .i64 j)) (hr : -9223372036854775808 ≤ i + j ∧ i + j ≤ 9223372036854775807) :
    OpV P N w0 l O A o (pv (.int .i64 (i + j))) := by have := op_ari (P := P) (N := N) (w0 := w0) (O := O) (A := A) (r := IntKind.i64.wrap (i + j)) ho hx hy rfl; rwa [wrap_in hr] at this
theorem op_sub {T T' : TypeId} {x y : Operand} {i j : Int} (ho : o.op = .binOp .sub T x y T') (hx : ev l x = some (.int .i64 i)) (hy : ev l y = some (.int .i64 j)) (hr : -9223372036854775808 ≤ i - j ∧ i - j ≤ 9223372036854775807) :
    OpV P N w0 l O A o (pv (.int .i64 (i - j))) := by have := op_ari (P := P) (N := N) (w0 := w0) (O := O) (A := A) (r := IntKind.i64.wrap (i - j)) ho hx hy rfl; rwa [wrap_in hr] at this
theorem op_mul {T T' : TypeId} {x y : Operand} {i j : Int} (ho : o.op = .binOp .mul T x y T') (hx : ev l x = some (.int .i64 i)) (hy : ev l y = some (.int .i64 j)) (hr : -9223372036854775808 ≤ i * j ∧ i * j ≤ 9223372036854775807) :
    OpV P N w0 l O A o (pv (.int .i64 (i * j))) := by have := op_ari (P := P) (N := N) (w0 := w0) (O := O) (A := A) (r := IntKind.i64.wrap (i * j)) ho hx hy rfl; rwa [wrap_in hr] at this

/-! ### Calls -/
def Cn {σ : Type} (P : Program) (f : Nat) (args : List Value) (M : Args) (val : σ → Value) (blks : σ → Blks) (ok : σ → Prop) : Prop :=
  ∀ w, (∀ b cs, (b, cs) ∈ M → reads w b cs) → Calls P f args.toArray w fun e w' => ∃ v, e = .returned v ∧ Below w.heap.size w w' ∧ Res val blks ok w v w'

def callable (P : Program) (f : Nat) : Prop := ∃ fn, P.funcs[f]? = some fn ∧ (fn.name == "runtime.NumGoroutine") = false ∧ fn.body.isNone = false

def covers (O : Blks) (A : Args) (M : Args) : Prop := ∀ b cs, (b, cs) ∈ M → (∃ T, (b, cs, T) ∈ O) ∨ (b, cs) ∈ A

theorem covers_nil : covers O A [] := fun _ _ h => by cases h
theorem covers_own {b : Nat} {cs : List Value} {T : TypeId} {M : Args} (j : Nat) (hj : O[j]? = some (b, cs, T)) (h : covers O A M) : covers O A ((b, cs) :: M) := by
  intro b' cs' hm
  rcases List.mem_cons.1 hm with h1 | h1
  · cases h1; exact .inl ⟨T, List.mem_of_getElem? hj⟩
  · exact h b' cs' h1
theorem covers_arg {b : Nat} {cs : List Value} {M : Args} (j : Nat) (hj : A[j]? = some (b, cs)) (h : covers O A M) : covers O A ((b, cs) :: M) := by
  intro b' cs' hm
  rcases List.mem_cons.1 hm with h1 | h1
  · cases h1; exact .inr (List.mem_of_getElem? hj)
  · exact h b' cs' h1

theorem St.covered {M : Args} {a : Act} {w : World} (hs : St N w0 l O A a w) (hM : covers O A M) : ∀ b cs, (b, cs) ∈ M → reads w b cs := by
  intro b cs hm
  rcases hM b cs hm with ⟨T, h⟩ | h
  · obtain ⟨j, hj⟩ := List.mem_iff_getElem?.1 h
    exact ⟨T, (0, 0), (hs.own j b cs T hj).1⟩
  · obtain ⟨j, hj⟩ := List.mem_iff_getElem?.1 h
    exact (hs.arg j b cs hj).1

theorem run_callee {f : Nat} {args : Array Value} {w : World} (h : callable P f) : (callFunc f args).run P w = .ok (.enter f args) w := by
  obtain ⟨fn, h1, h2, h3⟩ := h
  unfold callFunc
  simp only [Sem.run_bind, run_program, Result.andThen_ok, h1, h2, h3, Bool.false_eq_true, if_false, Sem.run_pure]

theorem op_call {σ : Type} {f : Nat} {xs : Array Operand} {ts : Array TypeId} {x : Operand} {vs : List Value} {cap : Array Value} {M : Args} {val : σ → Value} {blks : σ → Blks} {ok : σ → Prop}
    (ho : o.op = .call { callee := .value x, args := xs, argTypes := ts }) (hf : ev l x = some (.func (.func f) #[] cap)) (hx : evAll l xs.toList = some vs) (hc : callable P f)
    (hF : Cn P f (vs ++ cap.toList) M val blks ok) (hM : covers O A M) : OpV P N w0 l O A o (Res val blks ok) := by
  intro a w hs K Q hK
  have hargs : xs.map a.eval = vs.toArray := by
    have := evAll_map hs hx
    apply Array.ext'
    simpa using this
  have hrun : (execOp a.eval o).run P w = .ok (.enter f (vs ++ cap.toList).toArray) w := by
    have happ : (vs ++ cap.toList).toArray = vs.toArray ++ cap := by simp
    rw [happ]
    simp only [execOp, ho, resolve, Sem.run_bind, hs.eval hf, Deferred.ofValue, hargs, Sem.run_pure, Result.andThen_ok, invoke, Array.empty_append]
    exact run_callee hc
  refine opIn_of (fun c h => by rw [ho] at h; cases h) ?_
  rw [hrun]
  refine (hF w (hs.covered hM)).mono ?_
  rintro e w' ⟨v, rfl, hb, hr⟩
  exact hK v w' hb hr

theorem op_callv {f : Nat} {xs : Array Operand} {ts : Array TypeId} {x : Operand} {vs : List Value} {cap : Array Value} {M : Args} {r : Value}
    (ho : o.op = .call { callee := .value x, args := xs, argTypes := ts }) (hf : ev l x = some (.func (.func f) #[] cap)) (hx : evAll l xs.toList = some vs) (hc : callable P f)
    (hF : Cn P f (vs ++ cap.toList) M (fun _ : Unit => r) (fun _ => []) (fun _ => True)) (hM : covers O A M) : OpV P N w0 l O A o (pv r) := by
  intro a w hs K Q hK
  refine op_call ho hf hx hc hF hM a w hs K Q ?_
  rintro v w' hb ⟨_, rfl, _⟩
  exact hK _ w' hb rfl

/-! ### The function's beginning and end -/
def envOf : List Value → Nat → Env
  | [], _ => []
  | v :: vs, i => (i, v) :: envOf vs (i + 1)

theorem get_envOf : ∀ (vs : List Value) (i t : Nat) (v : Value), get (envOf vs i) t = some v → i ≤ t ∧ vs[t - i]? = some v
  | [], i, t, v, h => by simp [envOf, get] at h
  | u :: vs, i, t, v, h => by
    simp only [envOf, get] at h
    cases hb : Nat.beq i t with
    | true =>
      rw [hb] at h
      simp only [cond_true, Option.some.injEq] at h
      have := Nat.eq_of_beq_eq_true hb
      subst this; subst h
      simp
    | false =>
      rw [hb] at h
      simp only [cond_false] at h
      obtain ⟨h1, h2⟩ := get_envOf vs (i + 1) t v h
      refine ⟨by omega, ?_⟩
      have : t - i = (t - (i + 1)) + 1 := by omega
      rw [this]
      simpa using h2

theorem st_start {args : List Value} {M : Args} {w : World} {n : Nat} (hN : args.length ≤ n) (hM : ∀ b cs, (b, cs) ∈ M → reads w b cs) :
    St (C0 n) w (envOf args 0) [] M { tmps := args.toArray ++ Array.replicate (n - args.toArray.size) undef, defers := [] } w := by
  refine ⟨by simp; omega, rfl, BelowX.refl _ _, ?_, ?_, by simp, ?_, Mk.nil rfl rfl⟩
  · intro t v h
    obtain ⟨_, h2⟩ := get_envOf args 0 t v h
    simp only [Nat.sub_zero] at h2
    have hlt : t < args.length := by
      rcases Nat.lt_or_ge t args.length with h3 | h3
      · exact h3
      · rw [List.getElem?_eq_none h3] at h2; cases h2
    rw [Array.getElem?_append_left (by simpa using hlt)]
    simpa using h2
  · intro j b cs T h; simp at h
  · intro j b cs h
    have := hM b cs (List.mem_of_getElem? h)
    exact ⟨this, this.lt, by simp⟩

def postOf {σ : Type} (w0 : World) (val : σ → Value) (blks : σ → Blks) (ok : σ → Prop) (e : Ending) (w' : World) : Prop :=
  ∃ v, e = .returned v ∧ Below w0.heap.size w0 w' ∧ Res val blks ok w0 v w'

theorem fn_intro {σ : Type} {f : Nat} {fn : Func} {c : Code} {args : List Value} {M : Args} {val : σ → Value} {blks : σ → Blks} {ok : σ → Prop}
    {N : Nat} (hf : P.funcs[f]? = some fn) (hb : fn.body = some c) (hn : fn.ntmps = N) (hN : Nat.ble args.length N = true)
    (h : ∀ w0, OkC P (C0 N) w0 c (bodyPost P fn (postOf w0 val blks ok)) (envOf args 0) [] M) : Cn P f args M val blks ok := by
  intro w hM
  refine callsIn_wide.1 (callsIn_of_wp (F := Fence.wide) (n := 0) hf hb trivial ?_)
  rw [hn]
  exact h w _ w (st_start (Nat.le_of_ble_eq_true hN) hM)

/-- One result, read. -/
def Rv (P : Program) (l : Env) (O : Blks) : ResultVar → Value → Prop
  | .tmp t, v => get l t = some v
  | .cell p ty, v => ∃ (j b : Nat) (cs : List Value) (T : TypeId), get l p = some (.pointer (some ⟨b, 0, none⟩)) ∧ O[j]? = some (b, cs, T) ∧
      ((isAggB P ty = some true ∧ sizeB P ty = some cs.length ∧ v = .agg cs.toArray) ∨ (isAggB P ty = some false ∧ cs[0]? = some v))

theorem rv_tmp {t : Nat} {v : Value} (h : get l t = some v) : Rv P l O (.tmp t) v := h
theorem rv_agg {p ty b n : Nat} {cs : List Value} {T : TypeId} (j : Nat) (hp : get l p = some (.pointer (some ⟨b, 0, none⟩))) (hj : O[j]? = some (b, cs, T)) (ha : isAggB P ty = some true) (hn : sizeB P ty = some n) (hl : cs.length = n) :
    Rv P l O (.cell p ty) (.agg cs.toArray) := ⟨j, b, cs, T, hp, hj, .inl ⟨ha, by rw [hl]; exact hn, rfl⟩⟩
theorem rv_one {p ty b : Nat} {cs : List Value} {T : TypeId} {v : Value} (j : Nat) (hp : get l p = some (.pointer (some ⟨b, 0, none⟩))) (hj : O[j]? = some (b, cs, T)) (ha : isAggB P ty = some false) (hv : cs[0]? = some v) :
    Rv P l O (.cell p ty) v := ⟨j, b, cs, T, hp, hj, .inr ⟨ha, hv⟩⟩

def rvRun (tmps : Array Value) : ResultVar → Sem Value
  | .tmp t => pure (tmps.getD t undef)
  | .cell a t => do loadVar t (← asAddr (tmps.getD a undef))

theorem run_rv {a : Act} {w : World} (hs : St N w0 l O A a w) {r : ResultVar} {v : Value} (h : Rv P l O r v) : (rvRun a.tmps r).run P w = .ok v w := by
  cases r with
  | tmp t => have := hs.env t v h; simp [rvRun, this]
  | cell p ty =>
    obtain ⟨j, b, cs, T, hp, hj, h⟩ := h
    have h1 := hs.env p _ hp
    have h2 := (hs.own j b cs T hj).1
    rcases h with ⟨ha, hn, rfl⟩ | ⟨ha, hv⟩
    · have := run_loadN (P := P) (off := 0) (n := cs.length) h2 ha hn (by omega)
      simp only [Instr.loadAt, Instr.sureAddr, Sem.run_bind, Sem.run_pure, Result.andThen_ok, List.drop_zero, List.take_length] at this
      simp [rvRun, h1, asAddr, this]
    · have := run_load1 (P := P) (off := 0) h2 ha hv
      simp only [Instr.loadAt, Instr.sureAddr, Sem.run_bind, Sem.run_pure, Result.andThen_ok] at this
      simp [rvRun, h1, asAddr, this]

theorem run_results1 {fn : Func} {a : Act} {w : World} (hs : St N w0 l O A a w) {r : ResultVar} {v : Value} (hr : fn.results = #[r]) (h : Rv P l O r v) : (results fn a.tmps).run P w = .ok v w := by
  have h1 := run_rv hs h
  have : results fn a.tmps = (do let x ← rvRun a.tmps r; pure x) := by
    cases r <;> simp [results, hr, rvRun]
  rw [this]; simp [h1]
theorem run_results2 {fn : Func} {a : Act} {w : World} (hs : St N w0 l O A a w) {r r' : ResultVar} {v v' : Value} (hr : fn.results = #[r, r']) (h : Rv P l O r v) (h' : Rv P l O r' v') : (results fn a.tmps).run P w = .ok (.tuple #[v, v']) w := by
  have h1 := run_rv hs h
  have h2 := run_rv hs h'
  have : results fn a.tmps = (do let x ← rvRun a.tmps r; let y ← rvRun a.tmps r'; pure (.tuple #[x, y])) := by
    cases r <;> cases r' <;> simp [results, hr, rvRun]
  rw [this]; simp [h1, h2]
theorem run_results3 {fn : Func} {a : Act} {w : World} (hs : St N w0 l O A a w) {r r' r'' : ResultVar} {v v' v'' : Value} (hr : fn.results = #[r, r', r'']) (h : Rv P l O r v) (h' : Rv P l O r' v') (h'' : Rv P l O r'' v'') : (results fn a.tmps).run P w = .ok (.tuple #[v, v', v'']) w := by
  have h1 := run_rv hs h
  have h2 := run_rv hs h'
  have h3 := run_rv hs h''
  have : results fn a.tmps = (do let x ← rvRun a.tmps r; let y ← rvRun a.tmps r'; let z ← rvRun a.tmps r''; pure (.tuple #[x, y, z])) := by
    cases r <;> cases r' <;> cases r'' <;> simp [results, hr, rvRun]
  rw [this]; simp [h1, h2, h3]

/-- Which of the call's own blocks go out. -/
def pickB (O : Blks) : List Nat → Blks
  | [] => []
  | j :: js => match O[j]? with
    | some x => x :: pickB O js
    | none => pickB O js

theorem mem_pickB : ∀ (js : List Nat) {x : Nat × List Value × TypeId}, x ∈ pickB O js → ∃ j ∈ js, O[j]? = some x
  | [], x, h => by simp [pickB] at h
  | j :: js, x, h => by
    simp only [pickB] at h
    split at h
    · rename_i y hy
      rcases List.mem_cons.1 h with h1 | h1
      · subst h1; exact ⟨j, by simp, hy⟩
      · obtain ⟨i, hi, hx⟩ := mem_pickB js h1; exact ⟨i, by simp [hi], hx⟩
    · obtain ⟨i, hi, hx⟩ := mem_pickB js h; exact ⟨i, by simp [hi], hx⟩

theorem nodup_pickB (hn : (O.map (·.1)).Nodup) : ∀ (js : List Nat), js.Nodup → ((pickB O js).map (·.1)).Nodup
  | [], _ => by simp [pickB]
  | j :: js, h => by
    rw [List.nodup_cons] at h
    simp only [pickB]
    split
    · rename_i x hx
      rw [List.map_cons, List.nodup_cons]
      refine ⟨?_, nodup_pickB hn js h.2⟩
      intro hm
      obtain ⟨y, hy, e⟩ := List.mem_map.1 hm
      obtain ⟨i, hi, hxi⟩ := mem_pickB js hy
      have g1 : (O.map (·.1))[i]? = some y.1 := by simp [hxi]
      have g2 : (O.map (·.1))[j]? = some x.1 := by simp [hx]
      have hli : i < (O.map (·.1)).length := by
        rcases Nat.lt_or_ge i (O.map (·.1)).length with h5 | h5
        · exact h5
        · rw [List.getElem?_eq_none h5] at g1; cases g1
      have : i = j := (List.getElem?_inj hli hn).1 (by rw [g1, g2, e])
      subst this
      exact h.1 hi
    · exact nodup_pickB hn js h.2

theorem ret_post {σ : Type} {fn : Func} {a : Act} {w : World} {val : σ → Value} {blks : σ → Blks} {ok : σ → Prop} {v : Value} (hs : St N w0 l O A a w) (hr : (results fn a.tmps).run P w = .ok v w)
    (s : σ) (hv : v = val s) (hok : ok s) (js : List Nat) (hjs : js.Nodup) (hB : blks s = pickB O js) (hN : N.marks = [] ∧ N.wr = [] := by exact ⟨rfl, rfl⟩) : bodyPost P fn (postOf w0 val blks ok) .ret a w := by
  refine ⟨by rw [hs.noDef, hN.1]; rfl, v, hr, v, rfl, hs.bel.below hN.2, s, hv, hok, ?_, ?_⟩
  · intro b cs T hm
    rw [hB] at hm
    obtain ⟨j, _, hj⟩ := mem_pickB js hm
    exact ⟨(hs.own j b cs T hj).1, (hs.own j b cs T hj).2.resolve_right (by simp [hN.2])⟩
  · rw [hB]; exact nodup_pickB hs.nodup js hjs

theorem ret_v {fn : Func} {a : Act} {w : World} {v r : Value} (hs : St N w0 l O A a w) (hr : (results fn a.tmps).run P w = .ok v w) (hv : v = r) (hN : N.marks = [] ∧ N.wr = [] := by exact ⟨rfl, rfl⟩) :
    bodyPost P fn (postOf w0 (fun _ : Unit => r) (fun _ => []) (fun _ => True)) .ret a w :=
  ret_post hs hr () hv trivial [] (by simp) rfl hN

/-! ### Less is known -/
def SubE : Env → Env → Prop
  | [], _ => True
  | (t, v) :: r, l => get l t = some v ∧ SubE r l

theorem SubE.get : ∀ {l' l : Env}, SubE l' l → ∀ t v, Go.Sx.get l' t = some v → Go.Sx.get l t = some v
  | [], _, _, t, v, h => by simp [Go.Sx.get] at h
  | (k, u) :: r, l, hs, t, v, h => by
    simp only [Go.Sx.get] at h
    cases hb : Nat.beq k t with
    | true =>
      rw [hb] at h; simp only [cond_true, Option.some.injEq] at h
      have := Nat.eq_of_beq_eq_true hb; subst this; subst h
      exact hs.1
    | false => rw [hb] at h; exact SubE.get hs.2 t v h

theorem St.weak {a : Act} {w : World} {l' : Env} {O' : Blks} (h : St N w0 l O A a w) (hE : SubE l' l) (js : List Nat) (hjs : js.Nodup) (hO : pickB O js = O') : St N w0 l' O' A a w := by
  subst hO
  refine ⟨h.size, h.noDef, h.bel, fun t v hv => h.env t v (hE.get t v hv), ?_, nodup_pickB h.nodup js hjs, h.arg, h.more⟩
  intro j b cs T hj
  obtain ⟨i, _, hi⟩ := mem_pickB js (List.mem_of_getElem? hj)
  exact h.own i b cs T hi

theorem okc_cond_t {c : Operand} {x y : Code} (hc : ev l c = some (.bool true)) (h : OkC P N w0 x Q l O A) : OkC P N w0 (.cond c x y) Q l O A := fun a w hs => wpIn_cond_true (hs.eval hc) (h a w hs)
theorem okc_cond_f {c : Operand} {x y : Code} (hc : ev l c = some (.bool false)) (h : OkC P N w0 y Q l O A) : OkC P N w0 (.cond c x y) Q l O A := fun a w hs => wpIn_cond_false (hs.eval hc) (h a w hs)

theorem okc_weak {c : Code} {l' : Env} (hE : SubE l' l) (h : OkC P N w0 c Q l' O A) : OkC P N w0 c Q l O A := fun a w hs =>
  h a w ⟨hs.size, hs.noDef, hs.bel, fun t v hv => hs.env t v (hE.get t v hv), hs.own, hs.nodup, hs.arg, hs.more⟩
end
end Go.Sx
