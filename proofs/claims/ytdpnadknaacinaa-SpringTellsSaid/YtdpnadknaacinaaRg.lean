/-
  A range over a function, and the iterator that is ranged over, for the symbolic walk.
  Conditions: none; generic over the program.
-/
import Derived.Test.YtdpnadknaacinaaDr
import Derived.RangeFuncIn
import Derived.RangeFuncRecord
import Derived.RangeFuncSeq
import Derived.Scope
namespace Go.Sx
open Go.RowKit

def nums (O : Blks) : List Nat := O.map (·.1)
def argsOf (O : Blks) : Args := O.map fun b => (b.1, b.2.1)

theorem mem_nums {O : Blks} {b : Nat} : b ∈ nums O ↔ ∃ cs T, (b, cs, T) ∈ O := by
  simp [nums]
theorem mem_argsOf {O : Blks} {b : Nat} {cs : List Value} : (b, cs) ∈ argsOf O ↔ ∃ T, (b, cs, T) ∈ O := by
  simp [argsOf]

/-- The world's part of a state. -/
structure WS (N : Cx) (w0 : World) (O : Blks) (A : Args) (w : World) : Prop where
  bel : BelowX N.wr w0 w
  own : ∀ (b : Nat) (cs : List Value) (T : TypeId), (b, cs, T) ∈ O → holds w b cs T ∧ (w0.heap.size ≤ b ∨ b ∈ N.wr)
  nodup : (nums O).Nodup
  arg : ∀ (b : Nat) (cs : List Value), (b, cs) ∈ A → reads w b cs ∧ b < w0.heap.size ∧ b ∉ N.wr

section
variable {N : Cx} {w0 : World} {l : Env} {O Ob Oa O3 Fx : Blks} {A : Args} {a : Act} {w W W' W3 : World}

theorem St.ws (h : St N w0 l O A a w) : WS N w0 O A w :=
  ⟨h.bel, fun b cs T hm => by obtain ⟨j, hj⟩ := List.mem_iff_getElem?.1 hm; exact h.own j b cs T hj, h.nodup,
   fun b cs hm => by obtain ⟨j, hj⟩ := List.mem_iff_getElem?.1 hm; exact h.arg j b cs hj⟩

theorem WS.st (h : WS N w0 O A w) (hs : a.tmps.size = N.n) (hd : a.defers = N.marks.map mark) (he : ∀ t v, get l t = some v → a.tmps[t]? = some v)
    (hm : ∀ D ∈ N.marks, w.heap[D]? = some (.deferred (some [])) ∧ w0.heap.size ≤ D) : St N w0 l O A a w :=
  ⟨hs, hd, h.bel, he, fun _ b cs T hj => h.own b cs T (List.mem_of_getElem? hj), h.nodup, fun _ b cs hj => h.arg b cs (List.mem_of_getElem? hj), hm⟩

theorem WS.ext (h : WS N w0 O A w) (hb : Below w.heap.size w W) : WS N w0 O A W :=
  ⟨h.bel.trans (.of hb), fun b cs T hm => by
     obtain ⟨h1, h2⟩ := h.own b cs T hm
     exact ⟨by unfold holds; rw [hb.block b h1.lt]; exact h1, h2⟩, h.nodup, fun b cs hm => by
     obtain ⟨⟨T, fr, h1⟩, h2⟩ := h.arg b cs hm
     exact ⟨⟨T, fr, by rw [hb.block b (lt_of_get h1)]; exact h1⟩, h2⟩⟩

theorem holds_ne {b r : Nat} {cs : List Value} {T : TypeId} {o : Obj} (h : holds w b cs T) (hr : w.heap[r]? = some o) (ho : o.isCells = false) : b ≠ r := by
  intro e
  subst e
  unfold holds at h
  rw [h] at hr; cases hr; cases ho
theorem reads_ne {b r : Nat} {cs : List Value} {o : Obj} (h : reads w b cs) (hr : w.heap[r]? = some o) (ho : o.isCells = false) : b ≠ r := by
  intro e
  subst e
  obtain ⟨T, fr, h⟩ := h
  rw [h] at hr; cases hr; cases ho

theorem WS.put (h : WS N w0 O A w) {r : Nat} {o : Obj} (o' : Obj) (hr : w.heap[r]? = some o) (ho : o.isCells = false) (h0 : w0.heap.size ≤ r) : WS N w0 O A (w.putObj r o') :=
  ⟨⟨h.bel.os, h.bel.tape, h.bel.output, by rw [World.putObj_size]; exact h.bel.size, fun k hk hS => (World.putObj_heap_other (by omega)).trans (h.bel.block k hk hS)⟩,
   fun b cs T hm => by
     obtain ⟨h1, h2⟩ := h.own b cs T hm
     exact ⟨(World.putObj_heap_other (holds_ne h1 hr ho)).trans h1, h2⟩, h.nodup, fun b cs hm => by
     obtain ⟨h1, h2⟩ := h.arg b cs hm
     have hne := reads_ne h1 hr ho
     obtain ⟨T, fr, h1⟩ := h1
     exact ⟨⟨T, fr, (World.putObj_heap_other hne).trans h1⟩, h2⟩⟩

/-- A round begins: what is written lies in the list of blocks that may be. -/
theorem WS.enter {n : Nat} {r : Option Nat} (h : WS N w0 (Fx ++ Ob) A W) : WS ⟨n, [], r, nums Ob⟩ W Ob (argsOf Fx ++ A) W := by
  have hnd := h.nodup
  simp only [nums, List.map_append, List.nodup_append] at hnd
  refine ⟨BelowX.refl _ _, fun b cs T hm => ⟨(h.own b cs T (List.mem_append_right _ hm)).1, .inr (mem_nums.2 ⟨cs, T, hm⟩)⟩, hnd.2.1, ?_⟩
  intro b cs hm
  rcases List.mem_append.1 hm with hm | hm
  · obtain ⟨T, hm⟩ := mem_argsOf.1 hm
    have h1 := (h.own b cs T (List.mem_append_left _ hm)).1
    refine ⟨⟨T, _, h1⟩, h1.lt, fun hb => ?_⟩
    exact hnd.2.2 b (List.mem_map.2 ⟨_, hm, rfl⟩) b hb rfl
  · obtain ⟨h1, h2, h3⟩ := h.arg b cs hm
    refine ⟨h1, h1.lt, fun hb => ?_⟩
    obtain ⟨cs', T', hb⟩ := mem_nums.1 hb
    rcases (h.own b cs' T' (List.mem_append_right _ hb)).2 with h4 | h4
    · omega
    · exact h3 h4

/-- .. and ends. -/
theorem WS.leave {n n' r : Nat} {rr rr' : Option Nat} {o o' : Obj} (h : WS N w0 (Fx ++ Ob) A W) (h1 : WS ⟨n, [], rr, nums Ob⟩ W Oa (argsOf Fx ++ A) W')
    (h2 : WS ⟨n', [], rr', nums Oa⟩ (W'.putObj r o') O3 (argsOf Fx ++ A) W3) (hr0 : w0.heap.size ≤ r) (hr : W.heap[r]? = some o) (ho : o.isCells = false) (ho' : o'.isCells = false) :
    WS N w0 (Fx ++ O3) A W3 ∧ W3.heap[r]? = some o' ∧ (∀ (D : Nat) (x : Obj), W.heap[D]? = some x → x.isCells = false → D ≠ r → W3.heap[D]? = some x) := by
  have hsz : (W'.putObj r o').heap.size = W'.heap.size := World.putObj_size
  have hOb : ∀ b, b ∈ nums Ob → ∃ cs T, holds W b cs T ∧ (w0.heap.size ≤ b ∨ b ∈ N.wr) := fun b hb => by
    obtain ⟨cs, T, hm⟩ := mem_nums.1 hb
    exact ⟨cs, T, h.own b cs T (List.mem_append_right _ hm)⟩
  have hOa : ∀ b, b ∈ nums Oa → ∃ cs T, holds W' b cs T ∧ (W.heap.size ≤ b ∨ b ∈ nums Ob) := fun b hb => by
    obtain ⟨cs, T, hm⟩ := mem_nums.1 hb
    exact ⟨cs, T, h1.own b cs T hm⟩
  -- what is no cells
  have hnc : ∀ (D : Nat) (x : Obj), W.heap[D]? = some x → x.isCells = false → W'.heap[D]? = some x := fun D x hD hx => by
    rw [h1.bel.block D (lt_of_get hD) (fun hb => by obtain ⟨cs, T, hh, _⟩ := hOb D hb; exact holds_ne hh hD hx rfl)]
    exact hD
  have hr' := hnc r o hr ho
  have hrs : (W'.putObj r o').heap[r]? = some o' := World.putObj_heap_same (lt_of_get hr')
  have hnc3 : ∀ (D : Nat) (x : Obj), (W'.putObj r o').heap[D]? = some x → x.isCells = false → D ∉ nums Oa → W3.heap[D]? = some x := fun D x hD hx hn => by
    rw [h2.bel.block D (lt_of_get hD) hn]; exact hD
  have hrOa : r ∉ nums Oa := fun hb => by obtain ⟨cs, T, hh, _⟩ := hOa r hb; exact holds_ne hh hr' ho rfl
  -- a block of before
  have hold : ∀ k, k < W.heap.size → k ∉ nums Ob → k ≠ r → W3.heap[k]? = W.heap[k]? := fun k hk hb hkr => by
    have e1 : W'.heap[k]? = W.heap[k]? := h1.bel.block k hk hb
    have e2 : (W'.putObj r o').heap[k]? = W'.heap[k]? := World.putObj_heap_other hkr
    have hn : k ∉ nums Oa := fun hm => by
      obtain ⟨_, _, _, h3⟩ := hOa k hm
      rcases h3 with h3 | h3
      · omega
      · exact hb h3
    have := h1.bel.size
    exact (h2.bel.block k (by rw [hsz]; omega) hn).trans (e2.trans e1)
  have hfx : ∀ b cs, (b, cs) ∈ argsOf Fx ++ A → b < W.heap.size ∧ b ∉ nums Ob ∧ b ∉ nums Oa := fun b cs hm =>
    ⟨(h1.arg b cs hm).2.1, (h1.arg b cs hm).2.2, (h2.arg b cs hm).2.2⟩
  have hin3 : ∀ b, b ∈ nums O3 → W.heap.size ≤ b ∨ b ∈ nums Ob := fun b hb => by
    obtain ⟨cs, T, hm⟩ := mem_nums.1 hb
    have h4 : (W'.putObj r o').heap.size ≤ b ∨ b ∈ nums Oa := (h2.own b cs T hm).2
    rcases h4 with h3 | h3
    · have := h1.bel.size; exact .inl (by omega)
    · obtain ⟨_, _, _, h4⟩ := hOa b h3; exact h4
  have hto0 : ∀ b, (W.heap.size ≤ b ∨ b ∈ nums Ob) → w0.heap.size ≤ b ∨ b ∈ N.wr := fun b hb => by
    rcases hb with h3 | h3
    · have := h.bel.size; exact .inl (by omega)
    · obtain ⟨_, _, _, h4⟩ := hOb b h3; exact h4
  refine ⟨⟨⟨?_, ?_, ?_, ?_, ?_⟩, ?_, ?_, ?_⟩, hnc3 r o' hrs ho' hrOa, ?_⟩
  · exact h2.bel.os.trans (h1.bel.os.trans h.bel.os)
  · exact h2.bel.tape.trans (h1.bel.tape.trans h.bel.tape)
  · exact h2.bel.output.trans (h1.bel.output.trans h.bel.output)
  · exact Nat.le_trans (Nat.le_trans h.bel.size h1.bel.size) (by rw [← hsz]; exact h2.bel.size)
  · intro k hk hS
    have h3 := h.bel.size
    refine (hold k (by omega) (fun hb => ?_) (by omega)).trans (h.bel.block k hk hS)
    rcases hto0 k (.inr hb) with h4 | h4
    · omega
    · exact hS h4
  · intro b cs T hm
    rcases List.mem_append.1 hm with hm | hm
    · obtain ⟨g1, g2⟩ := h.own b cs T (List.mem_append_left _ hm)
      obtain ⟨g3, g4, _⟩ := hfx b cs (List.mem_append_left _ (mem_argsOf.2 ⟨T, hm⟩))
      refine ⟨?_, g2⟩
      unfold holds
      rw [hold b g3 g4 (holds_ne g1 hr ho)]
      exact g1
    · exact ⟨(h2.own b cs T hm).1, hto0 b (hin3 b (mem_nums.2 ⟨cs, T, hm⟩))⟩
  · have hnd := h.nodup
    simp only [nums, List.map_append, List.nodup_append] at hnd ⊢
    refine ⟨hnd.1, h2.nodup, ?_⟩
    intro x hx y hy e
    subst e
    obtain ⟨⟨b, cs, T⟩, hm, rfl⟩ := List.mem_map.1 hx
    obtain ⟨g3, g4, _⟩ := hfx b cs (List.mem_append_left _ (mem_argsOf.2 ⟨T, hm⟩))
    rcases hin3 b hy with h5 | h5
    · omega
    · exact g4 h5
  · intro b cs hm
    obtain ⟨g1, g2⟩ := h.arg b cs hm
    obtain ⟨g3, g4, _⟩ := hfx b cs (List.mem_append_right _ hm)
    have hne := reads_ne g1 hr ho
    obtain ⟨T, fr, g1⟩ := g1
    exact ⟨⟨T, fr, (hold b g3 g4 hne).trans g1⟩, g2⟩
  · intro D x hD hx hne
    have hD' := hnc D x hD hx
    refine hnc3 D x ((World.putObj_heap_other hne).trans hD') hx (fun hb => ?_)
    obtain ⟨cs, T, hh, _⟩ := hOa D hb
    exact holds_ne hh hD' hx rfl
end

/-- What a function that is ranged over owes: it yields the elements in their order, till a round says 'no more'. -/
def It {α : Type} (P : Program) (gf : Nat) (lb : List Value) (M : Args) (encs : α → List Value) (xs : List α) : Prop :=
  ∀ (y : Nat) (J : List α → World → Prop) (Jx : World → Prop) (W : World),
    (∀ pre W1 W2, J pre W1 → Below W1.heap.size W1 W2 → J pre W2) → (∀ W1 W2, Jx W1 → Below W1.heap.size W1 W2 → Jx W2) →
    (∀ pre W1, J pre W1 → ∀ b cs, (b, cs) ∈ M → reads W1 b cs) →
    (∀ pre x W1, pre ++ [x] <+: xs → J pre W1 → YieldAt (Fr none) 0 P y (encs x).toArray W1 fun e W' => (e = .returned (.bool true) ∧ J (pre ++ [x]) W') ∨ (e = .returned (.bool false) ∧ Jx W')) →
    J [] W → CallsIn (Fr none) 0 P gf (#[.func (.yield y) #[] #[]] ++ lb.toArray) W fun e W' => (∃ v, e = .returned v) ∧ (J xs W' ∨ Jx W')

/-- The slots of a round when it begins. -/
def penv : List Nat → List Value → Env → Env
  | p :: ps, v :: vs, l => penv ps vs ((p, v) :: l)
  | _, _, l => l

theorem penv_get : ∀ (ps : List Nat) (vs : List Value) (l : Env) (tm : Array Value), (∀ t v, get l t = some v → tm[t]? = some v) → (∀ p ∈ ps, p < tm.size) →
    ∀ t v, get (penv ps vs l) t = some v → ((ps.zip vs).foldl (fun t (x : Nat × Value) => t.setIfInBounds x.1 x.2) tm)[t]? = some v
  | [], vs, l, tm, h, _, t, v, hg => by simpa [penv] using h t v hg
  | p :: ps, [], l, tm, h, _, t, v, hg => by simpa [penv] using h t v hg
  | p :: ps, u :: vs, l, tm, h, hp, t, v, hg => by
    simp only [List.zip_cons_cons, List.foldl_cons]
    refine penv_get ps vs ((p, u) :: l) (tm.setIfInBounds p u) ?_ (fun q hq => by have := hp q (by simp [hq]); simpa using this) t v hg
    intro t' v' hg'
    simp only [get] at hg'
    have hpl := hp p (by simp)
    by_cases e : p = t'
    · subst e
      rw [Nat.beq_refl] at hg'
      simp only [cond_true, Option.some.injEq] at hg'
      subst hg'
      simp [hpl]
    · have : Nat.beq p t' = false := by
        cases hb : Nat.beq p t' with
        | false => rfl
        | true => exact absurd (Nat.eq_of_beq_eq_true hb) e
      rw [this] at hg'
      simp only [cond_false] at hg'
      rw [Array.getElem?_setIfInBounds_ne e]
      exact h t' v' hg'

theorem penv_size : ∀ (ps : List (Nat × Value)) (tm : Array Value), (ps.foldl (fun t (x : Nat × Value) => t.setIfInBounds x.1 x.2) tm).size = tm.size
  | [], tm => rfl
  | p :: ps, tm => by rw [List.foldl_cons, penv_size ps]; simp

/-- How a round's body may be left. -/
def rndPost {α : Type} (N : Cx) (W : World) (A : Args) (good : List α → Blks → Prop) (stop : Code → Blks → Prop) (xs : List α) : Exit → Act → World → Prop
  | .normal, a, w => ∃ l O, good xs O ∧ St N W l O A a w
  | .ret, a, w => ∃ l O, stop .ret O ∧ St N W l O A a w
  | .exit id, a, w => ∃ l O, stop (.exit id) O ∧ St N W l O A a w
  | _, _, _ => False

section
variable {P : Program} {N : Cx} {w0 : World} {l : Env} {O Fx O0 : Blks} {A : Args} {Q : Exit → Act → World → Prop}

theorem okc_range {α : Type} {g : Operand} {ps : Array Tmp} {assign body : Code} {gf : Nat} {lb : List Value} {M : Args} {encs : α → List Value} {xs : List α}
    (hit : It P gf lb M encs xs) (hr : N.r = none) (hm : N.marks = []) (hg : ev l g = some (.func (.func gf) #[] lb.toArray)) (hc : callable P gf)
    (hps : ∀ x, (encs x).length = ps.size) (hpn : (ps.toList.all fun p => Nat.blt p N.n) = true)
    (good : List α → Blks → Prop) (stop : Code → Blks → Prop) (h0 : good [] O0) (hM : ∀ b cs, (b, cs) ∈ M → (∃ T, (b, cs, T) ∈ Fx) ∨ (b, cs) ∈ A)
    (round : ∀ pre x Ob W r, pre ++ [x] <+: xs → good pre Ob →
      OkC P ⟨N.n, [], some r, nums Ob⟩ W assign (Exit.then (fun a' W' => ∃ la Oa, St ⟨N.n, [], some r, nums Ob⟩ W la Oa (argsOf Fx ++ A) a' W' ∧
        ∀ W'', OkC P ⟨N.n, [], some r, nums Oa⟩ W'' body (rndPost ⟨N.n, [], some r, nums Oa⟩ W'' (argsOf Fx ++ A) good stop (pre ++ [x])) la Oa (argsOf Fx ++ A)) (fun _ _ _ => False))
        (penv ps.toList (encs x) l) Ob (argsOf Fx ++ A))
    (done : ∀ Ob D, good xs Ob → ∀ a w, St { N with marks := [D] } w0 l (Fx ++ Ob) A a w → Q .normal a w)
    (stopped : ∀ c Ob D, stop c Ob → OkC P { N with marks := [D] } w0 c Q l (Fx ++ Ob) A) :
    OkC P N w0 (.rangeFunc g ps assign body) Q l (Fx ++ O0) A := by
  intro a w hs
  refine wpIn_rangeFunc ?_
  intro fn hfn
  have hro : (Fr N.r).round = none := hr
  rw [hro]
  obtain ⟨rec, hrec⟩ : ∃ rec : LoopState → Option Code → Loop, rec = fun st pe => { state := st, pending := pe, fn, tmps := a.tmps, params := ps, assign, body, defers := w.heap.size } := ⟨_, rfl⟩
  have hws := hs.ws
  have hw0 : w0.heap.size ≤ w.heap.size := hs.bel.size
  have hb1 : Below w.heap.size w ((w.alloc (.deferred (some []))).alloc (.loop (rec .ready none))) :=
    (below_alloc w _).trans ((below_alloc _ _).mono (by simp))
  have hL1 : ((w.alloc (.deferred (some []))).alloc (.loop (rec .ready none))).heap[w.heap.size + 1]? = some (.loop (rec .ready none)) := by
    have := World.alloc_heap_new (w.alloc (.deferred (some []))) (.loop (rec .ready none)); rwa [World.size_alloc] at this
  have hK1 : ((w.alloc (.deferred (some []))).alloc (.loop (rec .ready none))).heap[w.heap.size]? = some (.deferred (some [])) :=
    (Below.heap_alloc _ _ _ (by simp)).trans (World.alloc_heap_new w _)
  generalize hW1 : (w.alloc (.deferred (some []))).alloc (.loop (rec .ready none)) = W1 at hb1 hL1 hK1
  have hen : (Instr.enterLoop fn a.tmps ps assign body none).run P w = .ok (w.heap.size + 1, [mark w.heap.size]) W1 := by
    rw [← hW1, hrec]; exact run_enterLoop_outer _ _ _ _ _
  refine ⟨w.heap.size + 1, [mark w.heap.size], W1, { target := .fn (.func gf) lb.toArray, args := #[.func (.yield (w.heap.size + 1)) #[] #[]] }, W1, gf,
    #[.func (.yield (w.heap.size + 1)) #[] #[]] ++ lb.toArray, W1, hen, ?_, ?_, ?_, fun h => absurd h (by simp [Fr, Fence.wide]), ?_⟩
  · simp only [resolve, hs.eval hg]
    simp [go_sem]
  · intro _ _; trivial
  · simp only [invoke]
    exact run_callee hc
  · have hst : ∀ (st : LoopState) (pe : Option Code), (rec st pe).state = st ∧ (rec st pe).pending = pe ∧ (rec st pe).params = ps := fun st pe => by rw [hrec]; exact ⟨rfl, rfl, rfl⟩
    have hcall := hit (w.heap.size + 1)
      (fun pre W => ∃ Ob, good pre Ob ∧ WS N w0 (Fx ++ Ob) A W ∧ W.heap[w.heap.size + 1]? = some (.loop (rec .ready none)) ∧ W.heap[w.heap.size]? = some (.deferred (some [])))
      (fun W => ∃ c Ob, stop c Ob ∧ WS N w0 (Fx ++ Ob) A W ∧ W.heap[w.heap.size + 1]? = some (.loop (rec .done (some c))) ∧ W.heap[w.heap.size]? = some (.deferred (some []))) W1
      (fun pre A1 B1 h hb => by
        obtain ⟨Ob, h1, h2, h3, h4⟩ := h
        exact ⟨Ob, h1, h2.ext hb, (hb.block _ (lt_of_get h3)).trans h3, (hb.block _ (lt_of_get h4)).trans h4⟩)
      (fun A1 B1 h hb => by
        obtain ⟨c, Ob, h1, h2, h3, h4⟩ := h
        exact ⟨c, Ob, h1, h2.ext hb, (hb.block _ (lt_of_get h3)).trans h3, (hb.block _ (lt_of_get h4)).trans h4⟩)
      (fun pre A1 h b cs hb => by
        obtain ⟨Ob, h1, h2, h3, h4⟩ := h
        rcases hM b cs hb with ⟨T, hb⟩ | hb
        · exact ⟨T, _, (h2.own b cs T (List.mem_append_left _ hb)).1⟩
        · exact (h2.arg b cs hb).1)
      ?_ ⟨O0, h0, hws.ext hb1, hL1, hK1⟩
    · refine CallsIn.mono (R := fun e W' => (∃ v, e = .returned v) ∧ _) (hr ▸ hcall) ?_
      rintro e W2 ⟨⟨v, rfl⟩, ⟨Ob, h1, h2, h3, h4⟩ | ⟨c, Ob, h1, h2, h3, h4⟩⟩
      · have he := run_endLoop (P := P) h3 (by rw [(hst _ _).1]; simp)
        rw [(hst _ _).2.1] at he
        refine ⟨none, _, he, done Ob w.heap.size h1 _ _ ?_⟩
        refine WS.st (N := { N with marks := [w.heap.size] }) ?_ hs.size (by show [mark _] ++ a.defers = _; rw [hs.noDef, hm]; rfl) hs.env ?_
        · have hp := fun (o' : Obj) => h2.put o' h3 rfl (by omega)
          exact ⟨(hp _).bel, (hp _).own, h2.nodup, (hp _).arg⟩
        intro D hD
        simp only [List.mem_singleton] at hD
        subst hD
        exact ⟨(World.putObj_heap_other (by omega)).trans h4, hw0⟩
      · have he := run_endLoop (P := P) h3 (by rw [(hst _ _).1]; simp)
        rw [(hst _ _).2.1] at he
        refine ⟨some c, _, he, stopped c Ob w.heap.size h1 _ _ ?_⟩
        refine WS.st (N := { N with marks := [w.heap.size] }) ?_ hs.size (by show [mark _] ++ a.defers = _; rw [hs.noDef, hm]; rfl) hs.env ?_
        · have hp := fun (o' : Obj) => h2.put o' h3 rfl (by omega)
          exact ⟨(hp _).bel, (hp _).own, h2.nodup, (hp _).arg⟩
        intro D hD
        simp only [List.mem_singleton] at hD
        subst hD
        exact ⟨(World.putObj_heap_other (by omega)).trans h4, hw0⟩
    · rintro pre x W hpre ⟨Ob, hgood, hw, hl, hk⟩
      have hy := run_yield (P := P) (args := (encs x).toArray) hl (by rw [(hst _ _).2.2]; simpa using hps x)
      refine ⟨_, _, _, _, hy, roundIn_of_wpIn (by rw [hrec]; exact hfn) ?_⟩
      have hre : (rec .ready none).assign = assign ∧ (rec .ready none).body = body ∧ (rec .ready none).tmps = a.tmps ∧ (rec .ready none).params = ps := by rw [hrec]; exact ⟨rfl, rfl, rfl, rfl⟩
      rw [hre.1, hre.2.1, hre.2.2.1, hre.2.2.2]
      have hfold : (ps.zip (encs x).toArray).foldl (fun tmps (x : Nat × Value) => tmps.setIfInBounds x.1 x.2) a.tmps = (ps.toList.zip (encs x)).foldl (fun t (x : Nat × Value) => t.setIfInBounds x.1 x.2) a.tmps := by
        rw [← Array.foldl_toList]; simp
      have hst0 : St ⟨N.n, [], some (w.heap.size + 1), nums Ob⟩ W (penv ps.toList (encs x) l) Ob (argsOf Fx ++ A) { tmps := (ps.toList.zip (encs x)).foldl (fun t (x : Nat × Value) => t.setIfInBounds x.1 x.2) a.tmps, defers := [] } W := by
        refine (hw.enter (n := N.n) (r := some (w.heap.size + 1))).st ?_ rfl ?_ (fun D hD => by simp at hD)
        · rw [penv_size]; exact hs.size
        · refine penv_get _ _ _ _ hs.env ?_
          intro p hp
          rw [List.all_eq_true] at hpn
          have := hpn p hp
          rw [hs.size]
          simpa [Nat.blt_eq] using this
      have hasg := round pre x Ob W (w.heap.size + 1) hpre hgood _ W hst0
      show assign.wpIn (Fr (some (w.heap.size + 1))) 0 P _ { tmps := (ps.zip (encs x).toArray).foldl (fun tmps (x : Nat × Value) => tmps.setIfInBounds x.1 x.2) a.tmps, defers := [] } W
      rw [hfold]
      refine wpIn_mono hasg ?_
      intro e a' W' he
      cases e <;> first | exact he.elim | skip
      obtain ⟨la, Oa, hst1, hbody⟩ := he
      have hl' : W'.heap[w.heap.size + 1]? = some (.loop (rec .ready none)) := by
        rw [hst1.bel.block _ (lt_of_get hl) (fun hb => by obtain ⟨cs, T, hb⟩ := mem_nums.1 hb; exact holds_ne (hw.own _ cs T (List.mem_append_right _ hb)).1 hl rfl rfl)]; exact hl
      refine ⟨_, run_beginRound hl' (hst _ _).1, ?_⟩
      have hst2 : St ⟨N.n, [], some (w.heap.size + 1), nums Oa⟩ (W'.putObj (w.heap.size + 1) (.loop { rec .ready none with state := .busy })) la Oa (argsOf Fx ++ A) a' (W'.putObj (w.heap.size + 1) (.loop { rec .ready none with state := .busy })) := by
        have hws1 : WS ⟨N.n, [], some (w.heap.size + 1), nums Ob⟩ W ([] ++ Oa) (argsOf Fx ++ A) W' := hst1.ws
        have hent := hws1.enter (n := N.n) (r := some (w.heap.size + 1))
        have hput : WS ⟨N.n, [], some (w.heap.size + 1), nums Oa⟩ (W'.putObj (w.heap.size + 1) (.loop { rec .ready none with state := .busy })) Oa (argsOf Fx ++ A) (W'.putObj (w.heap.size + 1) (.loop { rec .ready none with state := .busy })) := by
          refine ⟨BelowX.refl _ _, fun b cs T hm => ?_, hent.nodup, fun b cs hm => ?_⟩
          · obtain ⟨g1, _⟩ := hent.own b cs T hm
            exact ⟨(World.putObj_heap_other (holds_ne g1 hl' rfl)).trans g1, .inr (mem_nums.2 ⟨cs, T, hm⟩)⟩
          · obtain ⟨g1, g2, g3⟩ := hent.arg b cs hm
            have hne := reads_ne g1 hl' rfl
            obtain ⟨T, fr, g1⟩ := g1
            exact ⟨⟨T, fr, (World.putObj_heap_other hne).trans g1⟩, by rw [World.putObj_size]; exact g2, g3⟩
        exact hput.st hst1.size hst1.noDef hst1.env (fun D hD => by simp at hD)
      refine wpIn_mono (hbody _ a' _ hst2) ?_
      have fin : ∀ (O3 : Blks) (l3 : Env) (a3 : Act) (W3 : World) (jump : Option Code),
          St ⟨N.n, [], some (w.heap.size + 1), nums Oa⟩ (W'.putObj (w.heap.size + 1) (.loop { rec .ready none with state := .busy })) l3 O3 (argsOf Fx ++ A) a3 W3 →
          ∃ W4, (Instr.endRound (w.heap.size + 1) jump).run P W3 = .ok (.bool jump.isNone) W4 ∧ WS N w0 (Fx ++ O3) A W4 ∧
            W4.heap[w.heap.size + 1]? = some (.loop (rec (if jump.isNone then .ready else .done) jump)) ∧ W4.heap[w.heap.size]? = some (.deferred (some [])) := by
        intro O3 l3 a3 W3 jump h3
        obtain ⟨g1, g2, g3⟩ := hw.leave (o := .loop (rec .ready none)) (o' := .loop { rec .ready none with state := .busy }) hst1.ws h3.ws (by omega) hl rfl rfl
        have g4 := g3 w.heap.size _ hk rfl (by omega)
        have he := run_endRound (P := P) jump g2
        refine ⟨_, he, g1.put _ g2 rfl (by omega), ?_, (World.putObj_heap_other (by omega)).trans g4⟩
        rw [World.putObj_heap_same (lt_of_get g2), hrec]
      intro e a3 W3 he3
      cases e with
      | normal =>
        obtain ⟨l3, O3, hg3, hs3⟩ := he3
        obtain ⟨W4, g1, g2, g3, g4⟩ := fin O3 l3 a3 W3 none hs3
        exact ⟨_, W4, g1, .inl ⟨rfl, O3, hg3, g2, g3, g4⟩⟩
      | ret =>
        obtain ⟨l3, O3, hg3, hs3⟩ := he3
        obtain ⟨W4, g1, g2, g3, g4⟩ := fin O3 l3 a3 W3 (some .ret) hs3
        exact ⟨_, W4, g1, .inr ⟨rfl, .ret, O3, hg3, g2, g3, g4⟩⟩
      | exit id =>
        obtain ⟨l3, O3, hg3, hs3⟩ := he3
        obtain ⟨W4, g1, g2, g3, g4⟩ := fin O3 l3 a3 W3 (some (.exit id)) hs3
        exact ⟨_, W4, g1, .inr ⟨rfl, .exit id, O3, hg3, g2, g3, g4⟩⟩
      | goto t => exact he3.elim
      | panic ch => exact he3.elim
      | outgrown => exact he3.elim

/-! ### The end of a function that holds such a loop -/
theorem fn_introM {σ : Type} {f : Nat} {fn : Func} {c : Code} {args : List Value} {M : Args} {val : σ → Value} {blks : σ → Blks} {ok : σ → Prop}
    {n : Nat} (hf : P.funcs[f]? = some fn) (hb : fn.body = some c) (hn : fn.ntmps = n) (hN : Nat.ble args.length n = true)
    (h : ∀ w0, OkC P (C0 n) w0 c (bodyPostM (Fr none) 0 P fn (postOf w0 val blks ok)) (envOf args 0) [] M) : Cn P f args M val blks ok := by
  intro w hM
  refine callsIn_wide.1 (callsIn_of_wp_marks (F := Fr none) (n := 0) hf hb trivial ?_)
  rw [hn]
  exact h w _ w (st_start (Nat.le_of_ble_eq_true hN) hM)

theorem St.unmark {n D : Nat} {ds : List Nat} {r : Option Nat} {wr : List Nat} {a : Act} {w : World} (hs : St ⟨n, D :: ds, r, wr⟩ w0 l O A a w) (hnd : D ∉ ds) :
    St ⟨n, ds, r, wr⟩ w0 l O A { tmps := a.tmps, defers := ds.map mark } (w.putObj D (.deferred none)) := by
  obtain ⟨h1, h2⟩ := hs.marked D (by simp)
  have hw : WS ⟨n, D :: ds, r, wr⟩ w0 O A (w.putObj D (.deferred none)) := hs.ws.put _ h1 rfl h2
  refine WS.st ⟨hw.bel, hw.own, hw.nodup, hw.arg⟩ hs.size rfl hs.env ?_
  intro D' hD'
  obtain ⟨h3, h4⟩ := hs.marked D' (by simp [hD'])
  have hne : D' ≠ D := fun e => hnd (by rw [← e]; exact hD')
  exact ⟨(World.putObj_heap_other hne).trans h3, h4⟩

theorem ret_postM {σ : Type} {fn : Func} {n D : Nat} {a : Act} {w : World} {val : σ → Value} {blks : σ → Blks} {ok : σ → Prop} {v : Value} (hs : St ⟨n, [D], none, []⟩ w0 l O A a w)
    (hr : ∀ a w, St (C0 n) w0 l O A a w → (results fn a.tmps).run P w = .ok v w)
    (s : σ) (hv : v = val s) (hok : ok s) (js : List Nat) (hjs : js.Nodup) (hB : blks s = pickB O js) : bodyPostM (Fr none) 0 P fn (postOf w0 val blks ok) .ret a w := by
  have h1 := hs.unmark (by simp)
  obtain ⟨_, v', h2, h3⟩ := ret_post h1 (hr _ _ h1) s hv hok js hjs hB
  show LeavesInM _ _ _ _ _ _ a.defers _ _
  rw [hs.noDef]
  refine ⟨by simp, .inl ⟨D, _, rfl, run_takeDeferred (hs.marked D (by simp)).1, v', h2, h3⟩⟩

theorem ret_vM {fn : Func} {n D : Nat} {a : Act} {w : World} {v r : Value} (hs : St ⟨n, [D], none, []⟩ w0 l O A a w) (hr : ∀ a w, St (C0 n) w0 l O A a w → (results fn a.tmps).run P w = .ok v w) (hv : v = r) :
    bodyPostM (Fr none) 0 P fn (postOf w0 (fun _ : Unit => r) (fun _ => []) (fun _ => True)) .ret a w :=
  ret_postM hs hr () hv trivial [] (by simp) rfl

/-- .. where the loop was not come to. -/
theorem ret_postM0 {σ : Type} {fn : Func} {n : Nat} {a : Act} {w : World} {val : σ → Value} {blks : σ → Blks} {ok : σ → Prop} {v : Value} (hs : St (C0 n) w0 l O A a w)
    (hr : ∀ a w, St (C0 n) w0 l O A a w → (results fn a.tmps).run P w = .ok v w)
    (s : σ) (hv : v = val s) (hok : ok s) (js : List Nat) (hjs : js.Nodup) (hB : blks s = pickB O js) : bodyPostM (Fr none) 0 P fn (postOf w0 val blks ok) .ret a w := by
  obtain ⟨_, v', h2, h3⟩ := ret_post hs (hr _ _ hs) s hv hok js hjs hB
  show LeavesInM _ _ _ _ _ _ a.defers _ _
  rw [hs.noDef]
  exact ⟨v', h2, h3⟩

/-! ### The iterator's side -/
theorem St.rebase {a : Act} {w : World} (hs : St N w0 l O A a w) (hm : N.marks = [] ∧ N.wr = [] := by exact ⟨rfl, rfl⟩) : St N w l [] A a w :=
  WS.st (l := l) ⟨BelowX.refl _ _, fun b cs T h => (by cases h), by simp [nums], fun b cs h => by
    obtain ⟨h1, h2⟩ := hs.ws.arg b cs h
    exact ⟨h1, h1.lt, by simp [hm.2]⟩⟩ hs.size hs.noDef hs.env (fun D hD => by simp [hm.1] at hD)

theorem St.noargs {a : Act} {w : World} (hs : St N w0 l O A a w) : St N w0 l O [] a w := ⟨hs.size, hs.noDef, hs.bel, hs.env, hs.own, hs.nodup, fun j b cs h => by simp at h, hs.marked⟩

theorem okl_yield {o : Oper} {ops : Array Oper} {is : List Nat} {i d y : Nat} {xs : Array Operand} {ts : Array TypeId} {x : Operand} {vs : List Value} {T F : World → Prop}
    (ho : ops[i]? = some o) (hg : wantsB ops l o = some true) (hd : o.dst = some d) (hNd : Nat.blt d N.n = true) (hop : o.op = .call { callee := .value x, args := xs, argTypes := ts })
    (hf : ev l x = some (.func (.yield y) #[] #[])) (hx : evAll l xs.toList = some vs) (hN : N.r = none ∧ N.marks = [] ∧ N.wr = [])
    (hY : ∀ w, Below w0.heap.size w0 w → YieldAt (Fr none) 0 P y vs.toArray w fun e W' => (e = .returned (.bool true) ∧ T W') ∨ (e = .returned (.bool false) ∧ F W'))
    (hA : ∀ W', T W' → ∀ b cs, (b, cs) ∈ A → reads W' b cs)
    (ht : ∀ W', T W' → OkL P N W' ops Q is ((d, .bool true) :: l) [] A) (hf' : ∀ W', F W' → OkL P N W' ops Q is ((d, .bool false) :: l) [] []) :
    OkL P N w0 ops Q (i :: is) l O A := by
  intro a w hs
  simp only [wpOpsIn, ho, wanted_of hs hg, if_true]
  obtain ⟨fn, tmps, assign, body, hy, hR⟩ := hY w (hs.bel.below hN.2.2)
  have hargs : xs.map a.eval = vs.toArray := by
    have := evAll_map hs hx
    apply Array.ext'
    simpa using this
  have hrun : (execOp a.eval o).run P w = .ok (.round y fn tmps assign body) w := by
    rw [← hy]
    simp only [execOp, hop, resolve, Sem.run_bind, hs.eval hf, Deferred.ofValue, hargs, Sem.run_pure, Result.andThen_ok, invoke, Array.empty_append]
  refine ⟨fun _ _ => trivial, ?_⟩
  rw [Oper.semAt_eq _ _ _ (fun c h => by rw [hop] at h; cases h), hrun, hN.1]
  refine ⟨fun h => absurd h (by simp [Fr, Fence.wide]), ?_⟩
  refine RoundIn.mono hR ?_
  have hst : ∀ (W' : World) (v : Value) (B : Args), (∀ b cs, (b, cs) ∈ B → reads W' b cs) → St N W' ((d, v) :: l) [] B (a.put o.dst v) W' := by
    intro W' v B hB
    have h1 : St N W' l [] B a W' := WS.st ⟨BelowX.refl _ _, fun b cs T h => (by cases h), by simp [nums], fun b cs h => ⟨hB b cs h, (hB b cs h).lt, by simp [hN.2.2]⟩⟩ hs.size hs.noDef hs.env (fun D hD => by simp [hN.2.1] at hD)
    rw [hd]
    exact h1.put hNd v
  rintro e W' (⟨rfl, hT⟩ | ⟨rfl, hF⟩)
  · have := ht W' hT _ W' (hst W' (.bool true) A (hA W' hT))
    rw [hN.1] at this
    exact this
  · have := hf' W' hF _ W' (hst W' (.bool false) [] (fun b cs h => by cases h))
    rw [hN.1] at this
    exact this

theorem okc_scope {c : Code} (hr : N.r = none) (h : OkC P N w0 c (Exit.noGoto Q) l O A) : OkC P N w0 (.scope c) Q l O A := fun a w hs => by
  have := h a w hs
  rw [hr] at this ⊢
  exact (wpIn_wide (n := 0)).2 (wp_scope_straight ((wpIn_wide (n := 0)).1 this))
theorem okc_label {k : Nat} (h : ∀ a w, St N w0 l O A a w → Q .normal a w) : OkC P N w0 (.label k) Q l O A := fun a w hs => wpIn_label (h a w hs)

/-- A loop whose state is named by a ghost, whatever it says. -/
theorem wp_loopG {γ : Type} {r : Option Nat} {c : Code} (I : γ → Act → World → Prop) (μ : γ → Nat) (g0 : γ) {a : Act} {w : World} (h0 : I g0 a w)
    (round : ∀ g a w, I g a w → c.wpIn (Fr r) 0 P (Exit.then (fun a w => ∃ g', μ g' < μ g ∧ I g' a w) Q) a w) : (Code.loop c).wpIn (Fr r) 0 P Q a w := by
  intro b k cs hro hb hr
  have key : ∀ n (g : γ), μ g = n → ∀ a w, I g a w →
      ∃ e a' w', Q e a' w' ∧ ArrivesIn (Machine.fenced P (Fr r)) P (lone (b.atR a (.code c :: .inLoop c :: k)) cs w) b k cs e a' w' := by
    intro n
    induction n using Nat.strongRecOn with
    | _ n ih =>
      intro g hn a w hs
      obtain ⟨e, a₁, w₁, hq, harr⟩ := round g a w hs b (.inLoop c :: k) cs hro hb hr
      cases e with
      | normal =>
        obtain ⟨g', hlt, hs'⟩ := hq
        obtain ⟨e₂, a₂, w₂, hq₂, harr₂⟩ := ih (μ g') (hn ▸ hlt) g' rfl a₁ w₁ hs'
        exact ⟨e₂, a₂, w₂, hq₂, .of_steps (StepsIn.trans harr (.one (fenced_calm hb hr rfl) stepR_inLoop)) harr₂⟩
      | exit id => exact ⟨_, a₁, w₁, hq, .pass (x := .inLoop c) rfl (fun _ _ => .inl (by simp)) harr⟩
      | goto l => exact ⟨_, a₁, w₁, hq, .pass (x := .inLoop c) rfl (fun _ _ => .inl (by simp)) harr⟩
      | ret => exact ⟨_, a₁, w₁, hq, .pass (x := .inLoop c) rfl (fun _ _ => .inl (by simp)) harr⟩
      | panic ch => exact ⟨_, a₁, w₁, hq, .pass (x := .inLoop c) rfl (fun _ _ => .inl (by simp)) harr⟩
      | outgrown => exact ⟨_, a₁, w₁, hq, .pass (x := .inLoop c) rfl (fun _ _ => .inl (by simp)) harr⟩
  obtain ⟨e, a', w', hq, harr⟩ := key _ g0 rfl a w h0
  exact ⟨e, a', w', hq, .of_steps (.one (fenced_calm hb hr rfl) stepR_loop) harr⟩

theorem op_makeFunc {o : Oper} {f : Nat} {x : Operand} {v : Value} (ho : o.op = .makeFunc (.func f) #[] #[x]) (hx : ev l x = some v) : OpV P N w0 l O A o (pv (.func (.func f) #[] #[v])) :=
  opv_run fun a w hs => by simp [execOp, ho, hs.eval hx, Instr.makeFunc]

theorem okc_reo {c : Code} {l' : Env} {O' : Blks} (hE : SubE l' l) (js : List Nat) (hjs : js.Nodup) (hO : pickB O js = O') (h : OkC P N w0 c Q l' O' A) : OkC P N w0 c Q l O A := fun a w hs => h a w (hs.weak hE js hjs hO)
end
end Go.Sx
