/-
  The evaluator, part R: regions that draw their order: what is asked of one, and that it then goes in whatever order.
  Conditions: none; generic over the program.
-/
import Derived.Test.YtdpnadknaacinaaEvQ
import Derived.OrdersIn
namespace Go.Ev
open Go.RowKit Go.Sx
set_option linter.unusedVariables false
set_option linter.unusedSimpArgs false

theorem HR.congr {w0 : Fen} {w : World} {σ : Sg} {h h' : Tr Ob} (H : HR w0 σ h w) (hh : ∀ i b r, σ i = some (b, r) → h'.get i = h.get i) : HR w0 σ h' w :=
  ⟨H.bel, H.low, fun i b r o hi ho => H.ob i b r o hi (by rw [← hh i b r hi]; exact ho), fun i j b r r' hi hj h1 h2 => H.inj i j b r r' hi hj (by rw [← hh i b r hi]; exact h1) (by rw [← hh j b r' hj]; exact h2), fun i b r hi h1 => H.own i b r hi (by rw [← hh i b r hi]; exact h1)⟩

/-! ### Operations that change nothing that lies there -/
section
variable {P : Program} {w0 : Fen} {w : World} {σ : Sg} {h : Tr Ob} {e : Tr Value} {n N nt : Nat} {a : Act} {o : Oper}

abbrev PasR := Option (Value × Option Ob)
noncomputable def newOf (N : Nat) (r : OpR) : PasR := obind r fun q => some (q.1, q.2.1.get N)
noncomputable def evPas (P : Program) (o : Oper) (e : Tr Value) (h : Tr Ob) (N : Nat) : PasR :=
  match o.op with
  | .alloc T => obind (zer P T) fun z => some (.pointer (some ⟨N, 0, none⟩), some (.c z T))
  | .box T x => obind (evo e x) fun v => some (.pointer (some ⟨N, 0, none⟩), some (.c (cel v) T))
  | .build T ⟨ps⟩ => obind (evParts e ps) fun qs => obind (evBuild P T qs) fun v => some (v, none)
  | .buildSlice T m ⟨ps⟩ => obind (evParts e ps) fun qs => newOf N (evBuildSlice P T m qs h N)
  | .makeSlice T x y => obind (evo e x) fun l => obind (evo e y) fun c => newOf N (evMakeSlice P T l c h N)
  | .makeMap _ none => some (.map (some N), some (.m [] 0))
  | .lookup T x y ok => obind (evo e x) fun m => obind (evo e y) fun k => obind (evLookup P T m k ok h) fun v => some (v, none)
  | _ => obind (evPure P o e h) fun v => some (v, none)

theorem evPas_none (H : HR w0 σ h w) (hE : ER σ e n a.tmps) {v : Value} (hr : evPas P o e h N = some (v, none)) : VOk P σ o a w v := by
  unfold evPas at hr
  split at hr
  · obtain ⟨z, hz, hr⟩ := obind_some hr
    cases hr
  · obtain ⟨z, hz, hr⟩ := obind_some hr
    cases hr
  · rename_i T ps ho
    obtain ⟨qs, hq, hr⟩ := obind_some hr
    obtain ⟨u, hu, hr⟩ := obind_some hr
    cases hr
    obtain ⟨us, h1, h2⟩ := evParts_ok hE hq
    obtain ⟨x, h3, h4⟩ := evBuild_ok (w := w) (parts := (⟨ps⟩ : Array (Nat × Operand)).map fun (i, x) => (i, a.eval x)) hu h1 (by rw [← h2]; simp)
    exact ⟨x, h3, by simp only [execOp, ho, Sem.run_bind, h4, Sem.run_pure, Result.andThen_ok]⟩
  · obtain ⟨qs, hq, hr⟩ := obind_some hr
    obtain ⟨⟨v1, h1, N1⟩, hr1, hr2⟩ := obind_some hr
    exfalso
    obtain ⟨el, he, hr3⟩ := obind_some hr1
    obtain ⟨zz, hz, hr4⟩ := obind_some hr3
    obtain ⟨_, hr5⟩ := ocond_some hr4
    obtain ⟨cs, _, hr6⟩ := obind_some hr5
    cases hr6
    have hr2' : (some (Value.slice (some ⟨N, 0, none⟩) _ _, (h.set (some (Ob.c cs el)) N).get N) : PasR) = some (v, none) := hr2
    rw [Tr.get_set, if_pos rfl] at hr2'
    cases hr2'
  · obtain ⟨l, hl, hr⟩ := obind_some hr
    obtain ⟨c, hc, hr⟩ := obind_some hr
    obtain ⟨⟨v1, h1, N1⟩, hr1, hr2⟩ := obind_some hr
    exfalso
    obtain ⟨_, _, hr3⟩ := obind_some hr1
    obtain ⟨_, _, hr4⟩ := obind_some hr3
    obtain ⟨_, _, hr5⟩ := obind_some hr4
    obtain ⟨_, _, hr6⟩ := obind_some hr5
    obtain ⟨_, _, hr7⟩ := obind_some hr6
    obtain ⟨_, hr8⟩ := ocond_some hr7
    obtain ⟨_, hr9⟩ := ocond_some hr8
    obtain ⟨_, hr10⟩ := ocond_some hr9
    cases hr10
    have hr2' : (some (Value.slice (some ⟨N, 0, none⟩) _ _, (h.set (some (Ob.c _ _)) N).get N) : PasR) = some (v, none) := hr2
    rw [Tr.get_set, if_pos rfl] at hr2'
    cases hr2'
  · cases hr
  · rename_i T x y ok ho
    obtain ⟨m, hm, hr⟩ := obind_some hr
    obtain ⟨k, hk, hr⟩ := obind_some hr
    obtain ⟨u, hu, hr⟩ := obind_some hr
    cases hr
    obtain ⟨x', h3, h4⟩ := evLookup_ok H hu (evo_ok hE hm) (evo_ok hE hk)
    exact ⟨x', h3, by simp only [execOp, ho, Sem.run_bind, h4, Sem.run_pure, Result.andThen_ok]⟩
  · obtain ⟨u, hu, hr⟩ := obind_some hr
    cases hr
    exact evPure_ok H hE hu

theorem evPas_some (H : HR w0 σ h w) (hE : ER σ e n a.tmps) (hf : Fresh σ N (N + 1)) {v : Value} {ob : Ob} (hr : evPas P o e h N = some (v, some ob)) : EOk P w0 σ N o a w v (h.set (some ob) N) (N + 1) := by
  unfold evPas at hr
  split at hr
  · rename_i T ho
    obtain ⟨z, hz, hr⟩ := obind_some hr
    cases hr
    exact evAlloc_ok H hf ho hz
  · rename_i T x ho
    obtain ⟨u, hx, hr⟩ := obind_some hr
    cases hr
    exact evBox_ok H hE hf ho hx
  · obtain ⟨qs, hq, hr⟩ := obind_some hr
    obtain ⟨u, hu, hr⟩ := obind_some hr
    cases hr
  · rename_i T m ps ho
    obtain ⟨qs, hq, hr⟩ := obind_some hr
    obtain ⟨⟨v1, h1, N1⟩, hr1, hr2⟩ := obind_some hr
    obtain ⟨hN, hok⟩ := evBuildSlice_ok H hE hf ho hq hr1
    have hr2' : (some (v1, h1.get N) : PasR) = some (v, some ob) := hr2
    obtain ⟨el, he, hr3⟩ := obind_some hr1
    obtain ⟨zz, hz, hr4⟩ := obind_some hr3
    obtain ⟨_, hr5⟩ := ocond_some hr4
    obtain ⟨cs, _, hr6⟩ := obind_some hr5
    cases hr6
    rw [Tr.get_set, if_pos rfl] at hr2'
    cases hr2'
    exact hok
  · rename_i T x y ho
    obtain ⟨l, hl, hr⟩ := obind_some hr
    obtain ⟨c, hc, hr⟩ := obind_some hr
    obtain ⟨⟨v1, h1, N1⟩, hr1, hr2⟩ := obind_some hr
    obtain ⟨hN, hok⟩ := evMakeSlice_ok H hf ho (evo_ok hE hl) (evo_ok hE hc) hr1
    have hr2' : (some (v1, h1.get N) : PasR) = some (v, some ob) := hr2
    obtain ⟨_, _, hr3⟩ := obind_some hr1
    obtain ⟨_, _, hr4⟩ := obind_some hr3
    obtain ⟨_, _, hr5⟩ := obind_some hr4
    obtain ⟨_, _, hr6⟩ := obind_some hr5
    obtain ⟨_, _, hr7⟩ := obind_some hr6
    obtain ⟨_, hr8⟩ := ocond_some hr7
    obtain ⟨_, hr9⟩ := ocond_some hr8
    obtain ⟨_, hr10⟩ := ocond_some hr9
    cases hr10
    rw [Tr.get_set, if_pos rfl] at hr2'
    cases hr2'
    exact hok
  · rename_i T ho
    cases hr
    exact evMakeMap_ok H hf ho
  · obtain ⟨m, hm, hr⟩ := obind_some hr
    obtain ⟨k, hk, hr⟩ := obind_some hr
    obtain ⟨u, hu, hr⟩ := obind_some hr
    cases hr
  · obtain ⟨u, hu, hr⟩ := obind_some hr
    cases hr

theorem evPas_defer {r : Value × Option Ob} (hr : evPas P o e h N = some r) : ∀ c, o.op ≠ .defer c := by
  intro c hc
  unfold evPas at hr
  rw [hc] at hr
  obtain ⟨u, hu, _⟩ := obind_some hr
  unfold evPure at hu
  rw [hc] at hu
  cases hu
theorem evPure_defer {r : Value} (hr : evPure P o e h = some r) : ∀ c, o.op ≠ .defer c := by
  intro c hc
  unfold evPure at hr
  rw [hc] at hr
  cases hr
end

/-! ### The plan of a region -/
inductive Kd where
  | skip
  | pure
  | heap
  | eff
structure Tk where
  i : Nat
  o : Oper
  anc : Nat
  R : Tr Value
  v : Value
  lo : Nat
  hi : Nat
  st : Nat
  kd : Kd
  rk : Nat

def Tk.isE (τ : Tk) : Prop := τ.kd = .eff

/-- All that is asked of a region's operations, gone through in one order, so that they may go in any. -/
structure Plan (P : Program) (call : CallF) (nt : Nat) (ops : Array Oper) (e0 : Tr Value) (h0 : Tr Ob) (N0 : Nat) (T : List Tk) (Hs : Nat → Tr Ob) (m : Nat) (e' : Tr Value) (N' : Nat) : Prop where
  all : ∀ i, i < ops.size → ∃ τ ∈ T, τ.i = i
  uniq : ∀ τ ∈ T, ∀ τ' ∈ T, τ.i = τ'.i → τ = τ'
  op : ∀ τ ∈ T, ops[τ.i]? = some τ.o
  edge : ∀ τ ∈ T, ∀ g ∈ τ.o.after, Region.binds .any g = true → τ.anc.testBit g.on = true
  anc : ∀ τ ∈ T, ∀ j, τ.anc.testBit j = true → ∃ g ∈ τ.o.after, Region.binds .any g = true ∧ (j = g.on ∨ ∃ τ' ∈ T, τ'.i = g.on ∧ τ'.anc.testBit j = true)
  rank : ∀ τ ∈ T, ∀ j, τ.anc.testBit j = true → ∃ τ' ∈ T, τ'.i = j ∧ τ'.rk < τ.rk
  effs : ∀ τ ∈ T, ∀ k, k < τ.st → ∃ τe ∈ T, τe.isE ∧ τe.st = k ∧ τ.anc.testBit τe.i = true
  effu : ∀ τ ∈ T, ∀ τ' ∈ T, τ.isE → τ'.isE → τ.st = τ'.st → τ = τ'
  effm : ∀ τ ∈ T, (τ.isE → τ.st < m) ∧ τ.st ≤ m
  effx : ∀ k, k < m → ∃ τ ∈ T, τ.isE ∧ τ.st = k
  num : N0 ≤ N' ∧ ∀ τ ∈ T, N0 ≤ τ.lo ∧ τ.lo ≤ τ.hi ∧ τ.hi ≤ N'
  disj : ∀ τ ∈ T, ∀ τ' ∈ T, τ.i ≠ τ'.i → τ.hi ≤ τ'.lo ∨ τ'.hi ≤ τ.lo
  dst : ∀ τ ∈ T, ∀ t, τ.o.dst = some t → t < nt ∧ ∀ τ' ∈ T, τ'.o.dst = some t → τ'.i = τ.i
  env : ∀ τ ∈ T, ∀ t v, τ.R.get t = some v → (∃ τ' ∈ T, τ'.o.dst = some t ∧ τ'.v = v ∧ τ.anc.testBit τ'.i = true) ∨ (e0.get t = some v ∧ ∀ τ' ∈ T, τ'.o.dst = some t → τ'.anc.testBit τ.i = true)
  want : ∀ τ ∈ T, evWants ops τ.R τ.o = some (match τ.kd with | .skip => false | _ => true)
  skip : ∀ τ ∈ T, τ.kd = .skip → τ.v = undef
  pure : ∀ τ ∈ T, τ.kd = .pure → evPure P τ.o τ.R .nil = some τ.v
  heap : ∀ τ ∈ T, τ.kd = .heap → ∀ k, τ.st ≤ k → k ≤ m → (∀ τe ∈ T, τe.isE → τe.st < k → τe.anc.testBit τ.i = false) →
    ∃ ob, evPas P τ.o τ.R (Hs k) τ.lo = some (τ.v, ob) ∧ (∀ o, ob = some o → (Hs k).get τ.lo = some o ∧ τ.hi = τ.lo + 1)
  eff : ∀ τ ∈ T, τ.isE → ∃ hx, evStep P call τ.o τ.R (Hs τ.st) τ.lo = some (τ.v, hx, τ.hi) ∧ ∀ id, hx.get id = (Hs (τ.st + 1)).get id ∨ ∃ τ' ∈ T, τ'.st = τ.st + 1 ∧ τ'.lo ≤ id ∧ id < τ'.hi
  beg : ∀ id, h0.get id = (Hs 0).get id ∨ ∃ τ ∈ T, τ.lo ≤ id ∧ id < τ.hi
  fin : ∀ t v, e'.get t = some v → (∃ τ ∈ T, τ.o.dst = some t ∧ τ.v = v) ∨ (e0.get t = some v ∧ ∀ τ ∈ T, τ.o.dst ≠ some t)

/-- In the middle of a region: some operations are done. -/
structure Mid (w0 : Fen) (σ0 : Sg) (nt : Nat) (ops : Array Oper) (e0 : Tr Value) (N0 N' : Nat) (T : List Tk) (Hs : Nat → Tr Ob) (m : Nat) (ds : List Deferred) (D : Array Bool) (σ : Sg) (k : Nat) (a : Act) (w : World) : Prop where
  size : D.size = ops.size
  km : k ≤ m
  cnt : ∀ τ ∈ T, τ.isE → (D.getD τ.i false = true ↔ τ.st < k)
  mem : HR w0 σ (Hs k) w
  closed : ∀ τ ∈ T, D.getD τ.i false = true → ∀ g ∈ τ.o.after, Region.binds .any g = true → D.getD g.on false = true
  slots : ∀ τ ∈ T, D.getD τ.i false = true → ∀ t, τ.o.dst = some t → ∃ x, Rl σ τ.v x ∧ a.tmps[t]? = some x
  olds : ∀ t v, e0.get t = some v → (∀ τ ∈ T, D.getD τ.i false = true → τ.o.dst ≠ some t) → ∃ x, Rl σ v x ∧ a.tmps[t]? = some x
  tsize : a.tmps.size = nt
  defers : a.defers = ds
  ext : Ext σ0 σ N0 N'
  fresh : ∀ τ ∈ T, D.getD τ.i false = false → Fresh σ τ.lo τ.hi

section
variable {P : Program} {call : CallF} {w0 : Fen} {w : World} {σ0 σ : Sg} {nt N0 N' m k : Nat} {ops : Array Oper} {e0 e' : Tr Value} {h0 : Tr Ob} {T : List Tk} {Hs : Nat → Tr Ob} {ds : List Deferred} {D : Array Bool} {a : Act}

theorem Plan.anc_done (p : Plan P call nt ops e0 h0 N0 T Hs m e' N') (M : Mid w0 σ0 nt ops e0 N0 N' T Hs m ds D σ k a w) : ∀ τ ∈ T, (∀ g ∈ τ.o.after, Region.binds .any g = true → D.getD g.on false = true) →
    ∀ j, τ.anc.testBit j = true → D.getD j false = true := by
  have key : ∀ n, ∀ τ ∈ T, τ.rk = n → (∀ g ∈ τ.o.after, Region.binds .any g = true → D.getD g.on false = true) → ∀ j, τ.anc.testBit j = true → D.getD j false = true := by
    intro n
    induction n using Nat.strongRecOn with
    | _ n ih =>
      intro τ hτ hn hg j hj
      obtain ⟨g, hgm, hgb, hjg⟩ := p.anc τ hτ j hj
      rcases hjg with rfl | ⟨τ', hτ', hi, hj'⟩
      · exact hg g hgm hgb
      · obtain ⟨τ2, h1, h2, h3⟩ := p.rank τ hτ g.on (p.edge τ hτ g hgm hgb)
        have := p.uniq τ2 h1 τ' hτ' (by rw [h2, hi])
        subst this
        refine ih τ2.rk (by rw [← hn]; exact h3) τ2 hτ' rfl ?_ j hj'
        exact M.closed τ2 hτ' (by rw [hi]; exact hg g hgm hgb)
  intro τ hτ hg
  exact key _ τ hτ rfl hg

theorem getD_set {D : Array Bool} {i j : Nat} (hi : i < D.size) : (D.setIfInBounds i true).getD j false = if j = i then true else D.getD j false := by
  simp only [Array.getD_eq_getD_getElem?]
  by_cases e : j = i
  · subst e; simp [hi]
  · rw [if_neg e, Array.getElem?_setIfInBounds_ne (Ne.symm e)]

/-- The slots that an operation looks at. -/
theorem Plan.er (p : Plan P call nt ops e0 h0 N0 T Hs m e' N') (M : Mid w0 σ0 nt ops e0 N0 N' T Hs m ds D σ k a w) {τ : Tk} (hτ : τ ∈ T) (hD : D.getD τ.i false = false) (hg : ∀ g ∈ τ.o.after, Region.binds .any g = true → D.getD g.on false = true) : ER σ τ.R nt a.tmps := by
  refine ⟨M.tsize, fun t v ht => ?_⟩
  rcases p.env τ hτ t v ht with ⟨τ', h1, h2, h3, h4⟩ | ⟨h1, h2⟩
  · subst h3
    exact M.slots τ' h1 (p.anc_done M τ hτ hg _ h4) t h2
  · refine M.olds t v h1 (fun τ' h3 h4 h5 => ?_)
    have := p.anc_done M τ' h3 (M.closed τ' h3 h4) _ (h2 τ' h3 h5)
    rw [hD] at this
    cases this

/-- One operation more is done. -/
theorem Mid.step (p : Plan P call nt ops e0 h0 N0 T Hs m e' N') (M : Mid w0 σ0 nt ops e0 N0 N' T Hs m ds D σ k a w) {τ : Tk} (hτ : τ ∈ T) (hD : D.getD τ.i false = false) (hg : ∀ g ∈ τ.o.after, Region.binds .any g = true → D.getD g.on false = true)
    {σ' : Sg} {k' : Nat} {x : Value} {w' : World} (hext : Ext σ σ' τ.lo τ.hi) (hx : Rl σ' τ.v x) (hmem : HR w0 σ' (Hs k') w') (hk' : k' ≤ m) (hk : (τ.isE ∧ τ.st = k ∧ k' = k + 1) ∨ (¬ τ.isE ∧ k' = k)) :
    Mid w0 σ0 nt ops e0 N0 N' T Hs m ds (D.setIfInBounds τ.i true) σ' k' (a.put τ.o.dst x) w' := by
  have hi : τ.i < D.size := by
    rw [M.size]
    have := p.op τ hτ
    rcases Nat.lt_or_ge τ.i ops.size with h | h
    · exact h
    · rw [Array.getElem?_eq_none h] at this; cases this
  have hle : SLe σ σ' := hext.le (M.fresh τ hτ hD)
  have hput : ∀ t y, (∀ d, τ.o.dst = some d → d ≠ t) → a.tmps[t]? = some y → (a.put τ.o.dst x).tmps[t]? = some y := by
    intro t y hne hy
    cases hd : τ.o.dst with
    | none => simpa [Act.put] using hy
    | some d =>
      simp only [Act.put]
      rw [Array.getElem?_setIfInBounds_ne (hne d hd)]
      exact hy
  refine ⟨by simp [M.size], hk', ?_, hmem, ?_, ?_, ?_, ?_, ?_, ?_, ?_⟩
  · intro τ' hτ' hE
    rw [getD_set hi]
    by_cases e : τ'.i = τ.i
    · have := p.uniq τ' hτ' τ hτ e
      subst this
      rw [if_pos rfl]
      rcases hk with ⟨_, h2, h3⟩ | ⟨h1, _⟩
      · simp; omega
      · exact absurd hE h1
    · rw [if_neg e, M.cnt τ' hτ' hE]
      rcases hk with ⟨h1, h2, h3⟩ | ⟨_, h2⟩
      · have hne : τ'.st ≠ k := fun hs => e (by rw [p.effu τ' hτ' τ hτ hE h1 (by omega)])
        omega
      · rw [h2]
  · intro τ' hτ' hd g hgm hgb
    rw [getD_set hi] at hd ⊢
    by_cases eg : g.on = τ.i
    · rw [if_pos eg]
    · rw [if_neg eg]
      by_cases e : τ'.i = τ.i
      · have := p.uniq τ' hτ' τ hτ e
        subst this
        exact hg g hgm hgb
      · rw [if_neg e] at hd
        exact M.closed τ' hτ' hd g hgm hgb
  · intro τ' hτ' hd t ht
    rw [getD_set hi] at hd
    by_cases e : τ'.i = τ.i
    · have := p.uniq τ' hτ' τ hτ e
      subst this
      refine ⟨x, hx, ?_⟩
      rw [ht]
      have := (p.dst τ' hτ t ht).1
      simp [Act.put, M.tsize, this]
    · rw [if_neg e] at hd
      obtain ⟨y, h1, h2⟩ := M.slots τ' hτ' hd t ht
      exact ⟨y, h1.mono hle, hput t y (fun d hd' hdt => by subst hdt; exact e ((p.dst τ hτ d hd').2 τ' hτ' ht)) h2⟩
  · intro t v hv hno
    have hself : (D.setIfInBounds τ.i true).getD τ.i false = true := by rw [getD_set hi, if_pos rfl]
    obtain ⟨y, h1, h2⟩ := M.olds t v hv (fun τ' h3 h4 => hno τ' h3 (by
      rw [getD_set hi]
      by_cases e : τ'.i = τ.i
      · rw [if_pos e]
      · rw [if_neg e]; exact h4))
    exact ⟨y, h1.mono hle, hput t y (fun d hd' hdt => by subst hdt; exact hno τ hτ hself hd') h2⟩
  · rw [← M.tsize]; cases τ.o.dst <;> simp [Act.put]
  · rw [← M.defers]; cases τ.o.dst <;> rfl
  · intro i hi'
    have := (p.num.2 τ hτ)
    rw [hext i (by omega)]
    exact M.ext i hi'
  · intro τ' hτ' hd i h1 h2
    rw [getD_set hi] at hd
    by_cases e : τ'.i = τ.i
    · rw [if_pos e] at hd; cases hd
    · rw [if_neg e] at hd
      have := p.disj τ' hτ' τ hτ e
      rw [hext i (by omega)]
      exact M.fresh τ' hτ' hd i h1 h2

end
end Go.Ev
