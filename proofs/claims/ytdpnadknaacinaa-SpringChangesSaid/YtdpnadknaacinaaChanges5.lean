/-
  Texts that the proof uses, part 5.
  Conditions: none.
-/
import Derived.Test.YtdpnadknaacinaaChanges4

set_option linter.unusedVariables false
set_option linter.unusedSimpArgs false

section
namespace Go.Sx
open Go.RowKit Region

/-- An operation under a frame: it takes the blocks c, and hands back others. -/
def OpX (P : Program) (N : Cx) (w0 : World) (l : Env) (c keep : Blks) (A : Args) (o : Oper) (φ : Value → Blks → Prop) : Prop :=
  ∀ (F : Blks) (a : Act) (w : World), St N w0 l (F ++ (c ++ keep)) A a w → ∀ (K : Act → World → Prop) (Q : Exit → Act → World → Prop),
    (∀ v B w', φ v B → St N w0 l (F ++ (B ++ keep)) A a w' → K (a.put o.dst v) w') → o.wpIn (Fr N.r) 0 P a w K Q

structure EX where
  d : Option Nat
  ds : List Nat
  c : Blks
  φ : List (Value × Blks) → Value → Blks → Prop

def envX (es : List EX) (ρ : Nat → Value × Blks) : List Nat → Env
  | [] => []
  | k :: ks => match es[k]? with
    | some e => match e.d with
      | some d => (d, (ρ k).1) :: envX es ρ ks
      | none => envX es ρ ks
    | none => envX es ρ ks
def blkX (ρ : Nat → Value × Blks) (ds : List Nat) : Blks := ds.flatMap fun k => (ρ k).2
def consX (es : List EX) (k : Nat) : Blks := match es[k]? with | some e => e.c | none => []
def remX (es : List EX) (D : Nat → Bool) (ρ : Nat → Value × Blks) : Blks := (List.range es.length).flatMap fun k => if D k then (ρ k).2 else consX es k
def okX (es : List EX) (ρ : Nat → Value × Blks) (k : Nat) : Prop := ∀ e, es[k]? = some e → e.φ (e.ds.map ρ) (ρ k).1 (ρ k).2

section
variable (P : Program) (N : Cx) (w0 : World) (ops : Array Oper) (lb : Env) (Osh : Blks) (A : Args)

def GoodX (l : Env) (c keep : Blks) (o : Oper) (φ : Value → Blks → Prop) : Prop :=
  (wantsB ops l o = some true ∧ OpX P N w0 l c keep A o φ) ∨ (wantsB ops l o = some false ∧ φ undef c)

def OblX (es : List EX) (i : Nat) (e : EX) : Prop :=
  ∃ o, ops[i]? = some o ∧ o.dst = e.d ∧ (∀ d, e.d = some d → d < N.n) ∧ (∀ k ∈ e.ds, k < es.length ∧ ∃ g ∈ o.after, g.on = k ∧ binds .any g = true) ∧ e.ds.Nodup ∧
    ∀ ρ : Nat → Value × Blks, (∀ k ∈ e.ds, okX es ρ k) → GoodX P N w0 ops A (envX es ρ e.ds ++ lb) e.c (blkX ρ e.ds ++ Osh) o (e.φ (e.ds.map ρ))
end

section
variable {P : Program} {N : Cx} {w0 : World} {ops : Array Oper} {lb l : Env} {O Osh : Blks} {A : Args} {es : List EX}

theorem mem_envX {ρ : Nat → Value × Blks} : ∀ (ds : List Nat) {t : Nat} {v : Value}, (t, v) ∈ envX es ρ ds → ∃ k ∈ ds, ∃ e, es[k]? = some e ∧ e.d = some t ∧ v = (ρ k).1
  | [], t, v, h => by simp [envX] at h
  | k :: ks, t, v, h => by
    simp only [envX] at h
    split at h
    · rename_i e he
      split at h
      · rename_i d hd
        rcases List.mem_cons.1 h with h1 | h1
        · cases h1; exact ⟨k, by simp, e, he, hd, rfl⟩
        · obtain ⟨j, hj, hh⟩ := mem_envX ks h1; exact ⟨j, by simp [hj], hh⟩
      · obtain ⟨j, hj, hh⟩ := mem_envX ks h; exact ⟨j, by simp [hj], hh⟩
    · obtain ⟨j, hj, hh⟩ := mem_envX ks h; exact ⟨j, by simp [hj], hh⟩

theorem flatMap_congr' {α β : Type} {f g : α → List β} : ∀ {L : List α}, (∀ x ∈ L, f x = g x) → L.flatMap f = L.flatMap g
  | [], _ => rfl
  | x :: L, h => by
    simp only [List.flatMap_cons]
    rw [h x (by simp), flatMap_congr' (fun y hy => h y (by simp [hy]))]

structure MidX (P : Program) (N : Cx) (w0 : World) (lb : Env) (Osh : Blks) (A : Args) (es : List EX) (ρ : Nat → Value × Blks) (D : Nat → Bool) (a : Act) (w : World) : Prop where
  st : St N w0 lb (Osh ++ remX es D ρ) A a w
  env : ∀ k e d, D k = true → es[k]? = some e → e.d = some d → a.tmps[d]? = some (ρ k).1
  ok : ∀ k, D k = true → okX es ρ k
  dep : ∀ k e, D k = true → es[k]? = some e → ∀ j ∈ e.ds, D j = true

/-- The slots that the region writes. -/
def slotsX (es : List EX) : List Nat := es.filterMap (·.d)

theorem slotsX_inj : ∀ {es : List EX}, (slotsX es).Nodup → ∀ {i j d : Nat} {e e' : EX}, es[i]? = some e → es[j]? = some e' → e.d = some d → e'.d = some d → i = j
  | [], _, i, j, d, e, e', h, _, _, _ => by simp at h
  | x :: es, hn, i, j, d, e, e', hi, hj, hd, hd' => by
    have mem : ∀ {k : Nat} {y : EX}, es[k]? = some y → y.d = some d → d ∈ slotsX es := fun hk hy => List.mem_filterMap.2 ⟨_, List.mem_of_getElem? hk, hy⟩
    have hn' : (slotsX es).Nodup := by
      unfold slotsX at hn ⊢
      rw [List.filterMap_cons] at hn
      split at hn
      · exact hn
      · exact (List.nodup_cons.1 hn).2
    have hx : x.d = some d → d ∉ slotsX es := fun hxd => by
      unfold slotsX at hn
      rw [List.filterMap_cons, hxd] at hn
      exact (List.nodup_cons.1 hn).1
    match i, j with
    | 0, 0 => rfl
    | 0, j + 1 =>
      simp only [List.getElem?_cons_zero, Option.some.injEq] at hi
      subst hi
      exact absurd (mem (by simpa using hj) hd') (hx hd)
    | i + 1, 0 =>
      simp only [List.getElem?_cons_zero, Option.some.injEq] at hj
      subst hj
      exact absurd (mem (by simpa using hi) hd) (hx hd')
    | i + 1, j + 1 => exact congrArg (· + 1) (slotsX_inj (i := i) (j := j) hn' (by simpa using hi) (by simpa using hj) hd hd')

theorem perm_split {n i : Nat} {ds : List Nat} (hi : i < n) (hds : ∀ k ∈ ds, k < n) (hn : (i :: ds).Nodup) : (List.range n).Perm ((List.range n).filter (fun k => !(decide (k ∈ i :: ds))) ++ (i :: ds)) := by
  have hf : ((List.range n).filter (fun k => !(decide (k ∈ i :: ds)))).Nodup := List.Nodup.sublist (List.filter_sublist) List.nodup_range
  refine (List.perm_ext_iff_of_nodup List.nodup_range ?_).2 ?_
  · rw [List.nodup_append]
    refine ⟨hf, hn, ?_⟩
    rintro x hx y hy rfl
    simp only [List.mem_filter, Bool.not_eq_true', decide_eq_false_iff_not] at hx
    exact hx.2 hy
  · intro x
    simp only [List.mem_append, List.mem_filter, List.mem_range, Bool.not_eq_true', decide_eq_false_iff_not]
    constructor
    · intro hx
      by_cases hm : x ∈ i :: ds
      · exact .inr hm
      · exact .inl ⟨hx, hm⟩
    · rintro (⟨hx, _⟩ | hm)
      · exact hx
      · rcases List.mem_cons.1 hm with e | hm
        · omega
        · exact hds x hm

theorem perm_four {α : Type} (a b c d : List α) : (a ++ (b ++ (c ++ d))).Perm (b ++ (c ++ (d ++ a))) := by
  have := List.perm_append_comm (l₁ := a) (l₂ := b ++ (c ++ d))
  simpa [List.append_assoc] using this

/-! What comes behind all the others, by way of others. -/
def bound (o : Oper) : List Nat := (o.after.toList.filter fun g => binds .any g).map (·.on)
def reachL (ops : Array Oper) : Nat → List Nat → List Nat
  | 0, l => l
  | f + 1, l => l ++ reachL ops f (l.flatMap fun j => match ops[j]? with | some o => bound o | none => [])
def ClX (ops : Array Oper) (D : Nat → Bool) : Prop := ∀ j o, D j = true → ops[j]? = some o → ∀ g ∈ o.after, binds .any g = true → D g.on = true
def TailX (ops : Array Oper) (n : Nat) : Prop := ∀ (i : Nat) (o : Oper), n ≤ i → ops[i]? = some o → ∀ D, ClX ops D → (∀ g ∈ o.after, binds .any g = true → D g.on = true) → ∀ k, k < i → D k = true
def tailX (ops : Array Oper) (n f : Nat) : Bool := ops.toList.zipIdx.all fun (o, i) => Nat.blt i n || (List.range i).all fun k => (reachL ops f (bound o)).any fun x => Nat.beq x k

theorem mem_bound {o : Oper} {k : Nat} : k ∈ bound o ↔ ∃ g ∈ o.after, binds .any g = true ∧ g.on = k := by
  simp only [bound, List.mem_map, List.mem_filter, Array.mem_toList_iff]
  constructor
  · rintro ⟨g, ⟨h1, h2⟩, h3⟩; exact ⟨g, h1, h2, h3⟩
  · rintro ⟨g, h1, h2, h3⟩; exact ⟨g, ⟨h1, h2⟩, h3⟩
theorem reach_done {D : Nat → Bool} (hc : ClX ops D) : ∀ (f : Nat) (l : List Nat), (∀ x ∈ l, D x = true) → ∀ x ∈ reachL ops f l, D x = true
  | 0, l, h, x, hx => h x hx
  | f + 1, l, h, x, hx => by
    rcases List.mem_append.1 hx with h1 | h1
    · exact h x h1
    · refine reach_done hc f _ ?_ x h1
      intro y hy
      obtain ⟨j, hj, hy⟩ := List.mem_flatMap.1 hy
      split at hy
      · rename_i o ho
        obtain ⟨g, h2, h3, rfl⟩ := mem_bound.1 hy
        exact hc j o (h j hj) ho g h2 h3
      · cases hy
theorem tailX_of {n f : Nat} (h : tailX ops n f = true) : TailX ops n := by
  intro i o hi ho D hc hd k hk
  unfold tailX at h
  rw [List.all_eq_true] at h
  have hm : (o, i) ∈ ops.toList.zipIdx := by
    rw [List.mem_zipIdx_iff_getElem?]
    simpa using ho
  have h1 := h (o, i) hm
  simp only [Bool.or_eq_true] at h1
  rcases h1 with h1 | h1
  · have := of_blt h1; omega
  · rw [List.all_eq_true] at h1
    have := h1 k (List.mem_range.2 hk)
    rw [List.any_eq_true] at this
    obtain ⟨x, hx, hxk⟩ := this
    have := Nat.eq_of_beq_eq_true hxk
    subst this
    refine reach_done hc f _ ?_ x hx
    intro y hy
    obtain ⟨g, h2, h3, rfl⟩ := mem_bound.1 hy
    exact hd g h2 h3
theorem clX_upd {D : Nat → Bool} {i : Nat} (hc : ClX ops D) (h3 : ∀ o, ops[i]? = some o → ∀ g ∈ o.after, binds .any g = true → D g.on = true) : ClX ops (upd D i) := by
  intro j o hj ho g hg hb
  have hD : D g.on = true := by
    by_cases e : j = i
    · subst e; exact h3 o ho g hg hb
    · exact hc j o (by simpa [upd, e] using hj) ho g hg hb
  simp [upd, hD]
theorem forcedX {n : Nat} (ht : TailX ops n) : ∀ (is : List Nat) (D : Nat → Bool) (j : Nat), n ≤ j → j ≤ ops.size → ClX ops D → (∀ k, D k = true ↔ k < j) → Val .any ops D is → is = List.range' j (ops.size - j)
  | [], D, j, _, hj, _, hD, hv => by
    have : ops.size - j = 0 := by
      rcases Nat.lt_or_ge j ops.size with h1 | h1
      · have := (hD j).1 (hv j h1); omega
      · omega
    rw [this]; rfl
  | i :: is, D, j, hnj, hj, hc, hD, ⟨⟨h1, h2, h3⟩, hv⟩ => by
    have hij : i = j := by
      have hge : j ≤ i := by
        rcases Nat.lt_or_ge i j with h4 | h4
        · have := (hD i).2 h4; rw [h2] at this; cases this
        · exact h4
      rcases Nat.lt_or_ge j i with h4 | h4
      · obtain ⟨o, ho⟩ : ∃ o, ops[i]? = some o := ⟨ops[i], by simp [h1]⟩
        have h5 := ht i o (by omega) ho D hc (fun g hg hb => h3 o ho g hg hb) j h4
        have := (hD j).1 h5
        omega
      · omega
    subst hij
    have ih := forcedX ht is (upd D i) (i + 1) (by omega) (by omega) (clX_upd hc (fun o ho g hg hb => h3 o ho g hg hb)) (by
      intro k
      simp only [upd]
      split
      · rename_i e; rw [e]; simp
      · rename_i e; rw [hD k]; omega) hv
    have : ops.size - i = (ops.size - (i + 1)) + 1 := by omega
    rw [this, List.range'_succ, ← ih]

theorem midx_runs {n : Nat} {Q : Exit → Act → World → Prop} (hlen : es.length = n) (hle : n ≤ ops.size) (htail : TailX ops n) (hob : ∀ i e, es[i]? = some e → OblX P N w0 ops lb Osh A es i e) (hn : (slotsX es).Nodup)
    (hlb : ∀ t v, get lb t = some v → t ∉ slotsX es)
    (hQ : ∀ ρ a w, MidX P N w0 lb Osh A es ρ (fun i => Nat.blt i n) a w → wpOpsIn (Fr N.r) 0 P ops Q (List.range' n (ops.size - n)) a w) :
    ∀ (is : List Nat) (ρ : Nat → Value × Blks) (D : Nat → Bool) (a : Act) (w : World), (∀ i, D i = true → i < n) → ClX ops D → Val .any ops D is → MidX P N w0 lb Osh A es ρ D a w → wpOpsIn (Fr N.r) 0 P ops Q is a w
  | [], ρ, D, a, w, hDn, hcl, hv, hm => by
    have hall : ∀ i, i < n → D i = true := fun i hi => hv i (Nat.lt_of_lt_of_le hi hle)
    have := hQ ρ a w (eq_blt hDn hall ▸ hm)
    have h0 : ops.size - n = 0 := by
      rcases Nat.lt_or_ge n ops.size with h1 | h1
      · exact absurd (hDn n (hv n h1)) (Nat.lt_irrefl n)
      · omega
    rw [h0] at this
    exact this
  | i :: is, ρ, D, a, w, hDn, hcl, ⟨⟨hr1, hr2, hr3⟩, hv⟩, hm => by
    by_cases hin : i < n
    case neg =>
      have hall : ∀ k, k < i → D k = true := by
        intro k hk
        obtain ⟨o, ho⟩ : ∃ o, ops[i]? = some o := ⟨ops[i], by simp [hr1]⟩
        exact htail i o (by omega) ho D hcl (fun g hg hb => hr3 o ho g hg hb) k hk
      have hDe := eq_blt hDn (fun k hk => hall k (by omega))
      have hfor := forcedX htail (i :: is) D n (Nat.le_refl _) hle hcl (fun k => ⟨fun h => hDn k h, fun h => hall k (by omega)⟩) ⟨⟨hr1, hr2, hr3⟩, hv⟩
      rw [hfor]
      exact hQ ρ a w (hDe ▸ hm)
    obtain ⟨e, he⟩ : ∃ e, es[i]? = some e := ⟨es[i]'(by omega), by simp [hlen, hin]⟩
    obtain ⟨o, ho, hd, hN, hds, hnd, hgood⟩ := hob i e he
    have hD : ∀ k ∈ e.ds, D k = true := by
      intro k hk
      obtain ⟨_, g, hg, hgk, hgb⟩ := hds k hk
      rw [← hgk]
      exact hr3 o ho g hg (binds_any hgb)
    have hids : i ∉ e.ds := fun h => by have := hD i h; rw [hr2] at this; cases this
    have hnd' : (i :: e.ds).Nodup := List.nodup_cons.2 ⟨hids, hnd⟩
    have hpm := perm_split (n := n) hin (fun k hk => hlen ▸ (hds k hk).1) hnd'
    generalize hrest : (List.range n).filter (fun k => !(decide (k ∈ i :: e.ds))) = rest at hpm
    have hrestI : ∀ k ∈ rest, k ≠ i := fun k hk e2 => by
      rw [← hrest] at hk
      simp only [List.mem_filter, Bool.not_eq_true', decide_eq_false_iff_not] at hk
      exact hk.2 (by simp [e2])
    -- the blocks, seen from this operation
    have hrem : (Osh ++ remX es D ρ).Perm (rest.flatMap (fun k => if D k then (ρ k).2 else consX es k) ++ (e.c ++ (blkX ρ e.ds ++ Osh))) := by
      have h1 : (remX es D ρ).Perm (rest.flatMap (fun k => if D k then (ρ k).2 else consX es k) ++ (e.c ++ blkX ρ e.ds)) := by
        unfold remX
        rw [hlen]
        refine (hpm.flatMap_right _).trans ?_
        rw [List.flatMap_append, List.flatMap_cons]
        have e1 : (if D i then (ρ i).2 else consX es i) = e.c := by rw [hr2]; simp [consX, he]
        have e2 : e.ds.flatMap (fun k => if D k then (ρ k).2 else consX es k) = blkX ρ e.ds := flatMap_congr' fun k hk => by rw [hD k hk]; rfl
        rw [e1, e2]
      exact (List.Perm.append_left Osh h1).trans (perm_four _ _ _ _)
    have hst : St N w0 (envX es ρ e.ds ++ lb) (rest.flatMap (fun k => if D k then (ρ k).2 else consX es k) ++ (e.c ++ (blkX ρ e.ds ++ Osh))) A a w := by
      have h1 := hm.st.reo hrem
      refine ⟨h1.size, h1.noDef, h1.bel, ?_, h1.own, h1.nodup, h1.arg, h1.more⟩
      intro t v hg
      rcases get_append _ _ t v hg with h2 | h2
      · obtain ⟨k, hk, e', he', hd', rfl⟩ := mem_envX _ h2
        exact hm.env k e' t (hD k hk) he' hd'
      · exact h1.env t v h2
    have hDn' : ∀ k, upd D i k = true → k < n := by
      intro k hk
      simp only [upd] at hk
      split at hk
      · rename_i e; rw [e]; exact hin
      · exact hDn k hk
    have hbase : ∀ t v d, get lb t = some v → e.d = some d → t ≠ d := fun t v d hg hd' e2 => hlb t v hg (e2 ▸ List.mem_filterMap.2 ⟨e, List.mem_of_getElem? he, hd'⟩)
    have hputne : ∀ (v : Value) (t : Nat), (∀ d, e.d = some d → t ≠ d) → (a.put e.d v).tmps[t]? = a.tmps[t]? := by
      intro v t ht
      cases h : e.d with
      | none => rfl
      | some d =>
        simp only [Act.put]
        exact Array.getElem?_setIfInBounds_ne (fun h' => ht d h h'.symm)
    have hsz := hm.st.size
    -- the state behind it
    have key : ∀ (v : Value) (B : Blks) (w' : World), e.φ (e.ds.map ρ) v B → St N w0 (envX es ρ e.ds ++ lb) (rest.flatMap (fun k => if D k then (ρ k).2 else consX es k) ++ (B ++ (blkX ρ e.ds ++ Osh))) A a w' →
        MidX P N w0 lb Osh A es (fun k => if k = i then (v, B) else ρ k) (upd D i) (a.put e.d v) w' := by
      intro v B w' hφ hst'
      have hmap : ∀ (ks : List Nat), i ∉ ks → ks.map (fun k => if k = i then (v, B) else ρ k) = ks.map ρ := fun ks hks => List.map_congr_left fun k hk => if_neg (fun (e2 : k = i) => hks (e2 ▸ hk))
      refine ⟨?_, ?_, ?_, ?_⟩
      · have hrem' : (rest.flatMap (fun k => if D k then (ρ k).2 else consX es k) ++ (B ++ (blkX ρ e.ds ++ Osh))).Perm (Osh ++ remX es (upd D i) (fun k => if k = i then (v, B) else ρ k)) := by
          have h1 : (remX es (upd D i) (fun k => if k = i then (v, B) else ρ k)).Perm (rest.flatMap (fun k => if D k then (ρ k).2 else consX es k) ++ (B ++ blkX ρ e.ds)) := by
            unfold remX
            rw [hlen]
            refine (hpm.flatMap_right _).trans ?_
            rw [List.flatMap_append, List.flatMap_cons]
            have e0 : rest.flatMap (fun k => if upd D i k then (if k = i then (v, B) else ρ k).2 else consX es k) = rest.flatMap (fun k => if D k then (ρ k).2 else consX es k) :=
              flatMap_congr' fun k hk => by simp [upd, hrestI k hk]
            have e1 : (if upd D i i then (if i = i then (v, B) else ρ i).2 else consX es i) = B := by simp [upd]
            have e2 : e.ds.flatMap (fun k => if upd D i k then (if k = i then (v, B) else ρ k).2 else consX es k) = blkX ρ e.ds := flatMap_congr' fun k hk => by
              have hne : k ≠ i := fun e2 => hids (e2 ▸ hk)
              simp [upd, hne, hD k hk]
            rw [e0, e1, e2]
          exact ((List.Perm.append_left Osh h1).trans (perm_four _ _ _ _)).symm
        have h1 := hst'.reo hrem'
        refine ⟨?_, ?_, h1.bel, ?_, h1.own, h1.nodup, h1.arg, h1.more⟩
        · cases h : e.d <;> simp [Act.put, hsz]
        · have := h1.noDef
          cases h : e.d <;> simpa [Act.put] using this
        · intro t u hg
          rw [hputne v t (fun d hd' => hbase t u d hg hd')]
          exact hm.st.env t u hg
      · intro k e' d' hk he' hd'
        by_cases ek : k = i
        · subst ek
          obtain rfl : e = e' := Option.some.inj (he.symm.trans he')
          simp only [if_true]
          rw [hd']
          have := hN d' hd'
          simp [Act.put, hsz, this]
        · have hDk : D k = true := by simpa [upd, ek] using hk
          rw [if_neg ek, hputne v d' (fun d hd2 (e2 : d' = d) => ek (slotsX_inj hn he' he hd' (e2 ▸ hd2)))]
          exact hm.env k e' d' hDk he' hd'
      · intro k hk e' he'
        by_cases ek : k = i
        · subst ek
          obtain rfl : e = e' := Option.some.inj (he.symm.trans he')
          simp only [if_true]
          rw [hmap _ hids]
          exact hφ
        · have hDk : D k = true := by simpa [upd, ek] using hk
          have hni : i ∉ e'.ds := fun h => by have := hm.dep k e' hDk he' i h; rw [hr2] at this; cases this
          simp only [if_neg ek]
          rw [hmap _ hni]
          exact hm.ok k hDk e' he'
      · intro k e' hk he' j hj
        by_cases ek : k = i
        · subst ek
          obtain rfl : e = e' := Option.some.inj (he.symm.trans he')
          have := hD j hj
          simp [upd, this]
        · have hDk : D k = true := by simpa [upd, ek] using hk
          have := hm.dep k e' hDk he' j hj
          simp [upd, this]
    have next : ∀ (v : Value) (B : Blks) (w' : World), e.φ (e.ds.map ρ) v B → St N w0 (envX es ρ e.ds ++ lb) (rest.flatMap (fun k => if D k then (ρ k).2 else consX es k) ++ (B ++ (blkX ρ e.ds ++ Osh))) A a w' →
        wpOpsIn (Fr N.r) 0 P ops Q is (a.put e.d v) w' := fun v B w' hφ hst' =>
      midx_runs hlen hle htail hob hn hlb hQ is _ (upd D i) _ w' hDn' (clX_upd hcl (fun o ho g hg hb => hr3 o ho g hg hb)) hv (key v B w' hφ hst')
    simp only [wpOpsIn, ho]
    rcases hgood ρ (fun k hk => hm.ok k (hD k hk)) with ⟨hwant, hop⟩ | ⟨hwant, hφ⟩
    · rw [wanted_of hst hwant]
      simp only [if_true]
      refine hop _ a w hst _ _ fun v B w' hφ hst' => ?_
      rw [hd]
      exact next v B w' hφ hst'
    · rw [wanted_of hst hwant]
      simp only [Bool.false_eq_true, if_false]
      rw [hd]
      exact ⟨fun _ _ => trivial, next undef e.c w hφ hst⟩

def OblsX (P : Program) (N : Cx) (w0 : World) (ops : Array Oper) (lb : Env) (Osh : Blks) (A : Args) (es : List EX) : Nat → List EX → Prop
  | _, [] => True
  | i, e :: r => OblX P N w0 ops lb Osh A es i e ∧ OblsX P N w0 ops lb Osh A es (i + 1) r
theorem oblsX_at : ∀ {r : List EX} {k : Nat}, OblsX P N w0 ops lb Osh A es k r → ∀ i e, r[i]? = some e → OblX P N w0 ops lb Osh A es (k + i) e
  | [], k, _, i, e, h => by simp at h
  | x :: r, k, ⟨h1, h2⟩, 0, e, h => by simp at h; subst h; exact h1
  | x :: r, k, ⟨h1, h2⟩, i + 1, e, h => by
    have := oblsX_at h2 i e (by simpa using h)
    rwa [show k + 1 + i = k + (i + 1) by omega] at this

/-- The region: n operations whose order is open, then the others. -/
theorem okc_drawx {id : Nat} {Q : Exit → Act → World → Prop} (ds keep : List Nat) (es : List EX) (n f : Nat) (Osh : Blks) (hm : P.follows .mixedOrders = true) (hlen : es.length = n) (hb : backA ops = true) (hle : Nat.ble n ops.size = true) (ht : tailX ops n f = true)
    (hn : nodupB (slotsX es) = true) (hin : inB (slotsX es) ds = true) (hO : O.Perm (Osh ++ (List.range n).flatMap (consX es)))
    (hob : OblsX P N w0 ops (dropK ds l) Osh A es 0 es)
    (rest : ∀ ρ : Nat → Value × Blks, (∀ k, k < n → okX es ρ k) → OkL P N w0 ops Q (List.range' n (ops.size - n)) (envX es ρ keep ++ dropK ds l) (Osh ++ blkX ρ (List.range n)) A) (hk : allBelow keep n = true) :
    OkC P N w0 (.region id ops true) Q l O A := by
  intro a w hs
  refine wpIn_region_draw fun t => ?_
  have hval := schedule_any (mixed := P.follows .mixedOrders) (ops := ops) hm hb t
  have hdrew : ({ w with drawn := w.drawn + 1 } : World) = w.drew := rfl
  rw [hdrew]
  have hs' : St N w0 l O A a w.drew := hs.ext ((Below.refl _ w).drew)
  have hlb : St N w0 (dropK ds l) O A a w.drew := ⟨hs'.size, hs'.noDef, hs'.bel, fun t v hg => hs'.env t v (get_dropK ds l t v hg).2, hs'.own, hs'.nodup, hs'.arg, hs'.more⟩
  refine midx_runs (es := es) (n := n) (Osh := Osh) (lb := dropK ds l) hlen (Nat.le_of_ble_eq_true hle) (tailX_of ht) (fun i e he => by have := oblsX_at hob i e he; rwa [Nat.zero_add] at this) (nodup_ofB hn) ?_ ?_ _ (fun _ => (undef, [])) (fun _ => false) a w.drew (fun _ h => by cases h) (fun _ _ h => by cases h) hval ⟨?_, ?_, ?_, ?_⟩
  · intro t v hg hm'
    have h1 := (get_dropK ds l t v hg).1
    unfold inB at hin
    rw [List.all_eq_true] at hin
    have := hin t hm'
    rw [List.any_eq_true] at this
    obtain ⟨d, hd, hd'⟩ := this
    have := Nat.eq_of_beq_eq_true hd'
    subst this
    exact h1 hd
  · intro ρ a' w' hmid
    refine rest ρ (fun k hk => hmid.ok k (blt_of hk)) a' w' ?_
    have hrem : remX es (fun i => Nat.blt i n) ρ = blkX ρ (List.range n) := by
      unfold remX blkX
      rw [hlen]
      exact flatMap_congr' fun k hk => by rw [if_pos (blt_of (List.mem_range.1 hk))]
    have h1 := hmid.st
    rw [hrem] at h1
    refine ⟨h1.size, h1.noDef, h1.bel, ?_, h1.own, h1.nodup, h1.arg, h1.more⟩
    intro t v hg
    rcases get_append _ _ t v hg with h2 | h2
    · obtain ⟨k, hk', e', he', hd', rfl⟩ := mem_envX _ h2
      refine hmid.env k e' t (blt_of ?_) he' hd'
      unfold allBelow at hk
      rw [List.all_eq_true] at hk
      exact of_blt (hk k hk')
    · exact h1.env t v h2
  · have hrem : remX es (fun _ => false) (fun _ => (undef, [])) = (List.range n).flatMap (consX es) := by
      unfold remX
      rw [hlen]
      exact flatMap_congr' fun k _ => by simp
    rw [hrem]
    exact hlb.reo hO
  · intro k e d h; cases h
  · intro k h; cases h
  · intro k e h; cases h

/-! ### Operations under a frame -/
variable {o : Oper} {c keep : Blks}

theorem covers_frame {F : Blks} {M : Args} (h : covers keep A M) : covers (F ++ keep) A M := fun b cs hm => by
  rcases h b cs hm with ⟨T, h1⟩ | h1
  · exact .inl ⟨T, List.mem_append_right _ h1⟩
  · exact .inr h1

/-- A rule for one operation, known for every frame. -/
theorem opx_v {x : Value} (h : ∀ F : Blks, OpV P N w0 l (keep ++ F) A o (pv x)) : OpX P N w0 l [] keep A o (fun v B => v = x ∧ B = []) := by
  intro F a w hst K Q hK
  refine h F a w (hst.reo (by simpa using List.perm_append_comm)) K Q ?_
  intro v w' hb hv
  exact hK v [] w' ⟨hv, rfl⟩ (hst.ext hb)
theorem opx_r {σ : Type} {val : σ → Value} {blks : σ → Blks} {ok : σ → Prop} (h : ∀ F : Blks, OpV P N w0 l (keep ++ F) A o (Res val blks ok)) : OpX P N w0 l [] keep A o (fun v B => ∃ s, v = val s ∧ B = blks s ∧ ok s) := by
  intro F a w hst K Q hK
  refine h F a w (hst.reo (by simpa using List.perm_append_comm)) K Q ?_
  rintro v w' hb ⟨s, hv, hok, hB, hn⟩
  refine hK v (blks s) w' ⟨s, hv, rfl, hok⟩ ?_
  have := hst.news hb (blks s) hB hn
  refine this.reo ?_
  have e : blks s ++ (F ++ ([] ++ keep)) = (blks s ++ F) ++ keep := by simp
  rw [e, ← List.append_assoc]
  exact List.Perm.append_right keep List.perm_append_comm
theorem OpX.mono {φ φ' : Value → Blks → Prop} (h : OpX P N w0 l c keep A o φ) (hi : ∀ v B, φ v B → φ' v B) : OpX P N w0 l c keep A o φ' :=
  fun F a w hst K Q hK => h F a w hst K Q fun v B w' hφ hs => hK v B w' (hi v B hφ) hs

/-- In the order of the text. -/
theorem okl_x {Q : Exit → Act → World → Prop} {is : List Nat} {i d : Nat} {φ : Value → Blks → Prop} (F : Blks) (ho : ops[i]? = some o) (hg : wantsB ops l o = some true) (hd : o.dst = some d) (hN : Nat.blt d N.n = true)
    (h : OpX P N w0 l c keep A o φ) (hO : O.Perm (F ++ (c ++ keep))) (rest : ∀ v B, φ v B → OkL P N w0 ops Q is ((d, v) :: l) (F ++ (B ++ keep)) A) : OkL P N w0 ops Q (i :: is) l O A := by
  intro a w hs
  simp only [wpOpsIn, ho, wanted_of hs hg, if_true]
  refine h F a w (hs.reo hO) _ _ fun v B w' hφ hs' => ?_
  rw [hd]
  exact rest v B hφ _ _ (hs'.put hN v)
def slotB (d : Option Nat) (n : Nat) : Bool := match d with | none => true | some d => Nat.blt d n
def depX (o : Oper) (n : Nat) (ds : List Nat) : Bool := (ds.all fun k => Nat.blt k n && o.after.toList.any fun g => Nat.beq g.on k && binds .any g) && nodupB ds
theorem obl_x {i : Nat} {e : EX} (ho : ops[i]? = some o) (hd : o.dst = e.d) (hN : slotB e.d N.n = true) (hds : depX o es.length e.ds = true)
    (h : ∀ ρ : Nat → Value × Blks, (∀ k ∈ e.ds, okX es ρ k) → GoodX P N w0 ops A (envX es ρ e.ds ++ lb) e.c (blkX ρ e.ds ++ Osh) o (e.φ (e.ds.map ρ))) : OblX P N w0 ops lb Osh A es i e := by
  unfold depX at hds
  rw [Bool.and_eq_true, List.all_eq_true] at hds
  refine ⟨o, ho, hd, fun d hd' => by rw [hd'] at hN; exact of_blt hN, fun k hk => ?_, nodup_ofB hds.2, h⟩
  have h1 := hds.1 k hk
  rw [Bool.and_eq_true, List.any_eq_true] at h1
  obtain ⟨h2, g, hg, hgb⟩ := h1
  rw [Bool.and_eq_true] at hgb
  exact ⟨of_blt h2, g, by simpa using hg, Nat.eq_of_beq_eq_true hgb.1, hgb.2⟩

/-- append, under a frame. -/
theorem opx_append {s x : Operand} {t e size m cx n cp : Nat} {p q : Option Addr} {xs news zs : List Value} {B : Blks}
    (hop : o.op = .call { callee := .builtin .append, args := #[s, x], argTypes := #[t, t] })
    (hs : ev l s = some (.slice p n cp)) (hx : ev l x = some (.slice q m cx)) (hT : P.underlying t = some (.slice e)) (hsz : sizeB P e = some size) (hzr : zeroB P e = some zs) (hzl : zs.length = size) (hpos : 0 < size)
    (hsl : Sl B e size p n cp xs) (hn : (m = 0 ∧ news = []) ∨ (0 < m ∧ ∃ bx ox, q = some ⟨bx, ox, none⟩ ∧ Lies keep A bx ox news)) (hnl : news.length = m * size) (h1 : flat news = true)
    (hlen : n + m ≤ 100000000000) (hby : ∃ i, P.info? e = some i ∧ i.bytes ≤ 1000) :
    OpX P N w0 l B keep A o (fun v B' => ∃ p' c', v = .slice p' (n + m) c' ∧ Sl B' e size p' (n + m) c' (xs ++ news)) := by
  intro F a w hst K Q hK
  have hcp : n ≤ cp := by
    rcases hsl.2 with ⟨_, rfl, rfl, _⟩ | ⟨g, cs, _, _, h, _⟩
    · exact Nat.le_refl _
    · exact h
  rcases hn with ⟨rfl, rfl⟩ | ⟨hm, bx, ox, rfl, hn⟩
  · refine op_append0 (size := size) hop hs hx hT hsz hcp a w hst K Q ?_
    rintro v w' hb hv
    exact hK v B w' ⟨p, cp, hv, by simpa using hsl⟩ (hst.ext hb)
  obtain ⟨info, z, hi, hz, hisz, hzc⟩ := info_of_siz hsz hzr
  obtain ⟨info', hi', hb⟩ := hby
  obtain rfl : info = info' := Option.some.inj (hi.symm.trans hi')
  have hown : ∀ b cs T, (b, cs, T) ∈ B → holds w b cs T := fun b cs T hm => (hst.ws.own b cs T (by simp [hm])).1
  have hbytes : (n + m) * info.bytes ≤ 140737488355328 := by
    have h2 : (n + m) * info.bytes ≤ 100000000000 * 1000 := Nat.mul_le_mul hlen hb
    omega
  have hn' : Lies (F ++ (B ++ keep)) A bx ox news := by
    obtain ⟨cs, hc, hh⟩ := hn
    refine ⟨cs, ?_, hh⟩
    rcases hc with ⟨T, hc⟩ | hc
    · exact .inl ⟨T, by simp [hc]⟩
    · exact .inr hc
  obtain ⟨g, cap, w', hr, h2, h3, h4, h5⟩ := run_append_lies (P := P) w t o.type 0 e info z size info.bytes hT hi hz hisz rfl (by rw [← Array.length_toList, hzc, hzl]) hpos
    (.slice p n cp) n xs (hsl.owns hown) ⟨bx, ox, none⟩ m cx news hnl (hn'.cell hst) (fun u hu => by unfold flat at h1; rw [List.all_eq_true] at h1; exact h1 u hu) hm (by unfold maxLen; omega) hbytes (Nat.zero_le _) _ rfl
  have hrun : (execOp a.eval o).run P w = .ok (.value (.slice (some ⟨g, 0, none⟩) (n + m) cap)) w' := by
    simp [execOp, hop, resolve, hst.eval hs, hst.eval hx, invoke, builtin, hr]
  refine opIn_of (fun c h => by rw [hop] at h; cases h) ?_
  rw [hrun]
  obtain ⟨cs', hsl', hh⟩ := Sl.of_owns h2
  refine hK _ _ w' ⟨_, cap, rfl, hsl'⟩ (hst.grown (fun k hk => ?_) h3 h4 hh)
  rcases hsl.2 with ⟨rfl, rfl, rfl, rfl⟩ | ⟨g0, cs, rfl, rfl, _⟩
  · simp [Value.ownBlock] at hk
  · simp only [Value.ownBlock, Option.some.injEq] at hk
    subst hk
    exact ⟨cs, e, by simp⟩
end
end Go.Sx
end

section
namespace Go.Proofs.Ytdpnadknaacinaa
open Go.Sx Go.Proofs.Ytdpnadknaacinaa.Ty

def bytB (e : Nat) : Prop := ∃ i, Try.prog.info? e = some i ∧ i.bytes ≤ 1000
theorem bytB_of {e n : Nat} (h : (Try.prog.info? e).map (·.bytes) = some n) (hn : Nat.ble n 1000 = true) : bytB e := by
  cases hi : Try.prog.info? e with
  | none => rw [hi] at h; cases h
  | some i => rw [hi] at h; simp at h; exact ⟨i, hi, by rw [h]; exact Nat.le_of_ble_eq_true hn⟩
theorem by3 : bytB 3 := bytB_of (n := 8) (by kernel_rfl) rfl
theorem by135 : bytB 135 := bytB_of (n := 160) (by kernel_rfl) rfl
theorem by76 : bytB 76 := bytB_of (n := 40) (by kernel_rfl) rfl
theorem by69 : bytB 69 := bytB_of (n := 40) (by kernel_rfl) rfl

section
variable {N : Cx} {w0 : World} {l : Env} {O keep : Blks} {A : Args} {o : Oper} {ops : Array Oper} {Q : Exit → Act → World → Prop} {is : List Nat} {i d : Nat}

theorem k_append {s x : Operand} {t e size m cx n cp : Nat} {p q : Option Addr} {xs news zs : List Value} {B : Blks} (hsl : Sl B e size p n cp xs) (hby : bytB e)
    (hop : o.op = .call { callee := .builtin .append, args := #[s, x], argTypes := #[t, t] })
    (hs : ev l s = some (.slice p n cp)) (hx : ev l x = some (.slice q m cx)) (hT : nth slL t = some (some e)) (hsz : nth sizL e = some (some size)) (hzr : lookT zerL e = some zs) (hzl : zs.length = size) (hpos : Nat.blt 0 size = true)
    (hn : (m = 0 ∧ news = []) ∨ (0 < m ∧ ∃ bx ox, q = some ⟨bx, ox, none⟩ ∧ Lies keep A bx ox news)) (hnl : news.length = m * size) (h1 : flat news = true) (hlen : n + m ≤ 100000000000) :
    OpX Try.prog N w0 l B keep A o (fun v B' => ∃ p' c', v = .slice p' (n + m) c' ∧ Sl B' e size p' (n + m) c' (xs ++ news)) :=
  opx_append hop hs hx (sl_un (sl_of hT)) (siz_of hsz) (zer_of hzr) hzl (by simpa [Nat.blt_eq] using hpos) hsl hn hnl h1 hlen hby

/-- Of a literal of one element, in an own block. -/
theorem k_append1 {s x : Operand} {t e size n cp bx : Nat} {p : Option Addr} {xs news zs : List Value} {B : Blks} {T : TypeId} (j : Nat) (hsl : Sl B e size p n cp xs) (hby : bytB e)
    (hop : o.op = .call { callee := .builtin .append, args := #[s, x], argTypes := #[t, t] })
    (hs : ev l s = some (.slice p n cp)) (hx : ev l x = some (.slice (some ⟨bx, 0, none⟩) 1 1)) (hT : nth slL t = some (some e)) (hsz : nth sizL e = some (some size)) (hzr : lookT zerL e = some zs) (hzl : zs.length = size) (hpos : Nat.blt 0 size = true)
    (hj : keep[j]? = some (bx, news, T)) (hnl : news.length = size) (h1 : flat news = true) (hlen : n + 1 ≤ 100000000000) :
    OpX Try.prog N w0 l B keep A o (fun v B' => ∃ p' c', v = .slice p' (n + 1) c' ∧ Sl B' e size p' (n + 1) c' (xs ++ news)) :=
  k_append hsl hby hop hs hx hT hsz hzr hzl hpos (.inr ⟨Nat.lt_succ_self 0, bx, 0, rfl, Lies.whole j hj⟩) (by rw [hnl, Nat.one_mul]) h1 hlen

theorem okl_xm {φ : Value → Blks → Prop} (F B R : Blks) (ho : ops[i]? = some o) (hg : wantsB ops l o = some true) (hd : o.dst = some d) (hN : Nat.blt d N.n = true)
    (h : OpX Try.prog N w0 l B (F ++ R) A o φ) (hO : O = F ++ (B ++ R)) (rest : ∀ v B', φ v B' → OkL Try.prog N w0 ops Q is ((d, v) :: l) (F ++ (B' ++ R)) A) : OkL Try.prog N w0 ops Q (i :: is) l O A := by
  have swap : ∀ X : Blks, (F ++ (X ++ R)).Perm ([] ++ (X ++ (F ++ R))) := fun X => by
    have h1 : (F ++ X).Perm (X ++ F) := List.perm_append_comm
    have h2 := h1.append_right R
    simpa [List.append_assoc] using h2
  subst hO
  exact okl_x [] ho hg hd hN h (swap B) fun v B' hφ => okl_perm (swap B').symm (rest v B' hφ)

theorem okl_xm0 {φ : Value → Blks → Prop} (F B : Blks) (ho : ops[i]? = some o) (hg : wantsB ops l o = some true) (hd : o.dst = some d) (hN : Nat.blt d N.n = true)
    (h : OpX Try.prog N w0 l B F A o φ) (hO : O = F ++ B) (rest : ∀ v B', φ v B' → OkL Try.prog N w0 ops Q is ((d, v) :: l) (F ++ B') A) : OkL Try.prog N w0 ops Q (i :: is) l O A :=
  okl_xm F B [] ho hg hd hN (by simpa using h) (by simpa using hO) (fun v B' hφ => by simpa using rest v B' hφ)

theorem k_slice1N {T e n : Nat} {x : Operand} {cs zs : List Value} (ho : o.op = .buildSlice T 1 #[(0, x)]) (hx : ev l x = some (.agg cs.toArray)) (hT : nth slL T = some (some e)) (hm : nth sizL e = some (some n)) (hl : cs.length = n) (hz : lookT zerL e = some zs) (hzl : zs.length = n) (h0 : Nat.blt 0 n = true) (h24 : Nat.ble n 1000 = true) :
    OpV Try.prog N w0 l O A o (Res (fun b => .slice (some ⟨b, 0, none⟩) 1 1) (fun b => [(b, cs, e)]) (fun _ => True)) :=
  op_slice1N ho hx rfl (sl_un (sl_of hT)) (siz_of hm) hl (zer_of hz) hzl h0 h24

theorem s_slice1N {T e n : Nat} {x : Operand} {cs zs : List Value} (h0 : ops[i]? = some o) (hg : wantsB ops l o = some true) (hd : o.dst = some d) (hN : Nat.blt d N.n = true) (ho : o.op = .buildSlice T 1 #[(0, x)]) (hx : ev l x = some (.agg cs.toArray)) (hT : nth slL T = some (some e)) (hm : nth sizL e = some (some n)) (hl : cs.length = n) (hz : lookT zerL e = some zs) (hzl : zs.length = n) (h0' : Nat.blt 0 n = true) (h24 : Nat.ble n 1000 = true)
    (rest : ∀ b, OkL Try.prog N w0 ops Q is ((d, .slice (some ⟨b, 0, none⟩) 1 1) :: l) ((b, cs, e) :: O) A) : OkL Try.prog N w0 ops Q (i :: is) l O A :=
  okl_new h0 hg hd hN (k_slice1N ho hx hT hm hl hz hzl h0' h24) rest
end

theorem sub_drop {O B : Blks} (k : Nat) (h : O.drop k = B) : B.Sublist O := h ▸ List.drop_sublist k O
/-- Of what is handed back nothing lies anywhere. -/
theorem res_nil (w w' : World) : (∀ (b : Nat) (cs : List Value) (T : TypeId), (b, cs, T) ∈ ([] : Blks) → holds w' b cs T ∧ w.heap.size ≤ b) ∧ (([] : Blks).map (·.1)).Nodup := ⟨fun _ _ _ h => (by cases h), by simp⟩
/-- A slice that is handed back: where, its room, its block. -/
structure SlG where
  p : Option Addr
  c : Nat
  B : Blks
def SlG.nil : SlG := ⟨none, 0, []⟩

theorem covers_grp {O : Blks} {A : Args} {B : Blks} (h : ∀ x ∈ B, x ∈ O) : covers O A (argsOf B) := fun b cs hm => by
  obtain ⟨T, hm⟩ := mem_argsOf.1 hm
  exact .inl ⟨T, h _ hm⟩
theorem covers_two {O : Blks} {A M M' : Args} (h : covers O A M) (h' : covers O A M') : covers O A (M ++ M') := fun b cs hm => by
  rcases List.mem_append.1 hm with hm | hm
  · exact h b cs hm
  · exact h' b cs hm
end Go.Proofs.Ytdpnadknaacinaa
end

section
namespace Go.Proofs.Ytdpnadknaacinaa
open Go.Sx Go.Proofs.Ytdpnadknaacinaa.Ty
set_option linter.unusedVariables false
set_option maxHeartbeats 2000000


theorem Sp.In.cons {M : Args} {s : Sp} (h : s.In M) (x : Nat × List Value) : s.In (x :: M) := by
  obtain ⟨⟨b, off, cs, j, h1⟩, ⟨b', off', cs', j', h2⟩, h3, h4⟩ := h
  exact ⟨⟨b, off, cs, j + 1, fun hn => h1 hn⟩, ⟨b', off', cs', j' + 1, fun hn => h2 hn⟩, h3, h4⟩
theorem moreAt (b : Nat) (L : List Int) (M : Args) (h : ∀ m ∈ L, 1 ≤ m ∧ m ≤ 4) (hl : L.length ≤ 1000) : MoreIn ((b, ints L) :: M) (some ⟨b, 0, none⟩) L := ⟨h, hl, fun _ => ⟨b, 0, rfl, rfl⟩⟩
theorem rains_len {s : Sp} (hs : OkS s) : (rainsS s).length ≤ 21 := by
  obtain ⟨w1, w2, m1, m2, f1, f2, a1, a2, a3, v1, v2, v3⟩ := hs.ok
  unfold rainsS rainsN
  refine Nat.le_trans (List.length_filter_le _ _) ?_
  simp only [List.length_map, List.length_range]
  unfold rainN; omega
theorem ints_snoc (L : List Int) (x : Int) : ints (L ++ [x]) = ints L ++ [.int .i64 x] := by simp [ints]

theorem Rains_no (s : Sp) (M : Args) (hin : s.In M) (hb : ¬ beginS s qz [4] = 0) : Cn Try.prog 20 [spV s] M (fun _ : Unit => .tuple #[.slice none 0 0, .int .i64 (beginS s qz [4])]) (fun _ => []) (fun _ => True) := by
  refine fn_intro (N := 27) Try.func20 rfl rfl rfl fun w0 => ?_
  refine okc_seq ?_
  refine okc_region ?_
  refine s_boxA rfl rfl rfl rfl rfl rfl (fun b1 => ?_)
  refine s_assign rfl rfl rfl rfl rfl rfl ?_
  refine s_assign rfl rfl rfl rfl rfl rfl ?_
  refine okl_nil ?_
  change OkC Try.prog _ _ _ _ _ _ _
  refine okc_weak (l' := [(0, _), (1, _), (2, _), (3, _)]) ⟨rfl, rfl, rfl, rfl, trivial⟩ ?_
  refine okc_seq ?_
  refine okc_region ?_
  refine s_loadW 0 rfl rfl rfl rfl rfl rfl rfl rfl rfl rfl ?_
  refine s_build rfl rfl rfl rfl rfl rfl rfl rfl rfl ?_
  refine s_slice1 rfl rfl rfl rfl rfl rfl rfl rfl rfl rfl (fun b2 => ?_)
  refine s_callv rfl rfl rfl rfl rfl rfl rfl c72 (begin_no (M := (b2, ints [4]) :: M) (q := qz) (more := [4]) (hin.cons _) (moreAt b2 [4] M (by decide) (by decide)) hb) (covers_own 0 rfl covers_all) ?_
  refine s_move rfl rfl rfl rfl rfl rfl ?_
  refine s_extract rfl rfl rfl rfl rfl rfl rfl ?_
  refine s_extract rfl rfl rfl rfl rfl rfl rfl ?_
  refine s_alloc rfl rfl rfl rfl rfl rfl (fun b3 => ?_)
  refine k_storeW 0 rfl rfl rfl rfl rfl rfl rfl rfl rfl rfl rfl rfl ?_
  refine s_assign rfl rfl rfl rfl rfl rfl ?_
  refine okl_nil ?_
  change OkC Try.prog _ _ _ _ _ _ _
  refine okc_weak (l' := [(0, _), (1, _), (2, _), (3, _), (4, _), (5, _)]) ⟨rfl, rfl, rfl, rfl, rfl, rfl, trivial⟩ ?_
  refine okc_seq ?_
  refine okc_seq ?_
  refine okc_region ?_
  refine s_move rfl rfl rfl rfl rfl rfl ?_
  refine s_cmpS rfl rfl rfl rfl rfl rfl rfl rfl (fun h4 => ?_) (fun h4 => ?_)
  · refine okl_nil ?_
    change OkC Try.prog _ _ _ _ _ _ _
    refine okc_weak (l' := [(0, _), (1, _), (2, _), (3, _), (4, _), (5, _), (16, _)]) ⟨rfl, rfl, rfl, rfl, rfl, rfl, rfl, trivial⟩ ?_
    refine okc_cond_t rfl ?_
    refine okc_seq ?_
    refine okc_region ?_
    refine s_move rfl rfl rfl rfl rfl rfl ?_
    refine s_assign rfl rfl rfl rfl rfl rfl ?_
    refine s_assign rfl rfl rfl rfl rfl rfl ?_
    refine okl_nil ?_
    change OkC Try.prog _ _ _ _ _ _ _
    refine okc_weak (l' := [(0, _), (1, _), (2, _), (3, _), (4, _), (5, _), (16, _)]) ⟨rfl, rfl, rfl, rfl, rfl, rfl, rfl, trivial⟩ ?_
    refine okc_ret fun a w hs => ?_
    exact ret_v hs (run_results2 hs rfl (rv_tmp rfl) (rv_tmp rfl)) (rfl)
  · exact absurd h4 (by simp [hb]) --closed

theorem Rains_ok (s : Sp) (M : Args) (hin : s.In M) (hb : beginS s qz [4] = 0) : Cn Try.prog 20 [spV s] M (fun g : SlG => .tuple #[.slice g.p (rainsS s).length g.c, .int .i64 0]) (fun g => g.B) (fun g => Sl g.B 3 1 g.p (rainsS s).length g.c (ints (rainsS s))) := by
  have hs0 := ok_of_valid (begin_valid hb)
  refine fn_introM (n := 27) Try.func20 rfl rfl rfl fun w0 => ?_
  refine okc_seq ?_
  refine okc_region ?_
  refine s_boxA rfl rfl rfl rfl rfl rfl (fun b5 => ?_)
  refine s_assign rfl rfl rfl rfl rfl rfl ?_
  refine s_assign rfl rfl rfl rfl rfl rfl ?_
  refine okl_nil ?_
  change OkC Try.prog _ _ _ _ _ _ _
  refine okc_weak (l' := [(0, _), (1, _), (2, _), (3, _)]) ⟨rfl, rfl, rfl, rfl, trivial⟩ ?_
  refine okc_seq ?_
  refine okc_region ?_
  refine s_loadW 0 rfl rfl rfl rfl rfl rfl rfl rfl rfl rfl ?_
  refine s_build rfl rfl rfl rfl rfl rfl rfl rfl rfl ?_
  refine s_slice1 rfl rfl rfl rfl rfl rfl rfl rfl rfl rfl (fun b6 => ?_)
  refine s_callv rfl rfl rfl rfl rfl rfl rfl c72 (begin_ok (M := (b6, ints [4]) :: M) (q := qz) (more := [4]) (hin.cons _) (moreAt b6 [4] M (by decide) (by decide)) hb) (covers_own 0 rfl covers_all) ?_
  refine s_move rfl rfl rfl rfl rfl rfl ?_
  refine s_extract rfl rfl rfl rfl rfl rfl rfl ?_
  refine s_extract rfl rfl rfl rfl rfl rfl rfl ?_
  refine s_alloc rfl rfl rfl rfl rfl rfl (fun b7 => ?_)
  refine k_storeW 0 rfl rfl rfl rfl rfl rfl rfl rfl rfl rfl rfl rfl ?_
  refine s_assign rfl rfl rfl rfl rfl rfl ?_
  refine okl_nil ?_
  change OkC Try.prog _ _ _ _ _ _ _
  refine okc_weak (l' := [(0, _), (1, _), (2, _), (3, _), (4, _), (5, _)]) ⟨rfl, rfl, rfl, rfl, rfl, rfl, trivial⟩ ?_
  refine okc_seq ?_
  refine okc_seq ?_
  refine okc_region ?_
  refine s_move rfl rfl rfl rfl rfl rfl ?_
  refine s_cmpS rfl rfl rfl rfl rfl rfl rfl rfl (fun h8 => ?_) (fun h8 => ?_)
  · exact absurd h8 (by decide) --closed
  · refine okl_nil ?_
    change OkC Try.prog _ _ _ _ _ _ _
    refine okc_weak (l' := [(0, _), (1, _), (2, _), (3, _), (4, _), (5, _), (16, _)]) ⟨rfl, rfl, rfl, rfl, rfl, rfl, rfl, trivial⟩ ?_
    refine okc_cond_f rfl ?_
    refine okc_skip ?_
    change OkC Try.prog _ _ _ _ _ _ _
    refine okc_weak (l' := [(0, _), (1, _), (2, _), (3, _), (4, _), (5, _), (16, _)]) ⟨rfl, rfl, rfl, rfl, rfl, rfl, rfl, trivial⟩ ?_
    refine okc_seq ?_
    refine okc_region ?_
    refine s_alloc rfl rfl rfl rfl rfl rfl (fun b9 => ?_)
    refine okl_nil ?_
    change OkC Try.prog _ _ _ _ _ _ _
    refine okc_weak (l' := [(0, _), (1, _), (2, _), (3, _), (4, _), (5, _), (6, _), (16, _)]) ⟨rfl, rfl, rfl, rfl, rfl, rfl, rfl, rfl, trivial⟩ ?_
    refine okc_seq ?_
    refine okc_seq ?_
    refine okc_region ?_
    refine s_loadW 1 rfl rfl rfl rfl rfl rfl rfl rfl rfl rfl ?_
    refine okl_r rfl rfl rfl rfl (op_call rfl rfl rfl c75 (rains_fn s) covers_nil) (fun b10 _ => ?_)
    refine okl_nil ?_
    change OkC Try.prog _ _ _ _ _ _ _
    refine okc_weak (l' := [(0, _), (1, _), (2, _), (3, _), (4, _), (5, _), (6, _), (16, _), (19, _)]) ⟨rfl, rfl, rfl, rfl, rfl, rfl, rfl, rfl, rfl, trivial⟩ ?_
    refine okc_block ?_
    refine okc_reo (l' := [(4, .pointer (some ⟨b7, 0, none⟩)), (6, .pointer (some ⟨b9, 0, none⟩)), (19, .func (.func 110) #[] #[.pointer (some ⟨b10, 0, none⟩)])]) (O' := [(b10, spC s, 114), (b7, spC s, 114)] ++ [(b9, [.slice none 0 0], 35)]) ⟨rfl, rfl, rfl, trivial⟩ [0, 2, 1] (by simp) rfl ?_
    refine okc_range (rains_it s M hin hs0 b10) rfl rfl rfl c110 (fun _ => rfl) rfl (fun pre Ob => ∃ p n c B, n = pre.length ∧ Ob = (b9, [.slice p n c], 35) :: B ∧ Sl B 3 1 p n c (ints pre)) (fun _ _ => False) (⟨none, 0, 0, [], rfl, rfl, Sl.nil 3 1⟩) ?_ ?_ ?_ ?_
    · intro b cs hb
      rcases List.mem_cons.1 hb with e | hb
      · cases e; exact .inl ⟨114, by simp⟩
      · exact .inr hb
    · rintro pre x Ob W r hpre ⟨p, n, c, B, hn, rfl, hsl⟩
      have hlen := hpre.length_le
      have hrl := rains_len hs0
      simp only [List.length_append, List.length_cons, List.length_nil] at hlen
      show OkC Try.prog _ _ _ _ _ _ _
      refine okc_region ?_
      refine s_assign rfl rfl rfl rfl rfl rfl ?_
      refine okl_nil ?_
      refine fun a w hs => ⟨_, _, hs, fun W'' => ?_⟩
      change OkC Try.prog _ _ _ _ _ _ _
      change OkC Try.prog _ _ _ _ _ _ _
      refine okc_weak (l' := [(4, _), (6, _), (7, _), (19, _), (20, _)]) ⟨rfl, rfl, rfl, rfl, rfl, trivial⟩ ?_
      refine okc_block ?_
      refine okc_region ?_
      refine s_load1 0 rfl rfl rfl rfl rfl rfl rfl rfl rfl ?_
      refine s_move rfl rfl rfl rfl rfl rfl ?_
      refine s_slice1 rfl rfl rfl rfl rfl rfl rfl rfl rfl rfl (fun n1 => ?_)
      refine okl_xm0 [(n1, [.int .i64 x], 3), (b9, [.slice p n c], 35)] B rfl rfl rfl rfl (k_append1 0 hsl by3 rfl rfl rfl rfl rfl rfl rfl rfl rfl rfl rfl (by omega)) rfl (fun v B2 hv => ?_)
      obtain ⟨p2, c2, rfl, hsl2⟩ := hv
      refine k_storeW 1 rfl rfl rfl rfl rfl rfl rfl rfl rfl rfl rfl rfl ?_
      refine okl_nil ?_
      exact fun a w hs => ⟨[], (b9, [.slice p2 (n + 1) c2], 35) :: B2, ⟨p2, n + 1, c2, B2, by simp [hn], rfl, by rw [ints_snoc]; exact hsl2⟩, hs.sub trivial (sub_drop 1 rfl)⟩
    · rintro Ob D ⟨p, n, c, B, hn, rfl, hsl⟩
      refine fun a w hs => (?_ : OkC Try.prog ⟨27, [D], none, [], []⟩ w0 _ _ _ _ _) a w hs
      change OkC Try.prog _ _ _ _ _ _ _
      refine okc_weak (l' := [(4, _), (6, _), (19, _)]) ⟨rfl, rfl, rfl, trivial⟩ ?_
      refine okc_seq ?_
      refine okc_region ?_
      refine s_load1 2 rfl rfl rfl rfl rfl rfl rfl rfl rfl ?_
      refine s_assign rfl rfl rfl rfl rfl rfl ?_
      refine s_assign rfl rfl rfl rfl rfl rfl ?_
      refine okl_nil ?_
      change OkC Try.prog _ _ _ _ _ _ _
      refine okc_weak (l' := [(2, _), (3, _), (4, _), (6, _), (19, _)]) ⟨rfl, rfl, rfl, rfl, rfl, trivial⟩ ?_
      refine okc_ret fun a w hs => ?_
      exact ret_postMS hs (fun a w hs => run_results2 hs rfl (rv_tmp rfl) (rv_tmp rfl)) ⟨p, c, B⟩ (by subst hn; rfl) (by subst hn; exact hsl) (sub_drop 3 rfl)
    · exact fun c Ob D h => h.elim

/-- The rains, or none and the error. -/
def rnS (s : Sp) : List Int := if beginS s qz [4] = 0 then rainsS s else []
theorem Rains_fn (s : Sp) (M : Args) (hin : s.In M) : Cn Try.prog 20 [spV s] M (fun g : SlG => .tuple #[.slice g.p (rnS s).length g.c, .int .i64 (beginS s qz [4])]) (fun g => g.B) (fun g => Sl g.B 3 1 g.p (rnS s).length g.c (ints (rnS s))) := by
  by_cases hb : beginS s qz [4] = 0
  · have h := Rains_ok s M hin hb
    rw [rnS, if_pos hb, hb]; exact h
  · intro w hM
    refine (Rains_no s M hin hb w hM).mono ?_
    rintro e w' ⟨v, he, hbl, _, hv, _⟩
    rw [rnS, if_neg hb]
    exact ⟨v, he, hbl, SlG.nil, hv, Sl.nil 3 1, res_nil w w'⟩

end Go.Proofs.Ytdpnadknaacinaa
end

section
namespace Go.Proofs.Ytdpnadknaacinaa
open Go.Sx Go.Proofs.Ytdpnadknaacinaa.Ty
set_option linter.unusedVariables false
set_option maxHeartbeats 2000000


def qw (w : Int) : Ask := ⟨w, 0, ⟨0, 0, 0, 0, 0⟩⟩
/-- The error of a spring and a week. -/
def erS (s : Sp) (w : Int) : Int := beginS s (qw w) [1, 4]
theorem er_ok {s : Sp} {w : Int} (h : erS s w = 0) : validB s = true ∧ 0 ≤ w ∧ w ≤ s.weeks - 1 ∧ canS s = true := by
  have hv := begin_valid h
  simp only [erS, beginS, hv, if_true, askN] at h
  by_cases h1 : askB s (qw w) (1 : Int).toNat = true
  · rw [if_pos h1] at h
    by_cases h2 : askB s (qw w) (4 : Int).toNat = true
    · have e1 : isWeekB s.weeks w = true := h1
      have e2 : canS s = true := h2
      simp only [isWeekB, inS, Bool.and_eq_true, decide_eq_true_eq] at e1
      exact ⟨hv, e1.1, e1.2, e2⟩
    · rw [if_neg h2] at h; exact absurd h (errN_ne _)
  · rw [if_neg h1] at h; exact absurd h (errN_ne _)
def gE (s : Sp) (w : Int) : Int × Int := if erS s w = 0 then gvS s w.toNat else (0, 0)
def knS (s : Sp) (w need : Int) : Int := if erS s w = 0 then (if need ≤ (gE s w).1 then 2 else if (gE s w).2 < need then 0 else 1) else 0

theorem Gives_no (s : Sp) (M : Args) (hin : s.In M) (w : Int) (hb : ¬ beginS s (qw w) [1, 4] = 0) : Cn Try.prog 22 [spV s, .int .i64 w] M (fun _ : Unit => .tuple #[.agg #[.int .i64 0, .int .i64 0], .int .i64 (erS s w)]) (fun _ => []) (fun _ => True) := by
  refine fn_intro (N := 23) Try.func22 rfl rfl rfl fun w0 => ?_
  refine okc_seq ?_
  refine okc_region ?_
  refine s_boxA rfl rfl rfl rfl rfl rfl (fun b1 => ?_)
  refine s_alloc rfl rfl rfl rfl rfl rfl (fun b2 => ?_)
  refine s_assign rfl rfl rfl rfl rfl rfl ?_
  refine okl_nil ?_
  change OkC Try.prog _ _ _ _ _ _ _
  refine okc_weak (l' := [(0, _), (1, _), (2, _), (4, _), (5, _)]) ⟨rfl, rfl, rfl, rfl, rfl, trivial⟩ ?_
  refine okc_seq ?_
  refine okc_region ?_
  refine s_loadW 1 rfl rfl rfl rfl rfl rfl rfl rfl rfl rfl ?_
  refine s_move rfl rfl rfl rfl rfl rfl ?_
  refine s_build rfl rfl rfl rfl rfl rfl rfl rfl rfl ?_
  refine s_slice2 rfl rfl rfl rfl rfl rfl rfl rfl rfl rfl rfl rfl (fun b3 => ?_)
  refine s_callv rfl rfl rfl rfl rfl rfl rfl c72 (begin_no (M := (b3, ints [1, 4]) :: M) (q := qw w) (more := [1, 4]) (hin.cons _) (moreAt b3 [1, 4] M (by decide) (by decide)) hb) (covers_own 0 rfl covers_all) ?_
  refine s_move rfl rfl rfl rfl rfl rfl ?_
  refine s_extract rfl rfl rfl rfl rfl rfl rfl ?_
  refine s_extract rfl rfl rfl rfl rfl rfl rfl ?_
  refine s_alloc rfl rfl rfl rfl rfl rfl (fun b4 => ?_)
  refine k_storeW 0 rfl rfl rfl rfl rfl rfl rfl rfl rfl rfl rfl rfl ?_
  refine s_assign rfl rfl rfl rfl rfl rfl ?_
  refine okl_nil ?_
  change OkC Try.prog _ _ _ _ _ _ _
  refine okc_weak (l' := [(0, _), (1, _), (2, _), (4, _), (5, _), (6, _), (7, _)]) ⟨rfl, rfl, rfl, rfl, rfl, rfl, rfl, trivial⟩ ?_
  refine okc_seq ?_
  refine okc_seq ?_
  refine okc_region ?_
  refine s_move rfl rfl rfl rfl rfl rfl ?_
  refine s_cmpS rfl rfl rfl rfl rfl rfl rfl rfl (fun h5 => ?_) (fun h5 => ?_)
  · refine okl_nil ?_
    change OkC Try.prog _ _ _ _ _ _ _
    refine okc_weak (l' := [(0, _), (1, _), (2, _), (4, _), (5, _), (6, _), (7, _), (17, _)]) ⟨rfl, rfl, rfl, rfl, rfl, rfl, rfl, rfl, trivial⟩ ?_
    refine okc_cond_t rfl ?_
    refine okc_seq ?_
    refine okc_region ?_
    refine s_build rfl rfl rfl rfl rfl rfl rfl rfl rfl ?_
    refine s_move rfl rfl rfl rfl rfl rfl ?_
    refine k_storeW 2 rfl rfl rfl rfl rfl rfl rfl rfl rfl rfl rfl rfl ?_
    refine s_assign rfl rfl rfl rfl rfl rfl ?_
    refine okl_nil ?_
    change OkC Try.prog _ _ _ _ _ _ _
    refine okc_weak (l' := [(0, _), (1, _), (2, _), (4, _), (5, _), (6, _), (7, _), (17, _)]) ⟨rfl, rfl, rfl, rfl, rfl, rfl, rfl, rfl, trivial⟩ ?_
    refine okc_ret fun a w hs => ?_
    exact ret_v hs (run_results2 hs rfl (k_ragg 2 rfl rfl rfl rfl rfl) (rv_tmp rfl)) (rfl)
  · exact absurd h5 (by simp [hb]) --closed

theorem Gives_ok (s : Sp) (M : Args) (hin : s.In M) (k : Nat) (hs0 : OkS s) (hk : (k : Int) ≤ s.weeks - 1) (hb : beginS s (qw (k : Int)) [1, 4] = 0) : Cn Try.prog 22 [spV s, .int .i64 (k : Int)] M (fun _ : Unit => .tuple #[.agg #[.int .i64 (gvS s k).1, .int .i64 (gvS s k).2], .int .i64 0]) (fun _ => []) (fun _ => True) := by
  refine fn_intro (N := 23) Try.func22 rfl rfl rfl fun w0 => ?_
  refine okc_seq ?_
  refine okc_region ?_
  refine s_boxA rfl rfl rfl rfl rfl rfl (fun b6 => ?_)
  refine s_alloc rfl rfl rfl rfl rfl rfl (fun b7 => ?_)
  refine s_assign rfl rfl rfl rfl rfl rfl ?_
  refine okl_nil ?_
  change OkC Try.prog _ _ _ _ _ _ _
  refine okc_weak (l' := [(0, _), (1, _), (2, _), (4, _), (5, _)]) ⟨rfl, rfl, rfl, rfl, rfl, trivial⟩ ?_
  refine okc_seq ?_
  refine okc_region ?_
  refine s_loadW 1 rfl rfl rfl rfl rfl rfl rfl rfl rfl rfl ?_
  refine s_move rfl rfl rfl rfl rfl rfl ?_
  refine s_build rfl rfl rfl rfl rfl rfl rfl rfl rfl ?_
  refine s_slice2 rfl rfl rfl rfl rfl rfl rfl rfl rfl rfl rfl rfl (fun b8 => ?_)
  refine s_callv rfl rfl rfl rfl rfl rfl rfl c72 (begin_ok (M := (b8, ints [1, 4]) :: M) (q := qw k) (more := [1, 4]) (hin.cons _) (moreAt b8 [1, 4] M (by decide) (by decide)) hb) (covers_own 0 rfl covers_all) ?_
  refine s_move rfl rfl rfl rfl rfl rfl ?_
  refine s_extract rfl rfl rfl rfl rfl rfl rfl ?_
  refine s_extract rfl rfl rfl rfl rfl rfl rfl ?_
  refine s_alloc rfl rfl rfl rfl rfl rfl (fun b9 => ?_)
  refine k_storeW 0 rfl rfl rfl rfl rfl rfl rfl rfl rfl rfl rfl rfl ?_
  refine s_assign rfl rfl rfl rfl rfl rfl ?_
  refine okl_nil ?_
  change OkC Try.prog _ _ _ _ _ _ _
  refine okc_weak (l' := [(0, _), (1, _), (2, _), (4, _), (5, _), (6, _), (7, _)]) ⟨rfl, rfl, rfl, rfl, rfl, rfl, rfl, trivial⟩ ?_
  refine okc_seq ?_
  refine okc_seq ?_
  refine okc_region ?_
  refine s_move rfl rfl rfl rfl rfl rfl ?_
  refine s_cmpS rfl rfl rfl rfl rfl rfl rfl rfl (fun h10 => ?_) (fun h10 => ?_)
  · exact absurd h10 (by decide) --closed
  · refine okl_nil ?_
    change OkC Try.prog _ _ _ _ _ _ _
    refine okc_weak (l' := [(0, _), (1, _), (2, _), (4, _), (5, _), (6, _), (7, _), (17, _)]) ⟨rfl, rfl, rfl, rfl, rfl, rfl, rfl, rfl, trivial⟩ ?_
    refine okc_cond_f rfl ?_
    refine okc_skip ?_
    change OkC Try.prog _ _ _ _ _ _ _
    refine okc_weak (l' := [(0, _), (1, _), (2, _), (4, _), (5, _), (6, _), (7, _), (17, _)]) ⟨rfl, rfl, rfl, rfl, rfl, rfl, rfl, rfl, trivial⟩ ?_
    refine okc_seq ?_
    refine okc_region ?_
    refine s_loadW 0 rfl rfl rfl rfl rfl rfl rfl rfl rfl rfl ?_
    refine s_move rfl rfl rfl rfl rfl rfl ?_
    refine s_callv rfl rfl rfl rfl rfl rfl rfl c77 (gives_fn s M hin hs0 k (by omega)) covers_all ?_
    refine k_storeW 2 rfl rfl rfl rfl rfl rfl rfl rfl rfl rfl rfl rfl ?_
    refine s_assign rfl rfl rfl rfl rfl rfl ?_
    refine okl_nil ?_
    change OkC Try.prog _ _ _ _ _ _ _
    refine okc_weak (l' := [(0, _), (1, _), (2, _), (4, _), (5, _), (6, _), (7, _), (17, _)]) ⟨rfl, rfl, rfl, rfl, rfl, rfl, rfl, rfl, trivial⟩ ?_
    refine okc_ret fun a w hs => ?_
    exact ret_v hs (run_results2 hs rfl (k_ragg 2 rfl rfl rfl rfl rfl) (rv_tmp rfl)) (rfl)


theorem Gives_fn (s : Sp) (M : Args) (hin : s.In M) (w : Int) : Cn Try.prog 22 [spV s, .int .i64 w] M (fun _ : Unit => .tuple #[.agg #[.int .i64 (gE s w).1, .int .i64 (gE s w).2], .int .i64 (erS s w)]) (fun _ => []) (fun _ => True) := by
  by_cases hb : erS s w = 0
  · obtain ⟨hv, h0, h1, _⟩ := er_ok hb
    obtain ⟨k, rfl⟩ : ∃ k : Nat, w = k := ⟨w.toNat, by omega⟩
    have h := Gives_ok s M hin k (ok_of_valid hv) h1 hb
    rw [gE, if_pos hb, hb]; exact h
  · have h := Gives_no s M hin w hb
    rw [gE, if_neg hb]; exact h

theorem Known_fn (s : Sp) (M : Args) (hin : s.In M) (w : Int) (need : Int) : Cn Try.prog 24 [spV s, .int .i64 w, .int .i64 need] M (fun _ : Unit => .tuple #[.int .u8 (knS s w need), .int .i64 (erS s w)]) (fun _ => []) (fun _ => True) := by
  refine fn_intro (N := 30) Try.func24 rfl rfl rfl fun w0 => ?_
  refine okc_seq ?_
  refine okc_region ?_
  refine s_boxA rfl rfl rfl rfl rfl rfl (fun b11 => ?_)
  refine s_assign rfl rfl rfl rfl rfl rfl ?_
  refine s_assign rfl rfl rfl rfl rfl rfl ?_
  refine okl_nil ?_
  change OkC Try.prog _ _ _ _ _ _ _
  refine okc_weak (l' := [(0, _), (1, _), (2, _), (3, _), (6, _), (7, _)]) ⟨rfl, rfl, rfl, rfl, rfl, rfl, trivial⟩ ?_
  refine okc_seq ?_
  refine okc_region ?_
  refine s_loadW 0 rfl rfl rfl rfl rfl rfl rfl rfl rfl rfl ?_
  refine s_move rfl rfl rfl rfl rfl rfl ?_
  refine s_callv rfl rfl rfl rfl rfl rfl rfl c22 (Gives_fn s M hin w) covers_all ?_
  refine s_move rfl rfl rfl rfl rfl rfl ?_
  refine s_extract rfl rfl rfl rfl rfl rfl rfl ?_
  refine s_extract rfl rfl rfl rfl rfl rfl rfl ?_
  refine s_alloc rfl rfl rfl rfl rfl rfl (fun b12 => ?_)
  refine k_storeW 0 rfl rfl rfl rfl rfl rfl rfl rfl rfl rfl rfl rfl ?_
  refine s_assign rfl rfl rfl rfl rfl rfl ?_
  refine okl_nil ?_
  change OkC Try.prog _ _ _ _ _ _ _
  refine okc_weak (l' := [(0, _), (1, _), (2, _), (3, _), (6, _), (7, _), (8, _), (9, _)]) ⟨rfl, rfl, rfl, rfl, rfl, rfl, rfl, rfl, trivial⟩ ?_
  refine okc_seq ?_
  refine okc_block ?_
  refine okc_seq ?_
  refine okc_region ?_
  refine s_move rfl rfl rfl rfl rfl rfl ?_
  refine s_cmpS rfl rfl rfl rfl rfl rfl rfl rfl (fun h13 => ?_) (fun h13 => ?_)
  · refine s_assign rfl rfl rfl rfl rfl rfl ?_
    refine okl_nil ?_
    change OkC Try.prog _ _ _ _ _ _ _
    refine okc_weak (l' := [(0, _), (1, _), (2, _), (3, _), (6, _), (7, _), (8, _), (9, _), (16, _)]) ⟨rfl, rfl, rfl, rfl, rfl, rfl, rfl, rfl, rfl, trivial⟩ ?_
    refine okc_cond_t rfl ?_
    refine okc_seq ?_
    refine okc_region ?_
    refine s_move rfl rfl rfl rfl rfl rfl ?_
    refine s_assign rfl rfl rfl rfl rfl rfl ?_
    refine s_assign rfl rfl rfl rfl rfl rfl ?_
    refine okl_nil ?_
    change OkC Try.prog _ _ _ _ _ _ _
    refine okc_weak (l' := [(0, _), (1, _), (2, _), (3, _), (6, _), (7, _), (8, _), (9, _), (16, _)]) ⟨rfl, rfl, rfl, rfl, rfl, rfl, rfl, rfl, rfl, trivial⟩ ?_
    refine okc_ret fun a w hs => ?_
    exact ret_v hs (run_results2 hs rfl (rv_tmp rfl) (rv_tmp rfl)) (by clear hs; simp only [knS]; simp_all <;> (intros; omega))
  · refine s_assign rfl rfl rfl rfl rfl rfl ?_
    refine okl_nil ?_
    change OkC Try.prog _ _ _ _ _ _ _
    refine okc_weak (l' := [(0, _), (1, _), (2, _), (3, _), (6, _), (7, _), (8, _), (9, _), (16, _)]) ⟨rfl, rfl, rfl, rfl, rfl, rfl, rfl, rfl, rfl, trivial⟩ ?_
    refine okc_cond_f rfl ?_
    refine okc_seq ?_
    refine okc_region ?_
    refine s_field rfl rfl rfl rfl rfl rfl rfl rfl ?_
    refine s_load1 0 rfl rfl rfl rfl rfl rfl rfl rfl rfl ?_
    refine s_move rfl rfl rfl rfl rfl rfl ?_
    refine s_cmpS rfl rfl rfl rfl rfl rfl rfl rfl (fun h14 => ?_) (fun h14 => ?_)
    · refine s_assign rfl rfl rfl rfl rfl rfl ?_
      refine okl_nil ?_
      change OkC Try.prog _ _ _ _ _ _ _
      refine okc_weak (l' := [(0, _), (1, _), (2, _), (3, _), (6, _), (7, _), (8, _), (9, _), (16, _), (20, _)]) ⟨rfl, rfl, rfl, rfl, rfl, rfl, rfl, rfl, rfl, rfl, trivial⟩ ?_
      refine okc_cond_t rfl ?_
      refine okc_seq ?_
      refine okc_region ?_
      refine s_assign rfl rfl rfl rfl rfl rfl ?_
      refine s_assign rfl rfl rfl rfl rfl rfl ?_
      refine okl_nil ?_
      change OkC Try.prog _ _ _ _ _ _ _
      refine okc_weak (l' := [(0, _), (1, _), (2, _), (3, _), (6, _), (7, _), (8, _), (9, _), (16, _), (20, _)]) ⟨rfl, rfl, rfl, rfl, rfl, rfl, rfl, rfl, rfl, rfl, trivial⟩ ?_
      refine okc_ret fun a w hs => ?_
      exact ret_v hs (run_results2 hs rfl (rv_tmp rfl) (rv_tmp rfl)) (by clear hs; simp only [knS]; simp_all <;> (intros; omega))
    · refine s_assign rfl rfl rfl rfl rfl rfl ?_
      refine okl_nil ?_
      change OkC Try.prog _ _ _ _ _ _ _
      refine okc_weak (l' := [(0, _), (1, _), (2, _), (3, _), (6, _), (7, _), (8, _), (9, _), (16, _), (20, _)]) ⟨rfl, rfl, rfl, rfl, rfl, rfl, rfl, rfl, rfl, rfl, trivial⟩ ?_
      refine okc_cond_f rfl ?_
      refine okc_seq ?_
      refine okc_region ?_
      refine s_field rfl rfl rfl rfl rfl rfl rfl rfl ?_
      refine s_load1 0 rfl rfl rfl rfl rfl rfl rfl rfl rfl ?_
      refine s_move rfl rfl rfl rfl rfl rfl ?_
      refine s_cmpS rfl rfl rfl rfl rfl rfl rfl rfl (fun h15 => ?_) (fun h15 => ?_)
      · refine s_assign rfl rfl rfl rfl rfl rfl ?_
        refine okl_nil ?_
        change OkC Try.prog _ _ _ _ _ _ _
        refine okc_weak (l' := [(0, _), (1, _), (2, _), (3, _), (6, _), (7, _), (8, _), (9, _), (16, _), (20, _), (25, _)]) ⟨rfl, rfl, rfl, rfl, rfl, rfl, rfl, rfl, rfl, rfl, rfl, trivial⟩ ?_
        refine okc_cond_t rfl ?_
        refine okc_seq ?_
        refine okc_region ?_
        refine s_assign rfl rfl rfl rfl rfl rfl ?_
        refine s_assign rfl rfl rfl rfl rfl rfl ?_
        refine okl_nil ?_
        change OkC Try.prog _ _ _ _ _ _ _
        refine okc_weak (l' := [(0, _), (1, _), (2, _), (3, _), (6, _), (7, _), (8, _), (9, _), (16, _), (20, _), (25, _)]) ⟨rfl, rfl, rfl, rfl, rfl, rfl, rfl, rfl, rfl, rfl, rfl, trivial⟩ ?_
        refine okc_ret fun a w hs => ?_
        exact ret_v hs (run_results2 hs rfl (rv_tmp rfl) (rv_tmp rfl)) (by clear hs; simp only [knS]; simp_all <;> (intros; omega))
      · refine s_assign rfl rfl rfl rfl rfl rfl ?_
        refine okl_nil ?_
        change OkC Try.prog _ _ _ _ _ _ _
        refine okc_weak (l' := [(0, _), (1, _), (2, _), (3, _), (6, _), (7, _), (8, _), (9, _), (16, _), (20, _), (25, _)]) ⟨rfl, rfl, rfl, rfl, rfl, rfl, rfl, rfl, rfl, rfl, rfl, trivial⟩ ?_
        refine okc_cond_f rfl ?_
        refine okc_skip ?_
        change OkC Try.prog _ _ _ _ _ _ _
        refine okc_weak (l' := [(0, _), (1, _), (2, _), (3, _), (6, _), (7, _), (8, _), (9, _), (16, _), (20, _), (25, _)]) ⟨rfl, rfl, rfl, rfl, rfl, rfl, rfl, rfl, rfl, rfl, rfl, trivial⟩ ?_
        refine okc_seq ?_
        refine okc_region ?_
        refine s_assign rfl rfl rfl rfl rfl rfl ?_
        refine s_assign rfl rfl rfl rfl rfl rfl ?_
        refine okl_nil ?_
        change OkC Try.prog _ _ _ _ _ _ _
        refine okc_weak (l' := [(0, _), (1, _), (2, _), (3, _), (6, _), (7, _), (8, _), (9, _), (16, _), (20, _), (25, _)]) ⟨rfl, rfl, rfl, rfl, rfl, rfl, rfl, rfl, rfl, rfl, rfl, trivial⟩ ?_
        refine okc_ret fun a w hs => ?_
        exact ret_v hs (run_results2 hs rfl (rv_tmp rfl) (rv_tmp rfl)) (by clear hs; simp only [knS]; simp_all <;> (intros; omega))

end Go.Proofs.Ytdpnadknaacinaa
end

section
namespace Go.Proofs.Ytdpnadknaacinaa
open Go.Sx Go.Proofs.Ytdpnadknaacinaa.Ty
set_option linter.unusedVariables false
set_option maxHeartbeats 2000000


theorem rds_step {weeks bef : Int} {x : Rd} {L : List Rd} (h : bef < x.number ∧ readB weeks x = true) : rdsB weeks bef (x :: L) = rdsB weeks x.number L := by simp [rdsB, h.1, h.2]
theorem read_num {weeks : Int} {x : Rd} (h : readB weeks x = true) : 1 ≤ x.number := by simp only [readB, inS, Bool.and_eq_true, decide_eq_true_eq] at h; omega

theorem rSpring_fn (s : Sp) (M : Args) (hin : s.In M) : Cn Try.prog 74 [spV s] M (fun _ : Unit => .bool (validB s)) (fun _ => []) (fun _ => True) := by
  obtain ⟨bB, oB, cB, jB, hB⟩ := hin.book
  have hbn := hin.bn
  obtain ⟨bR, oR, cR, jR, hR⟩ := hin.reads
  have hrn := hin.rn
  refine fn_intro (N := 104) Try.func74 rfl rfl rfl fun w0 => ?_
  refine okc_seq ?_
  refine okc_region ?_
  refine s_boxA rfl rfl rfl rfl rfl rfl (fun b1 => ?_)
  refine s_assign rfl rfl rfl rfl rfl rfl ?_
  refine okl_nil ?_
  change OkC Try.prog _ _ _ _ _ _ _
  refine okc_weak (l' := [(0, _), (1, _), (2, _)]) ⟨rfl, rfl, rfl, trivial⟩ ?_
  refine okc_seq ?_
  refine okc_seq ?_
  refine okc_region ?_
  refine s_field rfl rfl rfl rfl rfl rfl rfl rfl ?_
  refine s_load1 0 rfl rfl rfl rfl rfl rfl rfl rfl rfl ?_
  refine s_callb rfl rfl rfl rfl rfl rfl rfl c87 (rwithin_fn _ _ _) covers_nil (fun h2 => ?_) (fun h2 => ?_)
  · refine s_not rfl rfl rfl rfl rfl rfl ?_
    refine s_move rfl rfl rfl rfl rfl rfl ?_
    refine s_field rfl rfl rfl rfl rfl rfl rfl rfl ?_
    refine s_load1 0 rfl rfl rfl rfl rfl rfl rfl rfl rfl ?_
    refine s_callb rfl rfl rfl rfl rfl rfl rfl c87 (rwithin_fn _ _ _) covers_nil (fun h3 => ?_) (fun h3 => ?_)
    · refine s_not rfl rfl rfl rfl rfl rfl ?_
      refine s_pick_f rfl rfl rfl rfl rfl rfl rfl ?_
      refine s_move rfl rfl rfl rfl rfl rfl ?_
      refine s_field rfl rfl rfl rfl rfl rfl rfl rfl ?_
      refine s_load1 0 rfl rfl rfl rfl rfl rfl rfl rfl rfl ?_
      refine s_callb rfl rfl rfl rfl rfl rfl rfl c87 (rwithin_fn _ _ _) covers_nil (fun h4 => ?_) (fun h4 => ?_)
      · refine s_not rfl rfl rfl rfl rfl rfl ?_
        refine s_pick_f rfl rfl rfl rfl rfl rfl rfl ?_
        refine s_move rfl rfl rfl rfl rfl rfl ?_
        refine s_field rfl rfl rfl rfl rfl rfl rfl rfl ?_
        refine s_loadP2 0 rfl rfl rfl rfl rfl rfl rfl rfl rfl rfl rfl ?_
        refine s_callb rfl rfl rfl rfl rfl rfl rfl c106 (spanned_fn _ _ _ _) covers_nil (fun h5 => ?_) (fun h5 => ?_)
        · refine s_not rfl rfl rfl rfl rfl rfl ?_
          refine s_pick_f rfl rfl rfl rfl rfl rfl rfl ?_
          refine s_move rfl rfl rfl rfl rfl rfl ?_
          refine s_field rfl rfl rfl rfl rfl rfl rfl rfl ?_
          refine s_loadP2 0 rfl rfl rfl rfl rfl rfl rfl rfl rfl rfl rfl ?_
          refine s_callb rfl rfl rfl rfl rfl rfl rfl c106 (spanned_fn _ _ _ _) covers_nil (fun h6 => ?_) (fun h6 => ?_)
          · refine s_not rfl rfl rfl rfl rfl rfl ?_
            refine s_pick_f rfl rfl rfl rfl rfl rfl rfl ?_
            refine s_move rfl rfl rfl rfl rfl rfl ?_
            refine s_field rfl rfl rfl rfl rfl rfl rfl rfl ?_
            refine s_load1 0 rfl rfl rfl rfl rfl rfl rfl rfl rfl ?_
            refine s_len rfl rfl rfl rfl rfl rfl rfl ?_
            refine s_cmpS rfl rfl rfl rfl rfl rfl rfl rfl (fun h7 => ?_) (fun h7 => ?_)
            · refine s_pick_f rfl rfl rfl rfl rfl rfl rfl ?_
              refine s_move rfl rfl rfl rfl rfl rfl ?_
              refine okl_skip rfl rfl rfl rfl ?_
              refine okl_skip rfl rfl rfl rfl ?_
              refine okl_skip rfl rfl rfl rfl ?_
              refine okl_skip rfl rfl rfl rfl ?_
              refine s_pick_t rfl rfl rfl rfl rfl rfl rfl ?_
              refine okl_nil ?_
              change OkC Try.prog _ _ _ _ _ _ _
              refine okc_weak (l' := [(0, _), (1, _), (2, _), (46, _)]) ⟨rfl, rfl, rfl, rfl, trivial⟩ ?_
              refine okc_cond_t rfl ?_
              refine okc_seq ?_
              refine okc_region ?_
              refine s_assign rfl rfl rfl rfl rfl rfl ?_
              refine okl_nil ?_
              change OkC Try.prog _ _ _ _ _ _ _
              refine okc_weak (l' := [(0, _), (1, _), (2, _), (46, _)]) ⟨rfl, rfl, rfl, rfl, trivial⟩ ?_
              refine okc_ret fun a w hs => ?_
              exact ret_v hs (run_results1 hs rfl (rv_tmp rfl)) (by clear hs; refine congrArg Value.bool ?_; first | (rw [validB, hfr, hbk, hrds]; rfl) | (rw [validB, readsB, hrd, drop_at hx, hbad]; simp; done) | (rw [validB, bookB, all_false hx hlb]; simp; done) | (clear hB hR; simp_all [validB, frameB, bookB, readsB, inS]; done) | (clear hB hR; simp_all [validB, frameB, bookB, readsB, inS]; omega))
            · have hle8 : s.book.length ≤ 8 := by have hq := h7; simp at hq; omega
              refine s_pick_f rfl rfl rfl rfl rfl rfl rfl ?_
              refine s_move rfl rfl rfl rfl rfl rfl ?_
              refine s_field rfl rfl rfl rfl rfl rfl rfl rfl ?_
              refine s_load1 0 rfl rfl rfl rfl rfl rfl rfl rfl rfl ?_
              refine s_len rfl rfl rfl rfl rfl rfl rfl ?_
              refine s_cmpS rfl rfl rfl rfl rfl rfl rfl rfl (fun h8 => ?_) (fun h8 => ?_)
              · refine s_pick_f rfl rfl rfl rfl rfl rfl rfl ?_
                refine okl_nil ?_
                change OkC Try.prog _ _ _ _ _ _ _
                refine okc_weak (l' := [(0, _), (1, _), (2, _), (46, _)]) ⟨rfl, rfl, rfl, rfl, trivial⟩ ?_
                refine okc_cond_t rfl ?_
                refine okc_seq ?_
                refine okc_region ?_
                refine s_assign rfl rfl rfl rfl rfl rfl ?_
                refine okl_nil ?_
                change OkC Try.prog _ _ _ _ _ _ _
                refine okc_weak (l' := [(0, _), (1, _), (2, _), (46, _)]) ⟨rfl, rfl, rfl, rfl, trivial⟩ ?_
                refine okc_ret fun a w hs => ?_
                exact ret_v hs (run_results1 hs rfl (rv_tmp rfl)) (by clear hs; refine congrArg Value.bool ?_; first | (rw [validB, hfr, hbk, hrds]; rfl) | (rw [validB, readsB, hrd, drop_at hx, hbad]; simp; done) | (rw [validB, bookB, all_false hx hlb]; simp; done) | (clear hB hR; simp_all [validB, frameB, bookB, readsB, inS]; done) | (clear hB hR; simp_all [validB, frameB, bookB, readsB, inS]; omega))
              · have hfr : frameB s = true := by simp_all [frameB, inS]
                have hw := frame_weeks hfr
                obtain ⟨h1, h2⟩ := hw
                have hle12 : s.reads.length ≤ 12 := by have hq := h8; simp at hq; omega
                refine s_pick_f rfl rfl rfl rfl rfl rfl rfl ?_
                refine okl_nil ?_
                change OkC Try.prog _ _ _ _ _ _ _
                refine okc_weak (l' := [(0, _), (1, _), (2, _), (46, _)]) ⟨rfl, rfl, rfl, rfl, trivial⟩ ?_
                refine okc_cond_f rfl ?_
                refine okc_skip ?_
                change OkC Try.prog _ _ _ _ _ _ _
                refine okc_weak (l' := [(0, _), (1, _), (2, _), (46, _)]) ⟨rfl, rfl, rfl, rfl, trivial⟩ ?_
                refine okc_seq ?_
                refine okc_seq ?_
                refine okc_region ?_
                refine s_field rfl rfl rfl rfl rfl rfl rfl rfl ?_
                refine s_load1 0 rfl rfl rfl rfl rfl rfl rfl rfl rfl ?_
                refine s_len rfl rfl rfl rfl rfl rfl rfl ?_
                refine s_move rfl rfl rfl rfl rfl rfl ?_
                refine okl_nil ?_
                change OkC Try.prog _ _ _ _ _ _ _
                refine okc_weak (l' := [(0, _), (1, _), (2, _), (46, _), (48, _), (49, _), (50, _)]) ⟨rfl, rfl, rfl, rfl, rfl, rfl, rfl, trivial⟩ ?_
                refine okc_block ?_
                refine okc_loop (γ := Nat) (fun k => [(1, .pointer (some ⟨b1, 0, none⟩)), (48, .slice s.bp s.book.length s.bc), (49, .int .i64 s.book.length), (50, .int .i64 k)]) (fun _ => [(b1, [.int .i64 s.weeks, .int .i64 s.most, .int .i64 s.fall, .int .i64 s.slo, .int .i64 s.shi, .int .i64 s.wlo, .int .i64 s.whi, .slice s.bp s.book.length s.bc, .slice s.rp s.reads.length s.rc], 27)]) (fun k => k ≤ s.book.length ∧ (s.book.take k).all (lineB s.weeks) = true) (fun k => s.book.length - k) 0 ⟨Nat.zero_le _, rfl⟩ (fun a w hs => hs.weak ⟨rfl, rfl, rfl, rfl, trivial⟩ [0] (by simp) rfl) ?_
                rintro k ⟨hk, hall⟩
                refine okc_seq ?_
                refine okc_region ?_
                refine s_cmpS rfl rfl rfl rfl rfl rfl rfl rfl (fun h9 => ?_) (fun h9 => ?_)
                · have hlt : k < s.book.length := by simpa using h9
                  obtain ⟨x, hx⟩ : ∃ x, s.book[k]? = some x := ⟨s.book[k], by simp [hlt]⟩
                  obtain ⟨hpB, hjB, hatB⟩ := hB (by intro e; simp [e] at hlt)
                  have hcell := hatB k x hx
                  refine okl_nil ?_
                  change OkC Try.prog _ _ _ _ _ _ _
                  refine okc_weak (l' := [(1, _), (48, _), (49, _), (50, _), (51, _)]) ⟨rfl, rfl, rfl, rfl, rfl, trivial⟩ ?_
                  refine okc_seq ?_
                  refine okc_cond_t rfl ?_
                  refine okc_skip ?_
                  change OkC Try.prog _ _ _ _ _ _ _
                  refine okc_weak (l' := [(1, _), (48, _), (49, _), (50, _), (51, _)]) ⟨rfl, rfl, rfl, rfl, rfl, trivial⟩ ?_
                  refine okc_seq ?_
                  refine okc_block ?_
                  refine okc_seq ?_
                  refine okc_region ?_
                  refine s_indexP k hpB rfl rfl rfl rfl rfl rfl rfl rfl rfl rfl (by omega) rfl ?_
                  refine s_loadAP jB rfl rfl rfl rfl rfl rfl rfl hjB rfl (by assumption) rfl ?_
                  refine s_alloc rfl rfl rfl rfl rfl rfl (fun b10 => ?_)
                  refine k_storeW 0 rfl rfl rfl rfl rfl rfl rfl rfl rfl rfl rfl rfl ?_
                  try dsimp only [List.set_cons_zero, List.set_cons_succ, setL]
                  refine okl_nil ?_
                  change OkC Try.prog _ _ _ _ _ _ _
                  refine okc_weak (l' := [(1, _), (4, _), (48, _), (49, _), (50, _), (51, _)]) ⟨rfl, rfl, rfl, rfl, rfl, rfl, trivial⟩ ?_
                  refine okc_seq ?_
                  refine okc_region ?_
                  refine s_field rfl rfl rfl rfl rfl rfl rfl rfl ?_
                  refine s_loadP2 0 rfl rfl rfl rfl rfl rfl rfl rfl rfl rfl rfl ?_
                  refine s_callb rfl rfl rfl rfl rfl rfl rfl c106 (spanned_fn _ _ _ _) covers_nil (fun h11 => ?_) (fun h11 => ?_)
                  · have ha1 : isSpanB x.rlo x.rhi 0 20 = true := h11
                    refine s_not rfl rfl rfl rfl rfl rfl ?_
                    refine s_move rfl rfl rfl rfl rfl rfl ?_
                    refine s_field rfl rfl rfl rfl rfl rfl rfl rfl ?_
                    refine s_load1 0 rfl rfl rfl rfl rfl rfl rfl rfl rfl ?_
                    refine s_field rfl rfl rfl rfl rfl rfl rfl rfl ?_
                    refine s_load1 1 rfl rfl rfl rfl rfl rfl rfl rfl rfl ?_
                    refine s_sub rfl rfl rfl rfl rfl rfl rfl (by omega) ?_
                    refine s_callb rfl rfl rfl rfl rfl rfl rfl c87 (rwithin_fn _ _ _) covers_nil (fun h12 => ?_) (fun h12 => ?_)
                    · have ha2 : isWeekB s.weeks x.week = true := h12
                      refine s_not rfl rfl rfl rfl rfl rfl ?_
                      refine s_pick_f rfl rfl rfl rfl rfl rfl rfl ?_
                      refine s_move rfl rfl rfl rfl rfl rfl ?_
                      refine s_field rfl rfl rfl rfl rfl rfl rfl rfl ?_
                      refine s_loadP2 0 rfl rfl rfl rfl rfl rfl rfl rfl rfl rfl rfl ?_
                      refine s_callb rfl rfl rfl rfl rfl rfl rfl c106 (spanned_fn _ _ _ _) covers_nil (fun h13 => ?_) (fun h13 => ?_)
                      · have hlb : lineB s.weeks x = true := by rw [lineB, ha1, ha2, h13]; rfl
                        refine s_not rfl rfl rfl rfl rfl rfl ?_
                        refine s_pick_f rfl rfl rfl rfl rfl rfl rfl ?_
                        refine okl_nil ?_
                        change OkC Try.prog _ _ _ _ _ _ _
                        refine okc_weak (l' := [(1, _), (4, _), (48, _), (49, _), (50, _), (51, _), (72, _)]) ⟨rfl, rfl, rfl, rfl, rfl, rfl, rfl, trivial⟩ ?_
                        refine okc_cond_f rfl ?_
                        refine okc_skip ?_
                        change OkC Try.prog _ _ _ _ _ _ _
                        refine okc_weak (l' := [(1, _), (4, _), (48, _), (49, _), (50, _), (51, _), (72, _)]) ⟨rfl, rfl, rfl, rfl, rfl, rfl, rfl, trivial⟩ ?_
                        refine okc_region ?_
                        refine s_add rfl rfl rfl rfl rfl rfl rfl (by omega) ?_
                        refine s_move rfl rfl rfl rfl rfl rfl ?_
                        refine okl_nil ?_
                        exact fun a w hs => ⟨k + 1, ⟨by omega, by rw [all_snoc _ hx, hall, hlb]; rfl⟩, by omega, hs.weak ⟨rfl, rfl, rfl, rfl, trivial⟩ [1] (by simp) rfl⟩
                      · have hlb : lineB s.weeks x = false := by rw [lineB, h13]; simp
                        refine s_not rfl rfl rfl rfl rfl rfl ?_
                        refine s_pick_f rfl rfl rfl rfl rfl rfl rfl ?_
                        refine okl_nil ?_
                        change OkC Try.prog _ _ _ _ _ _ _
                        refine okc_weak (l' := [(1, _), (4, _), (48, _), (49, _), (50, _), (51, _), (72, _)]) ⟨rfl, rfl, rfl, rfl, rfl, rfl, rfl, trivial⟩ ?_
                        refine okc_cond_t rfl ?_
                        refine okc_seq ?_
                        refine okc_region ?_
                        refine s_assign rfl rfl rfl rfl rfl rfl ?_
                        refine okl_nil ?_
                        change OkC Try.prog _ _ _ _ _ _ _
                        refine okc_weak (l' := [(1, _), (2, _), (4, _), (48, _), (49, _), (50, _), (51, _), (72, _)]) ⟨rfl, rfl, rfl, rfl, rfl, rfl, rfl, rfl, trivial⟩ ?_
                        refine okc_ret fun a w hs => ?_
                        exact ret_v hs (run_results1 hs rfl (rv_tmp rfl)) (by clear hs; refine congrArg Value.bool ?_; first | (rw [validB, hfr, hbk, hrds]; rfl) | (rw [validB, readsB, hrd, drop_at hx, hbad]; simp; done) | (rw [validB, bookB, all_false hx hlb]; simp; done) | (clear hB hR; simp_all [validB, frameB, bookB, readsB, inS]; done) | (clear hB hR; simp_all [validB, frameB, bookB, readsB, inS]; omega))
                    · have hlb : lineB s.weeks x = false := by rw [lineB, show isWeekB s.weeks x.week = false from h12]; simp
                      refine s_not rfl rfl rfl rfl rfl rfl ?_
                      refine s_pick_f rfl rfl rfl rfl rfl rfl rfl ?_
                      refine s_move rfl rfl rfl rfl rfl rfl ?_
                      refine okl_skip rfl rfl rfl rfl ?_
                      refine okl_skip rfl rfl rfl rfl ?_
                      refine okl_skip rfl rfl rfl rfl ?_
                      refine okl_skip rfl rfl rfl rfl ?_
                      refine s_pick_t rfl rfl rfl rfl rfl rfl rfl ?_
                      refine okl_nil ?_
                      change OkC Try.prog _ _ _ _ _ _ _
                      refine okc_weak (l' := [(1, _), (4, _), (48, _), (49, _), (50, _), (51, _), (72, _)]) ⟨rfl, rfl, rfl, rfl, rfl, rfl, rfl, trivial⟩ ?_
                      refine okc_cond_t rfl ?_
                      refine okc_seq ?_
                      refine okc_region ?_
                      refine s_assign rfl rfl rfl rfl rfl rfl ?_
                      refine okl_nil ?_
                      change OkC Try.prog _ _ _ _ _ _ _
                      refine okc_weak (l' := [(1, _), (2, _), (4, _), (48, _), (49, _), (50, _), (51, _), (72, _)]) ⟨rfl, rfl, rfl, rfl, rfl, rfl, rfl, rfl, trivial⟩ ?_
                      refine okc_ret fun a w hs => ?_
                      exact ret_v hs (run_results1 hs rfl (rv_tmp rfl)) (by clear hs; refine congrArg Value.bool ?_; first | (rw [validB, hfr, hbk, hrds]; rfl) | (rw [validB, readsB, hrd, drop_at hx, hbad]; simp; done) | (rw [validB, bookB, all_false hx hlb]; simp; done) | (clear hB hR; simp_all [validB, frameB, bookB, readsB, inS]; done) | (clear hB hR; simp_all [validB, frameB, bookB, readsB, inS]; omega))
                  · have hlb : lineB s.weeks x = false := by rw [lineB, h11]; rfl
                    refine s_not rfl rfl rfl rfl rfl rfl ?_
                    refine s_move rfl rfl rfl rfl rfl rfl ?_
                    refine okl_skip rfl rfl rfl rfl ?_
                    refine okl_skip rfl rfl rfl rfl ?_
                    refine okl_skip rfl rfl rfl rfl ?_
                    refine okl_skip rfl rfl rfl rfl ?_
                    refine okl_skip rfl rfl rfl rfl ?_
                    refine okl_skip rfl rfl rfl rfl ?_
                    refine okl_skip rfl rfl rfl rfl ?_
                    refine s_pick_t rfl rfl rfl rfl rfl rfl rfl ?_
                    refine s_move rfl rfl rfl rfl rfl rfl ?_
                    refine okl_skip rfl rfl rfl rfl ?_
                    refine okl_skip rfl rfl rfl rfl ?_
                    refine okl_skip rfl rfl rfl rfl ?_
                    refine okl_skip rfl rfl rfl rfl ?_
                    refine s_pick_t rfl rfl rfl rfl rfl rfl rfl ?_
                    refine okl_nil ?_
                    change OkC Try.prog _ _ _ _ _ _ _
                    refine okc_weak (l' := [(1, _), (4, _), (48, _), (49, _), (50, _), (51, _), (72, _)]) ⟨rfl, rfl, rfl, rfl, rfl, rfl, rfl, trivial⟩ ?_
                    refine okc_cond_t rfl ?_
                    refine okc_seq ?_
                    refine okc_region ?_
                    refine s_assign rfl rfl rfl rfl rfl rfl ?_
                    refine okl_nil ?_
                    change OkC Try.prog _ _ _ _ _ _ _
                    refine okc_weak (l' := [(1, _), (2, _), (4, _), (48, _), (49, _), (50, _), (51, _), (72, _)]) ⟨rfl, rfl, rfl, rfl, rfl, rfl, rfl, rfl, trivial⟩ ?_
                    refine okc_ret fun a w hs => ?_
                    exact ret_v hs (run_results1 hs rfl (rv_tmp rfl)) (by clear hs; refine congrArg Value.bool ?_; first | (rw [validB, hfr, hbk, hrds]; rfl) | (rw [validB, readsB, hrd, drop_at hx, hbad]; simp; done) | (rw [validB, bookB, all_false hx hlb]; simp; done) | (clear hB hR; simp_all [validB, frameB, bookB, readsB, inS]; done) | (clear hB hR; simp_all [validB, frameB, bookB, readsB, inS]; omega))
                · have hge : ¬ k < s.book.length := by simpa using h9
                  have hbk : bookB s.weeks s.book = true := by rw [bookB, all_end hge hall]; simpa using hle8
                  clear hall
                  refine okl_nil ?_
                  change OkC Try.prog _ _ _ _ _ _ _
                  refine okc_weak (l' := [(1, _), (48, _), (49, _), (50, _), (51, _)]) ⟨rfl, rfl, rfl, rfl, rfl, trivial⟩ ?_
                  refine okc_seq ?_
                  refine okc_cond_f rfl ?_
                  refine okc_exit ?_
                  change OkC Try.prog _ _ _ _ _ _ _
                  refine okc_weak (l' := [(1, _), (48, _), (49, _), (50, _), (51, _)]) ⟨rfl, rfl, rfl, rfl, rfl, trivial⟩ ?_
                  refine okc_seq ?_
                  refine okc_seq ?_
                  refine okc_region ?_
                  refine s_field rfl rfl rfl rfl rfl rfl rfl rfl ?_
                  refine s_load1 0 rfl rfl rfl rfl rfl rfl rfl rfl rfl ?_
                  refine s_len rfl rfl rfl rfl rfl rfl rfl ?_
                  refine s_move rfl rfl rfl rfl rfl rfl ?_
                  refine okl_nil ?_
                  change OkC Try.prog _ _ _ _ _ _ _
                  refine okc_weak (l' := [(1, _), (48, _), (49, _), (50, _), (51, _), (75, _), (76, _), (77, _)]) ⟨rfl, rfl, rfl, rfl, rfl, rfl, rfl, rfl, trivial⟩ ?_
                  refine okc_block ?_
                  refine okc_loop (γ := Nat × Int) (fun g => [(1, .pointer (some ⟨b1, 0, none⟩)), (75, .slice s.rp s.reads.length s.rc), (76, .int .i64 s.reads.length), (77, .int .i64 g.1)]) (fun _ => [(b1, [.int .i64 s.weeks, .int .i64 s.most, .int .i64 s.fall, .int .i64 s.slo, .int .i64 s.shi, .int .i64 s.wlo, .int .i64 s.whi, .slice s.bp s.book.length s.bc, .slice s.rp s.reads.length s.rc], 27)]) (fun g => g.1 ≤ s.reads.length ∧ rdsB s.weeks 0 s.reads = rdsB s.weeks g.2 (s.reads.drop g.1) ∧ (g.1 = 0 → g.2 = 0) ∧ ∀ y, 0 < g.1 → s.reads[g.1 - 1]? = some y → g.2 = y.number) (fun g => s.reads.length - g.1) (0, 0) ⟨Nat.zero_le _, rfl, fun _ => rfl, fun y h => absurd h (Nat.lt_irrefl 0)⟩ (fun a w hs => hs.weak ⟨rfl, rfl, rfl, rfl, trivial⟩ [0] (by simp) rfl) ?_
                  rintro ⟨k, bef⟩ ⟨hk, hrd, hb0, hby⟩
                  dsimp only at hk hrd hb0 hby ⊢
                  refine okc_seq ?_
                  refine okc_region ?_
                  refine s_cmpS rfl rfl rfl rfl rfl rfl rfl rfl (fun h14 => ?_) (fun h14 => ?_)
                  · have hlt : k < s.reads.length := by simpa using h14
                    obtain ⟨x, hx⟩ : ∃ x, s.reads[k]? = some x := ⟨s.reads[k], by simp [hlt]⟩
                    obtain ⟨hpR, hjR, hatR⟩ := hR (by intro e; simp [e] at hlt)
                    have hcell := hatR k x hx
                    refine okl_nil ?_
                    change OkC Try.prog _ _ _ _ _ _ _
                    refine okc_weak (l' := [(1, _), (75, _), (76, _), (77, _), (78, _)]) ⟨rfl, rfl, rfl, rfl, rfl, trivial⟩ ?_
                    refine okc_seq ?_
                    refine okc_cond_t rfl ?_
                    refine okc_skip ?_
                    change OkC Try.prog _ _ _ _ _ _ _
                    refine okc_weak (l' := [(1, _), (75, _), (76, _), (77, _), (78, _)]) ⟨rfl, rfl, rfl, rfl, rfl, trivial⟩ ?_
                    refine okc_seq ?_
                    refine okc_block ?_
                    refine okc_seq ?_
                    refine okc_region ?_
                    refine s_move rfl rfl rfl rfl rfl rfl ?_
                    refine s_indexP k hpR rfl rfl rfl rfl rfl rfl rfl rfl rfl rfl (by omega) rfl ?_
                    refine s_loadAP jR rfl rfl rfl rfl rfl rfl rfl hjR rfl (by assumption) rfl ?_
                    refine s_alloc rfl rfl rfl rfl rfl rfl (fun b15 => ?_)
                    refine s_assign rfl rfl rfl rfl rfl rfl ?_
                    refine k_storeW 0 rfl rfl rfl rfl rfl rfl rfl rfl rfl rfl rfl rfl ?_
                    try dsimp only [List.set_cons_zero, List.set_cons_succ, setL]
                    refine okl_nil ?_
                    change OkC Try.prog _ _ _ _ _ _ _
                    refine okc_weak (l' := [(1, _), (5, _), (6, _), (75, _), (76, _), (77, _), (78, _)]) ⟨rfl, rfl, rfl, rfl, rfl, rfl, rfl, trivial⟩ ?_
                    refine okc_seq ?_
                    refine dr_start [82, 83, 84, 85, 86, 87, 88, 89, 90, 91, 92, 93, 94, 95, 96, 97, 98, 99, 100, 101, 102] ?_
                    refine d_loadW 0 [] rfl rfl rfl rfl rfl (fun ν => rfl) rfl rfl (fun ν => rfl) (fun ν => rfl) rfl rfl ?_
                    refine d_field [] rfl rfl rfl rfl rfl (fun ν => rfl) rfl (fun ν => rfl) rfl rfl ?_
                    refine d_load1 1 [1] rfl rfl rfl rfl rfl (fun ν => rfl) rfl rfl (fun ν => rfl) (fun ν => rfl) rfl ?_
                    refine d_callb [0, 2] rfl rfl rfl rfl rfl (fun ν => rfl) rfl (fun ν => rfl) (fun ν => rfl) c68 (fun ν => rReading_fn _ _ (by assumption) (by assumption)) (fun ν => covers_nil) (fun h16 => ?_) (fun h16 => ?_)
                    · have hrb : readB s.weeks x = true := h16
                      refine d_not [3] rfl rfl rfl rfl rfl (fun ν => rfl) rfl (fun ν => rfl) ?_
                      refine d_move [4] rfl rfl rfl rfl rfl (fun ν => rfl) rfl (fun ν => rfl) ?_
                      refine d_move [5] rfl rfl rfl rfl rfl (fun ν => rfl) rfl (fun ν => rfl) ?_
                      refine d_cmpS [6, 5] rfl rfl rfl rfl rfl (fun ν => rfl) rfl (fun ν => rfl) (fun ν => rfl) rfl (fun h17 => ?_) (fun h17 => ?_)
                      · have hk0 : 0 < k := by have hq := h17; simp at hq; omega
                        obtain ⟨y, hy⟩ : ∃ y, s.reads[k - 1]? = some y := ⟨s.reads[k - 1], by simp⟩
                        have hcy := hatR (k - 1) y hy
                        have hc2 : cR[oR + (k - 1) * 5 + 0]? = some (.int .i64 y.number) := sub_at hcy 0 (by omega)
                        have hbef := hby y hk0 hy
                        refine d_move [7, 5] rfl rfl rfl rfl rfl (fun ν => rfl) rfl (fun ν => rfl) ?_
                        refine d_field [8] rfl rfl rfl rfl rfl (fun ν => rfl) rfl (fun ν => rfl) rfl rfl ?_
                        refine d_load1 1 [9, 8] rfl rfl rfl rfl rfl (fun ν => rfl) rfl rfl (fun ν => rfl) (fun ν => rfl) rfl ?_
                        refine d_move [8] rfl rfl rfl rfl rfl (fun ν => rfl) rfl (fun ν => rfl) ?_
                        refine d_sub [11, 8] rfl rfl rfl rfl rfl (fun ν => rfl) rfl (fun ν => rfl) (fun ν => rfl) (by omega) ?_
                        refine d_indexP (k - 1) hpR [10, 12, 8] rfl rfl rfl rfl rfl (fun ν => rfl) rfl (fun ν => rfl) (fun ν => rfl) rfl rfl (by omega) (by omega) rfl ?_
                        refine d_field [13, 8] rfl rfl rfl rfl rfl (fun ν => rfl) rfl (fun ν => rfl) rfl rfl ?_
                        refine d_loadA1 jR [14, 8] rfl rfl rfl rfl rfl (fun ν => rfl) rfl rfl (fun ν => rfl) hjR (by assumption) ?_
                        refine d_field [8] rfl rfl rfl rfl rfl (fun ν => rfl) rfl (fun ν => rfl) rfl rfl ?_
                        refine d_load1 0 [16, 8] rfl rfl rfl rfl rfl (fun ν => rfl) rfl rfl (fun ν => rfl) (fun ν => rfl) rfl ?_
                        refine d_cmpS [15, 17, 8] rfl rfl rfl rfl rfl (fun ν => rfl) rfl (fun ν => rfl) (fun ν => rfl) rfl (fun h18 => ?_) (fun h18 => ?_)
                        · have hbad : rdsB s.weeks bef (x :: s.reads.drop (k + 1)) = false := by have hq := h18; simp at hq; simp [rdsB, hbef]; try (intro hh; omega)
                          refine d_pick_t [8, 18, 5] rfl rfl rfl rfl rfl (fun ν => rfl) rfl (fun ν => rfl) (fun ν => rfl) ?_
                          refine d_pick_f [5, 19] rfl rfl rfl rfl rfl (fun ν => rfl) rfl (fun ν => rfl) (fun ν => rfl) ?_
                          refine dr_end [82, 83, 84, 85, 86, 87, 88, 89, 90, 91, 92, 93, 94, 95, 96, 97, 98, 99, 100, 101, 102] [20] 21 rfl rfl rfl rfl rfl rfl rfl rfl rfl (fun ν => ?_)
                          refine okl_nil ?_
                          change OkC Try.prog _ _ _ _ _ _ _
                          refine okc_weak (l' := [(1, _), (5, _), (6, _), (75, _), (76, _), (77, _), (78, _), (102, _)]) ⟨rfl, rfl, rfl, rfl, rfl, rfl, rfl, rfl, trivial⟩ ?_
                          refine okc_cond_t rfl ?_
                          refine okc_seq ?_
                          refine okc_region ?_
                          refine s_assign rfl rfl rfl rfl rfl rfl ?_
                          refine okl_nil ?_
                          change OkC Try.prog _ _ _ _ _ _ _
                          refine okc_weak (l' := [(1, _), (2, _), (5, _), (6, _), (75, _), (76, _), (77, _), (78, _), (102, _)]) ⟨rfl, rfl, rfl, rfl, rfl, rfl, rfl, rfl, rfl, trivial⟩ ?_
                          refine okc_ret fun a w hs => ?_
                          exact ret_v hs (run_results1 hs rfl (rv_tmp rfl)) (by clear hs; refine congrArg Value.bool ?_; first | (rw [validB, hfr, hbk, hrds]; rfl) | (rw [validB, readsB, hrd, drop_at hx, hbad]; simp; done) | (rw [validB, bookB, all_false hx hlb]; simp; done) | (clear hB hR; simp_all [validB, frameB, bookB, readsB, inS]; done) | (clear hB hR; simp_all [validB, frameB, bookB, readsB, inS]; omega))
                        · have hgood : bef < x.number ∧ readB s.weeks x = true := ⟨by have hq := h18; simp at hq; omega, hrb⟩
                          refine d_pick_t [8, 18, 5] rfl rfl rfl rfl rfl (fun ν => rfl) rfl (fun ν => rfl) (fun ν => rfl) ?_
                          refine d_pick_f [5, 19] rfl rfl rfl rfl rfl (fun ν => rfl) rfl (fun ν => rfl) (fun ν => rfl) ?_
                          refine dr_end [82, 83, 84, 85, 86, 87, 88, 89, 90, 91, 92, 93, 94, 95, 96, 97, 98, 99, 100, 101, 102] [20] 21 rfl rfl rfl rfl rfl rfl rfl rfl rfl (fun ν => ?_)
                          refine okl_nil ?_
                          change OkC Try.prog _ _ _ _ _ _ _
                          refine okc_weak (l' := [(1, _), (5, _), (6, _), (75, _), (76, _), (77, _), (78, _), (102, _)]) ⟨rfl, rfl, rfl, rfl, rfl, rfl, rfl, rfl, trivial⟩ ?_
                          refine okc_cond_f rfl ?_
                          refine okc_skip ?_
                          change OkC Try.prog _ _ _ _ _ _ _
                          refine okc_weak (l' := [(1, _), (5, _), (6, _), (75, _), (76, _), (77, _), (78, _), (102, _)]) ⟨rfl, rfl, rfl, rfl, rfl, rfl, rfl, rfl, trivial⟩ ?_
                          refine okc_region ?_
                          refine s_add rfl rfl rfl rfl rfl rfl rfl (by omega) ?_
                          refine s_move rfl rfl rfl rfl rfl rfl ?_
                          refine okl_nil ?_
                          exact fun a w hs => ⟨(k + 1, x.number), ⟨by show k + 1 ≤ _; omega, by rw [hrd, drop_at hx]; exact rds_step hgood, fun h => absurd h (Nat.succ_ne_zero k), fun y _ h => by simp only [Nat.add_sub_cancel] at h; rw [hx] at h; cases h; rfl⟩, by simp; omega, hs.weak ⟨rfl, rfl, rfl, rfl, trivial⟩ [1] (by simp) rfl⟩
                      · have hk0 : k = 0 := by have hq := h17; simp at hq; omega
                        have hbef := hb0 hk0
                        have hgood : bef < x.number ∧ readB s.weeks x = true := ⟨by have := read_num hrb; omega, hrb⟩
                        refine d_move [7, 5] rfl rfl rfl rfl rfl (fun ν => rfl) rfl (fun ν => rfl) ?_
                        refine d_skip [8] rfl rfl rfl rfl rfl (fun ν => rfl) ?_
                        refine d_skip [9, 8] rfl rfl rfl rfl rfl (fun ν => rfl) ?_
                        refine d_skip [8] rfl rfl rfl rfl rfl (fun ν => rfl) ?_
                        refine d_skip [11, 8] rfl rfl rfl rfl rfl (fun ν => rfl) ?_
                        refine d_skip [10, 12, 8] rfl rfl rfl rfl rfl (fun ν => rfl) ?_
                        refine d_skip [13, 8] rfl rfl rfl rfl rfl (fun ν => rfl) ?_
                        refine d_skip [14, 8] rfl rfl rfl rfl rfl (fun ν => rfl) ?_
                        refine d_skip [8] rfl rfl rfl rfl rfl (fun ν => rfl) ?_
                        refine d_skip [16, 8] rfl rfl rfl rfl rfl (fun ν => rfl) ?_
                        refine d_skip [15, 17, 8] rfl rfl rfl rfl rfl (fun ν => rfl) ?_
                        refine d_pick_f [8, 18, 5] rfl rfl rfl rfl rfl (fun ν => rfl) rfl (fun ν => rfl) (fun ν => rfl) ?_
                        refine d_pick_f [5, 19] rfl rfl rfl rfl rfl (fun ν => rfl) rfl (fun ν => rfl) (fun ν => rfl) ?_
                        refine dr_end [82, 83, 84, 85, 86, 87, 88, 89, 90, 91, 92, 93, 94, 95, 96, 97, 98, 99, 100, 101, 102] [20] 21 rfl rfl rfl rfl rfl rfl rfl rfl rfl (fun ν => ?_)
                        refine okl_nil ?_
                        change OkC Try.prog _ _ _ _ _ _ _
                        refine okc_weak (l' := [(1, _), (5, _), (6, _), (75, _), (76, _), (77, _), (78, _), (102, _)]) ⟨rfl, rfl, rfl, rfl, rfl, rfl, rfl, rfl, trivial⟩ ?_
                        refine okc_cond_f rfl ?_
                        refine okc_skip ?_
                        change OkC Try.prog _ _ _ _ _ _ _
                        refine okc_weak (l' := [(1, _), (5, _), (6, _), (75, _), (76, _), (77, _), (78, _), (102, _)]) ⟨rfl, rfl, rfl, rfl, rfl, rfl, rfl, rfl, trivial⟩ ?_
                        refine okc_region ?_
                        refine s_add rfl rfl rfl rfl rfl rfl rfl (by omega) ?_
                        refine s_move rfl rfl rfl rfl rfl rfl ?_
                        refine okl_nil ?_
                        exact fun a w hs => ⟨(k + 1, x.number), ⟨by show k + 1 ≤ _; omega, by rw [hrd, drop_at hx]; exact rds_step hgood, fun h => absurd h (Nat.succ_ne_zero k), fun y _ h => by simp only [Nat.add_sub_cancel] at h; rw [hx] at h; cases h; rfl⟩, by simp; omega, hs.weak ⟨rfl, rfl, rfl, rfl, trivial⟩ [1] (by simp) rfl⟩
                    · have hrb : readB s.weeks x = false := h16
                      have hbad : rdsB s.weeks bef (x :: s.reads.drop (k + 1)) = false := by simp [rdsB, hrb]
                      refine d_not [3] rfl rfl rfl rfl rfl (fun ν => rfl) rfl (fun ν => rfl) ?_
                      refine d_move [4] rfl rfl rfl rfl rfl (fun ν => rfl) rfl (fun ν => rfl) ?_
                      refine d_skip [5] rfl rfl rfl rfl rfl (fun ν => rfl) ?_
                      refine d_skip [6, 5] rfl rfl rfl rfl rfl (fun ν => rfl) ?_
                      refine d_skip [7, 5] rfl rfl rfl rfl rfl (fun ν => rfl) ?_
                      refine d_skip [8] rfl rfl rfl rfl rfl (fun ν => rfl) ?_
                      refine d_skip [9, 8] rfl rfl rfl rfl rfl (fun ν => rfl) ?_
                      refine d_skip [8] rfl rfl rfl rfl rfl (fun ν => rfl) ?_
                      refine d_skip [11, 8] rfl rfl rfl rfl rfl (fun ν => rfl) ?_
                      refine d_skip [10, 12, 8] rfl rfl rfl rfl rfl (fun ν => rfl) ?_
                      refine d_skip [13, 8] rfl rfl rfl rfl rfl (fun ν => rfl) ?_
                      refine d_skip [14, 8] rfl rfl rfl rfl rfl (fun ν => rfl) ?_
                      refine d_skip [8] rfl rfl rfl rfl rfl (fun ν => rfl) ?_
                      refine d_skip [16, 8] rfl rfl rfl rfl rfl (fun ν => rfl) ?_
                      refine d_skip [15, 17, 8] rfl rfl rfl rfl rfl (fun ν => rfl) ?_
                      refine d_skip [8, 18, 5] rfl rfl rfl rfl rfl (fun ν => rfl) ?_
                      refine d_pick_t [5, 19] rfl rfl rfl rfl rfl (fun ν => rfl) rfl (fun ν => rfl) (fun ν => rfl) ?_
                      refine dr_end [82, 83, 84, 85, 86, 87, 88, 89, 90, 91, 92, 93, 94, 95, 96, 97, 98, 99, 100, 101, 102] [20] 21 rfl rfl rfl rfl rfl rfl rfl rfl rfl (fun ν => ?_)
                      refine okl_nil ?_
                      change OkC Try.prog _ _ _ _ _ _ _
                      refine okc_weak (l' := [(1, _), (5, _), (6, _), (75, _), (76, _), (77, _), (78, _), (102, _)]) ⟨rfl, rfl, rfl, rfl, rfl, rfl, rfl, rfl, trivial⟩ ?_
                      refine okc_cond_t rfl ?_
                      refine okc_seq ?_
                      refine okc_region ?_
                      refine s_assign rfl rfl rfl rfl rfl rfl ?_
                      refine okl_nil ?_
                      change OkC Try.prog _ _ _ _ _ _ _
                      refine okc_weak (l' := [(1, _), (2, _), (5, _), (6, _), (75, _), (76, _), (77, _), (78, _), (102, _)]) ⟨rfl, rfl, rfl, rfl, rfl, rfl, rfl, rfl, rfl, trivial⟩ ?_
                      refine okc_ret fun a w hs => ?_
                      exact ret_v hs (run_results1 hs rfl (rv_tmp rfl)) (by clear hs; refine congrArg Value.bool ?_; first | (rw [validB, hfr, hbk, hrds]; rfl) | (rw [validB, readsB, hrd, drop_at hx, hbad]; simp; done) | (rw [validB, bookB, all_false hx hlb]; simp; done) | (clear hB hR; simp_all [validB, frameB, bookB, readsB, inS]; done) | (clear hB hR; simp_all [validB, frameB, bookB, readsB, inS]; omega))
                  · have hge : ¬ k < s.reads.length := by simpa using h14
                    have hrds : readsB s.weeks s.reads = true := by rw [readsB, hrd, List.drop_of_length_le (by omega)]; simpa [rdsB] using hle12
                    refine okl_nil ?_
                    change OkC Try.prog _ _ _ _ _ _ _
                    refine okc_weak (l' := [(1, _), (75, _), (76, _), (77, _), (78, _)]) ⟨rfl, rfl, rfl, rfl, rfl, trivial⟩ ?_
                    refine okc_seq ?_
                    refine okc_cond_f rfl ?_
                    refine okc_exit ?_
                    change OkC Try.prog _ _ _ _ _ _ _
                    refine okc_weak (l' := [(1, _), (75, _), (76, _), (77, _), (78, _)]) ⟨rfl, rfl, rfl, rfl, rfl, trivial⟩ ?_
                    refine okc_seq ?_
                    refine okc_region ?_
                    refine s_assign rfl rfl rfl rfl rfl rfl ?_
                    refine okl_nil ?_
                    change OkC Try.prog _ _ _ _ _ _ _
                    refine okc_weak (l' := [(1, _), (2, _), (75, _), (76, _), (77, _), (78, _)]) ⟨rfl, rfl, rfl, rfl, rfl, rfl, trivial⟩ ?_
                    refine okc_ret fun a w hs => ?_
                    exact ret_v hs (run_results1 hs rfl (rv_tmp rfl)) (by clear hs; refine congrArg Value.bool ?_; first | (rw [validB, hfr, hbk, hrds]; rfl) | (rw [validB, readsB, hrd, drop_at hx, hbad]; simp; done) | (rw [validB, bookB, all_false hx hlb]; simp; done) | (clear hB hR; simp_all [validB, frameB, bookB, readsB, inS]; done) | (clear hB hR; simp_all [validB, frameB, bookB, readsB, inS]; omega))
          · refine s_not rfl rfl rfl rfl rfl rfl ?_
            refine s_pick_f rfl rfl rfl rfl rfl rfl rfl ?_
            refine s_move rfl rfl rfl rfl rfl rfl ?_
            refine okl_skip rfl rfl rfl rfl ?_
            refine okl_skip rfl rfl rfl rfl ?_
            refine okl_skip rfl rfl rfl rfl ?_
            refine okl_skip rfl rfl rfl rfl ?_
            refine s_pick_t rfl rfl rfl rfl rfl rfl rfl ?_
            refine s_move rfl rfl rfl rfl rfl rfl ?_
            refine okl_skip rfl rfl rfl rfl ?_
            refine okl_skip rfl rfl rfl rfl ?_
            refine okl_skip rfl rfl rfl rfl ?_
            refine okl_skip rfl rfl rfl rfl ?_
            refine s_pick_t rfl rfl rfl rfl rfl rfl rfl ?_
            refine okl_nil ?_
            change OkC Try.prog _ _ _ _ _ _ _
            refine okc_weak (l' := [(0, _), (1, _), (2, _), (46, _)]) ⟨rfl, rfl, rfl, rfl, trivial⟩ ?_
            refine okc_cond_t rfl ?_
            refine okc_seq ?_
            refine okc_region ?_
            refine s_assign rfl rfl rfl rfl rfl rfl ?_
            refine okl_nil ?_
            change OkC Try.prog _ _ _ _ _ _ _
            refine okc_weak (l' := [(0, _), (1, _), (2, _), (46, _)]) ⟨rfl, rfl, rfl, rfl, trivial⟩ ?_
            refine okc_ret fun a w hs => ?_
            exact ret_v hs (run_results1 hs rfl (rv_tmp rfl)) (by clear hs; refine congrArg Value.bool ?_; first | (rw [validB, hfr, hbk, hrds]; rfl) | (rw [validB, readsB, hrd, drop_at hx, hbad]; simp; done) | (rw [validB, bookB, all_false hx hlb]; simp; done) | (clear hB hR; simp_all [validB, frameB, bookB, readsB, inS]; done) | (clear hB hR; simp_all [validB, frameB, bookB, readsB, inS]; omega))
        · refine s_not rfl rfl rfl rfl rfl rfl ?_
          refine s_pick_f rfl rfl rfl rfl rfl rfl rfl ?_
          refine s_move rfl rfl rfl rfl rfl rfl ?_
          refine okl_skip rfl rfl rfl rfl ?_
          refine okl_skip rfl rfl rfl rfl ?_
          refine okl_skip rfl rfl rfl rfl ?_
          refine okl_skip rfl rfl rfl rfl ?_
          refine s_pick_t rfl rfl rfl rfl rfl rfl rfl ?_
          refine s_move rfl rfl rfl rfl rfl rfl ?_
          refine okl_skip rfl rfl rfl rfl ?_
          refine okl_skip rfl rfl rfl rfl ?_
          refine okl_skip rfl rfl rfl rfl ?_
          refine okl_skip rfl rfl rfl rfl ?_
          refine s_pick_t rfl rfl rfl rfl rfl rfl rfl ?_
          refine s_move rfl rfl rfl rfl rfl rfl ?_
          refine okl_skip rfl rfl rfl rfl ?_
          refine okl_skip rfl rfl rfl rfl ?_
          refine okl_skip rfl rfl rfl rfl ?_
          refine okl_skip rfl rfl rfl rfl ?_
          refine s_pick_t rfl rfl rfl rfl rfl rfl rfl ?_
          refine okl_nil ?_
          change OkC Try.prog _ _ _ _ _ _ _
          refine okc_weak (l' := [(0, _), (1, _), (2, _), (46, _)]) ⟨rfl, rfl, rfl, rfl, trivial⟩ ?_
          refine okc_cond_t rfl ?_
          refine okc_seq ?_
          refine okc_region ?_
          refine s_assign rfl rfl rfl rfl rfl rfl ?_
          refine okl_nil ?_
          change OkC Try.prog _ _ _ _ _ _ _
          refine okc_weak (l' := [(0, _), (1, _), (2, _), (46, _)]) ⟨rfl, rfl, rfl, rfl, trivial⟩ ?_
          refine okc_ret fun a w hs => ?_
          exact ret_v hs (run_results1 hs rfl (rv_tmp rfl)) (by clear hs; refine congrArg Value.bool ?_; first | (rw [validB, hfr, hbk, hrds]; rfl) | (rw [validB, readsB, hrd, drop_at hx, hbad]; simp; done) | (rw [validB, bookB, all_false hx hlb]; simp; done) | (clear hB hR; simp_all [validB, frameB, bookB, readsB, inS]; done) | (clear hB hR; simp_all [validB, frameB, bookB, readsB, inS]; omega))
      · refine s_not rfl rfl rfl rfl rfl rfl ?_
        refine s_pick_f rfl rfl rfl rfl rfl rfl rfl ?_
        refine s_move rfl rfl rfl rfl rfl rfl ?_
        refine okl_skip rfl rfl rfl rfl ?_
        refine okl_skip rfl rfl rfl rfl ?_
        refine okl_skip rfl rfl rfl rfl ?_
        refine okl_skip rfl rfl rfl rfl ?_
        refine s_pick_t rfl rfl rfl rfl rfl rfl rfl ?_
        refine s_move rfl rfl rfl rfl rfl rfl ?_
        refine okl_skip rfl rfl rfl rfl ?_
        refine okl_skip rfl rfl rfl rfl ?_
        refine okl_skip rfl rfl rfl rfl ?_
        refine okl_skip rfl rfl rfl rfl ?_
        refine s_pick_t rfl rfl rfl rfl rfl rfl rfl ?_
        refine s_move rfl rfl rfl rfl rfl rfl ?_
        refine okl_skip rfl rfl rfl rfl ?_
        refine okl_skip rfl rfl rfl rfl ?_
        refine okl_skip rfl rfl rfl rfl ?_
        refine okl_skip rfl rfl rfl rfl ?_
        refine s_pick_t rfl rfl rfl rfl rfl rfl rfl ?_
        refine s_move rfl rfl rfl rfl rfl rfl ?_
        refine okl_skip rfl rfl rfl rfl ?_
        refine okl_skip rfl rfl rfl rfl ?_
        refine okl_skip rfl rfl rfl rfl ?_
        refine okl_skip rfl rfl rfl rfl ?_
        refine s_pick_t rfl rfl rfl rfl rfl rfl rfl ?_
        refine okl_nil ?_
        change OkC Try.prog _ _ _ _ _ _ _
        refine okc_weak (l' := [(0, _), (1, _), (2, _), (46, _)]) ⟨rfl, rfl, rfl, rfl, trivial⟩ ?_
        refine okc_cond_t rfl ?_
        refine okc_seq ?_
        refine okc_region ?_
        refine s_assign rfl rfl rfl rfl rfl rfl ?_
        refine okl_nil ?_
        change OkC Try.prog _ _ _ _ _ _ _
        refine okc_weak (l' := [(0, _), (1, _), (2, _), (46, _)]) ⟨rfl, rfl, rfl, rfl, trivial⟩ ?_
        refine okc_ret fun a w hs => ?_
        exact ret_v hs (run_results1 hs rfl (rv_tmp rfl)) (by clear hs; refine congrArg Value.bool ?_; first | (rw [validB, hfr, hbk, hrds]; rfl) | (rw [validB, readsB, hrd, drop_at hx, hbad]; simp; done) | (rw [validB, bookB, all_false hx hlb]; simp; done) | (clear hB hR; simp_all [validB, frameB, bookB, readsB, inS]; done) | (clear hB hR; simp_all [validB, frameB, bookB, readsB, inS]; omega))
    · refine s_not rfl rfl rfl rfl rfl rfl ?_
      refine s_pick_f rfl rfl rfl rfl rfl rfl rfl ?_
      refine s_move rfl rfl rfl rfl rfl rfl ?_
      refine okl_skip rfl rfl rfl rfl ?_
      refine okl_skip rfl rfl rfl rfl ?_
      refine okl_skip rfl rfl rfl rfl ?_
      refine okl_skip rfl rfl rfl rfl ?_
      refine s_pick_t rfl rfl rfl rfl rfl rfl rfl ?_
      refine s_move rfl rfl rfl rfl rfl rfl ?_
      refine okl_skip rfl rfl rfl rfl ?_
      refine okl_skip rfl rfl rfl rfl ?_
      refine okl_skip rfl rfl rfl rfl ?_
      refine okl_skip rfl rfl rfl rfl ?_
      refine s_pick_t rfl rfl rfl rfl rfl rfl rfl ?_
      refine s_move rfl rfl rfl rfl rfl rfl ?_
      refine okl_skip rfl rfl rfl rfl ?_
      refine okl_skip rfl rfl rfl rfl ?_
      refine okl_skip rfl rfl rfl rfl ?_
      refine okl_skip rfl rfl rfl rfl ?_
      refine s_pick_t rfl rfl rfl rfl rfl rfl rfl ?_
      refine s_move rfl rfl rfl rfl rfl rfl ?_
      refine okl_skip rfl rfl rfl rfl ?_
      refine okl_skip rfl rfl rfl rfl ?_
      refine okl_skip rfl rfl rfl rfl ?_
      refine okl_skip rfl rfl rfl rfl ?_
      refine s_pick_t rfl rfl rfl rfl rfl rfl rfl ?_
      refine s_move rfl rfl rfl rfl rfl rfl ?_
      refine okl_skip rfl rfl rfl rfl ?_
      refine okl_skip rfl rfl rfl rfl ?_
      refine okl_skip rfl rfl rfl rfl ?_
      refine okl_skip rfl rfl rfl rfl ?_
      refine s_pick_t rfl rfl rfl rfl rfl rfl rfl ?_
      refine okl_nil ?_
      change OkC Try.prog _ _ _ _ _ _ _
      refine okc_weak (l' := [(0, _), (1, _), (2, _), (46, _)]) ⟨rfl, rfl, rfl, rfl, trivial⟩ ?_
      refine okc_cond_t rfl ?_
      refine okc_seq ?_
      refine okc_region ?_
      refine s_assign rfl rfl rfl rfl rfl rfl ?_
      refine okl_nil ?_
      change OkC Try.prog _ _ _ _ _ _ _
      refine okc_weak (l' := [(0, _), (1, _), (2, _), (46, _)]) ⟨rfl, rfl, rfl, rfl, trivial⟩ ?_
      refine okc_ret fun a w hs => ?_
      exact ret_v hs (run_results1 hs rfl (rv_tmp rfl)) (by clear hs; refine congrArg Value.bool ?_; first | (rw [validB, hfr, hbk, hrds]; rfl) | (rw [validB, readsB, hrd, drop_at hx, hbad]; simp; done) | (rw [validB, bookB, all_false hx hlb]; simp; done) | (clear hB hR; simp_all [validB, frameB, bookB, readsB, inS]; done) | (clear hB hR; simp_all [validB, frameB, bookB, readsB, inS]; omega))
  · refine s_not rfl rfl rfl rfl rfl rfl ?_
    refine s_move rfl rfl rfl rfl rfl rfl ?_
    refine okl_skip rfl rfl rfl rfl ?_
    refine okl_skip rfl rfl rfl rfl ?_
    refine okl_skip rfl rfl rfl rfl ?_
    refine okl_skip rfl rfl rfl rfl ?_
    refine s_pick_t rfl rfl rfl rfl rfl rfl rfl ?_
    refine s_move rfl rfl rfl rfl rfl rfl ?_
    refine okl_skip rfl rfl rfl rfl ?_
    refine okl_skip rfl rfl rfl rfl ?_
    refine okl_skip rfl rfl rfl rfl ?_
    refine okl_skip rfl rfl rfl rfl ?_
    refine s_pick_t rfl rfl rfl rfl rfl rfl rfl ?_
    refine s_move rfl rfl rfl rfl rfl rfl ?_
    refine okl_skip rfl rfl rfl rfl ?_
    refine okl_skip rfl rfl rfl rfl ?_
    refine okl_skip rfl rfl rfl rfl ?_
    refine okl_skip rfl rfl rfl rfl ?_
    refine s_pick_t rfl rfl rfl rfl rfl rfl rfl ?_
    refine s_move rfl rfl rfl rfl rfl rfl ?_
    refine okl_skip rfl rfl rfl rfl ?_
    refine okl_skip rfl rfl rfl rfl ?_
    refine okl_skip rfl rfl rfl rfl ?_
    refine okl_skip rfl rfl rfl rfl ?_
    refine s_pick_t rfl rfl rfl rfl rfl rfl rfl ?_
    refine s_move rfl rfl rfl rfl rfl rfl ?_
    refine okl_skip rfl rfl rfl rfl ?_
    refine okl_skip rfl rfl rfl rfl ?_
    refine okl_skip rfl rfl rfl rfl ?_
    refine okl_skip rfl rfl rfl rfl ?_
    refine s_pick_t rfl rfl rfl rfl rfl rfl rfl ?_
    refine s_move rfl rfl rfl rfl rfl rfl ?_
    refine okl_skip rfl rfl rfl rfl ?_
    refine okl_skip rfl rfl rfl rfl ?_
    refine okl_skip rfl rfl rfl rfl ?_
    refine okl_skip rfl rfl rfl rfl ?_
    refine s_pick_t rfl rfl rfl rfl rfl rfl rfl ?_
    refine okl_nil ?_
    change OkC Try.prog _ _ _ _ _ _ _
    refine okc_weak (l' := [(0, _), (1, _), (2, _), (46, _)]) ⟨rfl, rfl, rfl, rfl, trivial⟩ ?_
    refine okc_cond_t rfl ?_
    refine okc_seq ?_
    refine okc_region ?_
    refine s_assign rfl rfl rfl rfl rfl rfl ?_
    refine okl_nil ?_
    change OkC Try.prog _ _ _ _ _ _ _
    refine okc_weak (l' := [(0, _), (1, _), (2, _), (46, _)]) ⟨rfl, rfl, rfl, rfl, trivial⟩ ?_
    refine okc_ret fun a w hs => ?_
    exact ret_v hs (run_results1 hs rfl (rv_tmp rfl)) (by clear hs; refine congrArg Value.bool ?_; first | (rw [validB, hfr, hbk, hrds]; rfl) | (rw [validB, readsB, hrd, drop_at hx, hbad]; simp; done) | (rw [validB, bookB, all_false hx hlb]; simp; done) | (clear hB hR; simp_all [validB, frameB, bookB, readsB, inS]; done) | (clear hB hR; simp_all [validB, frameB, bookB, readsB, inS]; omega))

end Go.Proofs.Ytdpnadknaacinaa
end

section
namespace Go.Proofs.Ytdpnadknaacinaa
open Go.Sx Go.Proofs.Ytdpnadknaacinaa.Ty
set_option linter.unusedVariables false
set_option maxHeartbeats 2000000


def addsL (s : Sp) (rain : Int) (f : Bd) (k : Nat) : Bd := (s.book.take k).foldl (addL rain) f
theorem adds_ok {s : Sp} (hs : OkS s) {f : Bd} (hf : BdOk f) (rain : Int) (k : Nat) : BdOk (addsL s rain f k) := fold_ok (fun f x hx h => addL_ok h (hs.book x (List.mem_of_mem_take hx))) hf
theorem setlo_hi (f : Bd) {k n m : Nat} (hk : k < 10) (hn : n = k) (hm : m = 10 + k) (a b : Int) : setL (setL (leC f) n [.int .i64 a]) m [.int .i64 b] = leC (up f k (a, b)) := by
  rw [le_setlo f hk hn, le_sethi _ hk hm]
  congr 1
  funext j
  simp only [up]
  split <;> simp_all
theorem adds_step {s : Sp} {rain : Int} {f : Bd} {k m : Nat} {x : Ln} (hx : s.book[k]? = some x) (hin : inS x.rlo x.rhi rain = true) (hm : x.week = (m : Int)) :
    addsL s rain f (k + 1) = up (addsL s rain f k) m (max (addsL s rain f k m).1 x.glo, min (addsL s rain f k m).2 x.ghi) := by
  have e : x.week.toNat = m := by omega
  unfold addsL
  rw [fold_take _ hx, addL, if_pos hin, e]
theorem adds_skip {s : Sp} {rain : Int} {f : Bd} {k : Nat} {x : Ln} (hx : s.book[k]? = some x) (hin : inS x.rlo x.rhi rain = false) : addsL s rain f (k + 1) = addsL s rain f k := by
  unfold addsL
  rw [fold_take _ hx, addL, if_neg (by simp [hin])]
theorem pick3 {O : Blks} {b b' b2 T T' T2 : Nat} {c c' d c2 : List Value} (e : c = d) (h : O = [(b, c2, T), (b', d, T'), (b2, c', T2)]) : O = [(b, c2, T), (b', c, T'), (b2, c', T2)] := by rw [e]; exact h
theorem okN_all {s : Sp} {f : Bd} : okN s f = true ↔ ∀ j, j < s.weeks.toNat → (f j).1 ≤ (f j).2 := by simp [okN]

theorem rleaves_fn (s : Sp) (M : Args) (hin : s.In M) (hs0 : OkS s) (f : Bd) (hf : BdOk f) (rain : Int) : Cn Try.prog 139 [spV s, leV f, .int .i64 rain] M (fun _ : Unit => .tuple #[leV (narS s (s.book.foldl (addL rain) f)), .bool (okN s (narS s (s.book.foldl (addL rain) f)))]) (fun _ => []) (fun _ => True) := by
  have ho := hs0.ok
  have ho2 := ho
  obtain ⟨w1, w2, m1, m2, f1, f2, a1, a2, a3, v1, v2, v3⟩ := ho2
  obtain ⟨bB, oB, cB, jB, hB⟩ := hin.book
  have hbn := hin.bn
  refine fn_intro (N := 143) Try.func139 rfl rfl rfl fun w0 => ?_
  refine okc_seq ?_
  refine okc_region ?_
  refine s_boxA rfl rfl rfl rfl rfl rfl (fun b1 => ?_)
  refine s_boxA rfl rfl rfl rfl rfl rfl (fun b2 => ?_)
  refine s_alloc rfl rfl rfl rfl rfl rfl (fun b3 => ?_)
  refine s_assign rfl rfl rfl rfl rfl rfl ?_
  refine okl_nil ?_
  change OkC Try.prog _ _ _ _ _ _ _
  refine okc_weak (l' := [(0, _), (1, _), (2, _), (3, _), (4, _), (6, _), (7, _)]) ⟨rfl, rfl, rfl, rfl, rfl, rfl, rfl, trivial⟩ ?_
  refine okc_seq ?_
  refine okc_seq ?_
  refine okc_region ?_
  refine s_field rfl rfl rfl rfl rfl rfl rfl rfl ?_
  refine s_load1 2 rfl rfl rfl rfl rfl rfl rfl rfl rfl ?_
  refine s_len rfl rfl rfl rfl rfl rfl rfl ?_
  refine s_move rfl rfl rfl rfl rfl rfl ?_
  refine okl_nil ?_
  change OkC Try.prog _ _ _ _ _ _ _
  refine okc_weak (l' := [(0, _), (1, _), (2, _), (3, _), (4, _), (6, _), (7, _), (14, _), (15, _), (16, _)]) ⟨rfl, rfl, rfl, rfl, rfl, rfl, rfl, rfl, rfl, rfl, trivial⟩ ?_
  refine okc_block ?_
  refine okc_loop (γ := Nat) (fun k => [(2, .int .i64 rain), (3, .pointer (some ⟨b1, 0, none⟩)), (4, .pointer (some ⟨b2, 0, none⟩)), (6, .pointer (some ⟨b3, 0, none⟩)), (14, .slice s.bp s.book.length s.bc), (15, .int .i64 s.book.length), (16, .int .i64 k)]) (fun k => [(b3, leC bz, 135), (b2, leC (addsL s rain f k), 135), (b1, [.int .i64 s.weeks, .int .i64 s.most, .int .i64 s.fall, .int .i64 s.slo, .int .i64 s.shi, .int .i64 s.wlo, .int .i64 s.whi, .slice s.bp s.book.length s.bc, .slice s.rp s.reads.length s.rc], 27)]) (fun k => k ≤ s.book.length) (fun k => s.book.length - k) 0 (Nat.zero_le _) (fun a w hs => by exact hs.weak ⟨rfl, rfl, rfl, rfl, rfl, rfl, rfl, trivial⟩ [0, 1, 2] (by simp) (by rfl)) ?_
  rintro k hk
  refine okc_seq ?_
  refine okc_region ?_
  refine s_cmpS rfl rfl rfl rfl rfl rfl rfl rfl (fun h4 => ?_) (fun h4 => ?_)
  · have hlt : k < s.book.length := by simpa using h4
    obtain ⟨x, hx⟩ : ∃ x, s.book[k]? = some x := ⟨s.book[k], by simp [hlt]⟩
    obtain ⟨hpB, hjB, hatB⟩ := hB (by intro e; simp [e] at hlt)
    have hcell := hatB k x hx
    have hxo := hs0.book x (List.mem_of_getElem? hx)
    obtain ⟨r1, r2, r3, k1, k2, y1, y2, y3⟩ := hxo
    obtain ⟨m, hm⟩ : ∃ m : Nat, x.week = m := ⟨x.week.toNat, by omega⟩
    have hF := adds_ok hs0 hf rain k
    have g1 := le_lo (addsL s rain f k) (k := m) (n := 0 + 0 + m * 1) (by omega) (by omega)
    have g2 := le_hi (addsL s rain f k) (k := m) (n := 0 + 10 + m * 1) (by omega) (by omega)
    refine okl_nil ?_
    change OkC Try.prog _ _ _ _ _ _ _
    refine okc_weak (l' := [(2, _), (3, _), (4, _), (6, _), (14, _), (15, _), (16, _), (17, _)]) ⟨rfl, rfl, rfl, rfl, rfl, rfl, rfl, rfl, trivial⟩ ?_
    refine okc_seq ?_
    refine okc_cond_t rfl ?_
    refine okc_skip ?_
    change OkC Try.prog _ _ _ _ _ _ _
    refine okc_weak (l' := [(2, _), (3, _), (4, _), (6, _), (14, _), (15, _), (16, _), (17, _)]) ⟨rfl, rfl, rfl, rfl, rfl, rfl, rfl, rfl, trivial⟩ ?_
    refine okc_seq ?_
    refine okc_block ?_
    refine okc_seq ?_
    refine okc_region ?_
    refine s_indexP k hpB rfl rfl rfl rfl rfl rfl rfl rfl rfl rfl (by omega) rfl ?_
    refine s_loadAP jB rfl rfl rfl rfl rfl rfl rfl hjB rfl (by assumption) rfl ?_
    refine s_alloc rfl rfl rfl rfl rfl rfl (fun b5 => ?_)
    refine k_storeW 0 rfl rfl rfl rfl rfl rfl rfl rfl rfl rfl rfl rfl ?_
    refine okl_nil ?_
    change OkC Try.prog _ _ _ _ _ _ _
    refine okc_weak (l' := [(2, _), (3, _), (4, _), (6, _), (9, _), (14, _), (15, _), (16, _), (17, _)]) ⟨rfl, rfl, rfl, rfl, rfl, rfl, rfl, rfl, rfl, trivial⟩ ?_
    refine okc_seq ?_
    refine okc_region ?_
    refine s_move rfl rfl rfl rfl rfl rfl ?_
    refine s_field rfl rfl rfl rfl rfl rfl rfl rfl ?_
    refine s_field rfl rfl rfl rfl rfl rfl rfl rfl ?_
    refine s_load1 0 rfl rfl rfl rfl rfl rfl rfl rfl rfl ?_
    refine s_field rfl rfl rfl rfl rfl rfl rfl rfl ?_
    refine s_field rfl rfl rfl rfl rfl rfl rfl rfl ?_
    refine s_load1 0 rfl rfl rfl rfl rfl rfl rfl rfl rfl ?_
    refine s_callb rfl rfl rfl rfl rfl rfl rfl c87 (rwithin_fn _ _ _) covers_nil (fun h6 => ?_) (fun h6 => ?_)
    · have hin2 : inS x.rlo x.rhi rain = true := h6
      refine okl_nil ?_
      change OkC Try.prog _ _ _ _ _ _ _
      refine okc_weak (l' := [(2, _), (3, _), (4, _), (6, _), (9, _), (14, _), (15, _), (16, _), (17, _), (27, _)]) ⟨rfl, rfl, rfl, rfl, rfl, rfl, rfl, rfl, rfl, rfl, trivial⟩ ?_
      refine okc_cond_t rfl ?_
      refine dd_start [28, 29, 30, 31, 32, 33, 34, 35, 36, 37, 38, 39, 40, 41, 42, 43, 44, 45, 46, 47, 48, 49, 50, 51, 52, 53, 9999] ⟨24, 2, b2, (leC (addsL s rain f k)), (setL (leC (addsL s rain f k)) (0 + 0 + m * 1) [.int .i64 (max ((addsL s rain f k) m).1 x.glo)]), 135⟩ ?_
      refine x_field [] rfl rfl rfl rfl rfl rfl (fun ν => rfl) rfl (fun ν => rfl) rfl rfl ?_
      refine x_loadF 0 [0] rfl rfl rfl rfl rfl rfl rfl (fun ν => rfl) rfl rfl (fun ν => rfl) (fun ν => rfl) rfl ?_
      refine x_field [] rfl rfl rfl rfl rfl rfl (fun ν => rfl) rfl (fun ν => rfl) rfl rfl ?_
      refine x_load1 0 [2] rfl rfl rfl rfl rfl rfl (fun ν => rfl) rfl rfl (fun ν => rfl) (fun ν => rfl) rfl (fun ν => rfl) rfl ?_
      refine x_field [] rfl rfl rfl rfl rfl rfl (fun ν => rfl) rfl (fun ν => rfl) rfl rfl ?_
      refine x_loadF 0 [4] rfl rfl rfl rfl rfl rfl rfl (fun ν => rfl) rfl rfl (fun ν => rfl) (fun ν => rfl) rfl ?_
      refine x_field [] rfl rfl rfl rfl rfl rfl (fun ν => rfl) rfl (fun ν => rfl) rfl rfl ?_
      refine x_indexA m [6, 5] rfl rfl rfl rfl rfl rfl (fun ν => rfl) rfl (fun ν => rfl) (fun ν => rfl) rfl rfl (by first | rfl | omega) (by omega) rfl ?_
      refine x_loadF 2 [7] rfl rfl rfl rfl rfl rfl rfl (fun ν => rfl) rfl rfl (fun ν => rfl) (fun ν => rfl) (by assumption) ?_
      refine x_field [] rfl rfl rfl rfl rfl rfl (fun ν => rfl) rfl (fun ν => rfl) rfl rfl ?_
      refine x_field [9] rfl rfl rfl rfl rfl rfl (fun ν => rfl) rfl (fun ν => rfl) rfl rfl ?_
      refine x_loadF 0 [10] rfl rfl rfl rfl rfl rfl rfl (fun ν => rfl) rfl rfl (fun ν => rfl) (fun ν => rfl) rfl ?_
      refine x_max [8, 11] rfl rfl rfl rfl rfl rfl (fun ν => rfl) rfl (fun ν => rfl) (fun ν => rfl) ?_
      refine x_field [] rfl rfl rfl rfl rfl rfl (fun ν => rfl) rfl (fun ν => rfl) rfl rfl ?_
      refine x_load1 0 [13] rfl rfl rfl rfl rfl rfl (fun ν => rfl) rfl rfl (fun ν => rfl) (fun ν => rfl) rfl (fun ν => rfl) rfl ?_
      refine x_field [] rfl rfl rfl rfl rfl rfl (fun ν => rfl) rfl (fun ν => rfl) rfl rfl ?_
      refine x_indexA m [15, 14] rfl rfl rfl rfl rfl rfl (fun ν => rfl) rfl (fun ν => rfl) (fun ν => rfl) rfl rfl (by first | rfl | omega) (by omega) rfl ?_
      refine x_loadF 2 [16] rfl rfl rfl rfl rfl rfl rfl (fun ν => rfl) rfl rfl (fun ν => rfl) (fun ν => rfl) (by assumption) ?_
      refine x_field [] rfl rfl rfl rfl rfl rfl (fun ν => rfl) rfl (fun ν => rfl) rfl rfl ?_
      refine x_field [18] rfl rfl rfl rfl rfl rfl (fun ν => rfl) rfl (fun ν => rfl) rfl rfl ?_
      refine x_load1 0 [19] rfl rfl rfl rfl rfl rfl (fun ν => rfl) rfl rfl (fun ν => rfl) (fun ν => rfl) rfl (fun ν => rfl) rfl ?_
      refine x_min [17, 20] rfl rfl rfl rfl rfl rfl (fun ν => rfl) rfl (fun ν => rfl) (fun ν => rfl) ?_
      refine x_field [] rfl rfl rfl rfl rfl rfl (fun ν => rfl) rfl (fun ν => rfl) rfl rfl ?_
      refine x_indexA m [22, 1] rfl rfl rfl rfl rfl rfl (fun ν => rfl) rfl (fun ν => rfl) (fun ν => rfl) rfl rfl (by first | rfl | omega) (by omega) rfl ?_
      refine x_store [23, 12] 9999 rfl rfl rfl rfl rfl (fun ν => rfl) rfl (fun ν => rfl) (fun ν => rfl) rfl rfl rfl (by show _ ≤ 20; omega) rfl rfl rfl ?_
      refine x_field [] rfl rfl rfl rfl rfl rfl (fun ν => rfl) rfl (fun ν => rfl) rfl rfl ?_
      refine x_end [28, 29, 30, 31, 32, 33, 34, 35, 36, 37, 38, 39, 40, 41, 42, 43, 44, 45, 46, 47, 48, 49, 50, 51, 52, 53, 9999] [3, 21, 25] 26 rfl rfl rfl rfl rfl rfl rfl rfl rfl rfl rfl (fun ν => ?_)
      refine s_indexA m rfl rfl rfl rfl rfl rfl rfl rfl rfl (by first | rfl | omega) (by omega) rfl ?_
      refine k_store 2 rfl rfl rfl rfl rfl rfl rfl rfl rfl rfl (Nat.ble_eq_true_of_le (by first | (show _ ≤ 20; omega) | (rw [length_setL]; show _ ≤ 20; omega))) rfl ?_
      refine okl_nil ?_
      change OkC Try.prog _ _ _ _ _ _ _
      refine okc_weak (l' := [(2, _), (3, _), (4, _), (6, _), (9, _), (14, _), (15, _), (16, _), (17, _), (27, _)]) ⟨rfl, rfl, rfl, rfl, rfl, rfl, rfl, rfl, rfl, rfl, trivial⟩ ?_
      refine okc_region ?_
      refine s_add rfl rfl rfl rfl rfl rfl rfl (by omega) ?_
      refine s_move rfl rfl rfl rfl rfl rfl ?_
      refine okl_nil ?_
      refine fun a w hs => ⟨k + 1, by omega, by omega, hs.weak ⟨rfl, rfl, rfl, rfl, rfl, rfl, rfl, trivial⟩ [1, 2, 3] (by simp) ?_⟩
      have e : leC (addsL s rain f (k + 1)) = setL (setL (leC (addsL s rain f k)) (0 + 0 + m * 1) [.int .i64 (max ((addsL s rain f k) m).1 x.glo)]) (0 + 10 + m * 1) [.int .i64 (min ((addsL s rain f k) m).2 x.ghi)] := by rw [setlo_hi _ (k := m) (by omega) (by omega) (by omega), adds_step hx hin2 hm]
      exact pick3 e rfl
    · have hin2 : inS x.rlo x.rhi rain = false := h6
      refine okl_nil ?_
      change OkC Try.prog _ _ _ _ _ _ _
      refine okc_weak (l' := [(2, _), (3, _), (4, _), (6, _), (9, _), (14, _), (15, _), (16, _), (17, _), (27, _)]) ⟨rfl, rfl, rfl, rfl, rfl, rfl, rfl, rfl, rfl, rfl, trivial⟩ ?_
      refine okc_cond_f rfl ?_
      refine okc_skip ?_
      change OkC Try.prog _ _ _ _ _ _ _
      refine okc_weak (l' := [(2, _), (3, _), (4, _), (6, _), (9, _), (14, _), (15, _), (16, _), (17, _), (27, _)]) ⟨rfl, rfl, rfl, rfl, rfl, rfl, rfl, rfl, rfl, rfl, trivial⟩ ?_
      refine okc_region ?_
      refine s_add rfl rfl rfl rfl rfl rfl rfl (by omega) ?_
      refine s_move rfl rfl rfl rfl rfl rfl ?_
      refine okl_nil ?_
      refine fun a w hs => ⟨k + 1, by omega, by omega, hs.weak ⟨rfl, rfl, rfl, rfl, rfl, rfl, rfl, trivial⟩ [1, 2, 3] (by simp) ?_⟩
      exact pick3 (congrArg leC (adds_skip hx hin2)) rfl
  · have hge : ¬ k < s.book.length := by simpa using h4
    have hkw : k = s.book.length := by omega
    have hF := adds_ok hs0 hf rain k
    obtain ⟨G, hG⟩ : ∃ G, G = addsL s rain f k := ⟨_, rfl⟩
    rw [← hG] at hF
    rw [← hG]
    refine okl_nil ?_
    change OkC Try.prog _ _ _ _ _ _ _
    refine okc_weak (l' := [(2, _), (3, _), (4, _), (6, _), (14, _), (15, _), (16, _), (17, _)]) ⟨rfl, rfl, rfl, rfl, rfl, rfl, rfl, rfl, trivial⟩ ?_
    refine okc_seq ?_
    refine okc_cond_f rfl ?_
    refine okc_exit ?_
    change OkC Try.prog _ _ _ _ _ _ _
    refine okc_weak (l' := [(2, _), (3, _), (4, _), (6, _), (14, _), (15, _), (16, _), (17, _)]) ⟨rfl, rfl, rfl, rfl, rfl, rfl, rfl, rfl, trivial⟩ ?_
    refine okc_seq ?_
    refine okc_seq ?_
    refine okc_region ?_
    refine s_assign rfl rfl rfl rfl rfl rfl ?_
    refine okl_nil ?_
    change OkC Try.prog _ _ _ _ _ _ _
    refine okc_weak (l' := [(2, _), (3, _), (4, _), (6, _), (10, _), (14, _), (15, _), (16, _), (17, _)]) ⟨rfl, rfl, rfl, rfl, rfl, rfl, rfl, rfl, rfl, trivial⟩ ?_
    refine okc_block ?_
    refine okc_loop (γ := Nat) (fun k => [(2, .int .i64 rain), (3, .pointer (some ⟨b1, 0, none⟩)), (4, .pointer (some ⟨b2, 0, none⟩)), (6, .pointer (some ⟨b3, 0, none⟩)), (10, .int .i64 ((k : Int) + 1))]) (fun k => [(b3, leC bz, 135), (b2, leC (fwdN s.fall k G), 135), (b1, [.int .i64 s.weeks, .int .i64 s.most, .int .i64 s.fall, .int .i64 s.slo, .int .i64 s.shi, .int .i64 s.wlo, .int .i64 s.whi, .slice s.bp s.book.length s.bc, .slice s.rp s.reads.length s.rc], 27)]) (fun k => (k : Int) + 1 ≤ s.weeks) (fun k => s.weeks.toNat - k) 0 (by omega) (fun a w hs => by exact hs.weak ⟨rfl, rfl, rfl, rfl, rfl, trivial⟩ [0, 1, 2] (by simp) (by rfl)) ?_
    rintro k hk2
    refine okc_seq ?_
    refine okc_seq ?_
    refine okc_region ?_
    refine s_move rfl rfl rfl rfl rfl rfl ?_
    refine s_field rfl rfl rfl rfl rfl rfl rfl rfl ?_
    refine s_load1 2 rfl rfl rfl rfl rfl rfl rfl rfl rfl ?_
    refine s_cmpS rfl rfl rfl rfl rfl rfl rfl rfl (fun h7 => ?_) (fun h7 => ?_)
    · have hlt : (k : Int) + 1 < s.weeks := by simpa using h7
      have hF2 := fwd_ok f1 f2 hF k
      have q1 := hF2 k
      have q2 := hF2 (k + 1)
      have g1 := le_lo (fwdN s.fall k G) (k := k + 1) (n := 0 + 0 + (k + 1) * 1) (by omega) (by omega)
      have g2 := le_hi (fwdN s.fall k G) (k := k + 1) (n := 0 + 10 + (k + 1) * 1) (by omega) (by omega)
      have g3 := le_lo (fwdN s.fall k G) (k := k) (n := 0 + 0 + k * 1) (by omega) (by omega)
      have g4 := le_hi (fwdN s.fall k G) (k := k) (n := 0 + 10 + k * 1) (by omega) (by omega)
      refine okl_nil ?_
      change OkC Try.prog _ _ _ _ _ _ _
      refine okc_weak (l' := [(2, _), (3, _), (4, _), (6, _), (10, _), (58, _)]) ⟨rfl, rfl, rfl, rfl, rfl, rfl, trivial⟩ ?_
      refine okc_cond_t rfl ?_
      refine okc_skip ?_
      change OkC Try.prog _ _ _ _ _ _ _
      refine okc_weak (l' := [(2, _), (3, _), (4, _), (6, _), (10, _), (58, _)]) ⟨rfl, rfl, rfl, rfl, rfl, rfl, trivial⟩ ?_
      refine okc_seq ?_
      refine okc_block ?_
      refine dd_start [61, 62, 63, 64, 65, 66, 67, 68, 69, 70, 71, 72, 73, 74, 75, 76, 77, 78, 79, 80, 81, 82, 83, 84, 85, 86, 87, 88, 89, 9999] ⟨27, 1, b2, (leC (fwdN s.fall k G)), (setL (leC (fwdN s.fall k G)) (0 + 0 + (k + 1) * 1) [.int .i64 (max ((fwdN s.fall k G) (k + 1)).1 (((fwdN s.fall k G) k).1 - s.fall))]), 135⟩ ?_
      refine x_move [] rfl rfl rfl rfl rfl rfl (fun ν => rfl) rfl (fun ν => rfl) ?_
      refine x_move [] rfl rfl rfl rfl rfl rfl (fun ν => rfl) rfl (fun ν => rfl) ?_
      refine x_move [] rfl rfl rfl rfl rfl rfl (fun ν => rfl) rfl (fun ν => rfl) ?_
      refine x_field [] rfl rfl rfl rfl rfl rfl (fun ν => rfl) rfl (fun ν => rfl) rfl rfl ?_
      refine x_indexA (k + 1) [3, 2] rfl rfl rfl rfl rfl rfl (fun ν => rfl) rfl (fun ν => rfl) (fun ν => rfl) rfl rfl (by first | rfl | omega) (by omega) rfl ?_
      refine x_loadF 1 [4] rfl rfl rfl rfl rfl rfl rfl (fun ν => rfl) rfl rfl (fun ν => rfl) (fun ν => rfl) (by assumption) ?_
      refine x_move [] rfl rfl rfl rfl rfl rfl (fun ν => rfl) rfl (fun ν => rfl) ?_
      refine x_sub [6] rfl rfl rfl rfl rfl rfl (fun ν => rfl) rfl (fun ν => rfl) (fun ν => rfl) (by omega) ?_
      refine x_field [] rfl rfl rfl rfl rfl rfl (fun ν => rfl) rfl (fun ν => rfl) rfl rfl ?_
      refine x_indexA k [8, 7] rfl rfl rfl rfl rfl rfl (fun ν => rfl) rfl (fun ν => rfl) (fun ν => rfl) rfl rfl (by first | rfl | omega) (by omega) rfl ?_
      refine x_loadF 1 [9] rfl rfl rfl rfl rfl rfl rfl (fun ν => rfl) rfl rfl (fun ν => rfl) (fun ν => rfl) (by assumption) ?_
      refine x_field [] rfl rfl rfl rfl rfl rfl (fun ν => rfl) rfl (fun ν => rfl) rfl rfl ?_
      refine x_loadF 2 [11] rfl rfl rfl rfl rfl rfl rfl (fun ν => rfl) rfl rfl (fun ν => rfl) (fun ν => rfl) rfl ?_
      refine x_sub [10, 12] rfl rfl rfl rfl rfl rfl (fun ν => rfl) rfl (fun ν => rfl) (fun ν => rfl) (by omega) ?_
      refine x_max [5, 13] rfl rfl rfl rfl rfl rfl (fun ν => rfl) rfl (fun ν => rfl) (fun ν => rfl) ?_
      refine x_move [] rfl rfl rfl rfl rfl rfl (fun ν => rfl) rfl (fun ν => rfl) ?_
      refine x_field [] rfl rfl rfl rfl rfl rfl (fun ν => rfl) rfl (fun ν => rfl) rfl rfl ?_
      refine x_indexA (k + 1) [16, 15] rfl rfl rfl rfl rfl rfl (fun ν => rfl) rfl (fun ν => rfl) (fun ν => rfl) rfl rfl (by first | rfl | omega) (by omega) rfl ?_
      refine x_loadF 1 [17] rfl rfl rfl rfl rfl rfl rfl (fun ν => rfl) rfl rfl (fun ν => rfl) (fun ν => rfl) (by assumption) ?_
      refine x_move [] rfl rfl rfl rfl rfl rfl (fun ν => rfl) rfl (fun ν => rfl) ?_
      refine x_sub [19] rfl rfl rfl rfl rfl rfl (fun ν => rfl) rfl (fun ν => rfl) (fun ν => rfl) (by omega) ?_
      refine x_field [] rfl rfl rfl rfl rfl rfl (fun ν => rfl) rfl (fun ν => rfl) rfl rfl ?_
      refine x_indexA k [21, 20] rfl rfl rfl rfl rfl rfl (fun ν => rfl) rfl (fun ν => rfl) (fun ν => rfl) rfl rfl (by first | rfl | omega) (by omega) rfl ?_
      refine x_loadF 1 [22] rfl rfl rfl rfl rfl rfl rfl (fun ν => rfl) rfl rfl (fun ν => rfl) (fun ν => rfl) (by assumption) ?_
      refine x_min [18, 23] rfl rfl rfl rfl rfl rfl (fun ν => rfl) rfl (fun ν => rfl) (fun ν => rfl) ?_
      refine x_field [] rfl rfl rfl rfl rfl rfl (fun ν => rfl) rfl (fun ν => rfl) rfl rfl ?_
      refine x_indexA (k + 1) [25, 0] rfl rfl rfl rfl rfl rfl (fun ν => rfl) rfl (fun ν => rfl) (fun ν => rfl) rfl rfl (by first | rfl | omega) (by omega) rfl ?_
      refine x_store [26, 14] 9999 rfl rfl rfl rfl rfl (fun ν => rfl) rfl (fun ν => rfl) (fun ν => rfl) rfl rfl rfl (by show _ ≤ 20; omega) rfl rfl rfl ?_
      refine x_field [] rfl rfl rfl rfl rfl rfl (fun ν => rfl) rfl (fun ν => rfl) rfl rfl ?_
      refine x_end [61, 62, 63, 64, 65, 66, 67, 68, 69, 70, 71, 72, 73, 74, 75, 76, 77, 78, 79, 80, 81, 82, 83, 84, 85, 86, 87, 88, 89, 9999] [1, 24, 28] 29 rfl rfl rfl rfl rfl rfl rfl rfl rfl rfl rfl (fun ν => ?_)
      refine s_indexA (k + 1) rfl rfl rfl rfl rfl rfl rfl rfl rfl (by first | rfl | omega) (by omega) rfl ?_
      refine k_store 1 rfl rfl rfl rfl rfl rfl rfl rfl rfl rfl (Nat.ble_eq_true_of_le (by first | (show _ ≤ 20; omega) | (rw [length_setL]; show _ ≤ 20; omega))) rfl ?_
      refine okl_nil ?_
      change OkC Try.prog _ _ _ _ _ _ _
      refine okc_weak (l' := [(2, _), (3, _), (4, _), (6, _), (10, _), (58, _)]) ⟨rfl, rfl, rfl, rfl, rfl, rfl, trivial⟩ ?_
      refine okc_region ?_
      refine s_move rfl rfl rfl rfl rfl rfl ?_
      refine s_add rfl rfl rfl rfl rfl rfl rfl (by omega) ?_
      refine s_assign rfl rfl rfl rfl rfl rfl ?_
      refine okl_nil ?_
      refine fun a w hs => ⟨k + 1, by omega, by omega, hs.weak ⟨rfl, rfl, rfl, rfl, rfl, trivial⟩ [0, 1, 2] (by simp) ?_⟩
      have e : leC (fwdN s.fall (k + 1) G) = setL (setL (leC (fwdN s.fall k G)) (0 + 0 + (k + 1) * 1) [.int .i64 (max ((fwdN s.fall k G) (k + 1)).1 (((fwdN s.fall k G) k).1 - s.fall))]) (0 + 10 + (k + 1) * 1) [.int .i64 (min ((fwdN s.fall k G) (k + 1)).2 ((fwdN s.fall k G) k).2)] := by rw [setlo_hi _ (k := k + 1) (by omega) (by omega) (by omega), fwdN]
      exact pick3 e rfl
    · have hge : ¬ (k : Int) + 1 < s.weeks := by simpa using h7
      have hkw2 : k = s.weeks.toNat - 1 := by omega
      have hF2 := fwd_ok f1 f2 hF k
      obtain ⟨J, hJ⟩ : ∃ J, J = fwdN s.fall k G := ⟨_, rfl⟩
      rw [← hJ] at hF2
      rw [← hJ]
      refine okl_nil ?_
      change OkC Try.prog _ _ _ _ _ _ _
      refine okc_weak (l' := [(2, _), (3, _), (4, _), (6, _), (10, _), (58, _)]) ⟨rfl, rfl, rfl, rfl, rfl, rfl, trivial⟩ ?_
      refine okc_cond_f rfl ?_
      refine okc_exit ?_
      change OkC Try.prog _ _ _ _ _ _ _
      refine okc_weak (l' := [(2, _), (3, _), (4, _), (6, _), (10, _), (58, _)]) ⟨rfl, rfl, rfl, rfl, rfl, rfl, trivial⟩ ?_
      refine okc_seq ?_
      refine okc_seq ?_
      refine okc_region ?_
      refine s_field rfl rfl rfl rfl rfl rfl rfl rfl ?_
      refine s_load1 2 rfl rfl rfl rfl rfl rfl rfl rfl rfl ?_
      refine s_sub rfl rfl rfl rfl rfl rfl rfl (by omega) ?_
      refine s_assign rfl rfl rfl rfl rfl rfl ?_
      refine okl_nil ?_
      change OkC Try.prog _ _ _ _ _ _ _
      refine okc_weak (l' := [(2, _), (3, _), (4, _), (6, _), (10, _), (11, _), (58, _)]) ⟨rfl, rfl, rfl, rfl, rfl, rfl, rfl, trivial⟩ ?_
      refine okc_block ?_
      refine okc_loop (γ := Nat) (fun j => [(2, .int .i64 rain), (3, .pointer (some ⟨b1, 0, none⟩)), (4, .pointer (some ⟨b2, 0, none⟩)), (6, .pointer (some ⟨b3, 0, none⟩)), (11, .int .i64 (s.weeks - 2 - (j : Int)))]) (fun j => [(b3, leC bz, 135), (b2, leC (bwdN s.fall s.weeks.toNat j J), 135), (b1, [.int .i64 s.weeks, .int .i64 s.most, .int .i64 s.fall, .int .i64 s.slo, .int .i64 s.shi, .int .i64 s.wlo, .int .i64 s.whi, .slice s.bp s.book.length s.bc, .slice s.rp s.reads.length s.rc], 27)]) (fun j => (j : Int) ≤ s.weeks - 1) (fun j => s.weeks.toNat - j) 0 (by omega) (fun a w hs => by exact hs.weak ⟨rfl, rfl, rfl, rfl, congrArg (fun z => some (Value.int .i64 z)) (by omega), trivial⟩ [0, 1, 2] (by simp) (by rfl)) ?_
      rintro j hj
      refine okc_seq ?_
      refine okc_seq ?_
      refine okc_region ?_
      refine s_move rfl rfl rfl rfl rfl rfl ?_
      refine s_cmpS rfl rfl rfl rfl rfl rfl rfl rfl (fun h8 => ?_) (fun h8 => ?_)
      · have hge0 : 0 ≤ s.weeks - 2 - (j : Int) := by simpa using h8
        obtain ⟨m, hm⟩ : ∃ m, m = s.weeks.toNat - 2 - j := ⟨_, rfl⟩
        have hF3 := bwd_ok (n := s.weeks.toNat) f1 f2 hF2 j
        have q1 := hF3 m
        have q2 := hF3 (m + 1)
        have g1 := le_lo (bwdN s.fall s.weeks.toNat j J) (k := m) (n := 0 + 0 + m * 1) (by omega) (by omega)
        have g2 := le_hi (bwdN s.fall s.weeks.toNat j J) (k := m) (n := 0 + 10 + m * 1) (by omega) (by omega)
        have g3 := le_lo (bwdN s.fall s.weeks.toNat j J) (k := m + 1) (n := 0 + 0 + (m + 1) * 1) (by omega) (by omega)
        have g4 := le_hi (bwdN s.fall s.weeks.toNat j J) (k := m + 1) (n := 0 + 10 + (m + 1) * 1) (by omega) (by omega)
        refine okl_nil ?_
        change OkC Try.prog _ _ _ _ _ _ _
        refine okc_weak (l' := [(2, _), (3, _), (4, _), (6, _), (11, _), (94, _)]) ⟨rfl, rfl, rfl, rfl, rfl, rfl, trivial⟩ ?_
        refine okc_cond_t rfl ?_
        refine okc_skip ?_
        change OkC Try.prog _ _ _ _ _ _ _
        refine okc_weak (l' := [(2, _), (3, _), (4, _), (6, _), (11, _), (94, _)]) ⟨rfl, rfl, rfl, rfl, rfl, rfl, trivial⟩ ?_
        refine okc_seq ?_
        refine okc_block ?_
        refine dd_start [97, 98, 99, 100, 101, 102, 103, 104, 105, 106, 107, 108, 109, 110, 111, 112, 113, 114, 115, 116, 117, 118, 119, 120, 121, 122, 123, 124, 125, 9999] ⟨27, 1, b2, (leC (bwdN s.fall s.weeks.toNat j J)), (setL (leC (bwdN s.fall s.weeks.toNat j J)) (0 + 0 + m * 1) [.int .i64 (max ((bwdN s.fall s.weeks.toNat j J) m).1 ((bwdN s.fall s.weeks.toNat j J) (m + 1)).1)]), 135⟩ ?_
        refine x_move [] rfl rfl rfl rfl rfl rfl (fun ν => rfl) rfl (fun ν => rfl) ?_
        refine x_move [] rfl rfl rfl rfl rfl rfl (fun ν => rfl) rfl (fun ν => rfl) ?_
        refine x_move [] rfl rfl rfl rfl rfl rfl (fun ν => rfl) rfl (fun ν => rfl) ?_
        refine x_field [] rfl rfl rfl rfl rfl rfl (fun ν => rfl) rfl (fun ν => rfl) rfl rfl ?_
        refine x_indexA m [3, 2] rfl rfl rfl rfl rfl rfl (fun ν => rfl) rfl (fun ν => rfl) (fun ν => rfl) rfl rfl (by first | rfl | omega) (by omega) rfl ?_
        refine x_loadF 1 [4] rfl rfl rfl rfl rfl rfl rfl (fun ν => rfl) rfl rfl (fun ν => rfl) (fun ν => rfl) (by assumption) ?_
        refine x_move [] rfl rfl rfl rfl rfl rfl (fun ν => rfl) rfl (fun ν => rfl) ?_
        refine x_add [6] rfl rfl rfl rfl rfl rfl (fun ν => rfl) rfl (fun ν => rfl) (fun ν => rfl) (by omega) ?_
        refine x_field [] rfl rfl rfl rfl rfl rfl (fun ν => rfl) rfl (fun ν => rfl) rfl rfl ?_
        refine x_indexA (m + 1) [8, 7] rfl rfl rfl rfl rfl rfl (fun ν => rfl) rfl (fun ν => rfl) (fun ν => rfl) rfl rfl (by first | rfl | omega) (by omega) rfl ?_
        refine x_loadF 1 [9] rfl rfl rfl rfl rfl rfl rfl (fun ν => rfl) rfl rfl (fun ν => rfl) (fun ν => rfl) (by assumption) ?_
        refine x_max [5, 10] rfl rfl rfl rfl rfl rfl (fun ν => rfl) rfl (fun ν => rfl) (fun ν => rfl) ?_
        refine x_move [] rfl rfl rfl rfl rfl rfl (fun ν => rfl) rfl (fun ν => rfl) ?_
        refine x_field [] rfl rfl rfl rfl rfl rfl (fun ν => rfl) rfl (fun ν => rfl) rfl rfl ?_
        refine x_indexA m [13, 12] rfl rfl rfl rfl rfl rfl (fun ν => rfl) rfl (fun ν => rfl) (fun ν => rfl) rfl rfl (by first | rfl | omega) (by omega) rfl ?_
        refine x_loadF 1 [14] rfl rfl rfl rfl rfl rfl rfl (fun ν => rfl) rfl rfl (fun ν => rfl) (fun ν => rfl) (by assumption) ?_
        refine x_move [] rfl rfl rfl rfl rfl rfl (fun ν => rfl) rfl (fun ν => rfl) ?_
        refine x_add [16] rfl rfl rfl rfl rfl rfl (fun ν => rfl) rfl (fun ν => rfl) (fun ν => rfl) (by omega) ?_
        refine x_field [] rfl rfl rfl rfl rfl rfl (fun ν => rfl) rfl (fun ν => rfl) rfl rfl ?_
        refine x_indexA (m + 1) [18, 17] rfl rfl rfl rfl rfl rfl (fun ν => rfl) rfl (fun ν => rfl) (fun ν => rfl) rfl rfl (by first | rfl | omega) (by omega) rfl ?_
        refine x_loadF 1 [19] rfl rfl rfl rfl rfl rfl rfl (fun ν => rfl) rfl rfl (fun ν => rfl) (fun ν => rfl) (by assumption) ?_
        refine x_field [] rfl rfl rfl rfl rfl rfl (fun ν => rfl) rfl (fun ν => rfl) rfl rfl ?_
        refine x_load1 2 [21] rfl rfl rfl rfl rfl rfl (fun ν => rfl) rfl rfl (fun ν => rfl) (fun ν => rfl) rfl (fun ν => rfl) rfl ?_
        refine x_add [20, 22] rfl rfl rfl rfl rfl rfl (fun ν => rfl) rfl (fun ν => rfl) (fun ν => rfl) (by omega) ?_
        refine x_min [15, 23] rfl rfl rfl rfl rfl rfl (fun ν => rfl) rfl (fun ν => rfl) (fun ν => rfl) ?_
        refine x_field [] rfl rfl rfl rfl rfl rfl (fun ν => rfl) rfl (fun ν => rfl) rfl rfl ?_
        refine x_indexA m [25, 0] rfl rfl rfl rfl rfl rfl (fun ν => rfl) rfl (fun ν => rfl) (fun ν => rfl) rfl rfl (by first | rfl | omega) (by omega) rfl ?_
        refine x_store [26, 11] 9999 rfl rfl rfl rfl rfl (fun ν => rfl) rfl (fun ν => rfl) (fun ν => rfl) rfl rfl rfl (by show _ ≤ 20; omega) rfl rfl rfl ?_
        refine x_field [] rfl rfl rfl rfl rfl rfl (fun ν => rfl) rfl (fun ν => rfl) rfl rfl ?_
        refine x_end [97, 98, 99, 100, 101, 102, 103, 104, 105, 106, 107, 108, 109, 110, 111, 112, 113, 114, 115, 116, 117, 118, 119, 120, 121, 122, 123, 124, 125, 9999] [1, 24, 28] 29 rfl rfl rfl rfl rfl rfl rfl rfl rfl rfl rfl (fun ν => ?_)
        refine s_indexA m rfl rfl rfl rfl rfl rfl rfl rfl rfl (by first | rfl | omega) (by omega) rfl ?_
        refine k_store 1 rfl rfl rfl rfl rfl rfl rfl rfl rfl rfl (Nat.ble_eq_true_of_le (by first | (show _ ≤ 20; omega) | (rw [length_setL]; show _ ≤ 20; omega))) rfl ?_
        refine okl_nil ?_
        change OkC Try.prog _ _ _ _ _ _ _
        refine okc_weak (l' := [(2, _), (3, _), (4, _), (6, _), (11, _), (94, _)]) ⟨rfl, rfl, rfl, rfl, rfl, rfl, trivial⟩ ?_
        refine okc_region ?_
        refine s_move rfl rfl rfl rfl rfl rfl ?_
        refine s_sub rfl rfl rfl rfl rfl rfl rfl (by omega) ?_
        refine s_assign rfl rfl rfl rfl rfl rfl ?_
        refine okl_nil ?_
        refine fun a w hs => ⟨j + 1, by omega, by omega, hs.weak ⟨rfl, rfl, rfl, rfl, congrArg (fun z => some (Value.int .i64 z)) (by omega), trivial⟩ [0, 1, 2] (by simp) ?_⟩
        have e : leC (bwdN s.fall s.weeks.toNat (j + 1) J) = setL (setL (leC (bwdN s.fall s.weeks.toNat j J)) (0 + 0 + m * 1) [.int .i64 (max ((bwdN s.fall s.weeks.toNat j J) m).1 ((bwdN s.fall s.weeks.toNat j J) (m + 1)).1)]) (0 + 10 + m * 1) [.int .i64 (min ((bwdN s.fall s.weeks.toNat j J) m).2 (((bwdN s.fall s.weeks.toNat j J) (m + 1)).2 + s.fall))] := by rw [setlo_hi _ (k := m) (by omega) (by omega) (by omega), bwdN, ← hm]
        exact pick3 e rfl
      · have hlt0 : ¬ 0 ≤ s.weeks - 2 - (j : Int) := by simpa using h8
        have hjw : j = s.weeks.toNat - 1 := by omega
        obtain ⟨L, hL⟩ : ∃ L, L = bwdN s.fall s.weeks.toNat j J := ⟨_, rfl⟩
        rw [← hL]
        have hLN : L = narS s (s.book.foldl (addL rain) f) := by rw [hL, hJ, hG, hjw, hkw2, hkw, addsL, List.take_length, narS]
        refine okl_nil ?_
        change OkC Try.prog _ _ _ _ _ _ _
        refine okc_weak (l' := [(2, _), (3, _), (4, _), (6, _), (11, _), (94, _)]) ⟨rfl, rfl, rfl, rfl, rfl, rfl, trivial⟩ ?_
        refine okc_cond_f rfl ?_
        refine okc_exit ?_
        change OkC Try.prog _ _ _ _ _ _ _
        refine okc_weak (l' := [(2, _), (3, _), (4, _), (6, _), (11, _), (94, _)]) ⟨rfl, rfl, rfl, rfl, rfl, rfl, trivial⟩ ?_
        refine okc_seq ?_
        refine okc_seq ?_
        refine okc_region ?_
        refine s_assign rfl rfl rfl rfl rfl rfl ?_
        refine okl_nil ?_
        change OkC Try.prog _ _ _ _ _ _ _
        refine okc_weak (l' := [(2, _), (3, _), (4, _), (6, _), (11, _), (12, _), (94, _)]) ⟨rfl, rfl, rfl, rfl, rfl, rfl, rfl, trivial⟩ ?_
        refine okc_block ?_
        refine okc_loop (γ := Nat) (fun i => [(2, .int .i64 rain), (3, .pointer (some ⟨b1, 0, none⟩)), (4, .pointer (some ⟨b2, 0, none⟩)), (6, .pointer (some ⟨b3, 0, none⟩)), (12, .int .i64 i)]) (fun i => [(b3, leC bz, 135), (b2, leC L, 135), (b1, [.int .i64 s.weeks, .int .i64 s.most, .int .i64 s.fall, .int .i64 s.slo, .int .i64 s.shi, .int .i64 s.wlo, .int .i64 s.whi, .slice s.bp s.book.length s.bc, .slice s.rp s.reads.length s.rc], 27)]) (fun i => (i : Int) ≤ s.weeks ∧ ∀ j, j < i → (L j).1 ≤ (L j).2) (fun i => s.weeks.toNat - i) 0 ⟨by omega, fun j h => absurd h (Nat.not_lt_zero _)⟩ (fun a w hs => by exact hs.weak ⟨rfl, rfl, rfl, rfl, rfl, trivial⟩ [0, 1, 2] (by simp) (by rfl)) ?_
        rintro i ⟨hi, hall⟩
        refine okc_seq ?_
        refine okc_seq ?_
        refine okc_region ?_
        refine s_move rfl rfl rfl rfl rfl rfl ?_
        refine s_field rfl rfl rfl rfl rfl rfl rfl rfl ?_
        refine s_load1 2 rfl rfl rfl rfl rfl rfl rfl rfl rfl ?_
        refine s_cmpS rfl rfl rfl rfl rfl rfl rfl rfl (fun h9 => ?_) (fun h9 => ?_)
        · have hlt : (i : Int) < s.weeks := by simpa using h9
          have g1 := le_lo L (k := i) (n := 0 + 0 + i * 1) (by omega) (by omega)
          have g2 := le_hi L (k := i) (n := 0 + 10 + i * 1) (by omega) (by omega)
          refine okl_nil ?_
          change OkC Try.prog _ _ _ _ _ _ _
          refine okc_weak (l' := [(2, _), (3, _), (4, _), (6, _), (12, _), (129, _)]) ⟨rfl, rfl, rfl, rfl, rfl, rfl, trivial⟩ ?_
          refine okc_cond_t rfl ?_
          refine okc_skip ?_
          change OkC Try.prog _ _ _ _ _ _ _
          refine okc_weak (l' := [(2, _), (3, _), (4, _), (6, _), (12, _), (129, _)]) ⟨rfl, rfl, rfl, rfl, rfl, rfl, trivial⟩ ?_
          refine okc_seq ?_
          refine okc_block ?_
          refine okc_seq ?_
          refine dr_start [132, 133, 134, 135, 136, 137, 138, 139, 140] ?_
          refine d_move [] rfl rfl rfl rfl rfl (fun ν => rfl) rfl (fun ν => rfl) ?_
          refine d_field [] rfl rfl rfl rfl rfl (fun ν => rfl) rfl (fun ν => rfl) rfl rfl ?_
          refine d_indexA i [1, 0] rfl rfl rfl rfl rfl (fun ν => rfl) rfl (fun ν => rfl) (fun ν => rfl) rfl rfl (by first | rfl | omega) (by omega) rfl ?_
          refine d_load1 1 [2] rfl rfl rfl rfl rfl (fun ν => rfl) rfl rfl (fun ν => rfl) (fun ν => rfl) (by assumption) ?_
          refine d_move [] rfl rfl rfl rfl rfl (fun ν => rfl) rfl (fun ν => rfl) ?_
          refine d_field [] rfl rfl rfl rfl rfl (fun ν => rfl) rfl (fun ν => rfl) rfl rfl ?_
          refine d_indexA i [5, 4] rfl rfl rfl rfl rfl (fun ν => rfl) rfl (fun ν => rfl) (fun ν => rfl) rfl rfl (by first | rfl | omega) (by omega) rfl ?_
          refine d_load1 1 [6] rfl rfl rfl rfl rfl (fun ν => rfl) rfl rfl (fun ν => rfl) (fun ν => rfl) (by assumption) ?_
          refine d_cmpS [3, 7] rfl rfl rfl rfl rfl (fun ν => rfl) rfl (fun ν => rfl) (fun ν => rfl) rfl (fun h10 => ?_) (fun h10 => ?_)
          · have hok : okN s L = false := okN_not (k := i) (by omega) (by have hq := h10; simp at hq; try omega)
            refine dr_end [132, 133, 134, 135, 136, 137, 138, 139, 140] [8] 9 rfl rfl rfl rfl rfl rfl rfl rfl rfl (fun ν => ?_)
            refine okl_nil ?_
            change OkC Try.prog _ _ _ _ _ _ _
            refine okc_weak (l' := [(2, _), (3, _), (4, _), (6, _), (12, _), (129, _), (140, _)]) ⟨rfl, rfl, rfl, rfl, rfl, rfl, rfl, trivial⟩ ?_
            refine okc_cond_t rfl ?_
            refine okc_seq ?_
            refine okc_region ?_
            refine s_loadW 1 rfl rfl rfl rfl rfl rfl rfl rfl rfl (by first | rfl | assumption) ?_
            refine k_storeW 0 rfl rfl rfl rfl rfl rfl rfl rfl rfl rfl rfl rfl ?_
            refine s_assign rfl rfl rfl rfl rfl rfl ?_
            refine okl_nil ?_
            change OkC Try.prog _ _ _ _ _ _ _
            refine okc_weak (l' := [(2, _), (3, _), (4, _), (6, _), (7, _), (12, _), (129, _), (140, _)]) ⟨rfl, rfl, rfl, rfl, rfl, rfl, rfl, rfl, trivial⟩ ?_
            refine okc_ret fun a w hs => ?_
            exact ret_v hs (run_results2 hs rfl (k_ragg 0 rfl rfl rfl rfl rfl) (rv_tmp rfl)) (by clear hs; rw [← hLN, hok])
          · have hle : (L i).1 ≤ (L i).2 := by have hq := h10; simp at hq; try omega
            refine dr_end [132, 133, 134, 135, 136, 137, 138, 139, 140] [8] 9 rfl rfl rfl rfl rfl rfl rfl rfl rfl (fun ν => ?_)
            refine okl_nil ?_
            change OkC Try.prog _ _ _ _ _ _ _
            refine okc_weak (l' := [(2, _), (3, _), (4, _), (6, _), (12, _), (129, _), (140, _)]) ⟨rfl, rfl, rfl, rfl, rfl, rfl, rfl, trivial⟩ ?_
            refine okc_cond_f rfl ?_
            refine okc_skip ?_
            change OkC Try.prog _ _ _ _ _ _ _
            refine okc_weak (l' := [(2, _), (3, _), (4, _), (6, _), (12, _), (129, _), (140, _)]) ⟨rfl, rfl, rfl, rfl, rfl, rfl, rfl, trivial⟩ ?_
            refine okc_region ?_
            refine s_move rfl rfl rfl rfl rfl rfl ?_
            refine s_add rfl rfl rfl rfl rfl rfl rfl (by omega) ?_
            refine s_assign rfl rfl rfl rfl rfl rfl ?_
            refine okl_nil ?_
            refine fun a w hs => ⟨i + 1, ⟨by omega, fun j h => ?_⟩, by omega, hs.weak ⟨rfl, rfl, rfl, rfl, rfl, trivial⟩ [0, 1, 2] (by simp) rfl⟩
            rcases Nat.lt_or_ge j i with h2 | h2
            · exact hall j h2
            · have : j = i := by omega
              subst this; exact hle
        · have hge : ¬ (i : Int) < s.weeks := by simpa using h9
          have hok : okN s L = true := okN_of (n := i) (by omega) hall
          refine okl_nil ?_
          change OkC Try.prog _ _ _ _ _ _ _
          refine okc_weak (l' := [(2, _), (3, _), (4, _), (6, _), (12, _), (129, _)]) ⟨rfl, rfl, rfl, rfl, rfl, rfl, trivial⟩ ?_
          refine okc_cond_f rfl ?_
          refine okc_exit ?_
          change OkC Try.prog _ _ _ _ _ _ _
          refine okc_weak (l' := [(2, _), (3, _), (4, _), (6, _), (12, _), (129, _)]) ⟨rfl, rfl, rfl, rfl, rfl, rfl, trivial⟩ ?_
          refine okc_seq ?_
          refine okc_region ?_
          refine s_loadW 1 rfl rfl rfl rfl rfl rfl rfl rfl rfl (by first | rfl | assumption) ?_
          refine k_storeW 0 rfl rfl rfl rfl rfl rfl rfl rfl rfl rfl rfl rfl ?_
          refine s_assign rfl rfl rfl rfl rfl rfl ?_
          refine okl_nil ?_
          change OkC Try.prog _ _ _ _ _ _ _
          refine okc_weak (l' := [(2, _), (3, _), (4, _), (6, _), (7, _), (12, _), (129, _)]) ⟨rfl, rfl, rfl, rfl, rfl, rfl, rfl, trivial⟩ ?_
          refine okc_ret fun a w hs => ?_
          exact ret_v hs (run_results2 hs rfl (k_ragg 0 rfl rfl rfl rfl rfl) (rv_tmp rfl)) (by clear hs; rw [← hLN, hok])

end Go.Proofs.Ytdpnadknaacinaa
end
