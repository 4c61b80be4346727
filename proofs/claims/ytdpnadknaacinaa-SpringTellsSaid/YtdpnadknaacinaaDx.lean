/-
  Regions that draw their order, whose operations may take own blocks and hand back others (append, calls): one look at each operation, under a frame.
  Conditions: none; generic over the program.
-/
import Derived.Test.YtdpnadknaacinaaAp
namespace Go.Sx
open Go.RowKit Region

/-- An operation under a frame: it takes the blocks c, and hands back others. -/
def OpX (P : Program) (N : Cx) (w0 : World) (l : Env) (c keep : Blks) (A : Args) (o : Oper) (φ : Value → Blks → Prop) : Prop :=
  ∀ (F : Blks) (a : Act) (w : World), St N w0 l (F ++ (c ++ keep)) A a w → ∀ (K : Act → World → Prop) (Q : Exit → Act → World → Prop),
    (∀ v B w', φ v B → St N w0 l (F ++ (B ++ keep)) A a w' → K (a.put o.dst v) w') → o.wpIn (Fr N.r) 0 P a w K Q

structure EX where
  d : Option Nat
  ds : List Nat
  c : Blks
  φ : List (Value × Blks) → Value → Blks → Prop

def envX (es : List EX) (ρ : Nat → Value × Blks) : List Nat → Env
  | [] => []
  | k :: ks => match es[k]? with
    | some e => match e.d with
      | some d => (d, (ρ k).1) :: envX es ρ ks
      | none => envX es ρ ks
    | none => envX es ρ ks
def blkX (ρ : Nat → Value × Blks) (ds : List Nat) : Blks := ds.flatMap fun k => (ρ k).2
def consX (es : List EX) (k : Nat) : Blks := match es[k]? with | some e => e.c | none => []
def remX (es : List EX) (D : Nat → Bool) (ρ : Nat → Value × Blks) : Blks := (List.range es.length).flatMap fun k => if D k then (ρ k).2 else consX es k
def okX (es : List EX) (ρ : Nat → Value × Blks) (k : Nat) : Prop := ∀ e, es[k]? = some e → e.φ (e.ds.map ρ) (ρ k).1 (ρ k).2

section
variable (P : Program) (N : Cx) (w0 : World) (ops : Array Oper) (lb : Env) (Osh : Blks) (A : Args)

def GoodX (l : Env) (c keep : Blks) (o : Oper) (φ : Value → Blks → Prop) : Prop :=
  (wantsB ops l o = some true ∧ OpX P N w0 l c keep A o φ) ∨ (wantsB ops l o = some false ∧ φ undef c)

def OblX (es : List EX) (i : Nat) (e : EX) : Prop :=
  ∃ o, ops[i]? = some o ∧ o.dst = e.d ∧ (∀ d, e.d = some d → d < N.n) ∧ (∀ k ∈ e.ds, k < es.length ∧ ∃ g ∈ o.after, g.on = k ∧ binds .any g = true) ∧ e.ds.Nodup ∧
    ∀ ρ : Nat → Value × Blks, (∀ k ∈ e.ds, okX es ρ k) → GoodX P N w0 ops A (envX es ρ e.ds ++ lb) e.c (blkX ρ e.ds ++ Osh) o (e.φ (e.ds.map ρ))
end

section
variable {P : Program} {N : Cx} {w0 : World} {ops : Array Oper} {lb l : Env} {O Osh : Blks} {A : Args} {es : List EX}

theorem mem_envX {ρ : Nat → Value × Blks} : ∀ (ds : List Nat) {t : Nat} {v : Value}, (t, v) ∈ envX es ρ ds → ∃ k ∈ ds, ∃ e, es[k]? = some e ∧ e.d = some t ∧ v = (ρ k).1
  | [], t, v, h => by simp [envX] at h
  | k :: ks, t, v, h => by
    simp only [envX] at h
    split at h
    · rename_i e he
      split at h
      · rename_i d hd
        rcases List.mem_cons.1 h with h1 | h1
        · cases h1; exact ⟨k, by simp, e, he, hd, rfl⟩
        · obtain ⟨j, hj, hh⟩ := mem_envX ks h1; exact ⟨j, by simp [hj], hh⟩
      · obtain ⟨j, hj, hh⟩ := mem_envX ks h; exact ⟨j, by simp [hj], hh⟩
    · obtain ⟨j, hj, hh⟩ := mem_envX ks h; exact ⟨j, by simp [hj], hh⟩

theorem flatMap_congr' {α β : Type} {f g : α → List β} : ∀ {L : List α}, (∀ x ∈ L, f x = g x) → L.flatMap f = L.flatMap g
  | [], _ => rfl
  | x :: L, h => by
    simp only [List.flatMap_cons]
    rw [h x (by simp), flatMap_congr' (fun y hy => h y (by simp [hy]))]

structure MidX (P : Program) (N : Cx) (w0 : World) (lb : Env) (Osh : Blks) (A : Args) (es : List EX) (ρ : Nat → Value × Blks) (D : Nat → Bool) (a : Act) (w : World) : Prop where
  st : St N w0 lb (Osh ++ remX es D ρ) A a w
  env : ∀ k e d, D k = true → es[k]? = some e → e.d = some d → a.tmps[d]? = some (ρ k).1
  ok : ∀ k, D k = true → okX es ρ k
  dep : ∀ k e, D k = true → es[k]? = some e → ∀ j ∈ e.ds, D j = true

/-- The slots that the region writes. -/
def slotsX (es : List EX) : List Nat := es.filterMap (·.d)

theorem slotsX_inj : ∀ {es : List EX}, (slotsX es).Nodup → ∀ {i j d : Nat} {e e' : EX}, es[i]? = some e → es[j]? = some e' → e.d = some d → e'.d = some d → i = j
  | [], _, i, j, d, e, e', h, _, _, _ => by simp at h
  | x :: es, hn, i, j, d, e, e', hi, hj, hd, hd' => by
    have mem : ∀ {k : Nat} {y : EX}, es[k]? = some y → y.d = some d → d ∈ slotsX es := fun hk hy => List.mem_filterMap.2 ⟨_, List.mem_of_getElem? hk, hy⟩
    have hn' : (slotsX es).Nodup := by
      unfold slotsX at hn ⊢
      rw [List.filterMap_cons] at hn
      split at hn
      · exact hn
      · exact (List.nodup_cons.1 hn).2
    have hx : x.d = some d → d ∉ slotsX es := fun hxd => by
      unfold slotsX at hn
      rw [List.filterMap_cons, hxd] at hn
      exact (List.nodup_cons.1 hn).1
    match i, j with
    | 0, 0 => rfl
    | 0, j + 1 =>
      simp only [List.getElem?_cons_zero, Option.some.injEq] at hi
      subst hi
      exact absurd (mem (by simpa using hj) hd') (hx hd)
    | i + 1, 0 =>
      simp only [List.getElem?_cons_zero, Option.some.injEq] at hj
      subst hj
      exact absurd (mem (by simpa using hi) hd) (hx hd')
    | i + 1, j + 1 => exact congrArg (· + 1) (slotsX_inj (i := i) (j := j) hn' (by simpa using hi) (by simpa using hj) hd hd')

theorem perm_split {n i : Nat} {ds : List Nat} (hi : i < n) (hds : ∀ k ∈ ds, k < n) (hn : (i :: ds).Nodup) : (List.range n).Perm ((List.range n).filter (fun k => !(decide (k ∈ i :: ds))) ++ (i :: ds)) := by
  have hf : ((List.range n).filter (fun k => !(decide (k ∈ i :: ds)))).Nodup := List.Nodup.sublist (List.filter_sublist) List.nodup_range
  refine (List.perm_ext_iff_of_nodup List.nodup_range ?_).2 ?_
  · rw [List.nodup_append]
    refine ⟨hf, hn, ?_⟩
    rintro x hx y hy rfl
    simp only [List.mem_filter, Bool.not_eq_true', decide_eq_false_iff_not] at hx
    exact hx.2 hy
  · intro x
    simp only [List.mem_append, List.mem_filter, List.mem_range, Bool.not_eq_true', decide_eq_false_iff_not]
    constructor
    · intro hx
      by_cases hm : x ∈ i :: ds
      · exact .inr hm
      · exact .inl ⟨hx, hm⟩
    · rintro (⟨hx, _⟩ | hm)
      · exact hx
      · rcases List.mem_cons.1 hm with e | hm
        · omega
        · exact hds x hm

theorem perm_four {α : Type} (a b c d : List α) : (a ++ (b ++ (c ++ d))).Perm (b ++ (c ++ (d ++ a))) := by
  have := List.perm_append_comm (l₁ := a) (l₂ := b ++ (c ++ d))
  simpa [List.append_assoc] using this

/-! What comes behind all the others, by way of others. -/
def bound (o : Oper) : List Nat := (o.after.toList.filter fun g => binds .any g).map (·.on)
def reachL (ops : Array Oper) : Nat → List Nat → List Nat
  | 0, l => l
  | f + 1, l => l ++ reachL ops f (l.flatMap fun j => match ops[j]? with | some o => bound o | none => [])
def ClX (ops : Array Oper) (D : Nat → Bool) : Prop := ∀ j o, D j = true → ops[j]? = some o → ∀ g ∈ o.after, binds .any g = true → D g.on = true
def TailX (ops : Array Oper) (n : Nat) : Prop := ∀ (i : Nat) (o : Oper), n ≤ i → ops[i]? = some o → ∀ D, ClX ops D → (∀ g ∈ o.after, binds .any g = true → D g.on = true) → ∀ k, k < i → D k = true
def tailX (ops : Array Oper) (n f : Nat) : Bool := ops.toList.zipIdx.all fun (o, i) => Nat.blt i n || (List.range i).all fun k => (reachL ops f (bound o)).any fun x => Nat.beq x k

theorem mem_bound {o : Oper} {k : Nat} : k ∈ bound o ↔ ∃ g ∈ o.after, binds .any g = true ∧ g.on = k := by
  simp only [bound, List.mem_map, List.mem_filter, Array.mem_toList_iff]
  constructor
  · rintro ⟨g, ⟨h1, h2⟩, h3⟩; exact ⟨g, h1, h2, h3⟩
  · rintro ⟨g, h1, h2, h3⟩; exact ⟨g, ⟨h1, h2⟩, h3⟩
theorem reach_done {D : Nat → Bool} (hc : ClX ops D) : ∀ (f : Nat) (l : List Nat), (∀ x ∈ l, D x = true) → ∀ x ∈ reachL ops f l, D x = true
  | 0, l, h, x, hx => h x hx
  | f + 1, l, h, x, hx => by
    rcases List.mem_append.1 hx with h1 | h1
    · exact h x h1
    · refine reach_done hc f _ ?_ x h1
      intro y hy
      obtain ⟨j, hj, hy⟩ := List.mem_flatMap.1 hy
      split at hy
      · rename_i o ho
        obtain ⟨g, h2, h3, rfl⟩ := mem_bound.1 hy
        exact hc j o (h j hj) ho g h2 h3
      · cases hy
theorem tailX_of {n f : Nat} (h : tailX ops n f = true) : TailX ops n := by
  intro i o hi ho D hc hd k hk
  unfold tailX at h
  rw [List.all_eq_true] at h
  have hm : (o, i) ∈ ops.toList.zipIdx := by
    rw [List.mem_zipIdx_iff_getElem?]
    simpa using ho
  have h1 := h (o, i) hm
  simp only [Bool.or_eq_true] at h1
  rcases h1 with h1 | h1
  · have := of_blt h1; omega
  · rw [List.all_eq_true] at h1
    have := h1 k (List.mem_range.2 hk)
    rw [List.any_eq_true] at this
    obtain ⟨x, hx, hxk⟩ := this
    have := Nat.eq_of_beq_eq_true hxk
    subst this
    refine reach_done hc f _ ?_ x hx
    intro y hy
    obtain ⟨g, h2, h3, rfl⟩ := mem_bound.1 hy
    exact hd g h2 h3
theorem clX_upd {D : Nat → Bool} {i : Nat} (hc : ClX ops D) (h3 : ∀ o, ops[i]? = some o → ∀ g ∈ o.after, binds .any g = true → D g.on = true) : ClX ops (upd D i) := by
  intro j o hj ho g hg hb
  have hD : D g.on = true := by
    by_cases e : j = i
    · subst e; exact h3 o ho g hg hb
    · exact hc j o (by simpa [upd, e] using hj) ho g hg hb
  simp [upd, hD]
theorem forcedX {n : Nat} (ht : TailX ops n) : ∀ (is : List Nat) (D : Nat → Bool) (j : Nat), n ≤ j → j ≤ ops.size → ClX ops D → (∀ k, D k = true ↔ k < j) → Val .any ops D is → is = List.range' j (ops.size - j)
  | [], D, j, _, hj, _, hD, hv => by
    have : ops.size - j = 0 := by
      rcases Nat.lt_or_ge j ops.size with h1 | h1
      · have := (hD j).1 (hv j h1); omega
      · omega
    rw [this]; rfl
  | i :: is, D, j, hnj, hj, hc, hD, ⟨⟨h1, h2, h3⟩, hv⟩ => by
    have hij : i = j := by
      have hge : j ≤ i := by
        rcases Nat.lt_or_ge i j with h4 | h4
        · have := (hD i).2 h4; rw [h2] at this; cases this
        · exact h4
      rcases Nat.lt_or_ge j i with h4 | h4
      · obtain ⟨o, ho⟩ : ∃ o, ops[i]? = some o := ⟨ops[i], by simp [h1]⟩
        have h5 := ht i o (by omega) ho D hc (fun g hg hb => h3 o ho g hg hb) j h4
        have := (hD j).1 h5
        omega
      · omega
    subst hij
    have ih := forcedX ht is (upd D i) (i + 1) (by omega) (by omega) (clX_upd hc (fun o ho g hg hb => h3 o ho g hg hb)) (by
      intro k
      simp only [upd]
      split
      · rename_i e; rw [e]; simp
      · rename_i e; rw [hD k]; omega) hv
    have : ops.size - i = (ops.size - (i + 1)) + 1 := by omega
    rw [this, List.range'_succ, ← ih]

theorem midx_runs {n : Nat} {Q : Exit → Act → World → Prop} (hlen : es.length = n) (hle : n ≤ ops.size) (htail : TailX ops n) (hob : ∀ i e, es[i]? = some e → OblX P N w0 ops lb Osh A es i e) (hn : (slotsX es).Nodup)
    (hlb : ∀ t v, get lb t = some v → t ∉ slotsX es)
    (hQ : ∀ ρ a w, MidX P N w0 lb Osh A es ρ (fun i => Nat.blt i n) a w → wpOpsIn (Fr N.r) 0 P ops Q (List.range' n (ops.size - n)) a w) :
    ∀ (is : List Nat) (ρ : Nat → Value × Blks) (D : Nat → Bool) (a : Act) (w : World), (∀ i, D i = true → i < n) → ClX ops D → Val .any ops D is → MidX P N w0 lb Osh A es ρ D a w → wpOpsIn (Fr N.r) 0 P ops Q is a w
  | [], ρ, D, a, w, hDn, hcl, hv, hm => by
    have hall : ∀ i, i < n → D i = true := fun i hi => hv i (Nat.lt_of_lt_of_le hi hle)
    have := hQ ρ a w (eq_blt hDn hall ▸ hm)
    have h0 : ops.size - n = 0 := by
      rcases Nat.lt_or_ge n ops.size with h1 | h1
      · exact absurd (hDn n (hv n h1)) (Nat.lt_irrefl n)
      · omega
    rw [h0] at this
    exact this
  | i :: is, ρ, D, a, w, hDn, hcl, ⟨⟨hr1, hr2, hr3⟩, hv⟩, hm => by
    by_cases hin : i < n
    case neg =>
      have hall : ∀ k, k < i → D k = true := by
        intro k hk
        obtain ⟨o, ho⟩ : ∃ o, ops[i]? = some o := ⟨ops[i], by simp [hr1]⟩
        exact htail i o (by omega) ho D hcl (fun g hg hb => hr3 o ho g hg hb) k hk
      have hDe := eq_blt hDn (fun k hk => hall k (by omega))
      have hfor := forcedX htail (i :: is) D n (Nat.le_refl _) hle hcl (fun k => ⟨fun h => hDn k h, fun h => hall k (by omega)⟩) ⟨⟨hr1, hr2, hr3⟩, hv⟩
      rw [hfor]
      exact hQ ρ a w (hDe ▸ hm)
    obtain ⟨e, he⟩ : ∃ e, es[i]? = some e := ⟨es[i]'(by omega), by simp [hlen, hin]⟩
    obtain ⟨o, ho, hd, hN, hds, hnd, hgood⟩ := hob i e he
    have hD : ∀ k ∈ e.ds, D k = true := by
      intro k hk
      obtain ⟨_, g, hg, hgk, hgb⟩ := hds k hk
      rw [← hgk]
      exact hr3 o ho g hg (binds_any hgb)
    have hids : i ∉ e.ds := fun h => by have := hD i h; rw [hr2] at this; cases this
    have hnd' : (i :: e.ds).Nodup := List.nodup_cons.2 ⟨hids, hnd⟩
    have hpm := perm_split (n := n) hin (fun k hk => hlen ▸ (hds k hk).1) hnd'
    generalize hrest : (List.range n).filter (fun k => !(decide (k ∈ i :: e.ds))) = rest at hpm
    have hrestI : ∀ k ∈ rest, k ≠ i := fun k hk e2 => by
      rw [← hrest] at hk
      simp only [List.mem_filter, Bool.not_eq_true', decide_eq_false_iff_not] at hk
      exact hk.2 (by simp [e2])
    -- the blocks, seen from this operation
    have hrem : (Osh ++ remX es D ρ).Perm (rest.flatMap (fun k => if D k then (ρ k).2 else consX es k) ++ (e.c ++ (blkX ρ e.ds ++ Osh))) := by
      have h1 : (remX es D ρ).Perm (rest.flatMap (fun k => if D k then (ρ k).2 else consX es k) ++ (e.c ++ blkX ρ e.ds)) := by
        unfold remX
        rw [hlen]
        refine (hpm.flatMap_right _).trans ?_
        rw [List.flatMap_append, List.flatMap_cons]
        have e1 : (if D i then (ρ i).2 else consX es i) = e.c := by rw [hr2]; simp [consX, he]
        have e2 : e.ds.flatMap (fun k => if D k then (ρ k).2 else consX es k) = blkX ρ e.ds := flatMap_congr' fun k hk => by rw [hD k hk]; rfl
        rw [e1, e2]
      exact (List.Perm.append_left Osh h1).trans (perm_four _ _ _ _)
    have hst : St N w0 (envX es ρ e.ds ++ lb) (rest.flatMap (fun k => if D k then (ρ k).2 else consX es k) ++ (e.c ++ (blkX ρ e.ds ++ Osh))) A a w := by
      have h1 := hm.st.reo hrem
      refine ⟨h1.size, h1.noDef, h1.bel, ?_, h1.own, h1.nodup, h1.arg, h1.marked⟩
      intro t v hg
      rcases get_append _ _ t v hg with h2 | h2
      · obtain ⟨k, hk, e', he', hd', rfl⟩ := mem_envX _ h2
        exact hm.env k e' t (hD k hk) he' hd'
      · exact h1.env t v h2
    have hDn' : ∀ k, upd D i k = true → k < n := by
      intro k hk
      simp only [upd] at hk
      split at hk
      · rename_i e; rw [e]; exact hin
      · exact hDn k hk
    have hbase : ∀ t v d, get lb t = some v → e.d = some d → t ≠ d := fun t v d hg hd' e2 => hlb t v hg (e2 ▸ List.mem_filterMap.2 ⟨e, List.mem_of_getElem? he, hd'⟩)
    have hputne : ∀ (v : Value) (t : Nat), (∀ d, e.d = some d → t ≠ d) → (a.put e.d v).tmps[t]? = a.tmps[t]? := by
      intro v t ht
      cases h : e.d with
      | none => rfl
      | some d =>
        simp only [Act.put]
        exact Array.getElem?_setIfInBounds_ne (fun h' => ht d h h'.symm)
    have hsz := hm.st.size
    -- the state behind it
    have key : ∀ (v : Value) (B : Blks) (w' : World), e.φ (e.ds.map ρ) v B → St N w0 (envX es ρ e.ds ++ lb) (rest.flatMap (fun k => if D k then (ρ k).2 else consX es k) ++ (B ++ (blkX ρ e.ds ++ Osh))) A a w' →
        MidX P N w0 lb Osh A es (fun k => if k = i then (v, B) else ρ k) (upd D i) (a.put e.d v) w' := by
      intro v B w' hφ hst'
      have hmap : ∀ (ks : List Nat), i ∉ ks → ks.map (fun k => if k = i then (v, B) else ρ k) = ks.map ρ := fun ks hks => List.map_congr_left fun k hk => if_neg (fun (e2 : k = i) => hks (e2 ▸ hk))
      refine ⟨?_, ?_, ?_, ?_⟩
      · have hrem' : (rest.flatMap (fun k => if D k then (ρ k).2 else consX es k) ++ (B ++ (blkX ρ e.ds ++ Osh))).Perm (Osh ++ remX es (upd D i) (fun k => if k = i then (v, B) else ρ k)) := by
          have h1 : (remX es (upd D i) (fun k => if k = i then (v, B) else ρ k)).Perm (rest.flatMap (fun k => if D k then (ρ k).2 else consX es k) ++ (B ++ blkX ρ e.ds)) := by
            unfold remX
            rw [hlen]
            refine (hpm.flatMap_right _).trans ?_
            rw [List.flatMap_append, List.flatMap_cons]
            have e0 : rest.flatMap (fun k => if upd D i k then (if k = i then (v, B) else ρ k).2 else consX es k) = rest.flatMap (fun k => if D k then (ρ k).2 else consX es k) :=
              flatMap_congr' fun k hk => by simp [upd, hrestI k hk]
            have e1 : (if upd D i i then (if i = i then (v, B) else ρ i).2 else consX es i) = B := by simp [upd]
            have e2 : e.ds.flatMap (fun k => if upd D i k then (if k = i then (v, B) else ρ k).2 else consX es k) = blkX ρ e.ds := flatMap_congr' fun k hk => by
              have hne : k ≠ i := fun e2 => hids (e2 ▸ hk)
              simp [upd, hne, hD k hk]
            rw [e0, e1, e2]
          exact ((List.Perm.append_left Osh h1).trans (perm_four _ _ _ _)).symm
        have h1 := hst'.reo hrem'
        refine ⟨?_, ?_, h1.bel, ?_, h1.own, h1.nodup, h1.arg, h1.marked⟩
        · cases h : e.d <;> simp [Act.put, hsz]
        · have := h1.noDef
          cases h : e.d <;> simpa [Act.put] using this
        · intro t u hg
          rw [hputne v t (fun d hd' => hbase t u d hg hd')]
          exact hm.st.env t u hg
      · intro k e' d' hk he' hd'
        by_cases ek : k = i
        · subst ek
          obtain rfl : e = e' := Option.some.inj (he.symm.trans he')
          simp only [if_true]
          rw [hd']
          have := hN d' hd'
          simp [Act.put, hsz, this]
        · have hDk : D k = true := by simpa [upd, ek] using hk
          rw [if_neg ek, hputne v d' (fun d hd2 (e2 : d' = d) => ek (slotsX_inj hn he' he hd' (e2 ▸ hd2)))]
          exact hm.env k e' d' hDk he' hd'
      · intro k hk e' he'
        by_cases ek : k = i
        · subst ek
          obtain rfl : e = e' := Option.some.inj (he.symm.trans he')
          simp only [if_true]
          rw [hmap _ hids]
          exact hφ
        · have hDk : D k = true := by simpa [upd, ek] using hk
          have hni : i ∉ e'.ds := fun h => by have := hm.dep k e' hDk he' i h; rw [hr2] at this; cases this
          simp only [if_neg ek]
          rw [hmap _ hni]
          exact hm.ok k hDk e' he'
      · intro k e' hk he' j hj
        by_cases ek : k = i
        · subst ek
          obtain rfl : e = e' := Option.some.inj (he.symm.trans he')
          have := hD j hj
          simp [upd, this]
        · have hDk : D k = true := by simpa [upd, ek] using hk
          have := hm.dep k e' hDk he' j hj
          simp [upd, this]
    have next : ∀ (v : Value) (B : Blks) (w' : World), e.φ (e.ds.map ρ) v B → St N w0 (envX es ρ e.ds ++ lb) (rest.flatMap (fun k => if D k then (ρ k).2 else consX es k) ++ (B ++ (blkX ρ e.ds ++ Osh))) A a w' →
        wpOpsIn (Fr N.r) 0 P ops Q is (a.put e.d v) w' := fun v B w' hφ hst' =>
      midx_runs hlen hle htail hob hn hlb hQ is _ (upd D i) _ w' hDn' (clX_upd hcl (fun o ho g hg hb => hr3 o ho g hg hb)) hv (key v B w' hφ hst')
    simp only [wpOpsIn, ho]
    rcases hgood ρ (fun k hk => hm.ok k (hD k hk)) with ⟨hwant, hop⟩ | ⟨hwant, hφ⟩
    · rw [wanted_of hst hwant]
      simp only [if_true]
      refine hop _ a w hst _ _ fun v B w' hφ hst' => ?_
      rw [hd]
      exact next v B w' hφ hst'
    · rw [wanted_of hst hwant]
      simp only [Bool.false_eq_true, if_false]
      rw [hd]
      exact ⟨fun _ _ => trivial, next undef e.c w hφ hst⟩

def OblsX (P : Program) (N : Cx) (w0 : World) (ops : Array Oper) (lb : Env) (Osh : Blks) (A : Args) (es : List EX) : Nat → List EX → Prop
  | _, [] => True
  | i, e :: r => OblX P N w0 ops lb Osh A es i e ∧ OblsX P N w0 ops lb Osh A es (i + 1) r
theorem oblsX_at : ∀ {r : List EX} {k : Nat}, OblsX P N w0 ops lb Osh A es k r → ∀ i e, r[i]? = some e → OblX P N w0 ops lb Osh A es (k + i) e
  | [], k, _, i, e, h => by simp at h
  | x :: r, k, ⟨h1, h2⟩, 0, e, h => by simp at h; subst h; exact h1
  | x :: r, k, ⟨h1, h2⟩, i + 1, e, h => by
    have := oblsX_at h2 i e (by simpa using h)
    rwa [show k + 1 + i = k + (i + 1) by omega] at this

/-- The region: n operations whose order is open, then the others. -/
theorem okc_drawx {id : Nat} {Q : Exit → Act → World → Prop} (ds keep : List Nat) (es : List EX) (n f : Nat) (Osh : Blks) (hm : P.follows .mixedOrders = true) (hlen : es.length = n) (hb : backA ops = true) (hle : Nat.ble n ops.size = true) (ht : tailX ops n f = true)
    (hn : nodupB (slotsX es) = true) (hin : inB (slotsX es) ds = true) (hO : O.Perm (Osh ++ (List.range n).flatMap (consX es)))
    (hob : OblsX P N w0 ops (dropK ds l) Osh A es 0 es)
    (rest : ∀ ρ : Nat → Value × Blks, (∀ k, k < n → okX es ρ k) → OkL P N w0 ops Q (List.range' n (ops.size - n)) (envX es ρ keep ++ dropK ds l) (Osh ++ blkX ρ (List.range n)) A) (hk : allBelow keep n = true) :
    OkC P N w0 (.region id ops true) Q l O A := by
  intro a w hs
  refine wpIn_region_draw fun t => ?_
  have hval := schedule_any (mixed := P.follows .mixedOrders) (ops := ops) hm hb t
  have hdrew : ({ w with drawn := w.drawn + 1 } : World) = w.drew := rfl
  rw [hdrew]
  have hs' : St N w0 l O A a w.drew := hs.ext ((Below.refl _ w).drew)
  have hlb : St N w0 (dropK ds l) O A a w.drew := ⟨hs'.size, hs'.noDef, hs'.bel, fun t v hg => hs'.env t v (get_dropK ds l t v hg).2, hs'.own, hs'.nodup, hs'.arg, hs'.marked⟩
  refine midx_runs (es := es) (n := n) (Osh := Osh) (lb := dropK ds l) hlen (Nat.le_of_ble_eq_true hle) (tailX_of ht) (fun i e he => by have := oblsX_at hob i e he; rwa [Nat.zero_add] at this) (nodup_ofB hn) ?_ ?_ _ (fun _ => (undef, [])) (fun _ => false) a w.drew (fun _ h => by cases h) (fun _ _ h => by cases h) hval ⟨?_, ?_, ?_, ?_⟩
  · intro t v hg hm'
    have h1 := (get_dropK ds l t v hg).1
    unfold inB at hin
    rw [List.all_eq_true] at hin
    have := hin t hm'
    rw [List.any_eq_true] at this
    obtain ⟨d, hd, hd'⟩ := this
    have := Nat.eq_of_beq_eq_true hd'
    subst this
    exact h1 hd
  · intro ρ a' w' hmid
    refine rest ρ (fun k hk => hmid.ok k (blt_of hk)) a' w' ?_
    have hrem : remX es (fun i => Nat.blt i n) ρ = blkX ρ (List.range n) := by
      unfold remX blkX
      rw [hlen]
      exact flatMap_congr' fun k hk => by rw [if_pos (blt_of (List.mem_range.1 hk))]
    have h1 := hmid.st
    rw [hrem] at h1
    refine ⟨h1.size, h1.noDef, h1.bel, ?_, h1.own, h1.nodup, h1.arg, h1.marked⟩
    intro t v hg
    rcases get_append _ _ t v hg with h2 | h2
    · obtain ⟨k, hk', e', he', hd', rfl⟩ := mem_envX _ h2
      refine hmid.env k e' t (blt_of ?_) he' hd'
      unfold allBelow at hk
      rw [List.all_eq_true] at hk
      exact of_blt (hk k hk')
    · exact h1.env t v h2
  · have hrem : remX es (fun _ => false) (fun _ => (undef, [])) = (List.range n).flatMap (consX es) := by
      unfold remX
      rw [hlen]
      exact flatMap_congr' fun k _ => by simp
    rw [hrem]
    exact hlb.reo hO
  · intro k e d h; cases h
  · intro k h; cases h
  · intro k e h; cases h

/-! ### Operations under a frame -/
variable {o : Oper} {c keep : Blks}

theorem covers_frame {F : Blks} {M : Args} (h : covers keep A M) : covers (F ++ keep) A M := fun b cs hm => by
  rcases h b cs hm with ⟨T, h1⟩ | h1
  · exact .inl ⟨T, List.mem_append_right _ h1⟩
  · exact .inr h1

/-- A rule for one operation, known for every frame. -/
theorem opx_v {x : Value} (h : ∀ F : Blks, OpV P N w0 l (keep ++ F) A o (pv x)) : OpX P N w0 l [] keep A o (fun v B => v = x ∧ B = []) := by
  intro F a w hst K Q hK
  refine h F a w (hst.reo (by simpa using List.perm_append_comm)) K Q ?_
  intro v w' hb hv
  exact hK v [] w' ⟨hv, rfl⟩ (hst.ext hb)
theorem opx_r {σ : Type} {val : σ → Value} {blks : σ → Blks} {ok : σ → Prop} (h : ∀ F : Blks, OpV P N w0 l (keep ++ F) A o (Res val blks ok)) : OpX P N w0 l [] keep A o (fun v B => ∃ s, v = val s ∧ B = blks s ∧ ok s) := by
  intro F a w hst K Q hK
  refine h F a w (hst.reo (by simpa using List.perm_append_comm)) K Q ?_
  rintro v w' hb ⟨s, hv, hok, hB, hn⟩
  refine hK v (blks s) w' ⟨s, hv, rfl, hok⟩ ?_
  have := hst.news hb (blks s) hB hn
  refine this.reo ?_
  have e : blks s ++ (F ++ ([] ++ keep)) = (blks s ++ F) ++ keep := by simp
  rw [e, ← List.append_assoc]
  exact List.Perm.append_right keep List.perm_append_comm
theorem OpX.mono {φ φ' : Value → Blks → Prop} (h : OpX P N w0 l c keep A o φ) (hi : ∀ v B, φ v B → φ' v B) : OpX P N w0 l c keep A o φ' :=
  fun F a w hst K Q hK => h F a w hst K Q fun v B w' hφ hs => hK v B w' (hi v B hφ) hs

/-- In the order of the text. -/
theorem okl_x {Q : Exit → Act → World → Prop} {is : List Nat} {i d : Nat} {φ : Value → Blks → Prop} (F : Blks) (ho : ops[i]? = some o) (hg : wantsB ops l o = some true) (hd : o.dst = some d) (hN : Nat.blt d N.n = true)
    (h : OpX P N w0 l c keep A o φ) (hO : O.Perm (F ++ (c ++ keep))) (rest : ∀ v B, φ v B → OkL P N w0 ops Q is ((d, v) :: l) (F ++ (B ++ keep)) A) : OkL P N w0 ops Q (i :: is) l O A := by
  intro a w hs
  simp only [wpOpsIn, ho, wanted_of hs hg, if_true]
  refine h F a w (hs.reo hO) _ _ fun v B w' hφ hs' => ?_
  rw [hd]
  exact rest v B hφ _ _ (hs'.put hN v)
def slotB (d : Option Nat) (n : Nat) : Bool := match d with | none => true | some d => Nat.blt d n
def depX (o : Oper) (n : Nat) (ds : List Nat) : Bool := (ds.all fun k => Nat.blt k n && o.after.toList.any fun g => Nat.beq g.on k && binds .any g) && nodupB ds
theorem obl_x {i : Nat} {e : EX} (ho : ops[i]? = some o) (hd : o.dst = e.d) (hN : slotB e.d N.n = true) (hds : depX o es.length e.ds = true)
    (h : ∀ ρ : Nat → Value × Blks, (∀ k ∈ e.ds, okX es ρ k) → GoodX P N w0 ops A (envX es ρ e.ds ++ lb) e.c (blkX ρ e.ds ++ Osh) o (e.φ (e.ds.map ρ))) : OblX P N w0 ops lb Osh A es i e := by
  unfold depX at hds
  rw [Bool.and_eq_true, List.all_eq_true] at hds
  refine ⟨o, ho, hd, fun d hd' => by rw [hd'] at hN; exact of_blt hN, fun k hk => ?_, nodup_ofB hds.2, h⟩
  have h1 := hds.1 k hk
  rw [Bool.and_eq_true, List.any_eq_true] at h1
  obtain ⟨h2, g, hg, hgb⟩ := h1
  rw [Bool.and_eq_true] at hgb
  exact ⟨of_blt h2, g, by simpa using hg, Nat.eq_of_beq_eq_true hgb.1, hgb.2⟩

/-- append, under a frame. -/
theorem opx_append {s x : Operand} {t e size m cx n cp : Nat} {p q : Option Addr} {xs news zs : List Value} {B : Blks}
    (hop : o.op = .call { callee := .builtin .append, args := #[s, x], argTypes := #[t, t] })
    (hs : ev l s = some (.slice p n cp)) (hx : ev l x = some (.slice q m cx)) (hT : P.underlying t = some (.slice e)) (hsz : sizeB P e = some size) (hzr : zeroB P e = some zs) (hzl : zs.length = size) (hpos : 0 < size)
    (hsl : Sl B e size p n cp xs) (hn : (m = 0 ∧ news = []) ∨ (0 < m ∧ ∃ bx ox, q = some ⟨bx, ox, none⟩ ∧ Lies keep A bx ox news)) (hnl : news.length = m * size) (h1 : flat news = true)
    (hlen : n + m ≤ 100000000000) (hby : ∃ i, P.info? e = some i ∧ i.bytes ≤ 1000) :
    OpX P N w0 l B keep A o (fun v B' => ∃ p' c', v = .slice p' (n + m) c' ∧ Sl B' e size p' (n + m) c' (xs ++ news)) := by
  intro F a w hst K Q hK
  have hcp : n ≤ cp := by
    rcases hsl.2 with ⟨_, rfl, rfl, _⟩ | ⟨g, cs, _, _, h, _⟩
    · exact Nat.le_refl _
    · exact h
  rcases hn with ⟨rfl, rfl⟩ | ⟨hm, bx, ox, rfl, hn⟩
  · refine op_append0 (size := size) hop hs hx hT hsz hcp a w hst K Q ?_
    rintro v w' hb hv
    exact hK v B w' ⟨p, cp, hv, by simpa using hsl⟩ (hst.ext hb)
  obtain ⟨info, z, hi, hz, hisz, hzc⟩ := info_of_siz hsz hzr
  obtain ⟨info', hi', hb⟩ := hby
  obtain rfl : info = info' := Option.some.inj (hi.symm.trans hi')
  have hown : ∀ b cs T, (b, cs, T) ∈ B → holds w b cs T := fun b cs T hm => (hst.ws.own b cs T (by simp [hm])).1
  have hbytes : (n + m) * info.bytes ≤ 140737488355328 := by
    have h2 : (n + m) * info.bytes ≤ 100000000000 * 1000 := Nat.mul_le_mul hlen hb
    omega
  have hn' : Lies (F ++ (B ++ keep)) A bx ox news := by
    obtain ⟨cs, hc, hh⟩ := hn
    refine ⟨cs, ?_, hh⟩
    rcases hc with ⟨T, hc⟩ | hc
    · exact .inl ⟨T, by simp [hc]⟩
    · exact .inr hc
  obtain ⟨g, cap, w', hr, h2, h3, h4, h5⟩ := run_append_lies (P := P) w t o.type 0 e info z size info.bytes hT hi hz hisz rfl (by rw [← Array.length_toList, hzc, hzl]) hpos
    (.slice p n cp) n xs (hsl.owns hown) ⟨bx, ox, none⟩ m cx news hnl (hn'.cell hst) (fun u hu => by unfold flat at h1; rw [List.all_eq_true] at h1; exact h1 u hu) hm (by unfold maxLen; omega) hbytes (Nat.zero_le _) _ rfl
  have hrun : (execOp a.eval o).run P w = .ok (.value (.slice (some ⟨g, 0, none⟩) (n + m) cap)) w' := by
    simp [execOp, hop, resolve, hst.eval hs, hst.eval hx, invoke, builtin, hr]
  refine opIn_of (fun c h => by rw [hop] at h; cases h) ?_
  rw [hrun]
  obtain ⟨cs', hsl', hh⟩ := Sl.of_owns h2
  refine hK _ _ w' ⟨_, cap, rfl, hsl'⟩ (hst.grown (fun k hk => ?_) h3 h4 hh)
  rcases hsl.2 with ⟨rfl, rfl, rfl, rfl⟩ | ⟨g0, cs, rfl, rfl, _⟩
  · simp [Value.ownBlock] at hk
  · simp only [Value.ownBlock, Option.some.injEq] at hk
    subst hk
    exact ⟨cs, e, by simp⟩
end
end Go.Sx
