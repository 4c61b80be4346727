/-
  A region that draws its order: whatever order its edges allow, each operation comes behind those that it names; so one look at each operation, over what those have left, is enough.
  Conditions: none; generic over the program.
-/
import Derived.Test.YtdpnadknaacinaaSx
namespace Go.Sx
open Go.RowKit Go.Region

def upd (D : Nat → Bool) (i : Nat) : Nat → Bool := fun k => if k = i then true else D k

def Ready (m : Region.Mode) (ops : Array Oper) (D : Nat → Bool) (i : Nat) : Prop :=
  i < ops.size ∧ D i = false ∧ ∀ o, ops[i]? = some o → ∀ e ∈ o.after, binds m e = true → D e.on = true

def Val (m : Region.Mode) (ops : Array Oper) : (Nat → Bool) → List Nat → Prop
  | D, [] => ∀ i, i < ops.size → D i = true
  | D, i :: is => Ready m ops D i ∧ Val m ops (upd D i) is

theorem Val.congr {m : Region.Mode} {ops : Array Oper} : ∀ (is : List Nat) {D D' : Nat → Bool}, (∀ i, i < ops.size → D i = D' i) → (∀ (i : Nat) (o : Oper), ops[i]? = some o → ∀ e ∈ o.after, e.on < ops.size) → Val m ops D is → Val m ops D' is
  | [], D, D', h, _, hv => fun i hi => by rw [← h i hi]; exact hv i hi
  | i :: is, D, D', h, hon, ⟨⟨h1, h2, h3⟩, hv⟩ => by
    refine ⟨⟨h1, by rw [← h i h1]; exact h2, ?_⟩, ?_⟩
    · intro o ho e he hb
      rw [← h _ (hon i o ho e he)]
      exact h3 o ho e he hb
    · refine Val.congr is (D := upd D i) ?_ hon hv
      intro k hk
      simp only [upd]
      split
      · rfl
      · exact h k hk

/-- Each edge leads to an operation that stands before. -/
def backB (ops : Array Oper) : Bool := ops.toList.zipIdx.all fun (o, i) => o.after.toList.all fun e => Nat.blt e.on i

theorem back_of {ops : Array Oper} (h : backB ops = true) {i : Nat} {o : Oper} (ho : ops[i]? = some o) {e : Edge} (he : e ∈ o.after) : e.on < i := by
  unfold backB at h
  rw [List.all_eq_true] at h
  have hm : (o, i) ∈ ops.toList.zipIdx := by
    rw [List.mem_zipIdx_iff_getElem?]
    simpa using ho
  have := h (o, i) hm
  simp only [List.all_eq_true] at this
  have := this e (by simpa using he)
  simpa [Nat.blt_eq] using this

def BackM (m : Region.Mode) (ops : Array Oper) : Prop := ∀ (i : Nat) (o : Oper), ops[i]? = some o → ∀ e ∈ o.after, (binds m e = true → e.on < i) ∧ e.on < ops.size
theorem lt_size {ops : Array Oper} {k : Nat} {o : Oper} (ho : ops[k]? = some o) : k < ops.size := by
  rcases Nat.lt_or_ge k ops.size with h3 | h3
  · exact h3
  · rw [Array.getElem?_eq_none h3] at ho; cases ho
theorem backM_of {m : Region.Mode} {ops : Array Oper} (h : backB ops = true) : BackM m ops := fun i o ho e he =>
  ⟨fun _ => back_of h ho he, Nat.lt_trans (back_of h ho he) (lt_size ho)⟩
/-- .. of the edges that bind whatever order is drawn. -/
def backA (ops : Array Oper) : Bool := ops.toList.zipIdx.all fun (o, i) => o.after.toList.all fun e => (!(binds .any e) || Nat.blt e.on i) && Nat.blt e.on ops.size
theorem backA_of {ops : Array Oper} (h : backA ops = true) : BackM .any ops := by
  intro i o ho e he
  unfold backA at h
  rw [List.all_eq_true] at h
  have hm : (o, i) ∈ ops.toList.zipIdx := by
    rw [List.mem_zipIdx_iff_getElem?]
    simpa using ho
  have := h (o, i) hm
  simp only [List.all_eq_true] at this
  have := this e (by simpa using he)
  simp only [Bool.and_eq_true, Bool.or_eq_true, Bool.not_eq_eq_eq_not, Bool.not_true, Nat.blt_eq] at this
  refine ⟨fun hb => ?_, this.2⟩
  rcases this.1 with h1 | h1
  · rw [hb] at h1; cases h1
  · exact h1

theorem ready_min {m : Region.Mode} {ops : Array Oper} (h : BackM m ops) (D : Nat → Bool) (hex : ∃ i, i < ops.size ∧ D i = false) : ∃ i, Ready m ops D i := by
  obtain ⟨i, hi⟩ := hex
  induction i using Nat.strongRecOn with
  | _ i ih =>
    by_cases hall : ∀ k, k < i → D k = true
    · exact ⟨i, hi.1, hi.2, fun o ho e he hbd => hall _ ((h i o ho e he).1 hbd)⟩
    · simp only [Classical.not_forall] at hall
      obtain ⟨k, hk, hD⟩ := hall
      exact ih k hk ⟨by omega, by simpa using hD⟩

theorem go_valid {m : Region.Mode} {ops : Array Oper} (hb : BackM m ops) : ∀ (fuel t : Nat) (listed : Array Bool) (acc : List Nat), listed.size = ops.size →
    ((List.range ops.size).filter fun i => !listed.getD i true).length = fuel →
    ∃ rest, linearise.go m ops fuel t listed acc = acc.reverse ++ rest ∧ Val m ops (fun i => listed.getD i false) rest
  | 0, t, listed, acc, hs, hf => by
    refine ⟨[], by simp [linearise.go], ?_⟩
    intro i hi
    have h0 := List.length_eq_zero_iff.1 hf
    rw [List.filter_eq_nil_iff] at h0
    have := h0 i (List.mem_range.2 hi)
    have hi' : i < listed.size := by omega
    simp [hi'] at this ⊢
    exact this
  | fuel + 1, t, listed, acc, hs, hf => by
    have hne : ∃ i, i < ops.size ∧ listed.getD i false = false := by
      have : ((List.range ops.size).filter fun i => !listed.getD i true) ≠ [] := by intro e; rw [e] at hf; simp at hf
      obtain ⟨i, hi⟩ := List.exists_mem_of_ne_nil _ this
      rw [List.mem_filter, List.mem_range] at hi
      have hi' : i < listed.size := by omega
      refine ⟨i, hi.1, ?_⟩
      have := hi.2
      simp [hi'] at this ⊢
      exact this
    obtain ⟨i0, hr1, hr2, hr3⟩ := ready_min (m := m) hb (fun i => listed.getD i false) hne
    simp only [linearise.go]
    generalize hrs : ((List.range ops.size).filter fun i => !listed.getD i true && ((ops[i]?).map (·.after.all fun e => !binds m e || listed.getD e.on false)).getD false) = rs
    have hmem : i0 ∈ rs := by
      rw [← hrs, List.mem_filter, List.mem_range]
      refine ⟨hr1, ?_⟩
      obtain ⟨o, ho⟩ : ∃ o, ops[i0]? = some o := ⟨ops[i0], by simp [hr1]⟩
      have hi' : i0 < listed.size := by omega
      have h2 : listed.getD i0 true = false := by simp [hi'] at hr2 ⊢; exact hr2
      rw [h2, ho]
      simp only [Bool.not_false, Bool.true_and, Option.map_some, Option.getD_some, Array.all_eq_true']
      intro e he
      by_cases hbd : binds m e = true
      · have h9 := hr3 o ho e he hbd
        simp only at h9
        rw [h9]; simp
      · simp [hbd]
    have hpos : 0 < rs.length := List.length_pos_of_mem hmem
    have hlt : t % rs.length < rs.length := Nat.mod_lt _ hpos
    rw [List.getElem?_eq_getElem hlt]
    simp only
    generalize hi : rs[t % rs.length] = i
    have him : i ∈ rs := by rw [← hi]; exact List.getElem_mem hlt
    rw [← hrs, List.mem_filter, List.mem_range] at him
    obtain ⟨hin, him2⟩ := him
    rw [Bool.and_eq_true] at him2
    have hil : i < listed.size := by omega
    have hD : listed[i] = false := by have := him2.1; simp [hil] at this; exact this
    have hset : ∀ k, (listed.setIfInBounds i true).getD k false = upd (fun k => listed.getD k false) i k := by
      intro k
      simp only [upd, Array.getD_eq_getD_getElem?, Array.getElem?_setIfInBounds]
      by_cases e : i = k
      · subst e; simp [hil]
      · rw [if_neg e, if_neg (fun h => e h.symm)]
    have hcount : ((List.range ops.size).filter fun k => !(listed.setIfInBounds i true).getD k true).length = fuel := by
      have h1 : ((List.range ops.size).filter fun k => !(listed.setIfInBounds i true).getD k true) = ((List.range ops.size).filter fun k => !listed.getD k true).erase i := by
        rw [List.Nodup.erase_eq_filter (List.Pairwise.filter _ List.nodup_range), List.filter_filter]
        apply List.filter_congr
        intro k hk
        rw [List.mem_range] at hk
        simp only [Array.getD_eq_getD_getElem?, Array.getElem?_setIfInBounds]
        by_cases e : i = k
        · subst e; simp [hil]
        · rw [if_neg e]
          have : (k != i) = true := by simpa using fun h => e h.symm
          rw [this, Bool.true_and]
      rw [h1, List.length_erase_of_mem, hf]
      · rfl
      · rw [List.mem_filter, List.mem_range]; exact ⟨hin, him2.1⟩
    obtain ⟨rest, hgo, hval⟩ := go_valid hb fuel (t / rs.length) (listed.setIfInBounds i true) (i :: acc) (by simpa using hs) hcount
    refine ⟨i :: rest, by rw [hgo]; simp, ⟨hin, by simp [hil, hD], ?_⟩, ?_⟩
    · intro o ho e he hbd
      have := him2.2
      rw [ho] at this
      simp only [Option.map_some, Option.getD_some, Array.all_eq_true'] at this
      have := this e he
      rw [hbd] at this
      simpa using this
    · refine Val.congr rest (fun k _ => hset k) ?_ hval
      intro k o ho e he
      exact (hb k o ho e he).2

theorem line_valid {m : Region.Mode} {ops : Array Oper} (hb : BackM m ops) (t : Nat) : Val m ops (fun _ => false) (linearise m ops t) := by
  obtain ⟨rest, h1, h2⟩ := go_valid (m := m) hb ops.size t (Array.replicate ops.size false) [] (by simp) (by
    have : ((List.range ops.size).filter fun i => !(Array.replicate ops.size false).getD i true) = List.range ops.size := by
      rw [List.filter_eq_self]
      intro i hi
      rw [List.mem_range] at hi
      simp [hi]
    rw [this]; simp)
  unfold linearise
  rw [h1]
  refine Val.congr rest (D := fun i => (Array.replicate ops.size false).getD i false) ?_ ?_ h2
  · intro i hi; simp [hi]
  · intro k o ho e he
    exact (hb k o ho e he).2

theorem schedule_any {mixed : Bool} {ops : Array Oper} (hm : mixed = true) (hb : backA ops = true) (t : Nat) : Val .any ops (fun _ => false) (Region.schedule mixed ops t) := by
  unfold Region.schedule
  rw [hm]
  exact line_valid (backA_of hb) t

theorem schedule_valid {mixed : Bool} {ops : Array Oper} (hb : backB ops = true) (t : Nat) : ∃ m, Val m ops (fun _ => false) (Region.schedule mixed ops t) := by
  have key : ∀ m t, Val m ops (fun _ => false) (linearise m ops t) := fun m t => line_valid (backM_of hb) t
  unfold Region.schedule
  split
  · exact ⟨_, key _ _⟩
  · split <;> exact ⟨_, key _ _⟩


/-! ### One look at each operation -/

abbrev Ent := Option (Sum Value ((Nat → Value) × List Value × Nat))
/-- An operation, its slot, what it leaves: nothing (it was passed over), a value, or a new block and a value that leads there. -/
abbrev Ents := List (Nat × Nat × Ent)

def findE : Ents → Nat → Option (Nat × Ent)
  | [], _ => none
  | (i, x) :: r, k => bif Nat.beq i k then some x else findE r k

def envD (es : Ents) (ν : Nat → Nat) : List Nat → Env
  | [] => []
  | j :: js => match findE es j with
    | some (d, some (.inl x)) => (d, x) :: envD es ν js
    | some (d, some (.inr (mk, _, _))) => (d, mk (ν j)) :: envD es ν js
    | _ => envD es ν js

def blkD (es : Ents) (ν : Nat → Nat) : List Nat → Blks
  | [] => []
  | j :: js => match findE es j with
    | some (_, some (.inr (_, cs, T))) => (ν j, cs, T) :: blkD es ν js
    | _ => blkD es ν js

/-- The keys go down from the length. -/
def WF : Ents → Prop
  | [] => True
  | (i, _) :: r => i = r.length ∧ WF r

theorem findE_lt : ∀ {es : Ents}, WF es → ∀ {k : Nat} {x : Nat × Ent}, findE es k = some x → k < es.length
  | [], _, k, x, h => by simp [findE] at h
  | (i, y) :: r, hw, k, x, h => by
    simp only [findE] at h
    cases hb : Nat.beq i k with
    | true => have := Nat.eq_of_beq_eq_true hb; have := hw.1; simp; omega
    | false =>
      rw [hb] at h
      have := findE_lt hw.2 (by simpa using h)
      simp; omega

theorem findE_ext {es : Ents} {e : Nat × Nat × Ent} (hw : WF (e :: es)) {k : Nat} (hk : k < es.length) : findE (e :: es) k = findE es k := by
  obtain ⟨i, y⟩ := e
  have h1 := hw.1
  simp only [findE]
  cases hb : Nat.beq i k with
  | true => have := Nat.eq_of_beq_eq_true hb; omega
  | false => rfl

theorem envD_ext {es : Ents} {e : Nat × Nat × Ent} (hw : WF (e :: es)) (ν : Nat → Nat) : ∀ (ds : List Nat), (∀ k ∈ ds, k < es.length) → envD (e :: es) ν ds = envD es ν ds
  | [], _ => rfl
  | j :: js, h => by simp only [envD]; rw [findE_ext hw (h j (by simp)), envD_ext hw ν js (fun k hk => h k (by simp [hk]))]
theorem blkD_ext {es : Ents} {e : Nat × Nat × Ent} (hw : WF (e :: es)) (ν : Nat → Nat) : ∀ (ds : List Nat), (∀ k ∈ ds, k < es.length) → blkD (e :: es) ν ds = blkD es ν ds
  | [], _ => rfl
  | j :: js, h => by simp only [blkD]; rw [findE_ext hw (h j (by simp)), blkD_ext hw ν js (fun k hk => h k (by simp [hk]))]

section
variable (P : Program) (N : Cx) (w0 : World) (ops : Array Oper) (lb : Env) (O : Blks) (A : Args)

def Good (o : Oper) (l : Env) (O' : Blks) : Ent → Prop
  | none => wantsB ops l o = some false
  | some (.inl x) => (wantsB ops l o = some true ∧ OpV P N w0 l O' A o (pv x)) ∨ (wantsB ops l o = some false ∧ x = undef)
  | some (.inr (mk, cs, T)) => wantsB ops l o = some true ∧ OpV P N w0 l O' A o (Res mk (fun b => [(b, cs, T)]) (fun _ => True))

/-- What is to be shown of operation i, slot d, leaving e, over what those before it have left. -/
def Obl (es : Ents) (i d : Nat) (e : Ent) : Prop :=
  ∃ o ds, ops[i]? = some o ∧ o.dst = some d ∧ Nat.blt d N.n = true ∧ (∀ k ∈ ds, k < i ∧ ∃ g ∈ o.after, g.on = k ∧ binds .any g = true) ∧ ds.Nodup ∧
    ∀ ν : Nat → Nat, Good P N w0 ops A o (envD es ν ds ++ lb) (blkD es ν ds ++ O) e

def Obls : Ents → Prop
  | [] => True
  | (i, d, e) :: es => Obl P N w0 ops lb O A es i d e ∧ Obls es
end

section
variable {P : Program} {N : Cx} {w0 : World} {ops : Array Oper} {lb : Env} {O : Blks} {A : Args}

theorem get_append : ∀ (l l' : Env) (t : Nat) (v : Value), get (l ++ l') t = some v → (t, v) ∈ l ∨ get l' t = some v
  | [], l', t, v, h => .inr h
  | (k, u) :: l, l', t, v, h => by
    simp only [List.cons_append, get] at h
    cases hb : Nat.beq k t with
    | true =>
      rw [hb] at h; simp only [cond_true, Option.some.injEq] at h
      have := Nat.eq_of_beq_eq_true hb; subst this; subst h
      exact .inl (by simp)
    | false =>
      rw [hb] at h
      rcases get_append l l' t v (by simpa using h) with h1 | h1
      · exact .inl (by simp [h1])
      · exact .inr h1

/-- What holds in the middle of the region. -/
structure Mid (P : Program) (N : Cx) (w0 : World) (ops : Array Oper) (lb : Env) (O : Blks) (A : Args) (es : Ents) (B : Nat) (ν : Nat → Nat) (D : Nat → Bool) (a : Act) (w : World) : Prop where
  st : St N w0 lb O A a w
  start : B ≤ w.heap.size
  old : ∀ (b : Nat) (cs : List Value) (T : TypeId), (b, cs, T) ∈ O → b < B
  base : w0.heap.size ≤ B
  env : ∀ i d x, D i = true → findE es i = some (d, some (.inl x)) → a.tmps[d]? = some x
  env' : ∀ i d mk cs T, D i = true → findE es i = some (d, some (.inr (mk, cs, T))) → a.tmps[d]? = some (mk (ν i)) ∧ holds w (ν i) cs T ∧ B ≤ ν i
  inj : ∀ i j d mk cs T d' mk' cs' T', D i = true → D j = true → i ≠ j → findE es i = some (d, some (.inr (mk, cs, T))) → findE es j = some (d', some (.inr (mk', cs', T'))) → ν i ≠ ν j

theorem mem_envD {es : Ents} {ν : Nat → Nat} : ∀ (ds : List Nat) {t : Nat} {v : Value}, (t, v) ∈ envD es ν ds →
    ∃ j ∈ ds, (findE es j = some (t, some (.inl v))) ∨ ∃ mk cs T, findE es j = some (t, some (.inr (mk, cs, T))) ∧ v = mk (ν j)
  | [], t, v, h => by simp [envD] at h
  | j :: js, t, v, h => by
    simp only [envD] at h
    split at h
    · rename_i d x hf
      rcases List.mem_cons.1 h with h1 | h1
      · cases h1; exact ⟨j, by simp, .inl hf⟩
      · obtain ⟨k, hk, hh⟩ := mem_envD js h1; exact ⟨k, by simp [hk], hh⟩
    · rename_i d mk cs T hf
      rcases List.mem_cons.1 h with h1 | h1
      · cases h1; exact ⟨j, by simp, .inr ⟨mk, cs, T, hf, rfl⟩⟩
      · obtain ⟨k, hk, hh⟩ := mem_envD js h1; exact ⟨k, by simp [hk], hh⟩
    · obtain ⟨k, hk, hh⟩ := mem_envD js h; exact ⟨k, by simp [hk], hh⟩

theorem mem_blkD {es : Ents} {ν : Nat → Nat} : ∀ (ds : List Nat) {b : Nat} {cs : List Value} {T : TypeId}, (b, cs, T) ∈ blkD es ν ds →
    ∃ j ∈ ds, b = ν j ∧ ∃ d mk, findE es j = some (d, some (.inr (mk, cs, T)))
  | [], b, cs, T, h => by simp [blkD] at h
  | j :: js, b, cs, T, h => by
    simp only [blkD] at h
    split at h
    · rename_i d mk cs' T' hf
      rcases List.mem_cons.1 h with h1 | h1
      · cases h1; exact ⟨j, by simp, rfl, d, mk, hf⟩
      · obtain ⟨k, hk, hh⟩ := mem_blkD js h1; exact ⟨k, by simp [hk], hh⟩
    · obtain ⟨k, hk, hh⟩ := mem_blkD js h; exact ⟨k, by simp [hk], hh⟩

theorem Mid.nodup {es : Ents} {B : Nat} {ν : Nat → Nat} {D : Nat → Bool} {a : Act} {w : World} (h : Mid P N w0 ops lb O A es B ν D a w) : ∀ (ds : List Nat), (∀ k ∈ ds, D k = true) → ds.Nodup → ((blkD es ν ds ++ O).map (·.1)).Nodup
  | [], _, _ => by simpa [blkD] using h.st.nodup
  | j :: js, hD, hn => by
    rw [List.nodup_cons] at hn
    have ih := h.nodup js (fun k hk => hD k (by simp [hk])) hn.2
    simp only [blkD]
    split
    · rename_i d mk cs T hf
      rw [List.cons_append, List.map_cons, List.nodup_cons]
      refine ⟨?_, ih⟩
      intro hm
      rw [List.map_append, List.mem_append] at hm
      rcases hm with hm | hm
      · obtain ⟨⟨b, cs', T'⟩, hb, e⟩ := List.mem_map.1 hm
        obtain ⟨k, hk, e', d', mk', hf'⟩ := mem_blkD js hb
        have hne : j ≠ k := fun e2 => hn.1 (e2 ▸ hk)
        exact h.inj j k _ _ _ _ _ _ _ _ (hD j (by simp)) (hD k (by simp [hk])) hne hf hf' (by simp only at e; rw [← e, e'])
      · obtain ⟨⟨b, cs', T'⟩, hb, e⟩ := List.mem_map.1 hm
        have h1 := h.old b cs' T' hb
        have h2 := (h.env' j d mk cs T (hD j (by simp)) hf).2.2
        simp only at e
        omega
    · exact ih

theorem Mid.sub {es : Ents} {B : Nat} {ν : Nat → Nat} {D : Nat → Bool} {a : Act} {w : World} (h : Mid P N w0 ops lb O A es B ν D a w) (ds : List Nat) (hD : ∀ k ∈ ds, D k = true) (hn : ds.Nodup) :
    St N w0 (envD es ν ds ++ lb) (blkD es ν ds ++ O) A a w := by
  refine ⟨h.st.size, h.st.noDef, h.st.bel, ?_, ?_, h.nodup ds hD hn, h.st.arg, h.st.marked⟩
  · intro t v hg
    rcases get_append _ _ t v hg with h1 | h1
    · obtain ⟨j, hj, h2 | ⟨mk, cs, T, h2, rfl⟩⟩ := mem_envD ds h1
      · exact h.env j t v (hD j hj) h2
      · exact (h.env' j t mk cs T (hD j hj) h2).1
    · exact h.st.env t v h1
  · intro j b cs T hj
    rcases List.mem_append.1 (List.mem_of_getElem? hj) with h1 | h1
    · obtain ⟨k, hk, rfl, d, mk, hf⟩ := mem_blkD ds h1
      obtain ⟨_, h2, h3⟩ := h.env' k d mk cs T (hD k hk) hf
      exact ⟨h2, .inl (Nat.le_trans h.base h3)⟩
    · obtain ⟨i, hi⟩ := List.mem_iff_getElem?.1 h1
      exact h.st.own i b cs T hi

/-- The slots that the region writes. -/
def slots : Ents → List Nat
  | [] => []
  | (_, d, _) :: r => d :: slots r

def dropK (ds : List Nat) : Env → Env
  | [] => []
  | (k, v) :: r => bif ds.any (Nat.beq k) then dropK ds r else (k, v) :: dropK ds r

theorem get_dropK (ds : List Nat) : ∀ (l : Env) (t : Nat) (v : Value), get (dropK ds l) t = some v → t ∉ ds ∧ get l t = some v
  | [], t, v, h => by simp [dropK, get] at h
  | (k, u) :: l, t, v, h => by
    simp only [dropK] at h
    cases ha : ds.any (Nat.beq k) with
    | true =>
      rw [ha] at h
      obtain ⟨h1, h2⟩ := get_dropK ds l t v (by simpa using h)
      refine ⟨h1, ?_⟩
      simp only [get]
      cases hb : Nat.beq k t with
      | true =>
        have := Nat.eq_of_beq_eq_true hb; subst this
        rw [List.any_eq_true] at ha
        obtain ⟨d, hd, hd'⟩ := ha
        have := Nat.eq_of_beq_eq_true hd'; subst this
        exact absurd hd h1
      | false => simpa using h2
    | false =>
      rw [ha] at h
      simp only [cond_false, get] at h ⊢
      cases hb : Nat.beq k t with
      | true =>
        rw [hb] at h
        refine ⟨?_, by simpa using h⟩
        intro hm
        have := Nat.eq_of_beq_eq_true hb; subst this
        rw [List.any_eq_false] at ha
        exact ha k hm (Nat.beq_refl k)
      | false =>
        rw [hb] at h
        obtain ⟨h1, h2⟩ := get_dropK ds l t v (by simpa using h)
        exact ⟨h1, by simpa using h2⟩

theorem obls_at : ∀ {es : Ents}, WF es → Obls P N w0 ops lb O A es → ∀ i, i < es.length → ∃ d e, findE es i = some (d, e) ∧ ∃ o ds, ops[i]? = some o ∧ o.dst = some d ∧ Nat.blt d N.n = true ∧
    (∀ k ∈ ds, k < i ∧ ∃ g ∈ o.after, g.on = k ∧ binds .any g = true) ∧ ds.Nodup ∧
    ∀ ν : Nat → Nat, Good P N w0 ops A o (envD es ν ds ++ lb) (blkD es ν ds ++ O) e
  | [], _, _, i, h => by simp at h
  | (j, d, e) :: es, hw, ⟨ho, hos⟩, i, h => by
    by_cases e1 : i = es.length
    · subst e1
      have hw2 := hw
      obtain ⟨rfl, hw'⟩ := hw
      refine ⟨d, e, by simp [findE, Nat.beq_refl], ?_⟩
      obtain ⟨o, ds, h1, h2, h3, h4, h5, h6⟩ := ho
      refine ⟨o, ds, h1, h2, h3, h4, h5, fun ν => ?_⟩
      rw [envD_ext hw2 ν ds (fun k hk => (h4 k hk).1), blkD_ext hw2 ν ds (fun k hk => (h4 k hk).1)]
      exact h6 ν
    · have hlt : i < es.length := by simp at h; omega
      obtain ⟨d', e', hf, o, ds, h1, h2, h3, h4, h5, h6⟩ := obls_at hw.2 hos i hlt
      refine ⟨d', e', by rw [findE_ext hw hlt]; exact hf, o, ds, h1, h2, h3, h4, h5, fun ν => ?_⟩
      have hds : ∀ k ∈ ds, k < es.length := fun k hk => Nat.lt_trans (h4 k hk).1 hlt
      rw [envD_ext hw ν ds hds, blkD_ext hw ν ds hds]
      exact h6 ν

theorem blt_of {i n : Nat} (h : i < n) : Nat.blt i n = true := by simpa [Nat.blt_eq] using h
theorem of_blt {i n : Nat} (h : Nat.blt i n = true) : i < n := by simpa [Nat.blt_eq] using h

theorem binds_any {m : Region.Mode} {g : Edge} (h : binds .any g = true) : binds m g = true := by
  unfold binds at h ⊢
  cases hg : g.ground <;> rw [hg] at h <;> first | rfl | (exact absurd h (by simp; done)) | (exact absurd h (by decide))

theorem mem_slots : ∀ {es : Ents} {i d : Nat} {e : Ent}, findE es i = some (d, e) → d ∈ slots es
  | [], i, d, e, h => by simp [findE] at h
  | (j, d', e') :: es, i, d, e, h => by
    simp only [findE] at h
    cases hb : Nat.beq j i with
    | true => rw [hb] at h; simp at h; simp [slots, h.1]
    | false => rw [hb] at h; simp [slots, mem_slots (by simpa using h : findE es i = some (d, e))]

theorem slots_inj : ∀ {es : Ents}, (slots es).Nodup → ∀ {i j d : Nat} {e e' : Ent}, findE es i = some (d, e) → findE es j = some (d, e') → i = j
  | [], _, i, j, d, e, e', h, _ => by simp [findE] at h
  | (k, d', x) :: es, hn, i, j, d, e, e', h, h' => by
    simp only [slots, List.nodup_cons] at hn
    simp only [findE] at h h'
    cases hb : Nat.beq k i with
    | true =>
      rw [hb] at h
      simp only [cond_true, Option.some.injEq, Prod.mk.injEq] at h
      cases hb' : Nat.beq k j with
      | true => rw [← Nat.eq_of_beq_eq_true hb, ← Nat.eq_of_beq_eq_true hb']
      | false =>
        rw [hb'] at h'
        have := mem_slots (by simpa using h' : findE es j = some (d, e'))
        rw [← h.1] at this
        exact absurd this hn.1
    | false =>
      rw [hb] at h
      have h2 : findE es i = some (d, e) := by simpa using h
      cases hb' : Nat.beq k j with
      | true =>
        rw [hb'] at h'
        simp only [cond_true, Option.some.injEq, Prod.mk.injEq] at h'
        have := mem_slots h2
        rw [← h'.1] at this
        exact absurd this hn.1
      | false => rw [hb'] at h'; exact slots_inj hn.2 h2 (by simpa using h')

/-- From n on each operation comes behind all that stand before it. -/
def Tail (ops : Array Oper) (n : Nat) : Prop := ∀ (i : Nat) (o : Oper), n ≤ i → ops[i]? = some o → ∀ k, k < i → ∃ g ∈ o.after, binds .any g = true ∧ (g.on = k ∨ (n ≤ g.on ∧ k < g.on))

theorem tail_done {ops : Array Oper} {n : Nat} {m : Region.Mode} {D : Nat → Bool} {i : Nat} {o : Oper} (ht : Tail ops n) (hDn : ∀ i, D i = true → i < n) (hi : n ≤ i) (ho : ops[i]? = some o) (h3 : ∀ g ∈ o.after, binds m g = true → D g.on = true) : ∀ k, k < i → D k = true := by
  intro k hk
  obtain ⟨g, hg, hgb, hgk⟩ := ht i o hi ho k hk
  have h1 := h3 g hg (binds_any hgb)
  rcases hgk with e | ⟨h2, _⟩
  · rw [← e]; exact h1
  · have := hDn _ h1; omega

theorem eq_blt {D : Nat → Bool} {n : Nat} (h1 : ∀ i, D i = true → i < n) (h2 : ∀ i, i < n → D i = true) : D = fun i => Nat.blt i n := by
  funext i
  by_cases h : i < n
  · rw [h2 i h]; exact (blt_of h).symm
  · cases hd : D i with
    | true => exact absurd (h1 i hd) h
    | false =>
      cases hb : Nat.blt i n with
      | true => exact absurd (of_blt hb) h
      | false => rfl

theorem forced {ops : Array Oper} {m : Region.Mode} {n : Nat} (ht : Tail ops n) : ∀ (is : List Nat) (D : Nat → Bool) (j : Nat), n ≤ j → j ≤ ops.size → (∀ k, D k = true ↔ k < j) → Val m ops D is → is = List.range' j (ops.size - j)
  | [], D, j, _, hj, hD, hv => by
    have : ops.size - j = 0 := by
      rcases Nat.lt_or_ge j ops.size with h1 | h1
      · have := (hD j).1 (hv j h1); omega
      · omega
    rw [this]; rfl
  | i :: is, D, j, hnj, hj, hD, ⟨⟨h1, h2, h3⟩, hv⟩ => by
    have hij : i = j := by
      have hge : j ≤ i := by
        rcases Nat.lt_or_ge i j with h4 | h4
        · have := (hD i).2 h4; rw [h2] at this; cases this
        · exact h4
      rcases Nat.lt_or_ge j i with h4 | h4
      · obtain ⟨o, ho⟩ : ∃ o, ops[i]? = some o := ⟨ops[i], by simp [h1]⟩
        obtain ⟨g, hg, hgb, hgk⟩ := ht i o (by omega) ho j h4
        have h5 := h3 o ho g hg (binds_any hgb)
        have h6 := (hD g.on).1 h5
        omega
      · omega
    subst hij
    have ih := forced ht is (upd D i) (i + 1) (by omega) (by omega) (by
      intro k
      simp only [upd]
      split
      · rename_i e; rw [e]; simp
      · rename_i e; rw [hD k]; omega) hv
    have : ops.size - i = (ops.size - (i + 1)) + 1 := by omega
    rw [this, List.range'_succ, ← ih]

/-- All orders: by induction on what is left. -/
theorem mid_runs {es : Ents} {B n : Nat} {m : Region.Mode} {Q : Exit → Act → World → Prop} (hw : WF es) (hlen : es.length = n) (hle : n ≤ ops.size) (htail : Tail ops n) (hob : Obls P N w0 ops lb O A es) (hn : (slots es).Nodup)
    (hlb : ∀ t v, get lb t = some v → t ∉ slots es)
    (hQ : ∀ ν a w, Mid P N w0 ops lb O A es B ν (fun i => Nat.blt i n) a w → wpOpsIn (Fr N.r) 0 P ops Q (List.range' n (ops.size - n)) a w) :
    ∀ (is : List Nat) (ν : Nat → Nat) (D : Nat → Bool) (a : Act) (w : World), (∀ i, D i = true → i < n) → Val m ops D is → Mid P N w0 ops lb O A es B ν D a w → wpOpsIn (Fr N.r) 0 P ops Q is a w
  | [], ν, D, a, w, hDn, hv, hm => by
    have hall : ∀ i, i < n → D i = true := fun i hi => hv i (Nat.lt_of_lt_of_le hi hle)
    have := hQ ν a w (eq_blt hDn hall ▸ hm)
    have h0 : ops.size - n = 0 := by
      rcases Nat.lt_or_ge n ops.size with h1 | h1
      · exact absurd (hDn n (hv n h1)) (Nat.lt_irrefl n)
      · omega
    rw [h0] at this
    exact this
  | i :: is, ν, D, a, w, hDn, ⟨⟨hr1, hr2, hr3⟩, hv⟩, hm => by
    by_cases hin : i < n
    case neg =>
      have hall : ∀ k, k < i → D k = true := by
        intro k hk
        obtain ⟨o, ho⟩ : ∃ o, ops[i]? = some o := ⟨ops[i], by simp [hr1]⟩
        exact tail_done htail hDn (by omega) ho (fun g hg hb => hr3 o ho g hg hb) k hk
      have hDe := eq_blt hDn (fun k hk => hall k (by omega))
      have hfor := forced htail (i :: is) D n (Nat.le_refl _) hle (fun k => ⟨fun h => hDn k h, fun h => hall k (by omega)⟩) ⟨⟨hr1, hr2, hr3⟩, hv⟩
      rw [hfor]
      exact hQ ν a w (hDe ▸ hm)
    obtain ⟨d, e, hf, o, ds, ho, hd, hN, hds, hnd, hgood⟩ := obls_at hw hob i (by omega)
    have hD : ∀ k ∈ ds, D k = true := by
      intro k hk
      obtain ⟨_, g, hg, hgk, hgb⟩ := hds k hk
      rw [← hgk]
      exact hr3 o ho g hg (binds_any hgb)
    have hst := hm.sub ds hD hnd
    have hDn' : ∀ k, upd D i k = true → k < n := by
      intro k hk
      simp only [upd] at hk
      split at hk
      · rename_i e; rw [e]; exact hin
      · exact hDn k hk
    have hdlt : d < N.n := of_blt hN
    have hbase : ∀ t v, get lb t = some v → t ≠ d := fun t v hg e2 => hlb t v hg (e2 ▸ mem_slots hf)
    have hputne : ∀ (v : Value) (t : Nat), t ≠ d → (a.put (some d) v).tmps[t]? = a.tmps[t]? := by
      intro v t ht
      simp only [Act.put]
      exact Array.getElem?_setIfInBounds_ne (fun h => ht h.symm)
    have hputd : ∀ (v : Value), (a.put (some d) v).tmps[d]? = some v := by
      intro v
      have := hm.st.size
      simp [Act.put, this, hdlt]
    have hDne : ∀ k, D k = true → k ≠ i := fun k hk e => by rw [e, hr2] at hk; cases hk
    have hne : ∀ {k d' : Nat} {x : Ent}, D k = true → findE es k = some (d', x) → d' ≠ d := fun hk hfk e => hDne _ hk (slots_inj hn (e ▸ hfk) hf)
    have stput : ∀ (v : Value) {w' : World}, Below w.heap.size w w' → St N w0 lb O A (a.put (some d) v) w' := by
      intro v w' hb
      have h1 := hm.st.ext hb
      refine ⟨?_, h1.noDef, h1.bel, ?_, h1.own, h1.nodup, h1.arg, h1.marked⟩
      · simp [Act.put, h1.size]
      · intro t u hg
        rw [hputne v t (hbase t u hg)]
        exact h1.env t u hg
    have hwant : ∀ r, wantsB ops (envD es ν ds ++ lb) o = some r → Region.wanted o (yielded ops a.tmps) = r := fun r h => wanted_of hst h
    simp only [wpOpsIn, ho]
    have keep : ∀ {w' : World}, Below w.heap.size w w' → ∀ {k : Nat} {cs : List Value} {T : TypeId}, holds w k cs T → holds w' k cs T := by
      intro w' hb k cs T h
      unfold holds
      rw [hb.block k h.lt]; exact h
    match e, hf, hgood ν with
    | none, hf, hg =>
      have hg' : wantsB ops (envD es ν ds ++ lb) o = some false := hg
      rw [hwant _ hg', hd]
      simp only [Bool.false_eq_true, if_false]
      refine ⟨fun _ _ => trivial, ?_⟩
      refine mid_runs hw hlen hle htail hob hn hlb hQ is ν (upd D i) _ w hDn' hv ⟨stput _ (Below.refl _ _), hm.start, hm.old, hm.base, ?_, ?_, ?_⟩
      · intro k d' x hk hfk
        simp only [upd] at hk
        split at hk
        · rename_i e; rw [e, hf] at hfk; simp at hfk
        · rw [hputne _ _ (hne hk hfk)]; exact hm.env k d' x hk hfk
      · intro k d' mk cs T hk hfk
        simp only [upd] at hk
        split at hk
        · rename_i e; rw [e, hf] at hfk; simp at hfk
        · rw [hputne _ _ (hne hk hfk)]; exact hm.env' k d' mk cs T hk hfk
      · intro k j d1 mk1 cs1 T1 d2 mk2 cs2 T2 hk hj hkj hfk hfj
        simp only [upd] at hk hj
        split at hk
        · rename_i e; rw [e, hf] at hfk; simp at hfk
        · split at hj
          · rename_i e; rw [e, hf] at hfj; simp at hfj
          · exact hm.inj k j _ _ _ _ _ _ _ _ hk hj hkj hfk hfj
    | some (.inl x), hf, hg =>
      have hg' : (wantsB ops (envD es ν ds ++ lb) o = some true ∧ OpV P N w0 (envD es ν ds ++ lb) (blkD es ν ds ++ O) A o (pv x)) ∨ (wantsB ops (envD es ν ds ++ lb) o = some false ∧ x = undef) := hg
      have next : ∀ w', Below w.heap.size w w' → wpOpsIn (Fr N.r) 0 P ops Q is (a.put (some d) x) w' := by
        intro w' hb
        refine mid_runs hw hlen hle htail hob hn hlb hQ is ν (upd D i) _ w' hDn' hv ⟨stput _ hb, Nat.le_trans hm.start hb.size, hm.old, hm.base, ?_, ?_, ?_⟩
        · intro k d' x hk hfk
          simp only [upd] at hk
          split at hk
          · rename_i e
            rw [e, hf] at hfk
            simp only [Option.some.injEq, Prod.mk.injEq, Sum.inl.injEq] at hfk
            rw [← hfk.1, hputd, hfk.2]
          · rw [hputne _ _ (hne hk hfk)]; exact hm.env k d' x hk hfk
        · intro k d' mk cs T hk hfk
          simp only [upd] at hk
          split at hk
          · rename_i e; rw [e, hf] at hfk; simp at hfk
          · rw [hputne _ _ (hne hk hfk)]
            obtain ⟨g1, g2, g3⟩ := hm.env' k d' mk cs T hk hfk
            exact ⟨g1, keep hb g2, g3⟩
        · intro k j d1 mk1 cs1 T1 d2 mk2 cs2 T2 hk hj hkj hfk hfj
          simp only [upd] at hk hj
          split at hk
          · rename_i e; rw [e, hf] at hfk; simp at hfk
          · split at hj
            · rename_i e; rw [e, hf] at hfj; simp at hfj
            · exact hm.inj k j _ _ _ _ _ _ _ _ hk hj hkj hfk hfj
      rcases hg' with hg' | ⟨hg', hx⟩
      · rw [hwant _ hg'.1]
        simp only [if_true]
        refine hg'.2 a w hst _ _ ?_
        intro v w' hb hvx
        have hvx' : v = x := hvx
        rw [hd, hvx']
        exact next w' hb
      · rw [hwant _ hg', hd]
        simp only [Bool.false_eq_true, if_false]
        refine ⟨fun _ _ => trivial, ?_⟩
        rw [← hx]
        exact next w (Below.refl _ _)
    | some (.inr (mk, cs, T)), hf, hg =>
      have hg' : wantsB ops (envD es ν ds ++ lb) o = some true ∧ OpV P N w0 (envD es ν ds ++ lb) (blkD es ν ds ++ O) A o (Res mk (fun b => [(b, cs, T)]) (fun _ => True)) := hg
      rw [hwant _ hg'.1]
      simp only [if_true]
      refine hg'.2 a w hst _ _ ?_
      rintro v w' hb ⟨b, rfl, _, hB, _⟩
      rw [hd]
      obtain ⟨hb1, hb2⟩ := hB b cs T (by simp)
      refine mid_runs hw hlen hle htail hob hn hlb hQ is (fun k => if k = i then b else ν k) (upd D i) _ w' hDn' hv ⟨stput _ hb, Nat.le_trans hm.start hb.size, hm.old, hm.base, ?_, ?_, ?_⟩
      · intro k d' x hk hfk
        simp only [upd] at hk
        split at hk
        · rename_i e; rw [e, hf] at hfk; simp at hfk
        · rw [hputne _ _ (hne hk hfk)]; exact hm.env k d' x hk hfk
      · intro k d' mk' cs' T' hk hfk
        simp only [upd] at hk
        split at hk
        · rename_i e
          rw [e, hf] at hfk
          simp only [Option.some.injEq, Prod.mk.injEq, Sum.inr.injEq] at hfk
          obtain ⟨rfl, rfl, rfl, rfl⟩ := hfk
          rw [if_pos e, hputd]
          exact ⟨rfl, hb1, Nat.le_trans hm.start hb2⟩
        · rename_i e
          rw [if_neg e, hputne _ _ (hne hk hfk)]
          obtain ⟨g1, g2, g3⟩ := hm.env' k d' mk' cs' T' hk hfk
          exact ⟨g1, keep hb g2, g3⟩
      · intro k j d1 mk1 cs1 T1 d2 mk2 cs2 T2 hk hj hkj hfk hfj
        simp only [upd] at hk hj
        have fresh : ∀ {k : Nat} {d1 mk1 cs1 T1}, D k = true → findE es k = some (d1, some (.inr (mk1, cs1, T1))) → ν k < b := fun h1 h2 => Nat.lt_of_lt_of_le (hm.env' _ _ _ _ _ h1 h2).2.1.lt hb2
        by_cases ek : k = i
        · by_cases ej : j = i
          · exact absurd (ek.trans ej.symm) hkj
          · rw [if_neg ej] at hj
            have := fresh hj hfj
            show (if k = i then b else ν k) ≠ (if j = i then b else ν j)
            rw [if_pos ek, if_neg ej]; omega
        · rw [if_neg ek] at hk
          by_cases ej : j = i
          · have := fresh hk hfk
            show (if k = i then b else ν k) ≠ (if j = i then b else ν j)
            rw [if_neg ek, if_pos ej]; omega
          · rw [if_neg ej] at hj
            show (if k = i then b else ν k) ≠ (if j = i then b else ν j)
            rw [if_neg ek, if_neg ej]
            exact hm.inj k j _ _ _ _ _ _ _ _ hk hj hkj hfk hfj

/-! ### Step by step, in the order of the text -/
def tailB (ops : Array Oper) (n : Nat) : Bool := ops.toList.zipIdx.all fun (o, i) => Nat.blt i n || (List.range i).all fun k => o.after.toList.any fun g => binds .any g && (Nat.beq g.on k || (Nat.ble n g.on && Nat.blt k g.on))

theorem tail_of {ops : Array Oper} {n : Nat} (h : tailB ops n = true) : Tail ops n := by
  intro i o hi ho k hk
  unfold tailB at h
  rw [List.all_eq_true] at h
  have hm : (o, i) ∈ ops.toList.zipIdx := by
    rw [List.mem_zipIdx_iff_getElem?]
    simpa using ho
  have h1 := h (o, i) hm
  simp only [Bool.or_eq_true] at h1
  rcases h1 with h1 | h1
  · have := of_blt h1; omega
  · rw [List.all_eq_true] at h1
    have := h1 k (List.mem_range.2 hk)
    rw [List.any_eq_true] at this
    obtain ⟨g, hg, hgb⟩ := this
    rw [Bool.and_eq_true, Bool.or_eq_true, Bool.and_eq_true] at hgb
    refine ⟨g, by simpa using hg, hgb.1, ?_⟩
    rcases hgb.2 with e | ⟨e1, e2⟩
    · exact .inl (Nat.eq_of_beq_eq_true e)
    · exact .inr ⟨Nat.le_of_ble_eq_true e1, of_blt e2⟩

def depsB (o : Oper) (i : Nat) : List Nat → Bool
  | [] => true
  | k :: ks => Nat.blt k i && (o.after.toList.any fun g => Nat.beq g.on k && binds .any g) && !(ks.any (Nat.beq k)) && depsB o i ks

theorem deps_of {o : Oper} {i : Nat} : ∀ {ds : List Nat}, depsB o i ds = true → (∀ k ∈ ds, k < i ∧ ∃ g ∈ o.after, g.on = k ∧ binds .any g = true) ∧ ds.Nodup
  | [], _ => ⟨by simp, by simp⟩
  | k :: ks, h => by
    simp only [depsB, Bool.and_eq_true] at h
    obtain ⟨⟨⟨h1, h2⟩, h3⟩, h4⟩ := h
    obtain ⟨g1, g2⟩ := deps_of h4
    refine ⟨?_, ?_⟩
    · intro j hj
      rcases List.mem_cons.1 hj with e | e
      · subst e
        rw [List.any_eq_true] at h2
        obtain ⟨g, hg, hgb⟩ := h2
        rw [Bool.and_eq_true] at hgb
        exact ⟨of_blt h1, g, by simpa using hg, Nat.eq_of_beq_eq_true hgb.1, hgb.2⟩
      · exact g1 j e
    · rw [List.nodup_cons]
      refine ⟨?_, g2⟩
      intro hm
      have : ks.any (Nat.beq k) = true := by rw [List.any_eq_true]; exact ⟨k, hm, Nat.beq_refl k⟩
      rw [this] at h3; cases h3

def nodupB : List Nat → Bool
  | [] => true
  | k :: ks => !(ks.any (Nat.beq k)) && nodupB ks
theorem nodup_ofB : ∀ {ks : List Nat}, nodupB ks = true → ks.Nodup
  | [], _ => by simp
  | k :: ks, h => by
    simp only [nodupB, Bool.and_eq_true] at h
    rw [List.nodup_cons]
    refine ⟨?_, nodup_ofB h.2⟩
    intro hm
    have : ks.any (Nat.beq k) = true := by rw [List.any_eq_true]; exact ⟨k, hm, Nat.beq_refl k⟩
    rw [this] at h; simp at h

def allBelow (ks : List Nat) (n : Nat) : Bool := ks.all fun k => Nat.blt k n
def inB (ds all : List Nat) : Bool := ds.all fun d => all.any (Nat.beq d)

section
variable {id : Nat} {Q : Exit → Act → World → Prop} {l : Env} {es : Ents} {o : Oper} {i d : Nat}

def Dr (P : Program) (N : Cx) (w0 : World) (id : Nat) (ops : Array Oper) (Q : Exit → Act → World → Prop) (l : Env) (lb : Env) (O : Blks) (A : Args) (es : Ents) : Prop :=
  WF es → Obls P N w0 ops lb O A es → OkC P N w0 (.region id ops true) Q l O A

theorem dr_start (ds : List Nat) (h : Dr P N w0 id ops Q l (dropK ds l) O A []) : OkC P N w0 (.region id ops true) Q l O A := h trivial trivial

theorem dr_step (ds : List Nat) {e : Ent} (hi : es.length = i) (ho : ops[i]? = some o) (hd : o.dst = some d) (hN : Nat.blt d N.n = true) (hds : depsB o i ds = true)
    (hg : ∀ ν, Good P N w0 ops A o (envD es ν ds ++ lb) (blkD es ν ds ++ O) e) (rest : Dr P N w0 id ops Q l lb O A ((i, d, e) :: es)) : Dr P N w0 id ops Q l lb O A es := by
  intro hw hob
  obtain ⟨h1, h2⟩ := deps_of hds
  exact rest ⟨hi.symm, hw⟩ ⟨⟨o, ds, ho, hd, hN, h1, h2, hg⟩, hob⟩

/-- Behind the n operations whose order is open the others come in the order of the text. -/
theorem dr_end (ds keep : List Nat) (n : Nat) (hl : lb = dropK ds l) (hlen : es.length = n) (hb : backB ops = true) (hle : Nat.ble n ops.size = true) (ht : tailB ops n = true) (hn : nodupB (slots es) = true) (hin : inB (slots es) ds = true)
    (hk : nodupB keep = true) (hkn : allBelow keep n = true)
    (rest : ∀ ν, OkL P N w0 ops Q (List.range' n (ops.size - n)) (envD es ν keep ++ lb) (blkD es ν keep ++ O) A) : Dr P N w0 id ops Q l lb O A es := by
  intro hw hob a w hs
  refine wpIn_region_draw fun t => ?_
  obtain ⟨m, hval⟩ := schedule_valid (mixed := P.follows .mixedOrders) hb t
  have hdrew : ({ w with drawn := w.drawn + 1 } : World) = w.drew := rfl
  rw [hdrew]
  have hs' : St N w0 l O A a w.drew := hs.ext ((Below.refl _ w).drew)
  have hlb : St N w0 lb O A a w.drew := by
    refine ⟨hs'.size, hs'.noDef, hs'.bel, ?_, hs'.own, hs'.nodup, hs'.arg, hs'.marked⟩
    intro t v hg
    rw [hl] at hg
    exact hs'.env t v (get_dropK ds l t v hg).2
  refine mid_runs (B := w.heap.size) (m := m) hw hlen (Nat.le_of_ble_eq_true hle) (tail_of ht) hob (nodup_ofB hn) ?_ ?_ _ (fun _ => 0) (fun _ => false) a w.drew (fun _ h => by cases h) hval ⟨hlb, Nat.le_refl _, ?_, hs.bel.size, ?_, ?_, ?_⟩
  · intro t v hg hm
    rw [hl] at hg
    have h1 := (get_dropK ds l t v hg).1
    unfold inB at hin
    rw [List.all_eq_true] at hin
    have := hin t hm
    rw [List.any_eq_true] at this
    obtain ⟨d, hd, hdt⟩ := this
    have := Nat.eq_of_beq_eq_true hdt; subst this
    exact h1 hd
  · intro ν a' w' hm
    refine rest ν a' w' (hm.sub keep ?_ (nodup_ofB hk))
    intro k hk'
    unfold allBelow at hkn
    rw [List.all_eq_true] at hkn
    exact hkn k hk'
  · intro b cs T hm
    obtain ⟨j, hj⟩ := List.mem_iff_getElem?.1 hm
    exact (hs.own j b cs T hj).1.lt
  · intro _ _ _ h; cases h
  · intro _ _ _ _ _ h; cases h
  · intro _ _ _ _ _ _ _ _ _ _ h; cases h
end
end
end Go.Sx
