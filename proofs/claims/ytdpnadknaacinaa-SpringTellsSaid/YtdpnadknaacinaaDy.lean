/-
  Regions that draw their order, in which own blocks are written that other operations read: what lies in them hangs on which operations are done.
  Conditions: none; generic over the program.
-/
import Derived.Test.YtdpnadknaacinaaDx
namespace Go.Sx
open Go.RowKit Region
set_option linter.unusedVariables false

/-- An operation under a frame: the blocks that it sees ahead and behind. -/
def OpY (P : Program) (N : Cx) (w0 : World) (l : Env) (pre : Blks) (post : Value → Blks → Blks) (A : Args) (o : Oper) (φ : Value → Blks → Prop) : Prop :=
  ∀ (F : Blks) (a : Act) (w : World), St N w0 l (F ++ pre) A a w → ∀ (K : Act → World → Prop) (Q : Exit → Act → World → Prop),
    (∀ v B w', φ v B → St N w0 l (F ++ (B ++ post v B)) A a w' → K (a.put o.dst v) w') → o.wpIn (Fr N.r) 0 P a w K Q
section
variable (P : Program) (N : Cx) (w0 : World) (ops : Array Oper) (lb : Env) (Osh : (Nat → Bool) → (Nat → Value × Blks) → Blks) (A : Args)
def GoodY (l : Env) (c pre : Blks) (post : Value → Blks → Blks) (o : Oper) (φ : Value → Blks → Prop) : Prop :=
  (wantsB ops l o = some true ∧ OpY P N w0 l (c ++ pre) post A o φ) ∨ (wantsB ops l o = some false ∧ φ undef c ∧ pre = post undef c)
def OblY (es : List EX) (i : Nat) (e : EX) : Prop :=
  ∃ o, ops[i]? = some o ∧ o.dst = e.d ∧ (∀ d, e.d = some d → d < N.n) ∧ (∀ k ∈ e.ds, k < es.length ∧ ∃ g ∈ o.after, g.on = k ∧ binds .any g = true) ∧ e.ds.Nodup ∧
    ∀ (ρ : Nat → Value × Blks) (D : Nat → Bool), (∀ k ∈ e.ds, okX es ρ k) → ClX ops D → D i = false → (∀ g ∈ o.after, binds .any g = true → D g.on = true) →
      GoodY P N w0 ops A (envX es ρ e.ds ++ lb) e.c (blkX ρ e.ds ++ Osh D ρ) (fun v B => blkX ρ e.ds ++ Osh (upd D i) (fun k => if k = i then (v, B) else ρ k)) o (e.φ (e.ds.map ρ))
end

section
variable {P : Program} {N : Cx} {w0 : World} {ops : Array Oper} {lb l : Env} {O : Blks} {Osh : (Nat → Bool) → (Nat → Value × Blks) → Blks} {A : Args} {es : List EX}

structure MidY (P : Program) (N : Cx) (w0 : World) (lb : Env) (Osh : (Nat → Bool) → (Nat → Value × Blks) → Blks) (A : Args) (es : List EX) (ρ : Nat → Value × Blks) (D : Nat → Bool) (a : Act) (w : World) : Prop where
  st : St N w0 lb (Osh D ρ ++ remX es D ρ) A a w
  env : ∀ k e d, D k = true → es[k]? = some e → e.d = some d → a.tmps[d]? = some (ρ k).1
  ok : ∀ k, D k = true → okX es ρ k
  dep : ∀ k e, D k = true → es[k]? = some e → ∀ j ∈ e.ds, D j = true

theorem midy_runs {n : Nat} {Q : Exit → Act → World → Prop} (hlen : es.length = n) (hle : n ≤ ops.size) (htail : TailX ops n) (hob : ∀ i e, es[i]? = some e → OblY P N w0 ops lb Osh A es i e) (hn : (slotsX es).Nodup)
    (hlb : ∀ t v, get lb t = some v → t ∉ slotsX es)
    (hQ : ∀ ρ a w, MidY P N w0 lb Osh A es ρ (fun i => Nat.blt i n) a w → wpOpsIn (Fr N.r) 0 P ops Q (List.range' n (ops.size - n)) a w) :
    ∀ (is : List Nat) (ρ : Nat → Value × Blks) (D : Nat → Bool) (a : Act) (w : World), (∀ i, D i = true → i < n) → ClX ops D → Val .any ops D is → MidY P N w0 lb Osh A es ρ D a w → wpOpsIn (Fr N.r) 0 P ops Q is a w
  | [], ρ, D, a, w, hDn, hcl, hv, hm => by
    have hall : ∀ i, i < n → D i = true := fun i hi => hv i (Nat.lt_of_lt_of_le hi hle)
    have := hQ ρ a w (eq_blt hDn hall ▸ hm)
    have h0 : ops.size - n = 0 := by
      rcases Nat.lt_or_ge n ops.size with h1 | h1
      · exact absurd (hDn n (hv n h1)) (Nat.lt_irrefl n)
      · omega
    rw [h0] at this
    exact this
  | i :: is, ρ, D, a, w, hDn, hcl, ⟨⟨hr1, hr2, hr3⟩, hv⟩, hm => by
    by_cases hin : i < n
    case neg =>
      have hall : ∀ k, k < i → D k = true := by
        intro k hk
        obtain ⟨o, ho⟩ : ∃ o, ops[i]? = some o := ⟨ops[i], by simp [hr1]⟩
        exact htail i o (by omega) ho D hcl (fun g hg hb => hr3 o ho g hg hb) k hk
      have hDe := eq_blt hDn (fun k hk => hall k (by omega))
      have hfor := forcedX htail (i :: is) D n (Nat.le_refl _) hle hcl (fun k => ⟨fun h => hDn k h, fun h => hall k (by omega)⟩) ⟨⟨hr1, hr2, hr3⟩, hv⟩
      rw [hfor]
      exact hQ ρ a w (hDe ▸ hm)
    obtain ⟨e, he⟩ : ∃ e, es[i]? = some e := ⟨es[i]'(by omega), by simp [hlen, hin]⟩
    obtain ⟨o, ho, hd, hN, hds, hnd, hgood⟩ := hob i e he
    have hD : ∀ k ∈ e.ds, D k = true := by
      intro k hk
      obtain ⟨_, g, hg, hgk, hgb⟩ := hds k hk
      rw [← hgk]
      exact hr3 o ho g hg (binds_any hgb)
    have hids : i ∉ e.ds := fun h => by have := hD i h; rw [hr2] at this; cases this
    have hnd' : (i :: e.ds).Nodup := List.nodup_cons.2 ⟨hids, hnd⟩
    have hpm := perm_split (n := n) hin (fun k hk => hlen ▸ (hds k hk).1) hnd'
    generalize hrest : (List.range n).filter (fun k => !(decide (k ∈ i :: e.ds))) = rest at hpm
    have hrestI : ∀ k ∈ rest, k ≠ i := fun k hk e2 => by
      rw [← hrest] at hk
      simp only [List.mem_filter, Bool.not_eq_true', decide_eq_false_iff_not] at hk
      exact hk.2 (by simp [e2])
    -- the blocks, seen from this operation
    have hrem : (Osh D ρ ++ remX es D ρ).Perm (rest.flatMap (fun k => if D k then (ρ k).2 else consX es k) ++ (e.c ++ (blkX ρ e.ds ++ Osh D ρ))) := by
      have h1 : (remX es D ρ).Perm (rest.flatMap (fun k => if D k then (ρ k).2 else consX es k) ++ (e.c ++ blkX ρ e.ds)) := by
        unfold remX
        rw [hlen]
        refine (hpm.flatMap_right _).trans ?_
        rw [List.flatMap_append, List.flatMap_cons]
        have e1 : (if D i then (ρ i).2 else consX es i) = e.c := by rw [hr2]; simp [consX, he]
        have e2 : e.ds.flatMap (fun k => if D k then (ρ k).2 else consX es k) = blkX ρ e.ds := flatMap_congr' fun k hk => by rw [hD k hk]; rfl
        rw [e1, e2]
      exact (List.Perm.append_left (Osh D ρ) h1).trans (perm_four _ _ _ _)
    have hst : St N w0 (envX es ρ e.ds ++ lb) (rest.flatMap (fun k => if D k then (ρ k).2 else consX es k) ++ (e.c ++ (blkX ρ e.ds ++ Osh D ρ))) A a w := by
      have h1 := hm.st.reo hrem
      refine ⟨h1.size, h1.noDef, h1.bel, ?_, h1.own, h1.nodup, h1.arg, h1.marked⟩
      intro t v hg
      rcases get_append _ _ t v hg with h2 | h2
      · obtain ⟨k, hk, e', he', hd', rfl⟩ := mem_envX _ h2
        exact hm.env k e' t (hD k hk) he' hd'
      · exact h1.env t v h2
    have hDn' : ∀ k, upd D i k = true → k < n := by
      intro k hk
      simp only [upd] at hk
      split at hk
      · rename_i e; rw [e]; exact hin
      · exact hDn k hk
    have hbase : ∀ t v d, get lb t = some v → e.d = some d → t ≠ d := fun t v d hg hd' e2 => hlb t v hg (e2 ▸ List.mem_filterMap.2 ⟨e, List.mem_of_getElem? he, hd'⟩)
    have hputne : ∀ (v : Value) (t : Nat), (∀ d, e.d = some d → t ≠ d) → (a.put e.d v).tmps[t]? = a.tmps[t]? := by
      intro v t ht
      cases h : e.d with
      | none => rfl
      | some d =>
        simp only [Act.put]
        exact Array.getElem?_setIfInBounds_ne (fun h' => ht d h h'.symm)
    have hsz := hm.st.size
    -- the state behind it
    have key : ∀ (v : Value) (B : Blks) (w' : World), e.φ (e.ds.map ρ) v B → St N w0 (envX es ρ e.ds ++ lb) (rest.flatMap (fun k => if D k then (ρ k).2 else consX es k) ++ (B ++ (blkX ρ e.ds ++ Osh (upd D i) (fun k => if k = i then (v, B) else ρ k)))) A a w' →
        MidY P N w0 lb Osh A es (fun k => if k = i then (v, B) else ρ k) (upd D i) (a.put e.d v) w' := by
      intro v B w' hφ hst'
      have hmap : ∀ (ks : List Nat), i ∉ ks → ks.map (fun k => if k = i then (v, B) else ρ k) = ks.map ρ := fun ks hks => List.map_congr_left fun k hk => if_neg (fun (e2 : k = i) => hks (e2 ▸ hk))
      refine ⟨?_, ?_, ?_, ?_⟩
      · have hrem' : (rest.flatMap (fun k => if D k then (ρ k).2 else consX es k) ++ (B ++ (blkX ρ e.ds ++ Osh (upd D i) (fun k => if k = i then (v, B) else ρ k)))).Perm (Osh (upd D i) (fun k => if k = i then (v, B) else ρ k) ++ remX es (upd D i) (fun k => if k = i then (v, B) else ρ k)) := by
          have h1 : (remX es (upd D i) (fun k => if k = i then (v, B) else ρ k)).Perm (rest.flatMap (fun k => if D k then (ρ k).2 else consX es k) ++ (B ++ blkX ρ e.ds)) := by
            unfold remX
            rw [hlen]
            refine (hpm.flatMap_right _).trans ?_
            rw [List.flatMap_append, List.flatMap_cons]
            have e0 : rest.flatMap (fun k => if upd D i k then (if k = i then (v, B) else ρ k).2 else consX es k) = rest.flatMap (fun k => if D k then (ρ k).2 else consX es k) :=
              flatMap_congr' fun k hk => by simp [upd, hrestI k hk]
            have e1 : (if upd D i i then (if i = i then (v, B) else ρ i).2 else consX es i) = B := by simp [upd]
            have e2 : e.ds.flatMap (fun k => if upd D i k then (if k = i then (v, B) else ρ k).2 else consX es k) = blkX ρ e.ds := flatMap_congr' fun k hk => by
              have hne : k ≠ i := fun e2 => hids (e2 ▸ hk)
              simp [upd, hne, hD k hk]
            rw [e0, e1, e2]
          exact ((List.Perm.append_left (Osh (upd D i) (fun k => if k = i then (v, B) else ρ k)) h1).trans (perm_four _ _ _ _)).symm
        have h1 := hst'.reo hrem'
        refine ⟨?_, ?_, h1.bel, ?_, h1.own, h1.nodup, h1.arg, h1.marked⟩
        · cases h : e.d <;> simp [Act.put, hsz]
        · have := h1.noDef
          cases h : e.d <;> simpa [Act.put] using this
        · intro t u hg
          rw [hputne v t (fun d hd' => hbase t u d hg hd')]
          exact hm.st.env t u hg
      · intro k e' d' hk he' hd'
        by_cases ek : k = i
        · subst ek
          obtain rfl : e = e' := Option.some.inj (he.symm.trans he')
          simp only [if_true]
          rw [hd']
          have := hN d' hd'
          simp [Act.put, hsz, this]
        · have hDk : D k = true := by simpa [upd, ek] using hk
          rw [if_neg ek, hputne v d' (fun d hd2 (e2 : d' = d) => ek (slotsX_inj hn he' he hd' (e2 ▸ hd2)))]
          exact hm.env k e' d' hDk he' hd'
      · intro k hk e' he'
        by_cases ek : k = i
        · subst ek
          obtain rfl : e = e' := Option.some.inj (he.symm.trans he')
          simp only [if_true]
          rw [hmap _ hids]
          exact hφ
        · have hDk : D k = true := by simpa [upd, ek] using hk
          have hni : i ∉ e'.ds := fun h => by have := hm.dep k e' hDk he' i h; rw [hr2] at this; cases this
          simp only [if_neg ek]
          rw [hmap _ hni]
          exact hm.ok k hDk e' he'
      · intro k e' hk he' j hj
        by_cases ek : k = i
        · subst ek
          obtain rfl : e = e' := Option.some.inj (he.symm.trans he')
          have := hD j hj
          simp [upd, this]
        · have hDk : D k = true := by simpa [upd, ek] using hk
          have := hm.dep k e' hDk he' j hj
          simp [upd, this]
    have next : ∀ (v : Value) (B : Blks) (w' : World), e.φ (e.ds.map ρ) v B → St N w0 (envX es ρ e.ds ++ lb) (rest.flatMap (fun k => if D k then (ρ k).2 else consX es k) ++ (B ++ (blkX ρ e.ds ++ Osh (upd D i) (fun k => if k = i then (v, B) else ρ k)))) A a w' →
        wpOpsIn (Fr N.r) 0 P ops Q is (a.put e.d v) w' := fun v B w' hφ hst' =>
      midy_runs hlen hle htail hob hn hlb hQ is _ (upd D i) _ w' hDn' (clX_upd hcl (fun o ho g hg hb => hr3 o ho g hg hb)) hv (key v B w' hφ hst')
    simp only [wpOpsIn, ho]
    rcases hgood ρ D (fun k hk => hm.ok k (hD k hk)) hcl hr2 (fun g hg hb => hr3 o ho g hg hb) with ⟨hwant, hop⟩ | ⟨hwant, hφ, hsame⟩
    · rw [wanted_of hst hwant]
      simp only [if_true]
      refine hop _ a w hst _ _ fun v B w' hφ hst' => ?_
      rw [hd]
      exact next v B w' hφ hst'
    · rw [wanted_of hst hwant]
      simp only [Bool.false_eq_true, if_false]
      rw [hd]
      exact ⟨fun _ _ => trivial, next undef e.c w hφ (by have h9 := hst; rw [hsame] at h9; exact h9)⟩

def OblsY (P : Program) (N : Cx) (w0 : World) (ops : Array Oper) (lb : Env) (Osh : (Nat → Bool) → (Nat → Value × Blks) → Blks) (A : Args) (es : List EX) : Nat → List EX → Prop
  | _, [] => True
  | i, e :: r => OblY P N w0 ops lb Osh A es i e ∧ OblsY P N w0 ops lb Osh A es (i + 1) r
theorem oblsY_at : ∀ {r : List EX} {k : Nat}, OblsY P N w0 ops lb Osh A es k r → ∀ i e, r[i]? = some e → OblY P N w0 ops lb Osh A es (k + i) e
  | [], k, _, i, e, h => by simp at h
  | x :: r, k, ⟨h1, h2⟩, 0, e, h => by simp at h; subst h; exact h1
  | x :: r, k, ⟨h1, h2⟩, i + 1, e, h => by
    have := oblsY_at h2 i e (by simpa using h)
    rwa [show k + 1 + i = k + (i + 1) by omega] at this

/-- The region: n operations whose order is open, then the others. -/
theorem okc_drawy {id : Nat} {Q : Exit → Act → World → Prop} (ds keep : List Nat) (es : List EX) (n f : Nat) (Osh : (Nat → Bool) → (Nat → Value × Blks) → Blks) (hm : P.follows .mixedOrders = true) (hlen : es.length = n) (hb : backA ops = true) (hle : Nat.ble n ops.size = true) (ht : tailX ops n f = true)
    (hn : nodupB (slotsX es) = true) (hin : inB (slotsX es) ds = true) (hO : O.Perm (Osh (fun _ => false) (fun _ => (undef, [])) ++ (List.range n).flatMap (consX es)))
    (hob : OblsY P N w0 ops (dropK ds l) Osh A es 0 es)
    (rest : ∀ ρ : Nat → Value × Blks, (∀ k, k < n → okX es ρ k) → OkL P N w0 ops Q (List.range' n (ops.size - n)) (envX es ρ keep ++ dropK ds l) (Osh (fun i => Nat.blt i n) ρ ++ blkX ρ (List.range n)) A) (hk : allBelow keep n = true) :
    OkC P N w0 (.region id ops true) Q l O A := by
  intro a w hs
  refine wpIn_region_draw fun t => ?_
  have hval := schedule_any (mixed := P.follows .mixedOrders) (ops := ops) hm hb t
  have hdrew : ({ w with drawn := w.drawn + 1 } : World) = w.drew := rfl
  rw [hdrew]
  have hs' : St N w0 l O A a w.drew := hs.ext ((Below.refl _ w).drew)
  have hlb : St N w0 (dropK ds l) O A a w.drew := ⟨hs'.size, hs'.noDef, hs'.bel, fun t v hg => hs'.env t v (get_dropK ds l t v hg).2, hs'.own, hs'.nodup, hs'.arg, hs'.marked⟩
  refine midy_runs (es := es) (n := n) (Osh := Osh) (lb := dropK ds l) hlen (Nat.le_of_ble_eq_true hle) (tailX_of ht) (fun i e he => by have := oblsY_at hob i e he; rwa [Nat.zero_add] at this) (nodup_ofB hn) ?_ ?_ _ (fun _ => (undef, [])) (fun _ => false) a w.drew (fun _ h => by cases h) (fun _ _ h => by cases h) hval ⟨?_, ?_, ?_, ?_⟩
  · intro t v hg hm'
    have h1 := (get_dropK ds l t v hg).1
    unfold inB at hin
    rw [List.all_eq_true] at hin
    have := hin t hm'
    rw [List.any_eq_true] at this
    obtain ⟨d, hd, hd'⟩ := this
    have := Nat.eq_of_beq_eq_true hd'
    subst this
    exact h1 hd
  · intro ρ a' w' hmid
    refine rest ρ (fun k hk => hmid.ok k (blt_of hk)) a' w' ?_
    have hrem : remX es (fun i => Nat.blt i n) ρ = blkX ρ (List.range n) := by
      unfold remX blkX
      rw [hlen]
      exact flatMap_congr' fun k hk => by rw [if_pos (blt_of (List.mem_range.1 hk))]
    have h1 := hmid.st
    rw [hrem] at h1
    refine ⟨h1.size, h1.noDef, h1.bel, ?_, h1.own, h1.nodup, h1.arg, h1.marked⟩
    intro t v hg
    rcases get_append _ _ t v hg with h2 | h2
    · obtain ⟨k, hk', e', he', hd', rfl⟩ := mem_envX _ h2
      refine hmid.env k e' t (blt_of ?_) he' hd'
      unfold allBelow at hk
      rw [List.all_eq_true] at hk
      exact of_blt (hk k hk')
    · exact h1.env t v h2
  · have hrem : remX es (fun _ => false) (fun _ => (undef, [])) = (List.range n).flatMap (consX es) := by
      unfold remX
      rw [hlen]
      exact flatMap_congr' fun k _ => by simp
    rw [hrem]
    exact hlb.reo hO
  · intro k e d h; cases h
  · intro k h; cases h
  · intro k e h; cases h


variable {o : Oper} {c keep pre : Blks} {post : Value → Blks → Blks}
theorem OpX.y {φ : Value → Blks → Prop} (h : OpX P N w0 l c keep A o φ) : OpY P N w0 l (c ++ keep) (fun _ _ => keep) A o φ := h
theorem OpY.mono {φ φ' : Value → Blks → Prop} (h : OpY P N w0 l pre post A o φ) (hi : ∀ v B, φ v B → φ' v B) : OpY P N w0 l pre post A o φ' :=
  fun F a w hst K Q hK => h F a w hst K Q fun v B w' hφ hs => hK v B w' (hi v B hφ) hs
/-- A store. -/
theorem opy_store {j b off Ty n : Nat} {T : TypeId} {cs vs : List Value} {x y : Operand} {v : Value} (hd : o.dst = none) (hop : o.op = .store Ty x y)
    (hx : ev l x = some (.pointer (some ⟨b, off, none⟩))) (hy : ev l y = some v) (hv : v.cells = vs.toArray) (hj : pre[j]? = some (b, cs, T)) (hn : sizeB P Ty = some n) (hl : vs.length = n) (hfit : off + n ≤ cs.length) (h1 : flat vs = true)
    (hpost : pre.set j (b, setL cs off vs, T) = post undef []) : OpY P N w0 l pre post A o (fun v B => v = undef ∧ B = []) := by
  intro F a w hs K Q hK
  have hj' : (F ++ pre)[F.length + j]? = some (b, cs, T) := by rw [List.getElem?_append_right (by omega)]; simpa using hj
  have hrun := run_storeVar (P := P) (hs.own _ b cs T hj').1 hv hn hl hfit h1
  have : (execOp a.eval o).run P w = .ok .skip (w.setRow b (setL cs off vs).toArray) := by
    simp [execOp, hop, hs.eval hx, hs.eval hy, hrun]
  refine opIn_of (fun c h => by rw [hop] at h; cases h) ?_
  rw [this]
  have h2 := hs.setRow _ b cs (setL cs off vs) T hj'
  rw [List.set_append_right _ _ (by omega)] at h2
  simp only [Nat.add_sub_cancel_left] at h2
  rw [hpost] at h2
  exact hK undef [] _ ⟨rfl, rfl⟩ h2
/-- An operation that sees the blocks as they are. -/
theorem opy_same {φ : Value → Blks → Prop} (h : OpX P N w0 l c keep A o φ) (hp : ∀ v B, φ v B → keep = post v B) : OpY P N w0 l (c ++ keep) post A o φ := fun F a w hst K Q hK => h F a w hst K Q fun v B w' hφ hs => hK v B w' hφ (hp v B hφ ▸ hs)
theorem goody_same {φ : Value → Blks → Prop} (hpre : pre = keep) (h : GoodX P N w0 ops A l c keep o φ) (hp : ∀ v B, φ v B → keep = post v B) : GoodY P N w0 ops A l c pre post o φ := by
  subst hpre
  rcases h with ⟨h1, h2⟩ | ⟨h1, h2⟩
  · exact .inl ⟨h1, opy_same h2 hp⟩
  · exact .inr ⟨h1, h2, hp _ _ h2⟩
theorem obl_y {i : Nat} {e : EX} (ho : ops[i]? = some o) (hd : o.dst = e.d) (hN : slotB e.d N.n = true) (hds : depX o es.length e.ds = true)
    (h : ∀ (ρ : Nat → Value × Blks) (D : Nat → Bool), (∀ k ∈ e.ds, okX es ρ k) → ClX ops D → D i = false → (∀ g ∈ o.after, binds .any g = true → D g.on = true) →
      GoodY P N w0 ops A (envX es ρ e.ds ++ lb) e.c (blkX ρ e.ds ++ Osh D ρ) (fun v B => blkX ρ e.ds ++ Osh (upd D i) (fun k => if k = i then (v, B) else ρ k)) o (e.φ (e.ds.map ρ))) : OblY P N w0 ops lb Osh A es i e := by
  unfold depX at hds
  rw [Bool.and_eq_true, List.all_eq_true] at hds
  refine ⟨o, ho, hd, fun d hd' => by rw [hd'] at hN; exact of_blt hN, fun k hk => ?_, nodup_ofB hds.2, h⟩
  have h1 := hds.1 k hk
  rw [Bool.and_eq_true, List.any_eq_true] at h1
  obtain ⟨h2, g, hg, hgb⟩ := h1
  rw [Bool.and_eq_true] at hgb
  exact ⟨of_blt h2, g, by simpa using hg, Nat.eq_of_beq_eq_true hgb.1, hgb.2⟩
/-- What is done before operation i: by its own edges. -/
def edgeB (ops : Array Oper) (i k : Nat) : Bool := match ops[i]? with | some o => o.after.toList.any fun g => Nat.beq g.on k && binds .any g | none => false
theorem done_of {i k : Nat} {D : Nat → Bool} (ho : ops[i]? = some o) (hr : ∀ g ∈ o.after, binds .any g = true → D g.on = true) (h : edgeB ops i k = true) : D k = true := by
  unfold edgeB at h
  rw [ho] at h
  rw [List.any_eq_true] at h
  obtain ⟨g, hg, hgb⟩ := h
  rw [Bool.and_eq_true] at hgb
  rw [← Nat.eq_of_beq_eq_true hgb.1]
  exact hr g (by simpa using hg) hgb.2
/-- What comes behind i is not done before it. -/
theorem open_of {i k : Nat} {D : Nat → Bool} (hc : ClX ops D) (hi : D i = false) (h : edgeB ops k i = true) : D k = false := by
  cases hk : D k with
  | false => rfl
  | true =>
    unfold edgeB at h
    cases ho : ops[k]? with
    | none => rw [ho] at h; cases h
    | some o =>
      rw [ho] at h
      rw [List.any_eq_true] at h
      obtain ⟨g, hg, hgb⟩ := h
      rw [Bool.and_eq_true] at hgb
      have := hc k o hk ho g (by simpa using hg) hgb.2
      rw [Nat.eq_of_beq_eq_true hgb.1, hi] at this
      cases this
end
end Go.Sx
