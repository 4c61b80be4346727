/-
  Regions that draw their order: own blocks are written that other operations read, and operations take what others of the region have made.
  Conditions: none; generic over the program.
-/
import Derived.Test.YtdpnadknaacinaaDy
namespace Go.Sx
open Go.RowKit Region
set_option linter.unusedVariables false

def eatenZ (E : Nat → Nat → Bool) (n : Nat) (D : Nat → Bool) (k : Nat) : Bool := (List.range n).any fun j => D j && E j k
def curZ (E : Nat → Nat → Bool) (n : Nat) (es : List EX) (D : Nat → Bool) (ρ : Nat → Value × Blks) (k : Nat) : Blks := if D k then (if eatenZ E n D k then [] else (ρ k).2) else consX es k
def remZ (E : Nat → Nat → Bool) (es : List EX) (D : Nat → Bool) (ρ : Nat → Value × Blks) : Blks := (List.range es.length).flatMap (curZ E es.length es D ρ)
def eatOkZ (E : Nat → Nat → Bool) (es : List EX) : Bool := es.zipIdx.all fun (e, i) => ((List.range es.length).all fun k => !E i k || e.ds.any (Nat.beq k)) && (e.ds.all fun k => (List.range es.length).all fun j => Nat.beq j i || !E j k)
theorem blkX_filter (ρ : Nat → Value × Blks) (p : Nat → Bool) : ∀ ds : List Nat, blkX ρ (ds.filter p) = ds.flatMap fun k => if p k = true then (ρ k).2 else []
  | [] => rfl
  | k :: ds => by
    have ih := blkX_filter ρ p ds
    unfold blkX at ih ⊢
    rw [List.filter_cons, List.flatMap_cons, ← ih]
    split <;> simp
theorem filter_perm (ρ : Nat → Value × Blks) (p : Nat → Bool) : ∀ ds : List Nat, (blkX ρ ds).Perm (blkX ρ (ds.filter fun k => p k) ++ blkX ρ (ds.filter fun k => !p k)) := fun ds => by
  unfold blkX
  rw [← List.flatMap_append]
  exact (List.filter_append_perm p ds).symm.flatMap_right _
theorem eaten_upd (E : Nat → Nat → Bool) {n i : Nat} {D : Nat → Bool} (hi : i < n) (k : Nat) : eatenZ E n (upd D i) k = (E i k || eatenZ E n D k) := by
  rw [Bool.eq_iff_iff]
  simp only [eatenZ, List.any_eq_true, List.mem_range, Bool.and_eq_true, Bool.or_eq_true, upd]
  constructor
  · rintro ⟨j, hj, h1, h2⟩
    by_cases e : j = i
    · subst e; exact .inl h2
    · rw [if_neg e] at h1; exact .inr ⟨j, hj, h1, h2⟩
  · rintro (h | ⟨j, hj, h1, h2⟩)
    · exact ⟨i, hi, by simp, h⟩
    · refine ⟨j, hj, ?_, h2⟩
      split
      · rfl
      · exact h1

section
variable (P : Program) (N : Cx) (w0 : World) (ops : Array Oper) (lb : Env) (Osh : (Nat → Bool) → (Nat → Value × Blks) → Blks) (A : Args) (E : Nat → Nat → Bool)
def OblZ (es : List EX) (i : Nat) (e : EX) : Prop :=
  ∃ o, ops[i]? = some o ∧ o.dst = e.d ∧ (∀ d, e.d = some d → d < N.n) ∧ (∀ k ∈ e.ds, k < es.length ∧ ∃ g ∈ o.after, g.on = k ∧ binds .any g = true) ∧ e.ds.Nodup ∧
    ∀ (ρ : Nat → Value × Blks) (D : Nat → Bool), (∀ k ∈ e.ds, okX es ρ k) → ClX ops D → D i = false → (∀ g ∈ o.after, binds .any g = true → D g.on = true) →
      GoodY P N w0 ops A (envX es ρ e.ds ++ lb) (e.c ++ blkX ρ (e.ds.filter fun k => E i k)) (blkX ρ (e.ds.filter fun k => !E i k) ++ Osh D ρ) (fun v B => blkX ρ (e.ds.filter fun k => !E i k) ++ Osh (upd D i) (fun k => if k = i then (v, B) else ρ k)) o (e.φ (e.ds.map ρ))
end

section
variable {P : Program} {N : Cx} {w0 : World} {ops : Array Oper} {lb l : Env} {O : Blks} {Osh : (Nat → Bool) → (Nat → Value × Blks) → Blks} {A : Args} {es : List EX} {E : Nat → Nat → Bool}
theorem eat1 (h : eatOkZ E es = true) : ∀ j e, es[j]? = some e → ∀ k, E j k = true → k < es.length → k ∈ e.ds := by
  intro j e he k hk hkl
  unfold eatOkZ at h
  rw [List.all_eq_true] at h
  have := h (e, j) (by rw [List.mem_zipIdx_iff_getElem?]; exact he)
  simp only [Bool.and_eq_true, List.all_eq_true] at this
  have h1 := this.1 k (List.mem_range.2 hkl)
  rw [hk] at h1
  simp only [Bool.not_true, Bool.false_or, List.any_eq_true] at h1
  obtain ⟨x, hx, hxk⟩ := h1
  rw [Nat.eq_of_beq_eq_true hxk]; exact hx
theorem eat2 (h : eatOkZ E es = true) : ∀ i e, es[i]? = some e → ∀ k ∈ e.ds, ∀ j, j < es.length → j ≠ i → E j k = false := by
  intro i e he k hk j hj hji
  unfold eatOkZ at h
  rw [List.all_eq_true] at h
  have := h (e, i) (by rw [List.mem_zipIdx_iff_getElem?]; exact he)
  simp only [Bool.and_eq_true, List.all_eq_true] at this
  have h1 := this.2 k hk j (List.mem_range.2 hj)
  rw [Bool.or_eq_true] at h1
  rcases h1 with h1 | h1
  · exact absurd (Nat.eq_of_beq_eq_true h1) hji
  · simpa using h1

structure MidZ (P : Program) (N : Cx) (w0 : World) (lb : Env) (Osh : (Nat → Bool) → (Nat → Value × Blks) → Blks) (A : Args) (E : Nat → Nat → Bool) (es : List EX) (ρ : Nat → Value × Blks) (D : Nat → Bool) (a : Act) (w : World) : Prop where
  st : St N w0 lb (Osh D ρ ++ remZ E es D ρ) A a w
  env : ∀ k e d, D k = true → es[k]? = some e → e.d = some d → a.tmps[d]? = some (ρ k).1
  ok : ∀ k, D k = true → okX es ρ k
  dep : ∀ k e, D k = true → es[k]? = some e → ∀ j ∈ e.ds, D j = true

theorem midz_runs {n : Nat} {Q : Exit → Act → World → Prop} (hlen : es.length = n) (hle : n ≤ ops.size) (htail : TailX ops n) (hob : ∀ i e, es[i]? = some e → OblZ P N w0 ops lb Osh A E es i e) (hn : (slotsX es).Nodup)
    (hE1' : ∀ j e, es[j]? = some e → ∀ k, E j k = true → k < n → k ∈ e.ds) (hE2 : ∀ i e, es[i]? = some e → ∀ k ∈ e.ds, ∀ j, j < n → j ≠ i → E j k = false)
    (hlb : ∀ t v, get lb t = some v → t ∉ slotsX es)
    (hQ : ∀ ρ a w, MidZ P N w0 lb Osh A E es ρ (fun i => Nat.blt i n) a w → wpOpsIn (Fr N.r) 0 P ops Q (List.range' n (ops.size - n)) a w) :
    ∀ (is : List Nat) (ρ : Nat → Value × Blks) (D : Nat → Bool) (a : Act) (w : World), (∀ i, D i = true → i < n) → ClX ops D → Val .any ops D is → MidZ P N w0 lb Osh A E es ρ D a w → wpOpsIn (Fr N.r) 0 P ops Q is a w
  | [], ρ, D, a, w, hDn, hcl, hv, hm => by
    have hall : ∀ i, i < n → D i = true := fun i hi => hv i (Nat.lt_of_lt_of_le hi hle)
    have := hQ ρ a w (eq_blt hDn hall ▸ hm)
    have h0 : ops.size - n = 0 := by
      rcases Nat.lt_or_ge n ops.size with h1 | h1
      · exact absurd (hDn n (hv n h1)) (Nat.lt_irrefl n)
      · omega
    rw [h0] at this
    exact this
  | i :: is, ρ, D, a, w, hDn, hcl, ⟨⟨hr1, hr2, hr3⟩, hv⟩, hm => by
    by_cases hin : i < n
    case neg =>
      have hall : ∀ k, k < i → D k = true := by
        intro k hk
        obtain ⟨o, ho⟩ : ∃ o, ops[i]? = some o := ⟨ops[i], by simp [hr1]⟩
        exact htail i o (by omega) ho D hcl (fun g hg hb => hr3 o ho g hg hb) k hk
      have hDe := eq_blt hDn (fun k hk => hall k (by omega))
      have hfor := forcedX htail (i :: is) D n (Nat.le_refl _) hle hcl (fun k => ⟨fun h => hDn k h, fun h => hall k (by omega)⟩) ⟨⟨hr1, hr2, hr3⟩, hv⟩
      rw [hfor]
      exact hQ ρ a w (hDe ▸ hm)
    obtain ⟨e, he⟩ : ∃ e, es[i]? = some e := ⟨es[i]'(by omega), by simp [hlen, hin]⟩
    obtain ⟨o, ho, hd, hN, hds, hnd, hgood⟩ := hob i e he
    have hD : ∀ k ∈ e.ds, D k = true := by
      intro k hk
      obtain ⟨_, g, hg, hgk, hgb⟩ := hds k hk
      rw [← hgk]
      exact hr3 o ho g hg (binds_any hgb)
    have hids : i ∉ e.ds := fun h => by have := hD i h; rw [hr2] at this; cases this
    have hnd' : (i :: e.ds).Nodup := List.nodup_cons.2 ⟨hids, hnd⟩
    have hne : ∀ k ∈ e.ds, eatenZ E n D k = false := by
      intro k hk
      unfold eatenZ
      rw [List.any_eq_false]
      intro j hj
      cases hDj : D j with
      | false => simp
      | true =>
        have hji : j ≠ i := fun e2 => by rw [e2, hr2] at hDj; cases hDj
        simp [hE2 i e he k hk j (List.mem_range.1 hj) hji]
    have hnei : ∀ j, j < n → D j = true → E j i = false := by
      intro j hj hDj
      cases hji : E j i with
      | false => rfl
      | true =>
        obtain ⟨e', he'⟩ : ∃ e', es[j]? = some e' := ⟨es[j]'(by omega), by simp [hlen, hj]⟩
        have := hm.dep j e' hDj he' i (hE1' j e' he' i hji hin)
        rw [hr2] at this; cases this
    have hEii : E i i = false := by
      cases h : E i i with
      | false => rfl
      | true => exact absurd (hE1' i e he i h hin) hids
    have hpm := perm_split (n := n) hin (fun k hk => hlen ▸ (hds k hk).1) hnd'
    generalize hrest : (List.range n).filter (fun k => !(decide (k ∈ i :: e.ds))) = rest at hpm
    have hrestI : ∀ k ∈ rest, k ≠ i := fun k hk e2 => by
      rw [← hrest] at hk
      simp only [List.mem_filter, Bool.not_eq_true', decide_eq_false_iff_not] at hk
      exact hk.2 (by simp [e2])
    -- the blocks, seen from this operation
    have hrem : (Osh D ρ ++ remZ E es D ρ).Perm (rest.flatMap (curZ E es.length es D ρ) ++ ((e.c ++ blkX ρ (e.ds.filter fun k => E i k)) ++ (blkX ρ (e.ds.filter fun k => !E i k) ++ Osh D ρ))) := by
      have h1 : (remZ E es D ρ).Perm (rest.flatMap (curZ E es.length es D ρ) ++ ((e.c ++ blkX ρ (e.ds.filter fun k => E i k)) ++ blkX ρ (e.ds.filter fun k => !E i k))) := by
        unfold remZ
        rw [hlen]
        refine (hpm.flatMap_right _).trans ?_
        rw [List.flatMap_append, List.flatMap_cons]
        have e1 : curZ E n es D ρ i = e.c := by simp [curZ, hr2, consX, he]
        have e2 : e.ds.flatMap (curZ E n es D ρ) = blkX ρ e.ds := flatMap_congr' fun k hk => by simp [curZ, hD k hk, hne k hk]
        rw [e1, e2, List.append_assoc e.c]
        exact List.Perm.append_left _ (List.Perm.append_left _ (filter_perm ρ _ e.ds))
      exact (List.Perm.append_left (Osh D ρ) h1).trans (perm_four _ _ _ _)
    have hst : St N w0 (envX es ρ e.ds ++ lb) (rest.flatMap (curZ E es.length es D ρ) ++ ((e.c ++ blkX ρ (e.ds.filter fun k => E i k)) ++ (blkX ρ (e.ds.filter fun k => !E i k) ++ Osh D ρ))) A a w := by
      have h1 := hm.st.reo hrem
      refine ⟨h1.size, h1.noDef, h1.bel, ?_, h1.own, h1.nodup, h1.arg, h1.marked⟩
      intro t v hg
      rcases get_append _ _ t v hg with h2 | h2
      · obtain ⟨k, hk, e', he', hd', rfl⟩ := mem_envX _ h2
        exact hm.env k e' t (hD k hk) he' hd'
      · exact h1.env t v h2
    have hDn' : ∀ k, upd D i k = true → k < n := by
      intro k hk
      simp only [upd] at hk
      split at hk
      · rename_i e; rw [e]; exact hin
      · exact hDn k hk
    have hbase : ∀ t v d, get lb t = some v → e.d = some d → t ≠ d := fun t v d hg hd' e2 => hlb t v hg (e2 ▸ List.mem_filterMap.2 ⟨e, List.mem_of_getElem? he, hd'⟩)
    have hputne : ∀ (v : Value) (t : Nat), (∀ d, e.d = some d → t ≠ d) → (a.put e.d v).tmps[t]? = a.tmps[t]? := by
      intro v t ht
      cases h : e.d with
      | none => rfl
      | some d =>
        simp only [Act.put]
        exact Array.getElem?_setIfInBounds_ne (fun h' => ht d h h'.symm)
    have hsz := hm.st.size
    -- the state behind it
    have key : ∀ (v : Value) (B : Blks) (w' : World), e.φ (e.ds.map ρ) v B → St N w0 (envX es ρ e.ds ++ lb) (rest.flatMap (curZ E es.length es D ρ) ++ (B ++ (blkX ρ (e.ds.filter fun k => !E i k) ++ Osh (upd D i) (fun k => if k = i then (v, B) else ρ k)))) A a w' →
        MidZ P N w0 lb Osh A E es (fun k => if k = i then (v, B) else ρ k) (upd D i) (a.put e.d v) w' := by
      intro v B w' hφ hst'
      have hmap : ∀ (ks : List Nat), i ∉ ks → ks.map (fun k => if k = i then (v, B) else ρ k) = ks.map ρ := fun ks hks => List.map_congr_left fun k hk => if_neg (fun (e2 : k = i) => hks (e2 ▸ hk))
      refine ⟨?_, ?_, ?_, ?_⟩
      · have hrem' : (rest.flatMap (curZ E es.length es D ρ) ++ (B ++ (blkX ρ (e.ds.filter fun k => !E i k) ++ Osh (upd D i) (fun k => if k = i then (v, B) else ρ k)))).Perm (Osh (upd D i) (fun k => if k = i then (v, B) else ρ k) ++ remZ E es (upd D i) (fun k => if k = i then (v, B) else ρ k)) := by
          have h1 : (remZ E es (upd D i) (fun k => if k = i then (v, B) else ρ k)).Perm (rest.flatMap (curZ E es.length es D ρ) ++ (B ++ blkX ρ (e.ds.filter fun k => !E i k))) := by
            unfold remZ
            rw [hlen]
            refine (hpm.flatMap_right _).trans ?_
            rw [List.flatMap_append, List.flatMap_cons]
            have hin' : ∀ k, eatenZ E n (upd D i) k = (E i k || eatenZ E n D k) := fun k => eaten_upd E hin k
            have e0 : rest.flatMap (curZ E n es (upd D i) (fun k => if k = i then (v, B) else ρ k)) = rest.flatMap (curZ E n es D ρ) :=
              flatMap_congr' fun k hk => by
                have h1 := hrestI k hk
                have h2 : E i k = false := by
                  cases h : E i k with
                  | false => rfl
                  | true =>
                    have hkn : k < n := by rw [← hrest] at hk; exact List.mem_range.1 (List.mem_filter.1 hk).1
                    have := hE1' i e he k h hkn
                    rw [← hrest] at hk
                    simp only [List.mem_filter, Bool.not_eq_true', decide_eq_false_iff_not] at hk
                    exact absurd (List.mem_cons_of_mem _ this) hk.2
                simp [curZ, upd, h1, hin', h2]
            have e1 : curZ E n es (upd D i) (fun k => if k = i then (v, B) else ρ k) i = B := by
              have h3 : eatenZ E n D i = false := by
                unfold eatenZ
                rw [List.any_eq_false]
                intro j hj
                cases hDj : D j with
                | false => simp
                | true => simp [hnei j (List.mem_range.1 hj) hDj]
              simp [curZ, upd, hin', h3, hEii]
            have e2 : e.ds.flatMap (curZ E n es (upd D i) (fun k => if k = i then (v, B) else ρ k)) = blkX ρ (e.ds.filter fun k => !E i k) := by
              have : e.ds.flatMap (curZ E n es (upd D i) (fun k => if k = i then (v, B) else ρ k)) = e.ds.flatMap (fun k => if (!E i k) = true then (ρ k).2 else []) := flatMap_congr' fun k hk => by
                have h4 : k ≠ i := fun e2 => hids (e2 ▸ hk)
                cases h : E i k <;> simp [curZ, upd, h4, hD k hk, hin', hne k hk, h]
              rw [this]; exact (blkX_filter ρ _ e.ds).symm
            rw [e0, e1, e2]
          exact ((List.Perm.append_left (Osh (upd D i) (fun k => if k = i then (v, B) else ρ k)) h1).trans (perm_four _ _ _ _)).symm
        have h1 := hst'.reo hrem'
        refine ⟨?_, ?_, h1.bel, ?_, h1.own, h1.nodup, h1.arg, h1.marked⟩
        · cases h : e.d <;> simp [Act.put, hsz]
        · have := h1.noDef
          cases h : e.d <;> simpa [Act.put] using this
        · intro t u hg
          rw [hputne v t (fun d hd' => hbase t u d hg hd')]
          exact hm.st.env t u hg
      · intro k e' d' hk he' hd'
        by_cases ek : k = i
        · subst ek
          obtain rfl : e = e' := Option.some.inj (he.symm.trans he')
          simp only [if_true]
          rw [hd']
          have := hN d' hd'
          simp [Act.put, hsz, this]
        · have hDk : D k = true := by simpa [upd, ek] using hk
          rw [if_neg ek, hputne v d' (fun d hd2 (e2 : d' = d) => ek (slotsX_inj hn he' he hd' (e2 ▸ hd2)))]
          exact hm.env k e' d' hDk he' hd'
      · intro k hk e' he'
        by_cases ek : k = i
        · subst ek
          obtain rfl : e = e' := Option.some.inj (he.symm.trans he')
          simp only [if_true]
          rw [hmap _ hids]
          exact hφ
        · have hDk : D k = true := by simpa [upd, ek] using hk
          have hni : i ∉ e'.ds := fun h => by have := hm.dep k e' hDk he' i h; rw [hr2] at this; cases this
          simp only [if_neg ek]
          rw [hmap _ hni]
          exact hm.ok k hDk e' he'
      · intro k e' hk he' j hj
        by_cases ek : k = i
        · subst ek
          obtain rfl : e = e' := Option.some.inj (he.symm.trans he')
          have := hD j hj
          simp [upd, this]
        · have hDk : D k = true := by simpa [upd, ek] using hk
          have := hm.dep k e' hDk he' j hj
          simp [upd, this]
    have next : ∀ (v : Value) (B : Blks) (w' : World), e.φ (e.ds.map ρ) v B → St N w0 (envX es ρ e.ds ++ lb) (rest.flatMap (curZ E es.length es D ρ) ++ (B ++ (blkX ρ (e.ds.filter fun k => !E i k) ++ Osh (upd D i) (fun k => if k = i then (v, B) else ρ k)))) A a w' →
        wpOpsIn (Fr N.r) 0 P ops Q is (a.put e.d v) w' := fun v B w' hφ hst' =>
      midz_runs hlen hle htail hob hn hE1' hE2 hlb hQ is _ (upd D i) _ w' hDn' (clX_upd hcl (fun o ho g hg hb => hr3 o ho g hg hb)) hv (key v B w' hφ hst')
    simp only [wpOpsIn, ho]
    rcases hgood ρ D (fun k hk => hm.ok k (hD k hk)) hcl hr2 (fun g hg hb => hr3 o ho g hg hb) with ⟨hwant, hop⟩ | ⟨hwant, hφ, hsame⟩
    · rw [wanted_of hst hwant]
      simp only [if_true]
      refine hop _ a w hst _ _ fun v B w' hφ hst' => ?_
      rw [hd]
      exact next v B w' hφ hst'
    · rw [wanted_of hst hwant]
      simp only [Bool.false_eq_true, if_false]
      rw [hd]
      exact ⟨fun _ _ => trivial, next undef (e.c ++ blkX ρ (e.ds.filter fun k => E i k)) w hφ (by have h9 := hst; rw [hsame] at h9; exact h9)⟩

def OblsZ (P : Program) (N : Cx) (w0 : World) (ops : Array Oper) (lb : Env) (Osh : (Nat → Bool) → (Nat → Value × Blks) → Blks) (A : Args) (E : Nat → Nat → Bool) (es : List EX) : Nat → List EX → Prop
  | _, [] => True
  | i, e :: r => OblZ P N w0 ops lb Osh A E es i e ∧ OblsZ P N w0 ops lb Osh A E es (i + 1) r
theorem oblsZ_at : ∀ {r : List EX} {k : Nat}, OblsZ P N w0 ops lb Osh A E es k r → ∀ i e, r[i]? = some e → OblZ P N w0 ops lb Osh A E es (k + i) e
  | [], k, _, i, e, h => by simp at h
  | x :: r, k, ⟨h1, h2⟩, 0, e, h => by simp at h; subst h; exact h1
  | x :: r, k, ⟨h1, h2⟩, i + 1, e, h => by
    have := oblsZ_at h2 i e (by simpa using h)
    rwa [show k + 1 + i = k + (i + 1) by omega] at this

/-- The region: n operations whose order is open, then the others. -/
theorem okc_drawz {id : Nat} {Q : Exit → Act → World → Prop} (ds keep : List Nat) (es : List EX) (E : Nat → Nat → Bool) (hE : eatOkZ E es = true) (n f : Nat) (Osh : (Nat → Bool) → (Nat → Value × Blks) → Blks) (hm : P.follows .mixedOrders = true) (hlen : es.length = n) (hb : backA ops = true) (hle : Nat.ble n ops.size = true) (ht : tailX ops n f = true)
    (hn : nodupB (slotsX es) = true) (hin : inB (slotsX es) ds = true) (hO : O.Perm (Osh (fun _ => false) (fun _ => (undef, [])) ++ (List.range n).flatMap (consX es)))
    (hob : OblsZ P N w0 ops (dropK ds l) Osh A E es 0 es)
    (rest : ∀ ρ : Nat → Value × Blks, (∀ k, k < n → okX es ρ k) → OkL P N w0 ops Q (List.range' n (ops.size - n)) (envX es ρ keep ++ dropK ds l) (Osh (fun i => Nat.blt i n) ρ ++ remZ E es (fun i => Nat.blt i n) ρ) A) (hk : allBelow keep n = true) :
    OkC P N w0 (.region id ops true) Q l O A := by
  intro a w hs
  refine wpIn_region_draw fun t => ?_
  have hval := schedule_any (mixed := P.follows .mixedOrders) (ops := ops) hm hb t
  have hdrew : ({ w with drawn := w.drawn + 1 } : World) = w.drew := rfl
  rw [hdrew]
  have hs' : St N w0 l O A a w.drew := hs.ext ((Below.refl _ w).drew)
  have hlb : St N w0 (dropK ds l) O A a w.drew := ⟨hs'.size, hs'.noDef, hs'.bel, fun t v hg => hs'.env t v (get_dropK ds l t v hg).2, hs'.own, hs'.nodup, hs'.arg, hs'.marked⟩
  refine midz_runs (es := es) (n := n) (Osh := Osh) (lb := dropK ds l) hlen (Nat.le_of_ble_eq_true hle) (tailX_of ht) (fun i e he => by have := oblsZ_at hob i e he; rwa [Nat.zero_add] at this) (nodup_ofB hn) (fun j e he k hk hkn => eat1 hE j e he k hk (by omega)) (fun i e he k hk j hj hji => eat2 hE i e he k hk j (by omega) hji) ?_ ?_ _ (fun _ => (undef, [])) (fun _ => false) a w.drew (fun _ h => by cases h) (fun _ _ h => by cases h) hval ⟨?_, ?_, ?_, ?_⟩
  · intro t v hg hm'
    have h1 := (get_dropK ds l t v hg).1
    unfold inB at hin
    rw [List.all_eq_true] at hin
    have := hin t hm'
    rw [List.any_eq_true] at this
    obtain ⟨d, hd, hd'⟩ := this
    have := Nat.eq_of_beq_eq_true hd'
    subst this
    exact h1 hd
  · intro ρ a' w' hmid
    refine rest ρ (fun k hk => hmid.ok k (blt_of hk)) a' w' ?_
    have h1 := hmid.st
    refine ⟨h1.size, h1.noDef, h1.bel, ?_, h1.own, h1.nodup, h1.arg, h1.marked⟩
    intro t v hg
    rcases get_append _ _ t v hg with h2 | h2
    · obtain ⟨k, hk', e', he', hd', rfl⟩ := mem_envX _ h2
      refine hmid.env k e' t (blt_of ?_) he' hd'
      unfold allBelow at hk
      rw [List.all_eq_true] at hk
      exact of_blt (hk k hk')
    · exact h1.env t v h2
  · have hrem : remZ E es (fun _ => false) (fun _ => (undef, [])) = (List.range n).flatMap (consX es) := by
      unfold remZ
      rw [hlen]
      exact flatMap_congr' fun k _ => by simp [curZ]
    rw [hrem]
    exact hlb.reo hO
  · intro k e d h; cases h
  · intro k h; cases h
  · intro k e h; cases h



theorem obl_z {i : Nat} {e : EX} (ho : ∃ o, ops[i]? = some o ∧ o.dst = e.d ∧ depX o es.length e.ds = true) (hN : slotB e.d N.n = true)
    (h : ∀ o, ops[i]? = some o → ∀ (ρ : Nat → Value × Blks) (D : Nat → Bool), (∀ k ∈ e.ds, okX es ρ k) → ClX ops D → D i = false → (∀ g ∈ o.after, binds .any g = true → D g.on = true) →
      GoodY P N w0 ops A (envX es ρ e.ds ++ lb) (e.c ++ blkX ρ (e.ds.filter fun k => E i k)) (blkX ρ (e.ds.filter fun k => !E i k) ++ Osh D ρ) (fun v B => blkX ρ (e.ds.filter fun k => !E i k) ++ Osh (upd D i) (fun k => if k = i then (v, B) else ρ k)) o (e.φ (e.ds.map ρ))) : OblZ P N w0 ops lb Osh A E es i e := by
  obtain ⟨o, ho, hd, hds⟩ := ho
  unfold depX at hds
  rw [Bool.and_eq_true, List.all_eq_true] at hds
  refine ⟨o, ho, hd, fun d hd' => by rw [hd'] at hN; exact of_blt hN, fun k hk => ?_, nodup_ofB hds.2, h o ho⟩
  have h1 := hds.1 k hk
  rw [Bool.and_eq_true, List.any_eq_true] at h1
  obtain ⟨h2, g, hg, hgb⟩ := h1
  rw [Bool.and_eq_true] at hgb
  exact ⟨of_blt h2, g, by simpa using hg, Nat.eq_of_beq_eq_true hgb.1, hgb.2⟩
/-- The same, where nothing shared is written in the region. -/
theorem obl_zs {i : Nat} {e : EX} {Os : Blks} {o : Oper} (ho : ops[i]? = some o) (hd : o.dst = e.d) (hN : slotB e.d N.n = true) (hds : depX o es.length e.ds = true)
    (h : ∀ (ρ : Nat → Value × Blks), (∀ k ∈ e.ds, okX es ρ k) → GoodX P N w0 ops A (envX es ρ e.ds ++ lb) (e.c ++ blkX ρ (e.ds.filter fun k => E i k)) (blkX ρ (e.ds.filter fun k => !E i k) ++ Os) o (e.φ (e.ds.map ρ))) : OblZ P N w0 ops lb (fun _ _ => Os) A E es i e := by
  refine obl_z ⟨o, ho, hd, hds⟩ hN fun o' ho' ρ D hρ _ _ _ => ?_
  obtain rfl : o = o' := Option.some.inj (ho.symm.trans ho')
  exact goody_same rfl (h ρ hρ) (fun _ _ _ => rfl)
end
end Go.Sx
