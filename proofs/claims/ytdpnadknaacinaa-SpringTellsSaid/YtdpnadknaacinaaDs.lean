/-
  A region that draws its order, with one store that others may come ahead of or behind.
  Conditions: none; generic over the program.
-/
import Derived.Test.YtdpnadknaacinaaDr
namespace Go.Sx
open Go.RowKit Go.Region

/-- The store: which operation, which of the own blocks, what lay there, what lies there behind. -/
structure Mst where
  s : Nat
  q : Nat
  b : Nat
  cs : List Value
  cs' : List Value
  T : Nat
/-- The own blocks ahead of it and behind. -/
def Mst.oo (S : Mst) (O : Blks) (f : Bool) : Blks := bif f then O.set S.q (S.b, S.cs', S.T) else O

section
variable (P : Program) (N : Cx) (w0 : World) (ops : Array Oper) (lb : Env) (S : Mst) (O : Blks) (A : Args)

def Sto (o : Oper) (l : Env) (O' : Blks) : Prop :=
  wantsB ops l o = some true ∧ ∀ a w, St N w0 l O' A a w → ∀ (K : Act → World → Prop) (Q : Exit → Act → World → Prop), K a (w.setRow S.b S.cs'.toArray) → o.wpIn (Fr N.r) 0 P a w (fun a w => K a w) Q

/-- May operation i meet the blocks ahead (f = false), behind (f = true)? -/
def okf (o : Oper) (i : Nat) (f : Bool) : Prop :=
  (f = true → ∀ os, ops[S.s]? = some os → ¬ ∃ g ∈ os.after, g.on = i ∧ binds .any g = true) ∧ (f = false → ¬ ∃ g ∈ o.after, g.on = S.s ∧ binds .any g = true)

def Obl2 (es : Ents) (i d : Nat) (e : Ent) : Prop :=
  ∃ o ds, ops[i]? = some o ∧ (∀ k ∈ ds, k < i ∧ ∃ g ∈ o.after, g.on = k ∧ binds .any g = true) ∧ ds.Nodup ∧
    ((i = S.s → e = none ∧ o.dst = none ∧ ∀ ν : Nat → Nat, Sto P N w0 ops S A o (envD es ν ds ++ lb) (blkD es ν ds ++ S.oo O false)) ∧
     (i ≠ S.s → o.dst = some d ∧ Nat.blt d N.n = true ∧ ∀ (ν : Nat → Nat) (f : Bool), okf ops S o i f → Good P N w0 ops A o (envD es ν ds ++ lb) (blkD es ν ds ++ S.oo O f) e))

def Obls2 : Ents → Prop
  | [] => True
  | (i, d, e) :: es => Obl2 P N w0 ops lb S O A es i d e ∧ Obls2 es
end

section
variable {P : Program} {N : Cx} {w0 : World} {ops : Array Oper} {lb : Env} {S : Mst} {O : Blks} {A : Args}

theorem obls_at2 : ∀ {es : Ents}, WF es → Obls2 P N w0 ops lb S O A es → ∀ i, i < es.length → ∃ d e, findE es i = some (d, e) ∧ ∃ o ds, ops[i]? = some o ∧
    (∀ k ∈ ds, k < i ∧ ∃ g ∈ o.after, g.on = k ∧ binds .any g = true) ∧ ds.Nodup ∧
    ((i = S.s → e = none ∧ o.dst = none ∧ ∀ ν : Nat → Nat, Sto P N w0 ops S A o (envD es ν ds ++ lb) (blkD es ν ds ++ S.oo O false)) ∧
     (i ≠ S.s → o.dst = some d ∧ Nat.blt d N.n = true ∧ ∀ (ν : Nat → Nat) (f : Bool), okf ops S o i f → Good P N w0 ops A o (envD es ν ds ++ lb) (blkD es ν ds ++ S.oo O f) e))
  | [], _, _, i, h => by simp at h
  | (j, d, e) :: es, hw, ⟨ho, hos⟩, i, h => by
    by_cases e1 : i = es.length
    · subst e1
      have hw2 := hw
      obtain ⟨rfl, hw'⟩ := hw
      refine ⟨d, e, by simp [findE, Nat.beq_refl], ?_⟩
      obtain ⟨o, ds, h1, h4, h5, h6, h7⟩ := ho
      have x1 := fun ν => envD_ext hw2 ν ds (fun k hk => (h4 k hk).1)
      have x2 := fun ν => blkD_ext hw2 ν ds (fun k hk => (h4 k hk).1)
      refine ⟨o, ds, h1, h4, h5, fun hi => ?_, fun hi => ?_⟩
      · obtain ⟨g1, g2, g3⟩ := h6 hi
        refine ⟨g1, g2, fun ν => ?_⟩
        rw [x1, x2]; exact g3 ν
      · obtain ⟨g1, g2, g3⟩ := h7 hi
        refine ⟨g1, g2, fun ν f hf => ?_⟩
        rw [x1, x2]; exact g3 ν f hf
    · have hlt : i < es.length := by simp at h; omega
      obtain ⟨d', e', hf, o, ds, h1, h4, h5, h6, h7⟩ := obls_at2 hw.2 hos i hlt
      have hds : ∀ k ∈ ds, k < es.length := fun k hk => Nat.lt_trans (h4 k hk).1 hlt
      have x1 := fun ν => envD_ext hw ν ds hds
      have x2 := fun ν => blkD_ext hw ν ds hds
      refine ⟨d', e', by rw [findE_ext hw hlt]; exact hf, o, ds, h1, h4, h5, fun hi => ?_, fun hi => ?_⟩
      · obtain ⟨g1, g2, g3⟩ := h6 hi
        refine ⟨g1, g2, fun ν => ?_⟩
        rw [x1, x2]; exact g3 ν
      · obtain ⟨g1, g2, g3⟩ := h7 hi
        refine ⟨g1, g2, fun ν f hf => ?_⟩
        rw [x1, x2]; exact g3 ν f hf

set_option maxHeartbeats 1000000 in
theorem mid_runs2 {es : Ents} {B n : Nat} {Q : Exit → Act → World → Prop} (hw : WF es) (hlen : es.length = n) (hle : n ≤ ops.size) (htail : Tail ops n) (hob : Obls2 P N w0 ops lb S O A es) (hq : O[S.q]? = some (S.b, S.cs, S.T)) (hsn : S.s < n) (hn : (slots es).Nodup)
    (hlb : ∀ t v, get lb t = some v → t ∉ slots es)
    (hQ : ∀ ν a w, Mid P N w0 ops lb (S.oo O true) A es B ν (fun i => Nat.blt i n) a w → wpOpsIn (Fr N.r) 0 P ops Q (List.range' n (ops.size - n)) a w) :
    ∀ (is : List Nat) (ν : Nat → Nat) (D : Nat → Bool) (f : Bool) (a : Act) (w : World), D S.s = f → (D S.s = true → ∀ o, ops[S.s]? = some o → ∀ g ∈ o.after, binds .any g = true → D g.on = true) → (∀ i, D i = true → i < n) → Val .any ops D is → Mid P N w0 ops lb (S.oo O f) A es B ν D a w → wpOpsIn (Fr N.r) 0 P ops Q is a w
  | [], ν, D, f, a, w, hDs, hSD, hDn, hv, hm => by
    have hft : f = true := by rw [← hDs]; exact hv S.s (Nat.lt_of_lt_of_le hsn hle)
    subst hft
    have hall : ∀ i, i < n → D i = true := fun i hi => hv i (Nat.lt_of_lt_of_le hi hle)
    have := hQ ν a w (eq_blt hDn hall ▸ hm)
    have h0 : ops.size - n = 0 := by
      rcases Nat.lt_or_ge n ops.size with h1 | h1
      · exact absurd (hDn n (hv n h1)) (Nat.lt_irrefl n)
      · omega
    rw [h0] at this
    exact this
  | i :: is, ν, D, f, a, w, hDs, hSD, hDn, ⟨⟨hr1, hr2, hr3⟩, hv⟩, hm => by
    by_cases hin : i < n
    case neg =>
      have hall : ∀ k, k < i → D k = true := by
        intro k hk
        obtain ⟨o, ho⟩ : ∃ o, ops[i]? = some o := ⟨ops[i], by simp [hr1]⟩
        exact tail_done htail hDn (by omega) ho (fun g hg hb => hr3 o ho g hg hb) k hk
      have hDe := eq_blt hDn (fun k hk => hall k (by omega))
      have hfor := forced htail (i :: is) D n (Nat.le_refl _) hle (fun k => ⟨fun h => hDn k h, fun h => hall k (by omega)⟩) ⟨⟨hr1, hr2, hr3⟩, hv⟩
      rw [hfor]
      have hft : f = true := by rw [← hDs]; exact hall S.s (by omega)
      subst hft
      exact hQ ν a w (hDe ▸ hm)
    obtain ⟨d, e, hf, o, ds, ho, hds, hnd, hobl⟩ := obls_at2 hw hob i (by omega)
    have hD0 : ∀ k ∈ ds, D k = true := by
      intro k hk
      obtain ⟨_, g, hg, hgk, hgb⟩ := hds k hk
      rw [← hgk]
      exact hr3 o ho g hg hgb
    by_cases his : i = S.s
    case pos =>
      have hfs : f = false := by rw [← hDs, ← his]; exact hr2
      subst hfs
      obtain ⟨he, hd, hsto⟩ := hobl.1 his
      subst he
      have hst := hm.sub ds hD0 hnd
      obtain ⟨hg1, hg2⟩ := hsto ν
      simp only [wpOpsIn, ho, wanted_of hst hg1, if_true]
      refine hg2 a w hst _ _ ?_
      have hbB : S.b < B := hm.old S.b S.cs S.T (List.mem_of_getElem? hq)
      have hsz : (w.setRow S.b S.cs'.toArray).heap.size = w.heap.size := by simp [World.setRow]
      have hother : ∀ k, k ≠ S.b → (w.setRow S.b S.cs'.toArray).heap[k]? = w.heap[k]? := fun k hk => setRow_other w S.b k _ hk
      refine mid_runs2 hw hlen hle htail hob hq hsn hn hlb hQ is ν (upd D i) true a _ (by simp [upd, his]) ?_ ?_ hv ⟨hm.st.setRow S.q S.b S.cs S.cs' S.T hq, by rw [hsz]; exact hm.start, ?_, hm.base, ?_, ?_, ?_⟩
      · intro _ o' ho' g hg hgb
        have ho2 : o' = o := by rw [his] at ho; rw [ho] at ho'; cases ho'; rfl
        subst ho2
        simp only [upd]
        split
        · rfl
        · exact hr3 _ ho g hg hgb
      · intro k hk
        simp only [upd] at hk
        split at hk
        · rename_i e; rw [e]; exact hin
        · exact hDn k hk
      · intro b cs T hmm
        have hmm' : (b, cs, T) ∈ O.set S.q (S.b, S.cs', S.T) := hmm
        rcases List.mem_or_eq_of_mem_set hmm' with h1 | h1
        · exact hm.old b cs T h1
        · cases h1; exact hbB
      · intro k d' x hk hfk
        simp only [upd] at hk
        split at hk
        · rename_i e; rw [e, hf] at hfk; simp at hfk
        · exact hm.env k d' x hk hfk
      · intro k d' mk cs T hk hfk
        simp only [upd] at hk
        split at hk
        · rename_i e; rw [e, hf] at hfk; simp at hfk
        · obtain ⟨g1, g2, g3⟩ := hm.env' k d' mk cs T hk hfk
          refine ⟨g1, ?_, g3⟩
          unfold holds
          rw [hother _ (by omega)]
          exact g2
      · intro k j d1 mk1 cs1 T1 d2 mk2 cs2 T2 hk hj hkj hfk hfj
        simp only [upd] at hk hj
        split at hk
        · rename_i e; rw [e, hf] at hfk; simp at hfk
        · split at hj
          · rename_i e; rw [e, hf] at hfj; simp at hfj
          · exact hm.inj k j _ _ _ _ _ _ _ _ hk hj hkj hfk hfj
    obtain ⟨hd, hN, hgood0⟩ := hobl.2 his
    have hgood : ∀ ν, Good P N w0 ops A o (envD es ν ds ++ lb) (blkD es ν ds ++ S.oo O f) e := by
      intro ν
      refine hgood0 ν f ⟨?_, ?_⟩
      · intro hft os hos ⟨g, hg, hgi, hgb⟩
        have := hSD (by rw [hDs]; exact hft) os hos g hg hgb
        rw [hgi, hr2] at this; cases this
      · intro hff ⟨g, hg, hgs, hgb⟩
        have := hr3 o ho g hg hgb
        rw [hgs, hDs, hff] at this; cases this
    have hDs' : upd D i S.s = f := by simp only [upd]; rw [if_neg (fun e => his e.symm)]; exact hDs
    have hSD' : upd D i S.s = true → ∀ o, ops[S.s]? = some o → ∀ g ∈ o.after, binds .any g = true → upd D i g.on = true := by
      intro h1 os hos g hg hgb
      have := hSD (by rw [hDs, ← hDs']; exact h1) os hos g hg hgb
      simp only [upd]
      split
      · rfl
      · exact this
    have hD := hD0
    have hst := hm.sub ds hD hnd
    have hDn' : ∀ k, upd D i k = true → k < n := by
      intro k hk
      simp only [upd] at hk
      split at hk
      · rename_i e; rw [e]; exact hin
      · exact hDn k hk
    have hdlt : d < N.n := of_blt hN
    have hbase : ∀ t v, get lb t = some v → t ≠ d := fun t v hg e2 => hlb t v hg (e2 ▸ mem_slots hf)
    have hputne : ∀ (v : Value) (t : Nat), t ≠ d → (a.put (some d) v).tmps[t]? = a.tmps[t]? := by
      intro v t ht
      simp only [Act.put]
      exact Array.getElem?_setIfInBounds_ne (fun h => ht h.symm)
    have hputd : ∀ (v : Value), (a.put (some d) v).tmps[d]? = some v := by
      intro v
      have := hm.st.size
      simp [Act.put, this, hdlt]
    have hDne : ∀ k, D k = true → k ≠ i := fun k hk e => by rw [e, hr2] at hk; cases hk
    have hne : ∀ {k d' : Nat} {x : Ent}, D k = true → findE es k = some (d', x) → d' ≠ d := fun hk hfk e => hDne _ hk (slots_inj hn (e ▸ hfk) hf)
    have stput : ∀ (v : Value) {w' : World}, Below w.heap.size w w' → St N w0 lb (S.oo O f) A (a.put (some d) v) w' := by
      intro v w' hb
      have h1 := hm.st.ext hb
      refine ⟨?_, h1.noDef, h1.bel, ?_, h1.own, h1.nodup, h1.arg, h1.marked⟩
      · simp [Act.put, h1.size]
      · intro t u hg
        rw [hputne v t (hbase t u hg)]
        exact h1.env t u hg
    have hwant : ∀ r, wantsB ops (envD es ν ds ++ lb) o = some r → Region.wanted o (yielded ops a.tmps) = r := fun r h => wanted_of hst h
    simp only [wpOpsIn, ho]
    have keep : ∀ {w' : World}, Below w.heap.size w w' → ∀ {k : Nat} {cs : List Value} {T : TypeId}, holds w k cs T → holds w' k cs T := by
      intro w' hb k cs T h
      unfold holds
      rw [hb.block k h.lt]; exact h
    match e, hf, hgood ν with
    | none, hf, hg =>
      have hg' : wantsB ops (envD es ν ds ++ lb) o = some false := hg
      rw [hwant _ hg', hd]
      simp only [Bool.false_eq_true, if_false]
      refine ⟨fun _ _ => trivial, ?_⟩
      refine mid_runs2 hw hlen hle htail hob hq hsn hn hlb hQ is ν (upd D i) f _ w hDs' hSD' hDn' hv ⟨stput _ (Below.refl _ _), hm.start, hm.old, hm.base, ?_, ?_, ?_⟩
      · intro k d' x hk hfk
        simp only [upd] at hk
        split at hk
        · rename_i e; rw [e, hf] at hfk; simp at hfk
        · rw [hputne _ _ (hne hk hfk)]; exact hm.env k d' x hk hfk
      · intro k d' mk cs T hk hfk
        simp only [upd] at hk
        split at hk
        · rename_i e; rw [e, hf] at hfk; simp at hfk
        · rw [hputne _ _ (hne hk hfk)]; exact hm.env' k d' mk cs T hk hfk
      · intro k j d1 mk1 cs1 T1 d2 mk2 cs2 T2 hk hj hkj hfk hfj
        simp only [upd] at hk hj
        split at hk
        · rename_i e; rw [e, hf] at hfk; simp at hfk
        · split at hj
          · rename_i e; rw [e, hf] at hfj; simp at hfj
          · exact hm.inj k j _ _ _ _ _ _ _ _ hk hj hkj hfk hfj
    | some (.inl x), hf, hg =>
      have hg' : (wantsB ops (envD es ν ds ++ lb) o = some true ∧ OpV P N w0 (envD es ν ds ++ lb) (blkD es ν ds ++ S.oo O f) A o (pv x)) ∨ (wantsB ops (envD es ν ds ++ lb) o = some false ∧ x = undef) := hg
      have next : ∀ w', Below w.heap.size w w' → wpOpsIn (Fr N.r) 0 P ops Q is (a.put (some d) x) w' := by
        intro w' hb
        refine mid_runs2 hw hlen hle htail hob hq hsn hn hlb hQ is ν (upd D i) f _ w' hDs' hSD' hDn' hv ⟨stput _ hb, Nat.le_trans hm.start hb.size, hm.old, hm.base, ?_, ?_, ?_⟩
        · intro k d' x hk hfk
          simp only [upd] at hk
          split at hk
          · rename_i e
            rw [e, hf] at hfk
            simp only [Option.some.injEq, Prod.mk.injEq, Sum.inl.injEq] at hfk
            rw [← hfk.1, hputd, hfk.2]
          · rw [hputne _ _ (hne hk hfk)]; exact hm.env k d' x hk hfk
        · intro k d' mk cs T hk hfk
          simp only [upd] at hk
          split at hk
          · rename_i e; rw [e, hf] at hfk; simp at hfk
          · rw [hputne _ _ (hne hk hfk)]
            obtain ⟨g1, g2, g3⟩ := hm.env' k d' mk cs T hk hfk
            exact ⟨g1, keep hb g2, g3⟩
        · intro k j d1 mk1 cs1 T1 d2 mk2 cs2 T2 hk hj hkj hfk hfj
          simp only [upd] at hk hj
          split at hk
          · rename_i e; rw [e, hf] at hfk; simp at hfk
          · split at hj
            · rename_i e; rw [e, hf] at hfj; simp at hfj
            · exact hm.inj k j _ _ _ _ _ _ _ _ hk hj hkj hfk hfj
      rcases hg' with hg' | ⟨hg', hx⟩
      · rw [hwant _ hg'.1]
        simp only [if_true]
        refine hg'.2 a w hst _ _ ?_
        intro v w' hb hvx
        have hvx' : v = x := hvx
        rw [hd, hvx']
        exact next w' hb
      · rw [hwant _ hg', hd]
        simp only [Bool.false_eq_true, if_false]
        refine ⟨fun _ _ => trivial, ?_⟩
        rw [← hx]
        exact next w (Below.refl _ _)
    | some (.inr (mk, cs, T)), hf, hg =>
      have hg' : wantsB ops (envD es ν ds ++ lb) o = some true ∧ OpV P N w0 (envD es ν ds ++ lb) (blkD es ν ds ++ S.oo O f) A o (Res mk (fun b => [(b, cs, T)]) (fun _ => True)) := hg
      rw [hwant _ hg'.1]
      simp only [if_true]
      refine hg'.2 a w hst _ _ ?_
      rintro v w' hb ⟨b, rfl, _, hB, _⟩
      rw [hd]
      obtain ⟨hb1, hb2⟩ := hB b cs T (by simp)
      refine mid_runs2 hw hlen hle htail hob hq hsn hn hlb hQ is (fun k => if k = i then b else ν k) (upd D i) f _ w' hDs' hSD' hDn' hv ⟨stput _ hb, Nat.le_trans hm.start hb.size, hm.old, hm.base, ?_, ?_, ?_⟩
      · intro k d' x hk hfk
        simp only [upd] at hk
        split at hk
        · rename_i e; rw [e, hf] at hfk; simp at hfk
        · rw [hputne _ _ (hne hk hfk)]; exact hm.env k d' x hk hfk
      · intro k d' mk' cs' T' hk hfk
        simp only [upd] at hk
        split at hk
        · rename_i e
          rw [e, hf] at hfk
          simp only [Option.some.injEq, Prod.mk.injEq, Sum.inr.injEq] at hfk
          obtain ⟨rfl, rfl, rfl, rfl⟩ := hfk
          rw [if_pos e, hputd]
          exact ⟨rfl, hb1, Nat.le_trans hm.start hb2⟩
        · rename_i e
          rw [if_neg e, hputne _ _ (hne hk hfk)]
          obtain ⟨g1, g2, g3⟩ := hm.env' k d' mk' cs' T' hk hfk
          exact ⟨g1, keep hb g2, g3⟩
      · intro k j d1 mk1 cs1 T1 d2 mk2 cs2 T2 hk hj hkj hfk hfj
        simp only [upd] at hk hj
        have fresh : ∀ {k : Nat} {d1 mk1 cs1 T1}, D k = true → findE es k = some (d1, some (.inr (mk1, cs1, T1))) → ν k < b := fun h1 h2 => Nat.lt_of_lt_of_le (hm.env' _ _ _ _ _ h1 h2).2.1.lt hb2
        by_cases ek : k = i
        · by_cases ej : j = i
          · exact absurd (ek.trans ej.symm) hkj
          · rw [if_neg ej] at hj
            have := fresh hj hfj
            show (if k = i then b else ν k) ≠ (if j = i then b else ν j)
            rw [if_pos ek, if_neg ej]; omega
        · rw [if_neg ek] at hk
          by_cases ej : j = i
          · have := fresh hk hfk
            show (if k = i then b else ν k) ≠ (if j = i then b else ν j)
            rw [if_neg ek, if_pos ej]; omega
          · rw [if_neg ej] at hj
            show (if k = i then b else ν k) ≠ (if j = i then b else ν j)
            rw [if_neg ek, if_neg ej]
            exact hm.inj k j _ _ _ _ _ _ _ _ hk hj hkj hfk hfj


/-! ### Step by step -/
def Dd (P : Program) (N : Cx) (w0 : World) (id : Nat) (ops : Array Oper) (Q : Exit → Act → World → Prop) (l : Env) (lb : Env) (S : Mst) (O : Blks) (A : Args) (es : Ents) : Prop :=
  WF es → Obls2 P N w0 ops lb S O A es → OkC P N w0 (.region id ops true) Q l O A

theorem dd_start {id : Nat} {Q : Exit → Act → World → Prop} {l : Env} (ds : List Nat) (S : Mst) (h : Dd P N w0 id ops Q l (dropK ds l) S O A []) : OkC P N w0 (.region id ops true) Q l O A := h trivial trivial

/-- May operation i come behind the store? -/
def mayT (ops : Array Oper) (s i : Nat) : Bool := match ops[s]? with
  | some os => !(os.after.toList.any fun g => Nat.beq g.on i && binds .any g)
  | none => true
def mayF (o : Oper) (s : Nat) : Bool := !(o.after.toList.any fun g => Nat.beq g.on s && binds .any g)

theorem may_of {o : Oper} {i : Nat} {f : Bool} (h : okf ops S o i f) : (f = true → mayT ops S.s i = true) ∧ (f = false → mayF o S.s = true) := by
  refine ⟨fun hf => ?_, fun hf => ?_⟩
  · unfold mayT
    cases hos : ops[S.s]? with
    | none => rfl
    | some os =>
      have := h.1 hf os hos
      simp only [Bool.not_eq_true']
      rw [List.any_eq_false]
      intro g hg hgb
      rw [Bool.and_eq_true] at hgb
      exact this ⟨g, by simpa using hg, Nat.eq_of_beq_eq_true hgb.1, hgb.2⟩
  · unfold mayF
    have := h.2 hf
    simp only [Bool.not_eq_true']
    rw [List.any_eq_false]
    intro g hg hgb
    rw [Bool.and_eq_true] at hgb
    exact this ⟨g, by simpa using hg, Nat.eq_of_beq_eq_true hgb.1, hgb.2⟩

section
variable {id : Nat} {Q : Exit → Act → World → Prop} {l : Env} {es : Ents} {o : Oper} {i d : Nat}

theorem dd_step (ds : List Nat) {e : Ent} (hi : es.length = i) (ho : ops[i]? = some o) (hd : o.dst = some d) (hN : Nat.blt d N.n = true) (hds : depsB o i ds = true) (his : Nat.beq i S.s = false)
    (hF : mayF o S.s = true → ∀ ν, Good P N w0 ops A o (envD es ν ds ++ lb) (blkD es ν ds ++ O) e)
    (hT : mayT ops S.s i = true → ∀ ν, Good P N w0 ops A o (envD es ν ds ++ lb) (blkD es ν ds ++ O.set S.q (S.b, S.cs', S.T)) e)
    (rest : Dd P N w0 id ops Q l lb S O A ((i, d, e) :: es)) : Dd P N w0 id ops Q l lb S O A es := by
  intro hw hob
  obtain ⟨h1, h2⟩ := deps_of hds
  refine rest ⟨hi.symm, hw⟩ ⟨⟨o, ds, ho, h1, h2, fun e' => ?_, fun _ => ⟨hd, hN, fun ν f hf => ?_⟩⟩, hob⟩
  · rw [e', Nat.beq_refl] at his; cases his
  · obtain ⟨g1, g2⟩ := may_of hf
    cases f with
    | false => exact hF (g2 rfl) ν
    | true => exact hT (g1 rfl) ν

theorem dd_store (ds : List Nat) {off Ty n : Nat} {vs : List Value} {x y : Operand} {v : Value} (hi : es.length = i) (ho : ops[i]? = some o) (hd : o.dst = none) (hds : depsB o i ds = true) (his : i = S.s)
    (hg : ∀ ν, wantsB ops (envD es ν ds ++ lb) o = some true) (hop : o.op = .store Ty x y) (hx : ∀ ν, ev (envD es ν ds ++ lb) x = some (.pointer (some ⟨S.b, off, none⟩))) (hy : ∀ ν, ev (envD es ν ds ++ lb) y = some v)
    (hv : v.cells = vs.toArray) (hn : sizeB P Ty = some n) (hl : vs.length = n) (hfit : off + n ≤ S.cs.length) (h1 : flat vs = true) (hcs : S.cs' = setL S.cs off vs) (hq : O[S.q]? = some (S.b, S.cs, S.T))
    (rest : Dd P N w0 id ops Q l lb S O A ((i, d, none) :: es)) : Dd P N w0 id ops Q l lb S O A es := by
  intro hw hob
  obtain ⟨g1, g2⟩ := deps_of hds
  refine rest ⟨hi.symm, hw⟩ ⟨⟨o, ds, ho, g1, g2, fun _ => ⟨rfl, hd, fun ν => ⟨hg ν, ?_⟩⟩, fun h => absurd his h⟩, hob⟩
  intro a w hs K Q hK
  have hm : (S.b, S.cs, S.T) ∈ blkD es ν ds ++ S.oo O false := List.mem_append_right _ (List.mem_of_getElem? hq)
  obtain ⟨j, hj⟩ := List.mem_iff_getElem?.1 hm
  have hrun := run_storeVar (P := P) (hs.own j _ _ _ hj).1 hv hn hl hfit h1
  have hr : (execOp a.eval o).run P w = .ok .skip (w.setRow S.b (setL S.cs off vs).toArray) := by
    simp [execOp, hop, hs.eval (hx ν), hs.eval (hy ν), hrun]
  refine opIn_of (fun c h => by rw [hop] at h; cases h) ?_
  rw [hr, hd, ← hcs]
  exact hK

theorem dd_end (ds keep : List Nat) (n : Nat) (hmx : P.follows .mixedOrders = true) (hl : lb = dropK ds l) (hlen : es.length = n) (hb : backA ops = true) (hle : Nat.ble n ops.size = true) (ht : tailB ops n = true) (hn : nodupB (slots es) = true) (hin : inB (slots es) ds = true)
    (hk : nodupB keep = true) (hkn : allBelow keep n = true) (hq : O[S.q]? = some (S.b, S.cs, S.T)) (hsn : Nat.blt S.s n = true)
    (rest : ∀ ν, OkL P N w0 ops Q (List.range' n (ops.size - n)) (envD es ν keep ++ lb) (blkD es ν keep ++ O.set S.q (S.b, S.cs', S.T)) A) : Dd P N w0 id ops Q l lb S O A es := by
  intro hw hob a w hs
  refine wpIn_region_draw fun t => ?_
  have hval := schedule_any (ops := ops) hmx hb t
  have hdrew : ({ w with drawn := w.drawn + 1 } : World) = w.drew := rfl
  rw [hdrew]
  have hs' : St N w0 l O A a w.drew := hs.ext ((Below.refl _ w).drew)
  have hlb : St N w0 lb (S.oo O false) A a w.drew := by
    refine ⟨hs'.size, hs'.noDef, hs'.bel, ?_, hs'.own, hs'.nodup, hs'.arg, hs'.marked⟩
    intro t v hg
    rw [hl] at hg
    exact hs'.env t v (get_dropK ds l t v hg).2
  refine mid_runs2 (B := w.heap.size) hw hlen (Nat.le_of_ble_eq_true hle) (tail_of ht) hob hq (of_blt hsn) (nodup_ofB hn) ?_ ?_ _ (fun _ => 0) (fun _ => false) false a w.drew rfl (fun h => by cases h) (fun _ h => by cases h) hval ⟨hlb, Nat.le_refl _, ?_, hs.bel.size, ?_, ?_, ?_⟩
  · intro t v hg hm
    rw [hl] at hg
    have h1 := (get_dropK ds l t v hg).1
    unfold inB at hin
    rw [List.all_eq_true] at hin
    have := hin t hm
    rw [List.any_eq_true] at this
    obtain ⟨d, hd, hdt⟩ := this
    have := Nat.eq_of_beq_eq_true hdt; subst this
    exact h1 hd
  · intro ν a' w' hm
    refine rest ν a' w' (hm.sub keep ?_ (nodup_ofB hk))
    intro k hk'
    unfold allBelow at hkn
    rw [List.all_eq_true] at hkn
    exact hkn k hk'
  · intro b cs T hm
    obtain ⟨j, hj⟩ := List.mem_iff_getElem?.1 hm
    exact (hs.own j b cs T hj).1.lt
  · intro _ _ _ h; cases h
  · intro _ _ _ _ _ h; cases h
  · intro _ _ _ _ _ _ _ _ _ _ h; cases h
end
end
end Go.Sx
