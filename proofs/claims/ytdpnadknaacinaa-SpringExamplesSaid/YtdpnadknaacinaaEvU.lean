/-
  The evaluator, part U: the run of a region that draws gives a plan.
  Conditions: none; generic over the program.
-/
import Derived.Test.YtdpnadknaacinaaEvT
namespace Go.Ev
open Go.RowKit Go.Sx
set_option linter.unusedVariables false
set_option linter.unusedSimpArgs false

theorem nob_ok {b : Bool} (h : nob b = true) : b = false := by cases b <;> first | rfl | cases h
theorem orb_ok {a b : Bool} (h : orb a b = true) : a = true ∨ b = true := by cases a <;> cases b <;> first | exact .inl rfl | exact .inr rfl | cases h
theorem bit_or (a b j : Nat) : (Nat.lor a b).testBit j = (a.testBit j || b.testBit j) := Nat.testBit_or a b j
theorem bit_pow (i j : Nat) : (Nat.pow 2 i).testBit j = decide (i = j) := Nat.testBit_two_pow

theorem lookN_mem : ∀ {tbl : List (Nat × Nat)} {i m : Nat}, lookN tbl i = some m → (i, m) ∈ tbl
  | [], i, m, h => by cases h
  | x :: tbl, i, m, h => by
    rw [lookN_cons] at h
    by_cases e : x.1 = i
    · rw [if_pos e] at h
      cases h
      subst e
      simp
    · rw [if_neg e] at h
      exact List.mem_cons_of_mem _ (lookN_mem h)

theorem ancF_ok {tbl : List (Nat × Nat)} : ∀ {gs : List Edge} {m : Nat}, ancF tbl gs = some m →
    (∀ g ∈ gs, Region.binds .any g = true → m.testBit g.on = true ∧ ∃ k, lookN tbl g.on = some k) ∧
    (∀ j, m.testBit j = true → ∃ g ∈ gs, Region.binds .any g = true ∧ (j = g.on ∨ ∃ k, lookN tbl g.on = some k ∧ k.testBit j = true))
  | [], m, h => by
    cases h
    exact ⟨(fun g hg => by cases hg), (fun j hj => by rw [Nat.zero_testBit] at hj; cases hj)⟩
  | g :: gs, m, h => by
    have h' : Bool.rec (motive := fun _ => Option Nat) (ancF tbl gs) (obind (lookN tbl g.on) fun m => obind (ancF tbl gs) fun r => some (Nat.lor (Nat.lor (Nat.pow 2 g.on) m) r)) (Region.binds .any g) = some m := h
    cases hb : Region.binds .any g with
    | false =>
      rw [hb] at h'
      obtain ⟨h1, h2⟩ := ancF_ok h'
      refine ⟨fun g' hg' hb' => ?_, fun j hj => ?_⟩
      · rcases List.mem_cons.1 hg' with e | e
        · subst e; rw [hb] at hb'; cases hb'
        · exact h1 g' e hb'
      · obtain ⟨g', h3, h4⟩ := h2 j hj
        exact ⟨g', List.mem_cons_of_mem _ h3, h4⟩
    | true =>
      rw [hb] at h'
      obtain ⟨k, hk, h'⟩ := obind_some h'
      obtain ⟨r, hr, h'⟩ := obind_some h'
      cases h'
      obtain ⟨h1, h2⟩ := ancF_ok hr
      refine ⟨fun g' hg' hb' => ?_, fun j hj => ?_⟩
      · rcases List.mem_cons.1 hg' with e | e
        · subst e
          exact ⟨by rw [bit_or, bit_or, bit_pow]; simp, k, hk⟩
        · obtain ⟨h3, h4⟩ := h1 g' e hb'
          exact ⟨by rw [bit_or, h3]; simp, h4⟩
      · rw [bit_or, bit_or, bit_pow] at hj
        simp only [Bool.or_eq_true, decide_eq_true_eq] at hj
        rcases hj with (hj | hj) | hj
        · exact ⟨g, by simp, hb, .inl hj.symm⟩
        · exact ⟨g, by simp, hb, .inr ⟨k, hk, hj⟩⟩
        · obtain ⟨g', h3, h4⟩ := h2 j hj
          exact ⟨g', List.mem_cons_of_mem _ h3, h4⟩

theorem dtab_mem : ∀ {l : List Oper} {i j t : Nat} {o : Oper}, l[j]? = some o → o.dst = some t → (i + j, t) ∈ dtab l i
  | [], i, j, t, o, h, hd => by simp at h
  | x :: l, i, 0, t, o, h, hd => by
    simp at h
    subst h
    show (i + 0, t) ∈ Option.rec (motive := fun _ => List (Nat × Nat)) (dtab l (Nat.succ i)) (fun t => (i, t) :: dtab l (Nat.succ i)) x.dst
    rw [hd]
    exact List.mem_cons_self
  | x :: l, i, j + 1, t, o, h, hd => by
    have h1 : (Nat.succ i + j, t) ∈ dtab l (Nat.succ i) := dtab_mem (by simpa using h) hd
    have e : i + (j + 1) = Nat.succ i + j := by omega
    rw [e]
    show _ ∈ Option.rec (motive := fun _ => List (Nat × Nat)) (dtab l (Nat.succ i)) (fun t => (i, t) :: dtab l (Nat.succ i)) x.dst
    cases x.dst with
    | none => exact h1
    | some u => exact List.mem_cons_of_mem _ h1

/-- What was gone through so far. -/
structure Acc (P0 : Program) (nt : Nat) (ops : Array Oper) (e0 : Tr Value) (N0 : Nat) (T : List Tk) (tbl rds : List (Nat × Nat)) (effs : List Nat) (E : Tr Value) (N st : Nat) : Prop where
  tbl1 : ∀ i m, (i, m) ∈ tbl → ∃ τ ∈ T, τ.i = i ∧ τ.anc = m
  tbl2 : ∀ τ ∈ T, ∃ m, lookN tbl τ.i = some m
  uniq : ∀ τ ∈ T, ∀ τ' ∈ T, τ.i = τ'.i → τ = τ'
  op : ∀ τ ∈ T, ops[τ.i]? = some τ.o
  edge : ∀ τ ∈ T, ∀ g ∈ τ.o.after, Region.binds .any g = true → τ.anc.testBit g.on = true
  anc : ∀ τ ∈ T, ∀ j, τ.anc.testBit j = true → ∃ g ∈ τ.o.after, Region.binds .any g = true ∧ (j = g.on ∨ ∃ τ' ∈ T, τ'.i = g.on ∧ τ'.anc.testBit j = true)
  rank : ∀ τ ∈ T, ∀ j, τ.anc.testBit j = true → ∃ τ' ∈ T, τ'.i = j ∧ τ'.rk < τ.rk
  rklt : ∀ τ ∈ T, τ.rk < tbl.length
  effi : ∀ τ ∈ T, τ.isE → τ.i ∈ effs
  effs : ∀ τ ∈ T, ∀ k, k < τ.st → ∃ τe ∈ T, τe.isE ∧ τe.st = k ∧ τ.anc.testBit τe.i = true
  effu : ∀ τ ∈ T, ∀ τ' ∈ T, τ.isE → τ'.isE → τ.st = τ'.st → τ = τ'
  effm : ∀ τ ∈ T, (τ.isE → τ.st < st) ∧ τ.st ≤ st
  effx : ∀ k, k < st → ∃ τ ∈ T, τ.isE ∧ τ.st = k
  num : N0 ≤ N ∧ ∀ τ ∈ T, N0 ≤ τ.lo ∧ τ.lo ≤ τ.hi ∧ τ.hi ≤ N
  disj : ∀ τ ∈ T, ∀ τ' ∈ T, τ.i ≠ τ'.i → τ.hi ≤ τ'.lo ∨ τ'.hi ≤ τ.lo
  dst : ∀ τ ∈ T, ∀ t, τ.o.dst = some t → t < nt ∧ ∀ (j : Nat) (o : Oper), ops[j]? = some o → o.dst = some t → j = τ.i
  rds : ∀ τ ∈ T, ∀ t v, τ.R.get t = some v → (t, τ.i) ∈ rds
  env : ∀ τ ∈ T, ∀ t v, τ.R.get t = some v → (∃ τ' ∈ T, τ'.o.dst = some t ∧ τ'.v = v ∧ τ.anc.testBit τ'.i = true) ∨ (e0.get t = some v ∧ ∀ τ' ∈ T, τ'.o.dst = some t → τ'.anc.testBit τ.i = true)
  want : ∀ τ ∈ T, evWants ops τ.R τ.o = some (match τ.kd with | .skip => false | _ => true)
  skip : ∀ τ ∈ T, τ.kd = .skip → τ.v = undef
  pure : ∀ τ ∈ T, τ.kd = .pure → evPure P0 τ.o τ.R .nil = some τ.v
  cur : ∀ t v, E.get t = some v → (∃ τ ∈ T, τ.o.dst = some t ∧ τ.v = v) ∨ (e0.get t = some v ∧ ∀ τ ∈ T, τ.o.dst ≠ some t)


theorem rst_ok : ∀ {lk : List Nat} {e : Tr Value} {t : Nat} {v : Value}, (rst lk e).get t = some v → t ∈ lk ∧ e.get t = some v
  | [], e, t, v, h => by cases h
  | u :: lk, e, t, v, h => by
    have h' : (Option.rec (motive := fun _ => Tr Value) (rst lk e) (fun v => (rst lk e).set (some v) u) (e.get u)).get t = some v := h
    cases hu : e.get u with
    | none =>
      rw [hu] at h'
      obtain ⟨h1, h2⟩ := rst_ok h'
      exact ⟨List.mem_cons_of_mem _ h1, h2⟩
    | some x =>
      rw [hu] at h'
      have h2 : ((rst lk e).set (some x) u).get t = some v := h'
      rw [Tr.get_set] at h2
      by_cases e1 : t = u
      · rw [if_pos e1] at h2
        cases h2
        subst e1
        exact ⟨by simp, hu⟩
      · rw [if_neg e1] at h2
        obtain ⟨h3, h4⟩ := rst_ok h2
        exact ⟨List.mem_cons_of_mem _ h3, h4⟩

theorem look_some {tbl : List (Nat × Nat)} {i : Nat} (h : Option.rec (motive := fun _ => Bool) true (fun _ => false) (lookN tbl i) = true) : lookN tbl i = none := by
  cases hl : lookN tbl i with
  | none => rfl
  | some m => rw [hl] at h; cases h

theorem Acc.add {P0 : Program} {nt : Nat} {ops : Array Oper} {e0 : Tr Value} {N0 : Nat} {T : List Tk} {tbl rds : List (Nat × Nat)} {effs : List Nat} {E : Tr Value} {N st : Nat} (A : Acc P0 nt ops e0 N0 T tbl rds effs E N st) {it : It} {τ : Tk}
    (hs : sItem nt (dtab ops.toList 0) tbl rds effs it τ.o = true) (hi : τ.i = it.i) (ha : τ.anc = it.anc) (hop : nth ops.toList it.i = some τ.o) (hrk : τ.rk = tbl.length) (hst : τ.st = st) (hlo : N ≤ τ.lo) (hhi : τ.lo ≤ τ.hi) {N' : Nat} (hN : τ.hi ≤ N')
    (hR : τ.R = rst it.lk E) (hw : evWants ops τ.R τ.o = some (match τ.kd with | .skip => false | _ => true)) (hsk : τ.kd = .skip → τ.v = undef) (hpu : τ.kd = .pure → evPure P0 τ.o τ.R .nil = some τ.v)
    {effs' : List Nat} {st' : Nat} (heff : (τ.isE ∧ effs' = τ.i :: effs ∧ st' = st + 1) ∨ (¬ τ.isE ∧ (effs' = effs ∨ effs' = τ.i :: effs) ∧ st' = st)) :
    Acc P0 nt ops e0 N0 (τ :: T) ((it.i, it.anc) :: tbl) (addR it.i it.lk rds) effs' (put E τ.o.dst τ.v) N' st' := by
  obtain ⟨c1, hs⟩ := band_ok hs
  obtain ⟨c2, hs⟩ := band_ok hs
  obtain ⟨c3, hs⟩ := band_ok hs
  obtain ⟨c4, c5⟩ := band_ok hs
  have c1' := look_some c1
  have c2' := optN_ok c2
  obtain ⟨an1, an2⟩ := ancF_ok c2'
  have hop' : ops[τ.i]? = some τ.o := by rw [hi]; rw [nth_eq] at hop; simpa using hop
  have hnew : ∀ τ' ∈ T, τ'.i ≠ τ.i := fun τ' h' e => by
    obtain ⟨m, hm⟩ := A.tbl2 τ' h'
    rw [e, hi, c1'] at hm
    cases hm
  have hef : ∀ j ∈ effs, τ.anc.testBit j = true := fun j hj => by rw [ha]; exact allB_ok c3 j hj
  have hdst : ∀ t, τ.o.dst = some t → t < nt ∧ (∀ (j : Nat) (o : Oper), ops[j]? = some o → o.dst = some t → j = τ.i) ∧ (∀ i, (t, i) ∈ rds → τ.anc.testBit i = true) ∧ t ∉ it.lk := fun t ht => by
    rw [ht] at c5
    obtain ⟨d1, d2⟩ := band_ok c5
    obtain ⟨d2, d3⟩ := band_ok d2
    obtain ⟨d3, d4⟩ := band_ok d3
    refine ⟨Nat.le_of_ble_eq_true d1, fun j o hj hd => ?_, fun i hi' => ?_, fun hm => ?_⟩
    · have hj' : ops.toList[j]? = some o := by simpa using hj
      have := dtab_mem (i := 0) hj' hd
      rw [Nat.zero_add] at this
      rcases orb_ok (allB_ok d2 _ this) with h | h
      · have := nob_ok h
        rw [Nat.beq_refl] at this
        cases this
      · rw [hi]; exact Nat.eq_of_beq_eq_true h
    · rcases orb_ok (allB_ok d3 _ hi') with h | h
      · have := nob_ok h
        rw [Nat.beq_refl] at this
        cases this
      · rw [ha]; exact h
    · have := nob_ok (allB_ok d4 t hm)
      rw [Nat.beq_refl] at this
      cases this
  have hlk : ∀ t ∈ it.lk, ∀ τ' ∈ T, τ'.o.dst = some t → τ.anc.testBit τ'.i = true := fun t ht τ' hτ' hd => by
    have hj' : ops.toList[τ'.i]? = some τ'.o := by simpa using A.op τ' hτ'
    have := dtab_mem (i := 0) hj' hd
    rw [Nat.zero_add] at this
    obtain ⟨m, hm⟩ := A.tbl2 τ' hτ'
    rcases orb_ok (allB_ok (allB_ok c4 t ht) _ this) with h | h
    · have := nob_ok h
      rw [Nat.beq_refl] at this
      cases this
    · dsimp only at h
      rw [hm] at h
      rw [ha]; exact h
  have hancT : ∀ j, τ.anc.testBit j = true → ∃ τ' ∈ T, τ'.i = j := fun j hj => by
    rw [ha] at hj
    obtain ⟨g, h1, h2, h3⟩ := an2 j hj
    obtain ⟨_, k, hk⟩ := an1 g h1 h2
    obtain ⟨τ', h4, h5, h6⟩ := A.tbl1 _ _ (lookN_mem hk)
    rcases h3 with rfl | ⟨k', hk', hb⟩
    · exact ⟨τ', h4, h5⟩
    · rw [hk] at hk'
      cases hk'
      obtain ⟨τ2, h7, h8, _⟩ := A.rank τ' h4 j (by rw [h6]; exact hb)
      exact ⟨τ2, h7, h8⟩
  have hstT : ∀ τ' ∈ T, τ'.st ≤ st := fun τ' h' => (A.effm τ' h').2
  have hst' : st ≤ st' := by rcases heff with ⟨_, _, h⟩ | ⟨_, _, h⟩ <;> omega
  have hsub : ∀ j ∈ effs, j ∈ effs' := fun j hj => by rcases heff with ⟨_, h, _⟩ | ⟨_, h | h, _⟩ <;> rw [h] <;> simp [hj]
  refine ⟨?_, ?_, ?_, ?_, ?_, ?_, ?_, ?_, ?_, ?_, ?_, ?_, ?_, ?_, ?_, ?_, ?_, ?_, ?_, ?_, ?_, ?_⟩
  · -- tbl1
    intro i m hm
    rcases List.mem_cons.1 hm with e | e
    · cases e; exact ⟨τ, by simp, hi, ha⟩
    · obtain ⟨τ', h1, h2⟩ := A.tbl1 i m e
      exact ⟨τ', List.mem_cons_of_mem _ h1, h2⟩
  · -- tbl2
    intro τ' h'
    rw [lookN_cons]
    rcases List.mem_cons.1 h' with e | e
    · subst e; exact ⟨it.anc, by rw [if_pos hi.symm]⟩
    · rw [if_neg (by dsimp only; rw [← hi]; exact (hnew τ' e).symm)]
      exact A.tbl2 τ' e
  · -- uniq
    intro τ1 h1 τ2 h2 he
    rcases List.mem_cons.1 h1 with e1 | e1 <;> rcases List.mem_cons.1 h2 with e2 | e2
    · rw [e1, e2]
    · subst e1; exact absurd he.symm (hnew τ2 e2)
    · subst e2; exact absurd he (hnew τ1 e1)
    · exact A.uniq τ1 e1 τ2 e2 he
  · intro τ' h'
    rcases List.mem_cons.1 h' with e | e
    · subst e; exact hop'
    · exact A.op τ' e
  · intro τ' h' g hg hb
    rcases List.mem_cons.1 h' with e | e
    · subst e; rw [ha]; exact (an1 g (by simpa using hg) hb).1
    · exact A.edge τ' e g hg hb
  · -- anc
    intro τ' h' j hj
    rcases List.mem_cons.1 h' with e | e
    · subst e
      rw [ha] at hj
      obtain ⟨g, h1, h2, h3⟩ := an2 j hj
      refine ⟨g, by simpa using h1, h2, ?_⟩
      rcases h3 with h3 | ⟨k, hk, hb⟩
      · exact .inl h3
      · obtain ⟨τ2, h4, h5, h6⟩ := A.tbl1 _ _ (lookN_mem hk)
        exact .inr ⟨τ2, List.mem_cons_of_mem _ h4, h5, by rw [h6]; exact hb⟩
    · obtain ⟨g, h1, h2, h3⟩ := A.anc τ' e j hj
      refine ⟨g, h1, h2, h3.imp id ?_⟩
      rintro ⟨τ2, h4, h5⟩
      exact ⟨τ2, List.mem_cons_of_mem _ h4, h5⟩
  · -- rank
    intro τ' h' j hj
    rcases List.mem_cons.1 h' with e | e
    · subst e
      obtain ⟨τ2, h1, h2⟩ := hancT j hj
      exact ⟨τ2, List.mem_cons_of_mem _ h1, h2, by rw [hrk]; exact A.rklt τ2 h1⟩
    · obtain ⟨τ2, h1, h2⟩ := A.rank τ' e j hj
      exact ⟨τ2, List.mem_cons_of_mem _ h1, h2⟩
  · -- rklt
    intro τ' h'
    rcases List.mem_cons.1 h' with e | e
    · subst e; rw [hrk]; simp
    · have := A.rklt τ' e; simp; omega
  · -- effi
    intro τ' h' he
    rcases List.mem_cons.1 h' with e | e
    · subst e
      rcases heff with ⟨_, h, _⟩ | ⟨h, _⟩
      · rw [h]; simp
      · exact absurd he h
    · exact hsub _ (A.effi τ' e he)
  · -- effs
    intro τ' h' k hk
    rcases List.mem_cons.1 h' with e | e
    · subst e
      rw [hst] at hk
      obtain ⟨τe, h1, h2, h3⟩ := A.effx k hk
      exact ⟨τe, List.mem_cons_of_mem _ h1, h2, h3, hef _ (A.effi τe h1 h2)⟩
    · obtain ⟨τe, h1, h2⟩ := A.effs τ' e k hk
      exact ⟨τe, List.mem_cons_of_mem _ h1, h2⟩
  · -- effu
    intro τ1 h1 τ2 h2 g1 g2 he
    rcases List.mem_cons.1 h1 with e1 | e1 <;> rcases List.mem_cons.1 h2 with e2 | e2
    · rw [e1, e2]
    · subst e1; have := (A.effm τ2 e2).1 g2; omega
    · subst e2; have := (A.effm τ1 e1).1 g1; omega
    · exact A.effu τ1 e1 τ2 e2 g1 g2 he
  · -- effm
    intro τ' h'
    rcases List.mem_cons.1 h' with e | e
    · subst e
      rw [hst]
      refine ⟨fun he => ?_, hst'⟩
      rcases heff with ⟨_, _, h⟩ | ⟨h, _⟩
      · omega
      · exact absurd he h
    · have := A.effm τ' e
      exact ⟨fun he => by have := this.1 he; omega, by omega⟩
  · -- effx
    intro k hk
    rcases heff with ⟨h1, _, h2⟩ | ⟨_, _, h2⟩
    · rcases Nat.lt_or_ge k st with h | h
      · obtain ⟨τe, g1, g2⟩ := A.effx k h
        exact ⟨τe, List.mem_cons_of_mem _ g1, g2⟩
      · exact ⟨τ, by simp, h1, by omega⟩
    · obtain ⟨τe, g1, g2⟩ := A.effx k (by omega)
      exact ⟨τe, List.mem_cons_of_mem _ g1, g2⟩
  · -- num
    refine ⟨by have := A.num.1; omega, fun τ' h' => ?_⟩
    rcases List.mem_cons.1 h' with e | e
    · subst e; have := A.num.1; omega
    · have := A.num.2 τ' e; omega
  · -- disj
    intro τ1 h1 τ2 h2 he
    rcases List.mem_cons.1 h1 with e1 | e1 <;> rcases List.mem_cons.1 h2 with e2 | e2
    · subst e1; subst e2; exact absurd rfl he
    · subst e1; have := A.num.2 τ2 e2; right; omega
    · subst e2; have := A.num.2 τ1 e1; left; omega
    · exact A.disj τ1 e1 τ2 e2 he
  · intro τ' h' t ht
    rcases List.mem_cons.1 h' with e | e
    · subst e; exact ⟨(hdst t ht).1, (hdst t ht).2.1⟩
    · exact A.dst τ' e t ht
  · -- rds
    intro τ' h' t v ht
    rcases List.mem_cons.1 h' with e | e
    · subst e
      rw [hR] at ht
      rw [hi]
      exact addR_new (rst_ok ht).1
    · exact addR_old (A.rds τ' e t v ht)
  · -- env
    intro τ' h' t v ht
    rcases List.mem_cons.1 h' with e | e
    · subst e
      rw [hR] at ht
      obtain ⟨h1, h2⟩ := rst_ok ht
      rcases A.cur t v h2 with ⟨τ2, h3, h4, h5⟩ | ⟨h3, h4⟩
      · exact .inl ⟨τ2, List.mem_cons_of_mem _ h3, h4, h5, hlk t h1 τ2 h3 h4⟩
      · refine .inr ⟨h3, fun τ2 h5 hd => ?_⟩
        rcases List.mem_cons.1 h5 with e2 | e2
        · subst e2; exact absurd h1 (hdst t hd).2.2.2
        · exact absurd hd (h4 τ2 e2)
    · rcases A.env τ' e t v ht with ⟨τ2, h3, h4⟩ | ⟨h3, h4⟩
      · exact .inl ⟨τ2, List.mem_cons_of_mem _ h3, h4⟩
      · refine .inr ⟨h3, fun τ2 h5 hd => ?_⟩
        rcases List.mem_cons.1 h5 with e2 | e2
        · subst e2; exact (hdst t hd).2.2.1 _ (A.rds τ' e t v ht)
        · exact h4 τ2 e2 hd
  · intro τ' h'
    rcases List.mem_cons.1 h' with e | e
    · subst e; exact hw
    · exact A.want τ' e
  · intro τ' h'
    rcases List.mem_cons.1 h' with e | e
    · subst e; exact hsk
    · exact A.skip τ' e
  · intro τ' h'
    rcases List.mem_cons.1 h' with e | e
    · subst e; exact hpu
    · exact A.pure τ' e
  · -- cur
    intro t v ht
    have old : E.get t = some v → (∀ d, τ.o.dst = some d → d ≠ t) → (∃ τ' ∈ τ :: T, τ'.o.dst = some t ∧ τ'.v = v) ∨ (e0.get t = some v ∧ ∀ τ' ∈ τ :: T, τ'.o.dst ≠ some t) := fun h1 h2 => by
      rcases A.cur t v h1 with ⟨τ2, h3, h4⟩ | ⟨h3, h4⟩
      · exact .inl ⟨τ2, List.mem_cons_of_mem _ h3, h4⟩
      · refine .inr ⟨h3, fun τ' h' hd => ?_⟩
        rcases List.mem_cons.1 h' with e | e
        · subst e; exact h2 t hd rfl
        · exact h4 τ' e hd
    cases hd : τ.o.dst with
    | none =>
      rw [hd] at ht
      exact old ht (fun d h => by rw [hd] at h; cases h)
    | some d =>
      rw [hd] at ht
      have ht' : (E.set (some τ.v) d).get t = some v := ht
      rw [Tr.get_set] at ht'
      by_cases e : t = d
      · rw [if_pos e] at ht'
        cases ht'
        subst e
        exact .inl ⟨τ, by simp, hd, rfl⟩
      · rw [if_neg e] at ht'
        exact old ht' (fun d' h => by rw [hd] at h; cases h; exact fun e' => e e'.symm)

end Go.Ev
