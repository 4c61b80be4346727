/-
  The evaluator, part H: literals of slices, make, stores, append, copy.
  Conditions: none; generic over the program.
-/
import Derived.Test.YtdpnadknaacinaaEvG
namespace Go.Ev
open Go.RowKit Go.Sx
set_option linter.unusedVariables false
set_option linter.unusedSimpArgs false

section
variable {P : Program} {w0 : Fen} {w : World} {σ : Sg} {h : Tr Ob} {e : Tr Value} {n N : Nat} {a : Act} {o : Oper}

theorem map_range0 (f : Nat → Value) (zs : List Value) {k : Nat} (hk : k = 0) : (Array.range k).map f = ⟨reps zs 0⟩ := by subst hk; rw [range_0]; simp; rfl
/-- The size of an element that is not empty, and its zero. -/
noncomputable def elz (P : Program) (el : TypeId) : Option (Nat × List Value) :=
  obind (sizeB P el) fun z => obind (zer P el) fun zs => ocond (Nat.beq (len zs) z) (ocond (Nat.ble 1 z) (some (z, zs)))
theorem elz_ok {el z : Nat} {zs : List Value} (h : elz P el = some (z, zs)) : sizeB P el = some z ∧ zer P el = some zs ∧ zs.length = z ∧ 0 < z := by
  obtain ⟨z', h1, h⟩ := obind_some h
  obtain ⟨zs', h2, h⟩ := obind_some h
  obtain ⟨h3, h⟩ := ocond_some h
  obtain ⟨h4, h⟩ := ocond_some h
  cases h
  have h3' := Nat.eq_of_beq_eq_true h3
  rw [len_eq] at h3'
  exact ⟨h1, h2, h3', Nat.le_of_ble_eq_true h4⟩

noncomputable def evBuildSlice (P : Program) (T : TypeId) (m : Nat) (ps : List (Nat × Value)) (h : Tr Ob) (N : Nat) : OpR :=
  obind (elemOf P T) fun el => obind (elz P el) fun zz => ocond (Nat.ble (Nat.mul m zz.1) 16777216)
    (obind (fil (fun i => some (Nat.mul i zz.1, zz.1)) ps (reps zz.2 m)) fun cs => some (.slice (some ⟨N, 0, none⟩) m m, h.set (some (.c cs el)) N, Nat.succ N))

theorem evBuildSlice_ok (H : HR w0 σ h w) (hE : ER σ e n a.tmps) (hf : Fresh σ N (N + 1)) {T m : Nat} {parts : List (Nat × Operand)} (ho : o.op = .buildSlice T m ⟨parts⟩) {ps : List (Nat × Value)} (hp : evParts e parts = some ps)
    {v : Value} {h' : Tr Ob} {N' : Nat} (hr : evBuildSlice P T m ps h N = some (v, h', N')) : N' = N + 1 ∧ EOk P w0 σ N o a w v h' N' := by
  obtain ⟨el, he, hr⟩ := obind_some hr
  obtain ⟨⟨z, zs⟩, hz, hr⟩ := obind_some hr
  obtain ⟨hle, hr⟩ := ocond_some hr
  obtain ⟨cs, hcs, hr⟩ := obind_some hr
  cases hr
  obtain ⟨h1, h2, h3, h4⟩ := elz_ok hz
  obtain ⟨h5, h6⟩ := zer_ok h2
  obtain ⟨us, h7, h8⟩ := evParts_ok hE hp
  obtain ⟨t, ht, hrz⟩ := run_zero h5 w
  obtain ⟨qs, h9, h10⟩ := fil_ok (σ := σ) _ ps us _ _ cs h7 (reps_rl (h6 σ) m) hcs
  have hle' : m * z ≤ 2 ^ 24 := Nat.le_of_ble_eq_true hle
  refine ⟨rfl, eok_new (r := m) (ob' := .cells ⟨qs⟩ el) (mk := fun b => .slice (some ⟨b, 0, none⟩) m m) H hf (fun σ' b hb => .sl hb) (fun σ' hl => or_cells (h9.mono hl)) ?_⟩
  have hmap : ((⟨parts⟩ : Array (Nat × Operand)).map fun (i, x) => (i, a.eval x)).toList = (ps.map (·.1)).zip us := by rw [← h8]; simp
  have hgt : ¬ (m * z > 2 ^ 24) := by omega
  have h10' : Instr.fill (fun i => some (i * z, z)) ⟨reps zs m⟩ ((ps.map (·.1)).zip us) = some ⟨qs⟩ := h10
  by_cases hm : m * z = 0
  · have hm0 : m = 0 := by rcases Nat.mul_eq_zero.1 hm with h | h <;> omega
    have e0 : ((Array.range (m * z)).map fun i => (#[] : Array Value)[i % (#[] : Array Value).size]!) = ⟨reps zs m⟩ := by rw [map_range0 _ zs hm, hm0]
    simp only [execOp, ho, Instr.buildSlice, Sem.run_bind, run_underlying (elemOf_ok he), Result.andThen_ok, Sx.run_sizeOf h1, hgt, if_false, if_pos hm, Sem.run_pure, hmap]
    rw [e0, h10']
    simp only [newRow, Sem.run_bind, run_newObj_alloc, Result.andThen_ok, Sem.run_pure]
  · have e0 := range_reps zs m z h3
    simp only [execOp, ho, Instr.buildSlice, Sem.run_bind, run_underlying (elemOf_ok he), Result.andThen_ok, Sx.run_sizeOf h1, hgt, if_false, hm, Sem.run_pure, hmap, hrz, ht]
    rw [e0, h10']
    simp only [newRow, Sem.run_bind, run_newObj_alloc, Result.andThen_ok, Sem.run_pure]

noncomputable def nonNeg (v : Value) : Option Nat :=
  match v with
  | .int _ (.ofNat i) => some i
  | _ => none
noncomputable def bytesB (P : Program) (T : TypeId) : Option Nat := Option.rec (motive := fun _ => Option Nat) none (fun i => some i.bytes) (P.info? T)
theorem bytesB_ok {T b : Nat} (h : bytesB P T = some b) (w : World) : ∃ i, P.info? T = some i ∧ i.bytes = b := by
  unfold bytesB at h
  cases hi : P.info? T with
  | none => rw [hi] at h; cases h
  | some i => rw [hi] at h; cases h; exact ⟨i, rfl, rfl⟩

noncomputable def evMakeSlice (P : Program) (T : TypeId) (l c : Value) (h : Tr Ob) (N : Nat) : OpR :=
  obind (nonNeg l) fun l => obind (nonNeg c) fun c => obind (elemOf P T) fun el => obind (elz P el) fun zz => obind (bytesB P el) fun by_ =>
    ocond (Nat.ble l c) (ocond (Nat.ble c 1000000) (ocond (Nat.ble by_ 1000000)
      (some (.slice (some ⟨N, 0, none⟩) l c, h.set (some (.c (reps zz.2 c) el)) N, Nat.succ N))))

theorem run_asInt (k : IntKind) (z : Int) : (asInt (.int k z)).run P w = .ok z w := by simp [asInt, asIntOf]
theorem nonNeg_ok {v : Value} {i : Nat} (h : nonNeg v = some i) : ∃ k, v = .int k (i : Int) := by
  unfold nonNeg at h
  split at h
  · rename_i k i'; cases h; exact ⟨k, rfl⟩
  · cases h

theorem evMakeSlice_ok (H : HR w0 σ h w) (hf : Fresh σ N (N + 1)) {T : Nat} {x y : Operand} (ho : o.op = .makeSlice T x y) {l c : Value} (hl : Rl σ l (a.eval x)) (hc : Rl σ c (a.eval y))
    {v : Value} {h' : Tr Ob} {N' : Nat} (hr : evMakeSlice P T l c h N = some (v, h', N')) : N' = N + 1 ∧ EOk P w0 σ N o a w v h' N' := by
  obtain ⟨l, hl1, hr⟩ := obind_some hr
  obtain ⟨c, hc1, hr⟩ := obind_some hr
  obtain ⟨el, he, hr⟩ := obind_some hr
  obtain ⟨⟨z, zs⟩, hz, hr⟩ := obind_some hr
  obtain ⟨by_, hb, hr⟩ := obind_some hr
  obtain ⟨h1, hr⟩ := ocond_some hr
  obtain ⟨h2, hr⟩ := ocond_some hr
  obtain ⟨h3, hr⟩ := ocond_some hr
  cases hr
  obtain ⟨k1, rfl⟩ := nonNeg_ok hl1
  obtain ⟨k2, rfl⟩ := nonNeg_ok hc1
  have e1 := rl_int hl
  have e2 := rl_int hc
  have h1' := Nat.le_of_ble_eq_true h1
  have h2' := Nat.le_of_ble_eq_true h2
  have h3' := Nat.le_of_ble_eq_true h3
  obtain ⟨g1, g2, g3, g4⟩ := elz_ok hz
  obtain ⟨g5, g6⟩ := zer_ok g2
  obtain ⟨t, ht, hrz⟩ := run_zero g5 w
  obtain ⟨i, hi, hib⟩ := bytesB_ok hb w
  refine ⟨rfl, eok_new (r := c) (ob' := .cells ⟨reps zs c⟩ el) (mk := fun b => .slice (some ⟨b, 0, none⟩) l c) H hf (fun σ' b hb => .sl hb) (fun σ' hl => or_cells (reps_rl (g6 σ') c)) ?_⟩
  have wl : IntKind.i64.wrap (l : Int) = (l : Int) := wrap_in (by omega)
  have wc : IntKind.i64.wrap (c : Int) = (c : Int) := wrap_in (by omega)
  have hmul : by_ * c ≤ 1000000 * 1000000 := Nat.mul_le_mul h3' h2'
  have hti : (typeInfo el).run P w = .ok i w := by simp [typeInfo, hi]
  have hcast : ((by_ : Int) * (c : Int)) = ((by_ * c : Nat) : Int) := by simp
  have hp48 : (2 : Int) ^ 48 = 281474976710656 := by decide
  have hbig : ¬ ((by_ : Int) * (c : Int) > 2 ^ 48) := by
    rw [hcast, hp48]
    intro hgt
    exact absurd (Int.lt_of_lt_of_le hgt (Int.ofNat_le.2 hmul)) (by decide)
  have hcond : ((decide ((c : Int) < 0) || decide ((by_ : Int) * (c : Int) > 2 ^ 48)) || decide ((l : Int) < 0) || decide ((l : Int) > (c : Int))) = false := by
    have a1 : ¬ ((c : Int) < 0) := by omega
    have a2 : ¬ ((l : Int) < 0) := by omega
    have a3 : ¬ ((l : Int) > (c : Int)) := by omega
    rw [decide_eq_false hbig, decide_eq_false a1, decide_eq_false a2, decide_eq_false a3]; rfl
  by_cases hm : c * z = 0
  · have hm0 : c = 0 := by rcases Nat.mul_eq_zero.1 hm with h | h <;> omega
    have e0 : ((Array.range (c * z)).map fun i => (#[] : Array Value)[i % (#[] : Array Value).size]!) = ⟨reps zs c⟩ := by rw [map_range0 _ zs hm, hm0]
    simp only [execOp, ho, Instr.makeSlice, Sem.run_bind, run_underlying (elemOf_ok he), Result.andThen_ok, e1, e2, run_asInt, Sem.run_pure, hti, wl, wc, hib, hcond, Bool.false_eq_true, if_false, run_askRoom, Int.toNat_natCast, Sx.run_sizeOf g1, if_pos hm]
    rw [e0]
    simp only [newRow, Sem.run_bind, run_newObj_alloc, Result.andThen_ok, Sem.run_pure]
  · have e0 := range_reps zs c z g3
    simp only [execOp, ho, Instr.makeSlice, Sem.run_bind, run_underlying (elemOf_ok he), Result.andThen_ok, e1, e2, run_asInt, Sem.run_pure, hti, wl, wc, hib, hcond, Bool.false_eq_true, if_false, run_askRoom, Int.toNat_natCast, Sx.run_sizeOf g1, hm, hrz, ht]
    rw [e0]
    simp only [newRow, Sem.run_bind, run_newObj_alloc, Result.andThen_ok, Sem.run_pure]

/-! ### Stores -/
noncomputable def allF (l : List Value) : Bool := List.rec (motive := fun _ => Bool) true (fun v _ ih => Bool.rec (motive := fun _ => Bool) false ih v.oneCell') l
theorem allF_ok : ∀ {vs us : List Value}, RlL σ vs us → allF vs = true → flat us = true
  | [], us, hr, h => by rw [hr.of_nil]; rfl
  | v :: vs, us, hr, h => by
    obtain ⟨u, us', rfl, h1, h2⟩ := hr.uncons
    have h' : Bool.rec (motive := fun _ => Bool) false (allF vs) v.oneCell' = true := h
    cases hv : v.oneCell' with
    | false => rw [hv] at h'; cases h'
    | true =>
      rw [hv] at h'
      have := allF_ok h2 h'
      unfold flat at this ⊢
      rw [List.all_cons, this, Bool.and_true]
      cases h1 <;> first | exact hv | rfl | assumption

/-- The cells told of block i are vs from off on. -/
noncomputable def evWrite (h : Tr Ob) (i off : Nat) (vs : List Value) : Option (Tr Ob) :=
  match h.get i with
  | some (.c xs T) => ocond (Nat.ble (Nat.add off (len vs)) (len xs)) (some (h.set (some (.c (lay xs vs off) T)) i))
  | some (.g xs T z) => ocond (Nat.ble (Nat.add off (len vs)) (len xs)) (some (h.set (some (.g (lay xs vs off) T z)) i))
  | _ => none

theorem evWrite_ok (H : HR w0 σ h w) {i b r off : Nat} {vs us : List Value} {h' : Tr Ob} (hi : σ i = some (b, r)) (hr : evWrite h i off vs = some h') (hv : RlL σ vs us) :
    ∃ cs T, w.heap[b]? = some (.cells ⟨cs⟩ T (0, 0)) ∧ off + us.length ≤ cs.length ∧ HR w0 σ h' (w.setRow b (setL cs off us).toArray) := by
  have hsz : ∀ x : Array Value, (w.setRow b x).heap.size = w.heap.size := fun x => by simp [World.setRow]
  unfold evWrite at hr
  split at hr
  · rename_i xs T ho
    obtain ⟨hle, hr⟩ := ocond_some hr
    cases hr
    have hle' := Nat.le_of_ble_eq_true hle
    rw [len_eq, len_eq] at hle'
    obtain ⟨cs, h1, h2⟩ := H.ob i b r _ hi ho
    have hle2 : off + us.length ≤ cs.length := by rw [← hv.len, ← h1.len]; exact hle'
    refine ⟨cs, T, h2, hle2, H.write hi (by rw [ho]; rfl) (hsz _) rfl rfl rfl (fun k hk => setRow_other w b k _ hk) ?_⟩
    rw [lay_eq]
    exact ⟨_, h1.setL off hv, setRow_heap w b ⟨cs⟩ _ T _ h2⟩
  · rename_i xs T z ho
    obtain ⟨hle, hr⟩ := ocond_some hr
    cases hr
    have hle' := Nat.le_of_ble_eq_true hle
    rw [len_eq, len_eq] at hle'
    obtain ⟨cs, rest, h1, h2, h3, h4⟩ := H.ob i b r _ hi ho
    have hle2 : off + us.length ≤ cs.length := by rw [← hv.len, ← h1.len]; exact hle'
    have e1 : setL (cs ++ rest) off us = setL cs off us ++ rest := by
      rw [setL_eq _ _ _ (by simp; omega), setL_eq _ _ _ hle2, List.take_append_of_le_length (by omega), List.drop_append_of_le_length (by omega)]
      simp
    refine ⟨cs ++ rest, T, h2, by simp; omega, H.write hi (by rw [ho]; rfl) (hsz _) rfl rfl rfl (fun k hk => setRow_other w b k _ hk) ?_⟩
    rw [lay_eq, e1]
    refine ⟨setL cs off us, rest, h1.setL off hv, setRow_heap w b ⟨cs ++ rest⟩ _ T _ h2, ?_⟩
    rw [List.length_append, length_setL, ← List.length_append]
    exact ⟨h3, h4⟩
  · cases hr

noncomputable def evStore (P : Program) (T : TypeId) (p v : Value) (h : Tr Ob) (N : Nat) : OpR :=
  match p with
  | .pointer (some ⟨i, off, none⟩) => obind (sizeB P T) fun m => ocond (Nat.beq (len (cel v)) m) (ocond (allF (cel v)) (obind (evWrite h i off (cel v)) fun h' => some (.tuple ⟨[]⟩, h', N)))
  | _ => none

theorem evStore_ok (H : HR w0 σ h w) {T : Nat} {x y : Operand} (ho : o.op = .store T x y) {p u : Value} (hp : Rl σ p (a.eval x)) (hu : Rl σ u (a.eval y))
    {v : Value} {h' : Tr Ob} {N' : Nat} (hr : evStore P T p u h N = some (v, h', N')) : N' = N ∧ EOk P w0 σ N o a w v h' N' := by
  unfold evStore at hr
  split at hr
  · rename_i i off
    obtain ⟨m, hm, hr⟩ := obind_some hr
    obtain ⟨h1, hr⟩ := ocond_some hr
    obtain ⟨h2, hr⟩ := ocond_some hr
    obtain ⟨h3, hw, hr⟩ := obind_some hr
    cases hr
    refine ⟨rfl, ?_⟩
    have hc := cel_ok hu
    have h1' := Nat.eq_of_beq_eq_true h1
    rw [len_eq] at h1'
    generalize hg : a.eval x = X at hp
    cases hp
    · rename_i hp; simp [plain] at hp
    · rename_i b r hi
      obtain ⟨cs, E, g1, g2, g3⟩ := evWrite_ok H hi hw hc
      have hlen : (a.eval y).cells.toList.length = m := by rw [← hc.len]; exact h1'
      have hrun := run_storeVar (P := P) (w := w) (b := b) (off := off) (T := E) (cs := cs) (vs := (a.eval y).cells.toList) (v := a.eval y) g1 (by simp) hm hlen (by rw [hlen] at g2; exact g2) (allF_ok hc h2)
      refine ⟨σ, _, _, Ext.refl _ _ _, g3, .tup rfl (fun i a b h => by simp at h), .inr ⟨?_, rfl⟩⟩
      simp [execOp, ho, hg, hrun]
  · cases hr

end
end Go.Ev
