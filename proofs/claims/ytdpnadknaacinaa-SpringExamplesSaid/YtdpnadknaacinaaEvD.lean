/-
  The evaluator, part D: operations that yield a value, continued: addresses, loads, slices, lengths.
  Conditions: none; generic over the program.
-/
import Derived.Test.YtdpnadknaacinaaEvC
namespace Go.Ev
open Go.RowKit Go.Sx
set_option linter.unusedVariables false
set_option linter.unusedSimpArgs false

section
variable {P : Program} {w0 : Fen} {w : World} {σ : Sg} {h : Tr Ob} {e : Tr Value} {n : Nat} {a : Act} {o : Oper}

/-- The cells told of a block. -/
noncomputable def cellsOf (h : Tr Ob) (i : Nat) : Option (List Value) :=
  match h.get i with
  | some (.c xs _) => some xs
  | some (.g xs _ _) => some xs
  | _ => none

theorem cellsOf_ok (H : HR w0 σ h w) {i b r : Nat} {xs : List Value} (hi : σ i = some (b, r)) (hx : cellsOf h i = some xs) :
    ∃ cs rest T, RlL σ xs cs ∧ w.heap[b]? = some (.cells ⟨cs ++ rest⟩ T (0, 0)) := by
  unfold cellsOf at hx
  split at hx
  · rename_i ys T ho
    cases hx
    obtain ⟨cs, h1, h2⟩ := H.ob i b r _ hi ho
    exact ⟨cs, [], T, h1, by simpa using h2⟩
  · rename_i ys T z ho
    cases hx
    obtain ⟨cs, rest, h1, h2, _⟩ := H.ob i b r _ hi ho
    exact ⟨cs, rest, T, h1, h2⟩
  · cases hx

/-- Cells read at a place: one, or an aggregate. -/
noncomputable def evRead (P : Program) (T : TypeId) (xs : List Value) (off : Nat) : Option Value :=
  match isAggB P T, sizeB P T with
  | some false, _ => nth xs off
  | some true, some m => ocond (Nat.ble (Nat.add off m) (len xs)) (some (.agg ⟨tak (drp xs off) m⟩))
  | _, _ => none

theorem evRead_ok {T : TypeId} {xs cs rest : List Value} {off b E : Nat} {v : Value} (hv : evRead P T xs off = some v) (hr : RlL σ xs cs) (hw : w.heap[b]? = some (.cells ⟨cs ++ rest⟩ E (0, 0))) :
    ∃ x, Rl σ v x ∧ (loadVar T ⟨b, off, none⟩).run P w = .ok x w := by
  have hw' : w.heap[b]? = some (.cells (cs ++ rest).toArray E (0, 0)) := hw
  unfold evRead at hv
  split at hv
  · rename_i ha
    rw [nth_eq] at hv
    obtain ⟨x, hx, hrl⟩ := hr.get hv
    refine ⟨x, hrl, ?_⟩
    have hlt : off < cs.length := by
      rcases Nat.lt_or_ge off cs.length with h1 | h1
      · exact h1
      · rw [List.getElem?_eq_none h1] at hx; cases hx
    have := run_load1 (P := P) hw' ha (by rw [List.getElem?_append_left hlt]; exact hx)
    simpa [Instr.loadAt, Instr.sureAddr] using this
  · rename_i m ha hm
    obtain ⟨hle, hv⟩ := ocond_some hv
    cases hv
    have hle' := Nat.le_of_ble_eq_true hle
    rw [len_eq] at hle'
    have hle2 : off + m ≤ cs.length := by rw [← hr.len]; exact hle'
    rw [tak_eq, drp_eq]
    have h2 := (hr.drop off).take m
    have := run_loadN (P := P) (off := off) (n := m) hw' ha hm (by simp; omega)
    have e1 : ((cs ++ rest).drop off).take m = (cs.drop off).take m := by
      rw [List.drop_append_of_le_length (by omega), List.take_append_of_le_length (by simp; omega)]
    rw [e1] at this
    exact ⟨_, .agg h2.len h2.at_, by simpa [Instr.loadAt, Instr.sureAddr] using this⟩
  · cases hv

noncomputable def evLoad (P : Program) (h : Tr Ob) (T : TypeId) (v : Value) : Option Value :=
  match v with
  | .pointer (some ⟨i, off, none⟩) => obind (cellsOf h i) fun xs => evRead P T xs off
  | _ => none
theorem evLoad_ok (H : HR w0 σ h w) {T : TypeId} {v v' r : Value} (hr : evLoad P h T v = some r) (hv : Rl σ v v') : ∃ x, Rl σ r x ∧ (Instr.loadAt T v').run P w = .ok x w := by
  unfold evLoad at hr
  split at hr
  · rename_i i off
    obtain ⟨xs, h1, h2⟩ := obind_some hr
    cases hv
    · rename_i hp; simp [plain] at hp
    · rename_i b rr hi
      obtain ⟨cs, rest, E, h3, h4⟩ := cellsOf_ok H hi h1
      obtain ⟨x, h5, h6⟩ := evRead_ok h2 h3 h4
      exact ⟨x, h5, by simpa [Instr.loadAt, Instr.sureAddr] using h6⟩
  · cases hr

noncomputable def evFieldAddr (P : Program) (S : TypeId) (k : Nat) (v : Value) : Option Value :=
  match v with
  | .pointer (some ⟨i, off, none⟩) => obind (fieldOff P S k) fun δ => fN (Nat.add off δ) fun p => some (.pointer (some ⟨i, p, none⟩))
  | _ => none
theorem evFieldAddr_ok {S k : Nat} {v v' r : Value} (hr : evFieldAddr P S k v = some r) (hv : Rl σ v v') : ∃ x, Rl σ r x ∧ (Instr.fieldAt S v' k).run P w = .ok x w := by
  unfold evFieldAddr at hr
  split at hr
  · rename_i i off
    obtain ⟨δ, h1, h2⟩ := obind_some hr
    rw [fN_eq] at h2
    cases h2
    cases hv
    · rename_i hp; simp [plain] at hp
    · rename_i b rr hi
      refine ⟨_, .ptr hi, ?_⟩
      unfold fieldOff at h1
      split at h1
      · rename_i fs hu
        split at h1
        · rename_i f hk
          split at h1
          · rename_i i' hi'
            split at h1
            · cases h1
            · rename_i hz
              simp only [Option.some.injEq] at h1
              subst h1
              have hadd : (⟨b, off, none⟩ : Addr).add f.offset = ⟨b, off + f.offset, none⟩ := add_lit _ _ _
              simp [Instr.fieldAt, run_underlying hu, hk, Instr.sureAddr, fieldPlace, sizeOf, typeInfo, hi', hz, hadd]
          · cases h1
        · cases h1
      · cases h1
  · cases hr

noncomputable def idx (q : Int) (n : Nat) (k : Nat → Option Value) : Option Value :=
  Int.rec (motive := fun _ => Option Value) (fun i => ocond (Nat.ble (Nat.succ i) n) (k i)) (fun _ => none) q
theorem idx_some {q : Int} {n : Nat} {k : Nat → Option Value} {r : Value} (h : idx q n k = some r) : ∃ i : Nat, q = (i : Int) ∧ i < n ∧ k i = some r := by
  cases q with
  | ofNat i => obtain ⟨h1, h2⟩ := ocond_some h; exact ⟨i, rfl, Nat.le_of_ble_eq_true h1, h2⟩
  | negSucc i => cases h
noncomputable def elemOf (P : Program) (T : TypeId) : Option Nat :=
  match P.underlying T with
  | some (.slice e) => some e
  | _ => none
theorem elemOf_ok {T e : Nat} (h : elemOf P T = some e) : P.underlying T = some (.slice e) := by
  unfold elemOf at h; split at h
  · rename_i hu; cases h; exact hu
  · cases h
noncomputable def arrOf (P : Program) (T : TypeId) : Option (Nat × Nat) :=
  match P.underlying T with
  | some (.array n e) => some (n, e)
  | _ => none
theorem arrOf_ok {T n e : Nat} (h : arrOf P T = some (n, e)) : P.underlying T = some (.array n e) := by
  unfold arrOf at h; split at h
  · rename_i hu; cases h; exact hu
  · cases h
noncomputable def evIndexAddr (P : Program) (T : TypeId) (v y : Value) : Option Value :=
  match v, y with
  | .slice (some ⟨i, off, _⟩) n _, .int _ q => obind (elemOf P T) fun e => obind (sizeB P e) fun m => idx q n fun k => fN (Nat.add off (Nat.mul k m)) fun p => some (.pointer (some ⟨i, p, none⟩))
  | .pointer (some ⟨i, off, none⟩), .int _ q => obind (arrOf P T) fun ne => obind (sizeB P ne.2) fun m => idx q ne.1 fun k => fN (Nat.add off (Nat.mul k m)) fun p => some (.pointer (some ⟨i, p, none⟩))
  | _, _ => none
theorem evIndexAddr_ok {T : Nat} {v v' y y' r : Value} (hr : evIndexAddr P T v y = some r) (hv : Rl σ v v') (hy : Rl σ y y') : ∃ x, Rl σ r x ∧ (Instr.indexAt T v' y').run P w = .ok x w := by
  unfold evIndexAddr at hr
  split at hr
  · rename_i i off sp n c kk q
    obtain ⟨e, he, hr⟩ := obind_some hr
    obtain ⟨m, hm, hr⟩ := obind_some hr
    obtain ⟨k, rfl, hlt, hr⟩ := idx_some hr
    rw [fN_eq] at hr
    cases hr
    have hT := elemOf_ok he
    have := rl_int hy; subst this
    have h1 : (0 : Int) ≤ (k : Int) ∧ (k : Int) < (n : Int) := by omega
    cases hv
    · rename_i hp; simp [plain] at hp
    · rename_i b rr hi
      exact ⟨_, .ptr hi, by simp [Instr.indexAt, asIntOf, run_underlying hT, h1, Sx.run_sizeOf hm, add_lit, hlt]⟩
    · rename_i b rr ee hi hle hcc
      exact ⟨_, .ptr hi, by simp [Instr.indexAt, asIntOf, run_underlying hT, h1, Sx.run_sizeOf hm, add_lit, hlt]⟩
  · rename_i i off kk q
    obtain ⟨⟨n, e⟩, he, hr⟩ := obind_some hr
    obtain ⟨m, hm, hr⟩ := obind_some hr
    obtain ⟨k, rfl, hlt, hr⟩ := idx_some hr
    rw [fN_eq] at hr
    cases hr
    have hT := arrOf_ok he
    have := rl_int hy; subst this
    dsimp only at hlt hm
    have h1 : (0 : Int) ≤ (k : Int) ∧ (k : Int) < (n : Int) := by omega
    cases hv
    · rename_i hp; simp [plain] at hp
    · rename_i b rr hi
      exact ⟨_, .ptr hi, by simp [Instr.indexAt, asIntOf, run_underlying hT, h1, Sx.run_sizeOf hm, add_lit, hlt, Instr.sureAddr]⟩
  · cases hr

/-! ### Slices of slices -/
noncomputable def natOf (v : Option Value) (dft : Nat) (hi : Nat) : Option Nat :=
  match v with
  | none => some dft
  | some (.int _ (.ofNat i)) => ocond (Nat.ble i hi) (some i)
  | some _ => none
noncomputable def optV (e : Tr Value) (x : Option Operand) : Option (Option Value) :=
  match x with
  | none => some none
  | some y => obind (evo e y) fun v => some (some v)
theorem optV_ok (hE : ER σ e n a.tmps) {x : Option Operand} {v : Option Value} (h : optV e x = some v) : (v = none ∧ x.map a.eval = none) ∨ ∃ u u', v = some u ∧ x.map a.eval = some u' ∧ Rl σ u u' := by
  cases x with
  | none => cases h; exact .inl ⟨rfl, rfl⟩
  | some y =>
    obtain ⟨u, h1, h2⟩ := obind_some h
    cases h2
    exact .inr ⟨u, _, rfl, rfl, evo_ok hE h1⟩

noncomputable def mhB : Option Value → Option Value → Bool
  | some _, none => false
  | _, _ => true
noncomputable def mx2 (n c : Nat) : Nat := Bool.rec (motive := fun _ => Nat) n c (Nat.ble n c)
theorem mx2_ok (n c : Nat) : n ≤ mx2 n c ∧ (mx2 n c = n ∨ mx2 n c = c) := by
  unfold mx2
  cases h : Nat.ble n c with
  | true => exact ⟨Nat.le_of_ble_eq_true h, .inr rfl⟩
  | false => exact ⟨Nat.le_refl _, .inl rfl⟩
/-- x[lo:hi] and x[lo:hi:max] of a slice; a bound that is not below what is surely there is refused. -/
noncomputable def evSlice (P : Program) (T : TypeId) (v : Value) (lo hi mx : Option Value) : Option Value :=
  match v with
  | .slice none n c => ocond (Nat.beq n 0) (ocond (Nat.beq c 0) (obind (elemOf P T) fun e => obind (sizeB P e) fun _ =>
      obind (natOf mx 0 0) fun _ => obind (natOf hi 0 0) fun _ => obind (natOf lo 0 0) fun _ => ocond (mhB mx hi) (some (.slice none 0 0))))
  | .slice (some ⟨i, off, none⟩) n c => obind (elemOf P T) fun e => obind (sizeB P e) fun z =>
      obind (natOf mx c c) fun m => obind (natOf hi n m) fun k => obind (natOf lo 0 k) fun l => ocond (mhB mx hi)
        (fN (Nat.sub k l) fun kl => fN (Nat.sub m l) fun ml => Bool.rec (motive := fun _ => Option Value) (fN (Nat.add off (Nat.mul l z)) fun p => some (.slice (some ⟨i, p, none⟩) kl ml)) (some (.slice (some ⟨i, off, none⟩) kl ml)) (Nat.beq m l))
  | .slice (some ⟨i, off, some eo⟩) n c => obind (elemOf P T) fun e => obind (sizeB P e) fun z =>
      match mx with
      | some _ => obind (natOf mx n n) fun m => obind (natOf hi n m) fun k => obind (natOf lo 0 k) fun l => ocond (mhB mx hi)
          (fN (Nat.sub k l) fun kl => fN (Nat.sub m l) fun ml => Bool.rec (motive := fun _ => Option Value) (fN (Nat.add off (Nat.mul l z)) fun p => some (.slice (some ⟨i, p, none⟩) kl ml)) (some (.slice (some ⟨i, off, none⟩) kl ml)) (Nat.beq m l))
      | none => fN (mx2 n c) fun C => obind (natOf hi n C) fun k => obind (natOf lo 0 k) fun l => Bool.rec (motive := fun _ => Option Value) (some (.chan none))
          (fN (Nat.sub k l) fun kl => fN (Nat.add off (Nat.mul l z)) fun p => fN (Nat.add eo l) fun eo' => fN (Nat.sub C l) fun c' => some (.slice (some ⟨i, p, some eo'⟩) kl c')) (Nat.ble (Nat.succ l) C)
  | _ => none

theorem natOf_ok {v : Option Value} {dft hi k : Nat} (h : natOf v dft hi = some k) : (v = none ∧ k = dft) ∨ ∃ kk, v = some (.int kk (k : Int)) ∧ k ≤ hi := by
  unfold natOf at h
  split at h
  · cases h; exact .inl ⟨rfl, rfl⟩
  · rename_i kk i
    obtain ⟨h1, h2⟩ := ocond_some h
    cases h2
    exact .inr ⟨kk, rfl, Nat.le_of_ble_eq_true h1⟩
  · cases h

theorem run_bound {x : Nat} {kk : IntKind} {y : Nat} {code : BoundsCode} (hx : x ≤ y) (w : World) : (Instr.sliceBound (.int kk (x : Int)) y code).run P w = .ok x w := by
  have h1 : (0 : Int) ≤ (x : Int) ∧ (x : Int) ≤ (y : Int) := by omega
  simp [Instr.sliceBound, asIntOf, h1, hx]

/-- The bounds, as the model reckons them. -/
theorem run_bounds {len cap m k l : Nat} {lo hi mx : Option Value} (hm : (mx = none ∧ m = cap) ∨ ∃ kk, mx = some (.int kk (m : Int)) ∧ m ≤ cap)
    (hk : (hi = none ∧ k = len) ∨ ∃ kk, hi = some (.int kk (k : Int)) ∧ k ≤ m) (hl : (lo = none ∧ l = 0) ∨ ∃ kk, lo = some (.int kk (l : Int)) ∧ l ≤ k)
    (hmh : mhB mx hi = true) (w : World) : (Instr.sliceBounds true len cap lo hi mx).run P w = .ok (l, k, m) w := by
  rcases hm with ⟨rfl, rfl⟩ | ⟨k1, rfl, hm⟩ <;> rcases hk with ⟨rfl, rfl⟩ | ⟨k2, rfl, hk⟩ <;> rcases hl with ⟨rfl, rfl⟩ | ⟨k3, rfl, hl⟩ <;>
    first
    | (simp [mhB] at hmh; done)
    | (simp only [Instr.sliceBounds, Sem.run_bind, Sem.run_pure, Result.andThen_ok, run_bound hm, run_bound hk, run_bound hl]; done)
    | (simp only [Instr.sliceBounds, Sem.run_bind, Sem.run_pure, Result.andThen_ok, run_bound hm, run_bound hk]; done)
    | (simp only [Instr.sliceBounds, Sem.run_bind, Sem.run_pure, Result.andThen_ok, run_bound hk, run_bound hl]; done)
    | (simp only [Instr.sliceBounds, Sem.run_bind, Sem.run_pure, Result.andThen_ok, run_bound hk]; done)
    | (simp only [Instr.sliceBounds, Sem.run_bind, Sem.run_pure, Result.andThen_ok, run_bound hl]; done)
    | (simp only [Instr.sliceBounds, Sem.run_bind, Sem.run_pure, Result.andThen_ok]; done)

theorem run_slice {T el z b off n c m k l : Nat} {lo hi mx : Option Value} (hT : P.underlying T = some (.slice el)) (hz : sizeB P el = some z)
    (hb : (Instr.sliceBounds true n c lo hi mx).run P w = .ok (l, k, m) w) :
    (Instr.slice T (.slice (some ⟨b, off, none⟩) n c) lo hi mx).run P w = .ok (.slice (if m = l then some ⟨b, off, none⟩ else some ⟨b, off + l * z, none⟩) (k - l) (m - l)) w := by
  simp [Instr.slice, run_underlying hT, hb, Sx.run_sizeOf hz, add_lit]

end
end Go.Ev
