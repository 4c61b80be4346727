/-
  The evaluator, part I: append and copy.
  Conditions: none; generic over the program.
-/
import Derived.Test.YtdpnadknaacinaaEvH
namespace Go.Ev
open Go.RowKit Go.Sx
set_option linter.unusedVariables false
set_option linter.unusedSimpArgs false

section
variable {P : Program} {w0 : Fen} {w : World} {σ : Sg} {h : Tr Ob} {e : Tr Value} {n N : Nat} {a : Act} {o : Oper}

/-- k elements of z cells that a slice shows. -/
noncomputable def seg (h : Tr Ob) (v : Value) (m : Nat) : Option (List Value) :=
  match v with
  | .slice none _ _ => ocond (Nat.beq m 0) (some [])
  | .slice (some ⟨i, off, _⟩) _ _ => Bool.rec (motive := fun _ => Option (List Value)) (obind (cellsOf h i) fun xs => ocond (Nat.ble (Nat.add off m) (len xs)) (some (tak (drp xs off) m))) (some []) (Nat.beq m 0)
  | _ => none

theorem seg_ok (H : HR w0 σ h w) {v v' : Value} (hv : Rl σ v v') {z k m : Nat} {xs : List Value} (hm : m = k * z) (hs : seg h v m = some xs) :
    ∃ cs, RlL σ xs cs ∧ cs.length = m ∧ (Builtin.firstCells z k v').run P w = .ok ⟨cs⟩ w := by
  subst hm
  unfold seg at hs
  split at hs
  · obtain ⟨h1, hs⟩ := ocond_some hs
    cases hs
    have := hv.plain_eq rfl; subst this
    exact ⟨[], .nil σ, by simpa using (Nat.eq_of_beq_eq_true h1).symm, by simp [Builtin.firstCells]⟩
  · rename_i i off sp l c
    have key : ∀ b r, σ i = some (b, r) → v' = .slice (some ⟨b, off, none⟩) (match v' with | .slice _ l _ => l | _ => 0) (match v' with | .slice _ _ c => c | _ => 0) → ∃ cs, RlL σ xs cs ∧ cs.length = k * z ∧ (Builtin.firstCells z k v').run P w = .ok ⟨cs⟩ w := by
      intro b r hi he
      rw [he]
      cases hz : Nat.beq (k * z) 0 with
      | true =>
        rw [hz] at hs
        cases hs
        have e0 := Nat.eq_of_beq_eq_true hz
        refine ⟨[], .nil σ, by simp [e0], ?_⟩
        have := run_loadCells_list (P := P) w ⟨b, off, none⟩ [] (fun j v h => by simp at h)
        simp only [List.length_nil] at this
        simp [Builtin.firstCells, e0, this]
      | false =>
        rw [hz] at hs
        obtain ⟨ys, h1, hs⟩ := obind_some hs
        obtain ⟨h2, hs⟩ := ocond_some hs
        cases hs
        obtain ⟨cs, rest, T, h3, h4⟩ := cellsOf_ok H hi h1
        have h2' := Nat.le_of_ble_eq_true h2
        rw [len_eq, h3.len] at h2'
        have h2'' : off + k * z ≤ cs.length := h2'
        rw [tak_eq, drp_eq]
        have hl : ((cs.drop off).take (k * z)).length = k * z := by simp; omega
        refine ⟨_, (h3.drop off).take (k * z), hl, ?_⟩
        have := run_loadCells_list (P := P) w ⟨b, off, none⟩ ((cs.drop off).take (k * z)) (fun j v hv => by
          rw [add_lit, cell_of_row w b _ _ T (0, 0) h4]
          rw [List.getElem?_take] at hv
          split at hv
          · rename_i hj
            rw [List.getElem?_drop] at hv
            have : (⟨cs ++ rest⟩ : Array Value)[off + j]? = (cs ++ rest)[off + j]? := List.getElem?_toArray
            rw [this, List.getElem?_append_left (by omega)]
            exact hv
          · cases hv)
        rw [hl] at this
        simpa [Builtin.firstCells] using this
    cases hv
    · rename_i hp; simp [plain] at hp
    · rename_i b r hi; exact key b r hi rfl
    · rename_i b r ee hi hle hcc; exact key _ _ hi rfl
  · cases hs

theorem growBy_le (m : Nat) : ∀ (r c : Nat), c ≤ 2 * m + 1000 → Builtin.growBy m r c ≤ 2 * m + 1000
  | 0, c, h => h
  | r + 1, c, h => by
    unfold Builtin.growBy
    split
    · exact h
    · exact growBy_le m r _ (by omega)
theorem cap_le {m c : Nat} (h : c < m) : Builtin.nextslicecap m c ≤ 2 * m + 1000 := by
  unfold Builtin.nextslicecap
  split
  · omega
  · split
    · omega
    · exact growBy_le m 4 c (by omega)

/-- append of a slice: what is surely asked of its types. -/
noncomputable def appT (P : Program) (T : TypeId) : Option (Nat × Nat) :=
  obind (elemOf P T) fun el => obind (elz P el) fun zz => obind (bytesB P el) fun by_ => ocond (Nat.ble by_ 1000000) (some (el, zz.1))

theorem appT_ok {T el z : Nat} (h : appT P T = some (el, z)) : ∃ zs by_, P.underlying T = some (.slice el) ∧ elz P el = some (z, zs) ∧ bytesB P el = some by_ ∧ by_ ≤ 1000000 := by
  obtain ⟨el', he, h⟩ := obind_some h
  obtain ⟨⟨z', zs⟩, hz, h⟩ := obind_some h
  obtain ⟨by_, hb, h⟩ := obind_some h
  obtain ⟨hb2, h⟩ := ocond_some h
  cases h
  exact ⟨zs, by_, elemOf_ok he, hz, hb, Nat.le_of_ble_eq_true hb2⟩

theorem run_append_in {T el z n k c b off : Nat} {xv : Value} {news all : List Value} {E : TypeId} {T' : TypeId} (hT : appT P T = some (el, z)) (hk : (Builtin.lenOf xv).run P w = .ok k w) (hnk : n + k ≤ c)
    (hw : w.heap[b]? = some (.cells ⟨all⟩ E (0, 0))) (hn : (Builtin.firstCells z k xv).run P w = .ok ⟨news⟩ w) (hfit : off + n * z + news.length ≤ all.length) (hf : flat news = true) :
    (Builtin.append_ #[T, T] T' #[.slice (some ⟨b, off, none⟩) n c, xv]).run P w = .ok (.slice (some ⟨b, off, none⟩) (n + k) c) (w.setRow b (setL all (off + n * z) news).toArray) := by
  obtain ⟨zs, by_, he, hz, hb, hb2⟩ := appT_ok hT
  obtain ⟨g1, g2, g3, g4⟩ := elz_ok hz
  have hst := run_storeCells_at P b (off + n * z) E news 0 ⟨all⟩ w hw (by simpa using hfit) (by simpa [flat] using hf)
  rw [Nat.add_zero] at hst
  have hst' : (storeCells ⟨b, off + n * z, none⟩ news).run P w = .ok () (w.setRow b (setL all (off + n * z) news).toArray) := by rw [setL_eq _ _ _ hfit]; simpa using hst
  simp [Builtin.append_, run_underlying he, Sx.run_sizeOf g1, hk, hnk, hn, add_lit, hst']

theorem zer_flat {T : Nat} {z : List Value} (h : zer P T = some z) : flat z = true := by
  obtain ⟨z', h1, h2⟩ := obind_some h
  obtain ⟨h3, h4⟩ := ocond_some h2
  cases h4
  rw [allP_eq] at h3
  unfold flat
  rw [List.all_eq_true] at h3 ⊢
  intro v hv
  have := h3 v hv
  cases v <;> first | rfl | (simp [plain] at this; done)
theorem reps_flat {zs : List Value} (h : flat zs = true) : ∀ m, flat (reps zs m) = true := by
  intro m
  induction m with
  | zero => rfl
  | succ m ih => rw [reps_succ]; unfold flat at ih h ⊢; rw [List.all_append, h, ih]; rfl

theorem run_append_grow {T el z n k c : Nat} {p : Option Addr} {xv : Value} {olds news : List Value} {T' : TypeId} (hT : appT P T = some (el, z)) (hk : (Builtin.lenOf xv).run P w = .ok k w) (hnk : c < n + k) (hle : n + k ≤ 1000000)
    (ho : (Builtin.firstCells z n (.slice p n c)).run P w.drew = .ok ⟨olds⟩ w.drew) (hn : (Builtin.firstCells z k xv).run P w.drew = .ok ⟨news⟩ w.drew) :
    ∃ cap rest, n + k ≤ cap ∧ rest.length = (cap - (n + k)) * z ∧ flat rest = true ∧ (Builtin.append_ #[T, T] T' #[.slice p n c, xv]).run P w = .ok (.slice (some ⟨w.heap.size, 0, none⟩) (n + k) cap) (w.drew.alloc (.cells ⟨olds ++ news ++ rest⟩ el)) := by
  obtain ⟨zs, by_, he, hz, hb, hb2⟩ := appT_ok hT
  obtain ⟨g1, g2, g3, g4⟩ := elz_ok hz
  obtain ⟨g5, g6⟩ := zer_ok g2
  obtain ⟨t, ht, hrz⟩ := run_zero g5 w.drew
  obtain ⟨i, hi, hib⟩ := bytesB_ok hb w
  have hti : ∀ w, (typeInfo el).run P w = .ok i w := fun w => by simp [typeInfo, hi]
  have hb2' : i.bytes ≤ 1000000 := by rw [hib]; exact hb2
  have hcap := cap_le hnk
  have hmul : Builtin.nextslicecap (n + k) c * i.bytes ≤ 2001000 * 1000000 := Nat.mul_le_mul (by omega) hb2'
  have hp48 : (2 : Nat) ^ 48 = 281474976710656 := by decide
  have hbig : ¬ (Builtin.nextslicecap (n + k) c * i.bytes > 2 ^ 48) := by omega
  have hmax : ¬ (9223372036854775807 < (n : Int) + (k : Int)) := by omega
  have hq : (Question.appendCap (n + k) c el).forced = false := rfl
  have hcut : n + k ≤ (Question.appendCap (n + k) c el).cut (w.tape w.drawn (.appendCap (n + k) c el)) := by simp [Question.cut]
  generalize hcc : (Question.appendCap (n + k) c el).cut (w.tape w.drawn (.appendCap (n + k) c el)) = cap at hcut
  have hzl : (⟨zs⟩ : Array Value).size = z := g3
  refine ⟨cap, (Builtin.zeroCells ⟨zs⟩ (cap - (n + k))).toList, hcut, ?_, ?_, ?_⟩
  · simp [Builtin.zeroCells, hzl, g3]
  · have hzc : Builtin.zeroCells ⟨zs⟩ (cap - (n + k)) = ⟨reps zs (cap - (n + k))⟩ := by
      have e3 : (⟨zs⟩ : Array Value).size = z := g3
      have := range_reps zs (cap - (n + k)) z g3
      unfold Builtin.zeroCells
      rw [e3] at this ⊢
      exact this
    rw [hzc]
    exact reps_flat (zer_flat g2) _
  · have hnot : ¬ (n + k ≤ c) := by omega
    simp [Builtin.append_, run_underlying he, Sx.run_sizeOf g1, hk, hnot, hmax, hti, hbig, hq, hcc, ho, hn, hrz, ht, newRow]
    congr 2
    apply Array.ext'
    simp

noncomputable def lenV (v : Value) : Option Nat :=
  match v with
  | .slice _ k _ => some k
  | _ => none
theorem lenV_ok {v v' : Value} (hv : Rl σ v v') {k : Nat} (hk : lenV v = some k) (w : World) : (Builtin.lenOf v').run P w = .ok k w := by
  unfold lenV at hk
  split at hk
  · cases hk; cases hv <;> simp [Builtin.lenOf]
  · cases hk

/-- A new block, its room unknown. -/
noncomputable def growTo (el z m : Nat) (xs : List Value) (h : Tr Ob) (N : Nat) : OpR := some (.slice (some ⟨N, 0, some 0⟩) m 0, h.set (some (.g xs el z)) N, Nat.succ N)
/-- Written in place. -/
noncomputable def inPlace (i off at_ : Nat) (sp : Option Nat) (m c : Nat) (news : List Value) (h : Tr Ob) (N : Nat) : OpR :=
  ocond (allF news) (obind (evWrite h i at_ news) fun h' => some (.slice (some ⟨i, off, sp⟩) m c, h', Nat.succ N))

noncomputable def evAppend (P : Program) (T : TypeId) (s x : Value) (h : Tr Ob) (N : Nat) : OpR :=
  obind (appT P T) fun ez => obind (lenV x) fun k => fN (Nat.mul k ez.2) fun kz => obind (seg h x kz) fun news =>
    match s with
    | .slice none n c => ocond (Nat.beq n 0) (ocond (Nat.beq c 0) (ocond (Nat.ble k 1000000)
        (Bool.rec (motive := fun _ => OpR) (growTo ez.1 ez.2 k news h N) (some (.slice none 0 0, h, Nat.succ N)) (Nat.beq k 0))))
    | .slice (some ⟨i, off, none⟩) n c => fN (Nat.add n k) fun m => fN (Nat.mul n ez.2) fun nz => Bool.rec (motive := fun _ => OpR)
        (ocond (Nat.ble m 1000000) (obind (seg h s nz) fun olds => growTo ez.1 ez.2 m (app olds news) h N))
        (inPlace i off (Nat.add off nz) none m c news h N) (Nat.ble m c)
    | .slice (some ⟨i, off, some eo⟩) n c => fN (Nat.add n k) fun m => fN (Nat.mul n ez.2) fun nz =>
        match h.get i with
        | some (.g xs E z') => ocond (Nat.beq z' ez.2) (ocond (Nat.beq E ez.1) (ocond (Nat.beq off (Nat.mul eo ez.2)) (Bool.rec (motive := fun _ => OpR)
            (ocond (Nat.beq eo 0) (ocond (Nat.beq nz (len xs)) (ocond (Nat.ble m 1000000) (ocond (allF news) (some (.slice (some ⟨N, 0, some 0⟩) m 0, (h.set none i).set (some (.g (app xs news) E z')) N, Nat.succ N))))))
            (inPlace i off (Nat.add off nz) (some eo) m 0 news h N) (Nat.ble (Nat.add off (Nat.add nz kz)) (len xs)))))
        | _ => none
    | _ => none
end
end Go.Ev
