/-
  An evaluator over the model's code, and why it holds, part 2.
  Conditions: none; generic over the program.
-/
import Derived.Test.YtpilgokdbliklaaEv1
import Derived.Lib.AppendZerosOnto
import Derived.TacticsIn
import Derived.Lib.Overlaps
import Derived.OrdersIn

set_option linter.unusedVariables false
set_option linter.unusedSimpArgs false

section
namespace Go.Ev
open Go.RowKit Go.Sx
set_option linter.unusedVariables false
set_option linter.unusedSimpArgs false

section
variable {P : Program} {w0 : Fen} {w : World} {σ : Sg} {h : Tr Ob} {e : Tr Value} {n N : Nat} {a : Act} {o : Oper}

/-- k elements of z cells that a slice shows. -/
noncomputable def seg (h : Tr Ob) (v : Value) (m : Nat) : Option (List Value) :=
  match v with
  | .slice none _ _ => ocond (Nat.beq m 0) (some [])
  | .slice (some ⟨i, off, _⟩) _ _ => Bool.rec (motive := fun _ => Option (List Value)) (obind (cellsFrom h i off) fun xs => ocond (Nat.ble m (len xs)) (some (tak xs m))) (some []) (Nat.beq m 0)
  | _ => none

theorem seg_ok (H : HR w0 σ h w) {v v' : Value} (hv : Rl σ v v') {z k m : Nat} {xs : List Value} (hm : m = k * z) (hs : seg h v m = some xs) :
    ∃ cs, RlL σ xs cs ∧ cs.length = m ∧ (Builtin.firstCells z k v').run P w = .ok ⟨cs⟩ w := by
  subst hm
  unfold seg at hs
  split at hs
  · obtain ⟨h1, hs⟩ := ocond_some hs
    cases hs
    have := hv.plain_eq rfl; subst this
    exact ⟨[], .nil σ, by simpa using (Nat.eq_of_beq_eq_true h1).symm, by simp [Builtin.firstCells]⟩
  · rename_i i off sp l c
    have key : ∀ b r, σ i = some (b, r) → v' = .slice (some ⟨b, off, none⟩) (match v' with | .slice _ l _ => l | _ => 0) (match v' with | .slice _ _ c => c | _ => 0) → ∃ cs, RlL σ xs cs ∧ cs.length = k * z ∧ (Builtin.firstCells z k v').run P w = .ok ⟨cs⟩ w := by
      intro b r hi he
      rw [he]
      cases hz : Nat.beq (k * z) 0 with
      | true =>
        rw [hz] at hs
        cases hs
        have e0 := Nat.eq_of_beq_eq_true hz
        refine ⟨[], .nil σ, by simp [e0], ?_⟩
        have := run_loadCells_list (P := P) w ⟨b, off, none⟩ [] (fun j v h => by simp at h)
        simp only [List.length_nil] at this
        simp [Builtin.firstCells, e0, this]
      | false =>
        rw [hz] at hs
        obtain ⟨ys, h1, hs⟩ := obind_some hs
        obtain ⟨h2, hs⟩ := ocond_some hs
        cases hs
        have h2' := Nat.le_of_ble_eq_true h2
        rw [len_eq] at h2'
        have hm0 : k * z ≠ 0 := fun e => by rw [e] at hz; cases hz
        rcases cellsFrom_ok H hi h1 with h3 | ⟨pre, cs, rest, T, fr, h3, h4, h5⟩
        · subst h3; simp at h2'; exact absurd h2' (by simpa using hm0)
        rw [h4.len] at h2'
        rw [tak_eq]
        have hl : (cs.take (k * z)).length = k * z := by simp; omega
        refine ⟨_, h4.take (k * z), hl, ?_⟩
        have := run_loadCells_list (P := P) w ⟨b, off, none⟩ (cs.take (k * z)) (fun j v hv => by
          rw [add_lit, cell_of_row w b _ _ T fr h5]
          rw [List.getElem?_take] at hv
          split at hv
          · rename_i hj
            have e1 : (⟨pre ++ (cs ++ rest)⟩ : Array Value)[off + j]? = (pre ++ (cs ++ rest))[off + j]? := List.getElem?_toArray
            rw [e1, List.getElem?_append_right (by omega), h3, Nat.add_sub_cancel_left, List.getElem?_append_left (by omega)]
            exact hv
          · cases hv)
        rw [hl] at this
        simpa [Builtin.firstCells] using this
    cases hv
    · rename_i hp; simp [plain] at hp
    · rename_i b r hi; exact key b r hi rfl
    · rename_i b r ee hi hle hcc; exact key _ _ hi rfl
  · cases hs

theorem growBy_le (m : Nat) : ∀ (r c : Nat), c ≤ 2 * m + 1000 → Builtin.growBy m r c ≤ 2 * m + 1000
  | 0, c, h => h
  | r + 1, c, h => by
    unfold Builtin.growBy
    split
    · exact h
    · exact growBy_le m r _ (by omega)
theorem cap_le {m c : Nat} (h : c < m) : Builtin.nextslicecap m c ≤ 2 * m + 1000 := by
  unfold Builtin.nextslicecap
  split
  · omega
  · split
    · omega
    · exact growBy_le m 4 c (by omega)

/-- append of a slice: what is surely asked of its types. -/
noncomputable def appT (P : Program) (T : TypeId) : Option (Nat × Nat) :=
  obind (elemOf P T) fun el => obind (elz P el) fun zz => obind (bytesB P el) fun by_ => ocond (Nat.ble by_ 1000000) (some (el, zz.1))

theorem appT_ok {T el z : Nat} (h : appT P T = some (el, z)) : ∃ zs by_, P.underlying T = some (.slice el) ∧ elz P el = some (z, zs) ∧ bytesB P el = some by_ ∧ by_ ≤ 1000000 := by
  obtain ⟨el', he, h⟩ := obind_some h
  obtain ⟨⟨z', zs⟩, hz, h⟩ := obind_some h
  obtain ⟨by_, hb, h⟩ := obind_some h
  obtain ⟨hb2, h⟩ := ocond_some h
  cases h
  exact ⟨zs, by_, elemOf_ok he, hz, hb, Nat.le_of_ble_eq_true hb2⟩

theorem run_append_in {T el z n k c b off : Nat} {xv : Value} {news all : List Value} {E : TypeId} {T' : TypeId} (hT : appT P T = some (el, z)) (hk : (Builtin.lenOf xv).run P w = .ok k w) (hnk : n + k ≤ c)
    (hw : w.heap[b]? = some (.cells ⟨all⟩ E (0, 0))) (hn : (Builtin.firstCells z k xv).run P w = .ok ⟨news⟩ w) (hfit : off + n * z + news.length ≤ all.length) (hf : flat news = true) :
    (Builtin.append_ #[T, T] T' #[.slice (some ⟨b, off, none⟩) n c, xv]).run P w = .ok (.slice (some ⟨b, off, none⟩) (n + k) c) (w.setRow b (setL all (off + n * z) news).toArray) := by
  obtain ⟨zs, by_, he, hz, hb, hb2⟩ := appT_ok hT
  obtain ⟨g1, g2, g3, g4⟩ := elz_ok hz
  have hst := run_storeCells_at P b (off + n * z) E news 0 ⟨all⟩ w hw (by simpa using hfit) (by simpa [flat] using hf)
  rw [Nat.add_zero] at hst
  have hst' : (storeCells ⟨b, off + n * z, none⟩ news).run P w = .ok () (w.setRow b (setL all (off + n * z) news).toArray) := by rw [setL_eq _ _ _ hfit]; simpa using hst
  simp [Builtin.append_, run_underlying he, Sx.run_sizeOf g1, hk, hnk, hn, add_lit, hst']

theorem zer_flat {T : Nat} {z : List Value} (h : zer P T = some z) : flat z = true := by
  obtain ⟨z', h1, h2⟩ := obind_some h
  obtain ⟨h3, h4⟩ := ocond_some h2
  cases h4
  rw [allP_eq] at h3
  unfold flat
  rw [List.all_eq_true] at h3 ⊢
  intro v hv
  have := h3 v hv
  cases v <;> first | rfl | (simp [plain] at this; done)
theorem reps_flat {zs : List Value} (h : flat zs = true) : ∀ m, flat (reps zs m) = true := by
  intro m
  induction m with
  | zero => rfl
  | succ m ih => rw [reps_succ]; unfold flat at ih h ⊢; rw [List.all_append, h, ih]; rfl

theorem run_append_grow {T el z n k c : Nat} {p : Option Addr} {xv : Value} {olds news : List Value} {T' : TypeId} (hT : appT P T = some (el, z)) (hk : (Builtin.lenOf xv).run P w = .ok k w) (hnk : c < n + k) (hle : n + k ≤ 1000000)
    (ho : (Builtin.firstCells z n (.slice p n c)).run P w.drew = .ok ⟨olds⟩ w.drew) (hn : (Builtin.firstCells z k xv).run P w.drew = .ok ⟨news⟩ w.drew) :
    ∃ cap rest, n + k ≤ cap ∧ rest.length = (cap - (n + k)) * z ∧ flat rest = true ∧ (Builtin.append_ #[T, T] T' #[.slice p n c, xv]).run P w = .ok (.slice (some ⟨w.heap.size, 0, none⟩) (n + k) cap) (w.drew.alloc (.cells ⟨olds ++ news ++ rest⟩ el)) := by
  obtain ⟨zs, by_, he, hz, hb, hb2⟩ := appT_ok hT
  obtain ⟨g1, g2, g3, g4⟩ := elz_ok hz
  obtain ⟨g5, g6⟩ := zer_ok g2
  obtain ⟨t, ht, hrz⟩ := run_zero g5 w.drew
  obtain ⟨i, hi, hib⟩ := bytesB_ok hb w
  have hti : ∀ w, (typeInfo el).run P w = .ok i w := fun w => by simp [typeInfo, hi]
  have hb2' : i.bytes ≤ 1000000 := by rw [hib]; exact hb2
  have hcap := cap_le hnk
  have hmul : Builtin.nextslicecap (n + k) c * i.bytes ≤ 2001000 * 1000000 := Nat.mul_le_mul (by omega) hb2'
  have hp48 : (2 : Nat) ^ 48 = 281474976710656 := by decide
  have hbig : ¬ (Builtin.nextslicecap (n + k) c * i.bytes > 2 ^ 48) := by omega
  have hmax : ¬ (9223372036854775807 < (n : Int) + (k : Int)) := by omega
  have hq : (Question.appendCap (n + k) c el).forced = false := rfl
  have hcut : n + k ≤ (Question.appendCap (n + k) c el).cut (w.tape w.drawn (.appendCap (n + k) c el)) := by simp [Question.cut]
  generalize hcc : (Question.appendCap (n + k) c el).cut (w.tape w.drawn (.appendCap (n + k) c el)) = cap at hcut
  have hzl : (⟨zs⟩ : Array Value).size = z := g3
  refine ⟨cap, (Builtin.zeroCells ⟨zs⟩ (cap - (n + k))).toList, hcut, ?_, ?_, ?_⟩
  · simp [Builtin.zeroCells, hzl, g3]
  · have hzc : Builtin.zeroCells ⟨zs⟩ (cap - (n + k)) = ⟨reps zs (cap - (n + k))⟩ := by
      have e3 : (⟨zs⟩ : Array Value).size = z := g3
      have := range_reps zs (cap - (n + k)) z g3
      unfold Builtin.zeroCells
      rw [e3] at this ⊢
      exact this
    rw [hzc]
    exact reps_flat (zer_flat g2) _
  · have hnot : ¬ (n + k ≤ c) := by omega
    simp [Builtin.append_, run_underlying he, Sx.run_sizeOf g1, hk, hnot, hmax, hti, hbig, hq, hcc, ho, hn, hrz, ht, newRow]
    congr 2
    apply Array.ext'
    simp

noncomputable def lenV (v : Value) : Option Nat :=
  match v with
  | .slice _ k _ => some k
  | _ => none
theorem lenV_ok {v v' : Value} (hv : Rl σ v v') {k : Nat} (hk : lenV v = some k) (w : World) : (Builtin.lenOf v').run P w = .ok k w := by
  unfold lenV at hk
  split at hk
  · cases hk; cases hv <;> simp [Builtin.lenOf]
  · cases hk

/-- A new block, its room unknown. -/
noncomputable def growTo (el z m : Nat) (xs : List Value) (h : Tr Ob) (N : Nat) : OpR := some (.slice (some ⟨N, 0, some 0⟩) m 0, h.set (some (.g xs el z)) N, Nat.succ N)
/-- Written in place. -/
noncomputable def inPlace (i off at_ : Nat) (sp : Option Nat) (m c : Nat) (news : List Value) (h : Tr Ob) (N : Nat) : OpR :=
  ocond (allF news) (obind (evWrite h i at_ news) fun h' => some (.slice (some ⟨i, off, sp⟩) m c, h', Nat.succ N))

noncomputable def evAppend (P : Program) (T : TypeId) (s x : Value) (h : Tr Ob) (N : Nat) : OpR :=
  obind (appT P T) fun ez => obind (lenV x) fun k => fN (Nat.mul k ez.2) fun kz => obind (seg h x kz) fun news =>
    match s with
    | .slice none n c => ocond (Nat.beq n 0) (ocond (Nat.beq c 0) (ocond (Nat.ble k 1000000)
        (Bool.rec (motive := fun _ => OpR) (growTo ez.1 ez.2 k news h N) (some (.slice none 0 0, h, Nat.succ N)) (Nat.beq k 0))))
    | .slice (some ⟨i, off, none⟩) n c => fN (Nat.add n k) fun m => fN (Nat.mul n ez.2) fun nz => Bool.rec (motive := fun _ => OpR)
        (ocond (Nat.ble m 1000000) (obind (seg h s nz) fun olds => growTo ez.1 ez.2 m (app olds news) h N))
        (inPlace i off (Nat.add off nz) none m c news h N) (Nat.ble m c)
    | .slice (some ⟨i, off, some eo⟩) n c => fN (Nat.add n k) fun m => fN (Nat.mul n ez.2) fun nz =>
        match h.get i with
        | some (.g xs E z') => ocond (Nat.beq z' ez.2) (ocond (Nat.beq E ez.1) (ocond (Nat.beq off (Nat.mul eo ez.2)) (Bool.rec (motive := fun _ => OpR)
            (ocond (Nat.beq eo 0) (ocond (Nat.beq nz (len xs)) (ocond (Nat.ble m 1000000) (ocond (allF news) (some (.slice (some ⟨N, 0, some 0⟩) m 0, (h.set none i).set (some (.g (app xs news) E z')) N, Nat.succ N))))))
            (inPlace i off (Nat.add off nz) (some eo) m 0 news h N) (Nat.ble (Nat.add off (Nat.add nz kz)) (len xs)))))
        | _ => none
    | _ => none
end
end Go.Ev
end

section
namespace Go.Ev
open Go.RowKit Go.Sx
set_option linter.unusedVariables false
set_option linter.unusedSimpArgs false

section
variable {P : Program} {w0 : Fen} {w : World} {σ : Sg} {h : Tr Ob} {e : Tr Value} {n N : Nat} {a : Act} {o : Oper}

/-- A block that no number that lives names is given one. -/
theorem HR.add (H : HR w0 σ h w) {N b r : Nat} {ob : Ob} (hn : σ N = none) (hb : b < w.heap.size) (hF : ¬ w0.F b) (hfree : ∀ j r', σ j = some (b, r') → (h.get j).isSome = true → False)
    (ho : ∀ σ', SLe σ σ' → OR σ' w b r ob) : HR w0 (upd σ N (b, r)) (h.set (some ob) N) w := by
  have hle := upd_le (x := (b, r)) hn
  refine ⟨H.bel, ?_, ?_, ?_, ?_⟩
  · intro i b' r' hi
    by_cases e : i = N
    · subst e; rw [upd_same] at hi; cases hi; exact hb
    · rw [upd_other e] at hi; exact H.low i b' r' hi
  · intro i b' r' o' hi ho'
    rw [Tr.get_set] at ho'
    by_cases e : i = N
    · subst e
      rw [upd_same] at hi
      rw [if_pos rfl] at ho'
      cases hi; cases ho'
      exact ho _ hle
    · rw [upd_other e] at hi
      rw [if_neg e] at ho'
      exact (H.ob i b' r' o' hi ho').mono hle rfl
  · intro i j b' r1 r2 hi hj h1 h2
    rw [Tr.get_set] at h1 h2
    by_cases ei : i = N <;> by_cases ej : j = N
    · rw [ei, ej]
    · subst ei
      rw [upd_same] at hi
      rw [upd_other ej] at hj
      rw [if_neg ej] at h2
      cases hi
      exact (hfree j r2 hj h2).elim
    · subst ej
      rw [upd_same] at hj
      rw [upd_other ei] at hi
      rw [if_neg ei] at h1
      cases hj
      exact (hfree i r1 hi (wrB_live h1)).elim
    · rw [upd_other ei] at hi
      rw [upd_other ej] at hj
      rw [if_neg ei] at h1
      rw [if_neg ej] at h2
      exact H.inj i j b' r1 r2 hi hj h1 h2
  · intro i b' r' hi h1
    rw [Tr.get_set] at h1
    by_cases e : i = N
    · subst e; rw [upd_same] at hi; cases hi; exact hF
    · rw [upd_other e] at hi
      rw [if_neg e] at h1
      exact H.own i b' r' hi h1

theorem below_drew (w : World) : Below w.heap.size w w.drew := (Below.refl _ _).drew

theorem inPlace_ok (H : HR w0 σ h w) {i b r off n k c z T el : Nat} {sp : Option Nat} {xv : Value} {news us : List Value} {T' : TypeId} (hT : appT P T = some (el, z)) (hi : σ i = some (b, r)) (hk : (Builtin.lenOf xv).run P w = .ok k w)
    (hu : RlL σ news us) (hn : (Builtin.firstCells z k xv).run P w = .ok ⟨us⟩ w) {m cc : Nat} {v : Value} {h' : Tr Ob} {N' : Nat} (hnk : n + k ≤ c) (hr : inPlace i off (off + n * z) sp m cc news h N = some (v, h', N')) :
    N' = N + 1 ∧ v = .slice (some ⟨i, off, sp⟩) m cc ∧ ∃ w', HR w0 σ h' w' ∧ (Builtin.append_ #[T, T] T' #[.slice (some ⟨b, off, none⟩) n c, xv]).run P w = .ok (.slice (some ⟨b, off, none⟩) (n + k) c) w' := by
  obtain ⟨h1, hr⟩ := ocond_some hr
  obtain ⟨h2, hw, hr⟩ := obind_some hr
  cases hr
  obtain ⟨cs, E, g1, g2, g3⟩ := evWrite_ok H hi hw hu
  exact ⟨rfl, rfl, _, g3, run_append_in hT hk hnk g1 hn g2 (allF_ok hu h1)⟩

theorem growTo_ok (H : HR w0 σ h w) (hf : Fresh σ N (N + 1)) {n k c z T el : Nat} {p : Option Addr} {xv : Value} {xs olds us : List Value} {T' : TypeId} (hT : appT P T = some (el, z)) (hk : (Builtin.lenOf xv).run P w = .ok k w) (hnk : c < n + k)
    (hle : n + k ≤ 1000000) (ho : (Builtin.firstCells z n (.slice p n c)).run P w.drew = .ok ⟨olds⟩ w.drew) (hn : (Builtin.firstCells z k xv).run P w.drew = .ok ⟨us⟩ w.drew) (hx : RlL σ xs (olds ++ us)) (hlen : (olds ++ us).length = (n + k) * z)
    {v : Value} {h' : Tr Ob} {N' : Nat} (hr : growTo el z (n + k) xs h N = some (v, h', N')) :
    N' = N + 1 ∧ ∃ σ' x w', Ext σ σ' N N' ∧ HR w0 σ' h' w' ∧ Rl σ' v x ∧ (Builtin.append_ #[T, T] T' #[.slice p n c, xv]).run P w = .ok x w' := by
  cases hr
  obtain ⟨cap, rest, h1, h2, h2f, h3⟩ := run_append_grow (T' := T') hT hk hnk hle ho hn
  have Hd := H.ext (below_drew w)
  refine ⟨rfl, upd σ N (w.heap.size, cap), _, _, Ext.one, Hd.alloc (o := .cells ⟨olds ++ us ++ rest⟩ el) (r := cap) (hf N (Nat.le_refl _) (Nat.lt_succ_self _)) (fun σ' hl => ?_), .sx (b := w.heap.size) (r := cap) (e := 0) (upd_same _ _ _) (by omega) (by omega), ?_⟩
  · refine ⟨olds ++ us, rest, hx.mono hl, heap_new _ _, ?_, h2f⟩
    rw [List.length_append, hlen, h2, ← Nat.add_mul]
    congr 1
    omega
  · rw [h3]
    rfl

theorem evAppend_ok (H : HR w0 σ h w) (hf : Fresh σ N (N + 1)) {T : Nat} {x y : Operand} (ho : o.op = .call { callee := .builtin .append, args := ⟨[x, y]⟩, argTypes := ⟨[T, T]⟩ }) {s u : Value} (hs : Rl σ s (a.eval x)) (hu : Rl σ u (a.eval y))
    {v : Value} {h' : Tr Ob} {N' : Nat} (hr : evAppend P T s u h N = some (v, h', N')) : N' = N + 1 ∧ EOk P w0 σ N o a w v h' N' := by
  have fin : ∀ {σ' : Sg} {x' : Value} {w' : World}, Ext σ σ' N N' → HR w0 σ' h' w' → Rl σ' v x' → (Builtin.append_ #[T, T] o.type #[a.eval x, a.eval y]).run P w = .ok x' w' → EOk P w0 σ N o a w v h' N' := by
    intro σ' x' w' h1 h2 h3 h4
    refine ⟨σ', x', w', h1, h2, h3, .inl ?_⟩
    have e1 : (⟨[x, y]⟩ : Array Operand).map a.eval = #[a.eval x, a.eval y] := by simp
    have e2 : (⟨[T, T]⟩ : Array TypeId) = #[T, T] := rfl
    simp only [execOp, ho, resolve, e1, e2, invoke, builtin, Sem.run_bind, Sem.run_pure, Result.andThen_ok, h4]
  obtain ⟨⟨el, z⟩, hT, hr1⟩ := obind_some hr
  obtain ⟨k, hk, hr2⟩ := obind_some hr1
  rw [fN_eq] at hr2
  obtain ⟨news, hseg, hr3⟩ := obind_some hr2
  clear hr hr1 hr2
  have hr := hr3; clear hr3
  have hk' := lenV_ok (P := P) hu hk w
  have Hd := H.ext (below_drew w)
  obtain ⟨us, hus, hul, hrun⟩ := seg_ok (P := P) H hu (z := z) rfl hseg
  obtain ⟨us2, hus2, hul2, hrun2⟩ := seg_ok (P := P) Hd hu (z := z) rfl hseg
  obtain ⟨zs, by_, he, hz, hb, hb2⟩ := appT_ok hT
  obtain ⟨g1, g2, g3, g4⟩ := elz_ok hz
  generalize hX : a.eval x = X at hs fin
  generalize hY : a.eval y = Y at hu fin hk' hrun hrun2
  split at hr
  · rename_i n c
    obtain ⟨h1, hr1⟩ := ocond_some hr
    obtain ⟨h2, hr2⟩ := ocond_some hr1
    obtain ⟨h3, hr3⟩ := ocond_some hr2
    clear hr hr1 hr2
    have hr := hr3; clear hr3
    have e1 := Nat.eq_of_beq_eq_true h1
    have e2 := Nat.eq_of_beq_eq_true h2
    subst e1; subst e2
    have := hs.plain_eq rfl; subst this
    cases hk0 : Nat.beq k 0 with
    | true =>
      rw [hk0] at hr
      cases hr
      have e0 := Nat.eq_of_beq_eq_true hk0
      subst e0
      refine ⟨rfl, fin (Ext.refl _ _ _) H (.sc rfl) ?_⟩
      simp [Builtin.append_, run_underlying he, Sx.run_sizeOf g1, hk', hrun]
    | false =>
      rw [hk0] at hr
      have hkp : 0 < k := by
        rcases Nat.eq_zero_or_pos k with e | e
        · subst e; cases hk0
        · exact e
      have h3' := Nat.le_of_ble_eq_true h3
      have hr' : growTo el z (0 + k) news h N = some (v, h', N') := by rw [Nat.zero_add]; exact hr
      obtain ⟨g5, σ', x', w', g6, g7, g8, g9⟩ := growTo_ok (olds := []) (p := none) (n := 0) (c := 0) (T' := o.type) H hf hT hk' (by omega) (by omega) (by simp [Builtin.firstCells]) hrun2 (by simpa using hus2) (by simpa using hul2) hr'
      exact ⟨g5, fin g6 g7 g8 g9⟩
  · rename_i i off n c
    rw [fN_eq, fN_eq] at hr
    cases hs
    · rename_i hp; simp [plain] at hp
    rename_i b r hi
    cases hmc : Nat.ble (Nat.add n k) c with
    | true =>
      rw [hmc] at hr
      obtain ⟨q1, q2, w', q3, q4⟩ := inPlace_ok (T' := o.type) H hT hi hk' hus hrun (Nat.le_of_ble_eq_true hmc) hr
      subst q1; subst q2
      exact ⟨rfl, fin (Ext.refl _ _ _) q3 (.sl hi) q4⟩
    | false =>
      rw [hmc] at hr
      obtain ⟨q1, hr⟩ := ocond_some hr
      obtain ⟨olds, q2, hr⟩ := obind_some hr
      rw [app_eq] at hr
      have hc : c < n + k := by
        rcases Nat.lt_or_ge c (n + k) with e | e
        · exact e
        · have : Nat.ble (n + k) c = true := Nat.ble_eq_true_of_le e
          rw [show Nat.ble (Nat.add n k) c = Nat.ble (n + k) c from rfl, this] at hmc; cases hmc
      obtain ⟨os, p1, p2, p3⟩ := seg_ok (P := P) Hd (Rl.sl (n := n) (c := c) (off := off) hi) (z := z) (k := n) rfl q2
      obtain ⟨g5, σ', x', w', g6, g7, g8, g9⟩ := growTo_ok (T' := o.type) H hf hT hk' hc (Nat.le_of_ble_eq_true q1) p3 hrun2 (p1.append hus2) (by rw [List.length_append, p2, hul2, Nat.add_mul]) hr
      exact ⟨g5, fin g6 g7 g8 g9⟩
  · rename_i i off eo n c
    rw [fN_eq, fN_eq] at hr
    cases hs
    · rename_i hp; simp [plain] at hp
    rename_i b r hi hle0 hcc0
    have hle : eo + n ≤ r := hle0
    split at hr
    · rename_i xs E z' hob
      obtain ⟨q1, hr⟩ := ocond_some hr
      obtain ⟨q2, hr⟩ := ocond_some hr
      obtain ⟨q3, hr⟩ := ocond_some hr
      have q1' := Nat.eq_of_beq_eq_true q1
      have q2' := Nat.eq_of_beq_eq_true q2
      have q3' := Nat.eq_of_beq_eq_true q3
      dsimp only at q1' q2' q3'
      subst q1'; subst q2'
      obtain ⟨cs, rest, p1, p2, p3, p9⟩ := H.ob i b r _ hi hob
      cases hmc : Nat.ble (Nat.add off (Nat.add (Nat.mul n z') (Nat.mul k z'))) (len xs) with
      | true =>
        rw [hmc] at hr
        have hl := Nat.le_of_ble_eq_true hmc
        rw [len_eq, p1.len] at hl
        have hl' : eo * z' + (n * z' + k * z') ≤ cs.length := by have : off = eo * z' := q3'; rw [← this]; exact hl
        have hroom : (eo + (n + k)) * z' ≤ r * z' := by
          rw [Nat.add_mul, Nat.add_mul, ← p3, List.length_append]; omega
        have hroom' : eo + (n + k) ≤ r := Nat.le_of_mul_le_mul_right hroom g4
        obtain ⟨q4, q5, w', q6, q7⟩ := inPlace_ok (T' := o.type) H hT hi hk' hus hrun (n := n) (c := r - eo) (by omega) hr
        subst q4; subst q5
        exact ⟨rfl, fin (Ext.refl _ _ _) q6 (.sx hi (by exact hroom') (by omega)) q7⟩
      | false =>
        rw [hmc] at hr
        obtain ⟨q4, hr⟩ := ocond_some hr
        obtain ⟨q5, hr⟩ := ocond_some hr
        obtain ⟨q6, hr⟩ := ocond_some hr
        obtain ⟨q7, hr⟩ := ocond_some hr
        cases hr
        have q4' := Nat.eq_of_beq_eq_true q4
        subst q4'
        have q3'' : off = 0 := by rw [q3']; exact Nat.zero_mul _
        subst q3''
        have q5' := Nat.eq_of_beq_eq_true q5
        rw [len_eq, p1.len] at q5'
        have q5'' : n * z' = cs.length := q5'
        have q6' : n + k ≤ 1000000 := Nat.le_of_ble_eq_true q6
        refine ⟨rfl, ?_⟩
        have hNn : σ N = none := hf N (Nat.le_refl _) (Nat.lt_succ_self _)
        by_cases hroom : n + k ≤ r
        · -- in place
          have hsz : ∀ x : Array Value, (w.setRow b x).heap.size = w.heap.size := fun x => by simp [World.setRow]
          have hfit : 0 + n * z' + us.length ≤ (cs ++ rest).length := by
            have : (n + k) * z' ≤ r * z' := Nat.mul_le_mul_right _ hroom
            rw [p3, hul]; rw [Nat.add_mul] at this; omega
          have hap := run_append_in (T' := o.type) hT hk' (n := n) (c := r - 0) (by omega) p2 hrun hfit (allF_ok hus q7)
          have hlose := H.lose (w' := w.setRow b (setL (cs ++ rest) (0 + n * z') us).toArray) hi (by rw [hob]; rfl) (hsz _) rfl rfl rfl (fun kk hkk => setRow_other w b kk _ hkk)
          have hlow := H.low i b r hi
          have hadd := hlose.add (N := N) (b := b) (r := r) (ob := .g (xs ++ news) E z') hNn (by rw [hsz]; exact hlow) (H.own i b r hi (by rw [hob]; rfl)) (fun j r' hj hlive => by
              rw [Tr.get_set] at hlive
              by_cases ej : j = i
              · rw [if_pos ej] at hlive; cases hlive
              · rw [if_neg ej] at hlive
                exact ej (H.inj i j b r r' hi hj (by rw [hob]; rfl) hlive).symm)
            (fun σ' hl => by
              refine ⟨cs ++ us, rest.drop us.length, (p1.append hus).mono hl, ?_, ?_, ?_⟩
              · have := setRow_heap w b ⟨cs ++ rest⟩ (setL (cs ++ rest) (0 + n * z') us).toArray E _ p2
                rw [this]
                rw [setL_eq _ _ _ hfit]
                have e1 : (cs ++ rest).take (0 + n * z') = cs := by rw [Nat.zero_add, q5'', List.take_left]
                have e2 : (cs ++ rest).drop (0 + n * z' + us.length) = rest.drop us.length := by rw [Nat.zero_add, q5'', ← List.drop_drop, List.drop_left]
                rw [e1, e2]
              · have := p3
                simp only [List.length_append, List.length_drop] at this hfit ⊢
                omega
              · unfold flat at p9 ⊢
                rw [List.all_eq_true] at p9 ⊢
                exact fun x hx => p9 x (List.mem_of_mem_drop hx))
          rw [← app_eq xs news] at hadd
          exact fin (Ext.one) hadd (.sx (upd_same _ _ _) (by show 0 + (n + k) ≤ r; omega) (by omega)) hap
        · -- a new block
          obtain ⟨os, p4, p5, p6⟩ := seg_ok (P := P) Hd (Rl.sl (n := n) (c := r - 0) (off := 0) hi) (z := z') (k := n) (m := n * z') (xs := xs) rfl (by
            unfold seg
            cases hz0 : Nat.beq (n * z') 0 with
            | true =>
              have e0 := Nat.eq_of_beq_eq_true hz0
              have : xs = [] := by rw [q5''] at e0; have := p1.len; rw [e0] at this; exact List.length_eq_zero_iff.1 this
              rw [this]
            | false =>
              have hc : cellsFrom h i 0 = some xs := by unfold cellsFrom; rw [hob]; show some (drp xs 0) = _; rw [drp_eq, List.drop_zero]
              show obind (cellsFrom h i 0) _ = _
              rw [hc]
              have h1 : Nat.ble (n * z') (len xs) = true := Nat.ble_eq_true_of_le (by rw [len_eq, p1.len, ← q5'']; exact Nat.le_refl _)
              show ocond (Nat.ble (n * z') (len xs)) (some (tak xs (n * z'))) = some xs
              rw [h1]
              show some (tak xs (n * z')) = some xs
              rw [tak_eq, q5'', ← p1.len, List.take_length])
          obtain ⟨cap, rest', h1, h2, h2f, h3⟩ := run_append_grow (T' := o.type) hT hk' (p := some ⟨b, 0, none⟩) (n := n) (c := r - 0) (by omega) q6' p6 hrun2
          have hall := (Hd.kill i).alloc (o := .cells ⟨os ++ us2 ++ rest'⟩ E) (ob := .g (xs ++ news) E z') (r := cap) hNn (fun σ' hl => by
            refine ⟨os ++ us2, rest', (p4.append hus2).mono hl, heap_new _ _, ?_, h2f⟩
            rw [List.length_append, List.length_append, p5, hul2, h2, ← Nat.add_mul, ← Nat.add_mul]
            congr 1
            omega)
          rw [← app_eq xs news] at hall
          exact fin (Ext.one) hall (.sx (b := w.heap.size) (r := cap) (upd_same _ _ _) (by show 0 + (n + k) ≤ cap; omega) (by omega)) h3
    · cases hr
  · cases hr

end
end Go.Ev
end

section
namespace Go.Ev
open Go.RowKit Go.Sx
set_option linter.unusedVariables false
set_option linter.unusedSimpArgs false

section
variable {P : Program} {w0 : Fen} {w : World} {σ : Sg} {h : Tr Ob} {e : Tr Value} {n N : Nat} {a : Act} {o : Oper}

theorem info_of_siz {e size : Nat} {z : List Value} (hn : sizeB P e = some size) (hz : zeroB P e = some z) : ∃ i v, P.info? e = some i ∧ i.zero = some v ∧ i.size = size ∧ v.cells.toList = z := by
  unfold sizeB at hn
  unfold zeroB at hz
  cases hi : P.info? e with
  | none => rw [hi] at hn; simp at hn
  | some i =>
    rw [hi] at hn hz
    cases hv : i.zero with
    | none => simp [hv] at hz
    | some v => exact ⟨i, v, rfl, hv, by simpa using hn, by simpa [hv] using hz⟩
noncomputable def isIntT (P : Program) (T : TypeId) : Bool :=
  match P.underlying T with
  | some (.int _) => true
  | _ => false
theorem isIntT_ok {T : TypeId} (h : isIntT P T = true) : ∃ k, P.underlying T = some (.int k) := by
  unfold isIntT at h
  split at h
  · rename_i k hk; exact ⟨k, hk⟩
  · cases h

noncomputable def evGrowZ (P : Program) (T tn : TypeId) (s x : Value) (h : Tr Ob) (N : Nat) : OpR :=
  match s, x with
  | .slice (some ⟨i, off, none⟩) n c, .int .i64 (.ofNat k) =>
    obind (appT P T) fun ez => obind (zer P ez.1) fun zs => ocond (isIntT P tn) (ocond (Nat.ble 1 k) (fN (Nat.add n k) fun m => ocond (Nat.ble (Nat.succ c) m) (ocond (Nat.ble m 100000)
      (fN (Nat.mul n ez.2) fun nz => obind (seg h (.slice (some ⟨i, off, none⟩) n c) nz) fun olds => growTo ez.1 ez.2 m (app olds (reps zs k)) h N))))
  | .slice none n c, .int .i64 (.ofNat k) =>
    obind (appT P T) fun ez => obind (zer P ez.1) fun zs => ocond (isIntT P tn) (ocond (Nat.ble 1 k) (ocond (Nat.beq n 0) (ocond (Nat.beq c 0) (ocond (Nat.ble k 100000) (growTo ez.1 ez.2 k (reps zs k) h N)))))
  | _, _ => none

theorem evGrowZ_num {T tn : TypeId} {s u v : Value} {h' : Tr Ob} {N' : Nat} (hr : evGrowZ P T tn s u h N = some (v, h', N')) : N' = N + 1 := by
  unfold evGrowZ at hr
  split at hr
  · obtain ⟨ez, _, hr⟩ := obind_some hr
    obtain ⟨zs, _, hr⟩ := obind_some hr
    obtain ⟨_, hr⟩ := ocond_some hr
    obtain ⟨_, hr⟩ := ocond_some hr
    rw [fN_eq] at hr
    obtain ⟨_, hr⟩ := ocond_some hr
    obtain ⟨_, hr⟩ := ocond_some hr
    rw [fN_eq] at hr
    obtain ⟨olds, _, hr⟩ := obind_some hr
    cases hr
    rfl
  · obtain ⟨ez, _, hr⟩ := obind_some hr
    obtain ⟨zs, _, hr⟩ := obind_some hr
    obtain ⟨_, hr⟩ := ocond_some hr
    obtain ⟨_, hr⟩ := ocond_some hr
    obtain ⟨_, hr⟩ := ocond_some hr
    obtain ⟨_, hr⟩ := ocond_some hr
    obtain ⟨_, hr⟩ := ocond_some hr
    cases hr
    rfl
  · cases hr

theorem evGrowZ_ok (H : HR w0 σ h w) (hf : Fresh σ N (N + 1)) {T tn : Nat} {x y : Operand} (ho : o.op = .call { callee := .builtin .append, args := ⟨[x, y]⟩, argTypes := ⟨[T, tn]⟩ }) {s u : Value} (hs : Rl σ s (a.eval x)) (hu : Rl σ u (a.eval y))
    {v : Value} {h' : Tr Ob} {N' : Nat} (hr : evGrowZ P T tn s u h N = some (v, h', N')) : EOk P w0 σ N o a w v h' N' := by
  unfold evGrowZ at hr
  split at hr
  · rename_i i off n c k
    obtain ⟨⟨el, z⟩, hT, hr⟩ := obind_some hr
    obtain ⟨zs, hzs, hr⟩ := obind_some hr
    obtain ⟨htn, hr⟩ := ocond_some hr
    obtain ⟨hk1, hr⟩ := ocond_some hr
    rw [fN_eq] at hr
    obtain ⟨hcm, hr⟩ := ocond_some hr
    obtain ⟨hm, hr⟩ := ocond_some hr
    rw [fN_eq] at hr
    obtain ⟨olds, hseg, hr⟩ := obind_some hr
    dsimp only at hzs hseg hr
    obtain ⟨kn, htn'⟩ := isIntT_ok htn
    have hk1' : 1 ≤ k := Nat.le_of_ble_eq_true hk1
    have hc : c < n + k := Nat.le_of_ble_eq_true hcm
    have hm' : n + k ≤ 100000 := Nat.le_of_ble_eq_true hm
    have hY : a.eval y = .int .i64 (k : Int) := rl_int hu
    obtain ⟨zs', by_, he, hz, hb, hb2⟩ := appT_ok hT
    obtain ⟨g1, g2, g3, g4⟩ := elz_ok hz
    obtain rfl : zs = zs' := Option.some.inj (hzs.symm.trans g2)
    obtain ⟨g5, g6⟩ := zer_ok g2
    have hfl := zer_flat g2
    obtain ⟨info, zv, hi, hzv, hisz, hzc⟩ := info_of_siz g1 g5
    obtain ⟨info', hi', hib⟩ := bytesB_ok hb w
    obtain rfl : info = info' := Option.some.inj (hi.symm.trans hi')
    have hbi : info.bytes ≤ 1000000 := by rw [hib]; exact hb2
    have Hd := H.ext (below_drew w)
    generalize hX : a.eval x = X at hs
    cases hs
    · rename_i hp; simp [plain] at hp
    rename_i b r hσ
    obtain ⟨os, p1, p2, p3⟩ := seg_ok (P := P) Hd (Rl.sl (n := n) (c := c) (off := off) hσ) (z := z) (k := n) rfl hseg
    have hbytes : (n + k) * info.bytes ≤ 140737488355328 := by
      have h2 : (n + k) * info.bytes ≤ 100000 * 1000000 := Nat.mul_le_mul hm' hbi
      omega
    have hk48 : k * info.bytes ≤ 281474976710656 := by
      have h2 : k * info.bytes ≤ (n + k) * info.bytes := Nat.mul_le_mul_right _ (by omega)
      omega
    have hrun := Lib.run_append_grow_zeros (P := P) w T tn o.type el info zv .i64 kn he htn' hi hzv (some ⟨b, off, none⟩) n c os (by rw [hisz]; exact p3) k (by omega) (by omega) hc (by omega) hk48 (growslice_fits hc hbytes)
    cases hr
    have hge := grownCap_ge w (n + k) c el
    generalize grownCap w (n + k) c el = cap at hrun hge
    have hz1 : ∀ m, Builtin.zeroCells zv.cells m = ⟨reps zs m⟩ := by
      intro m
      have e0 : zv.cells = ⟨zs⟩ := Array.ext' hzc
      rw [e0]
      have e3 : (⟨zs⟩ : Array Value).size = z := g3
      have := range_reps zs m z g3
      unfold Builtin.zeroCells
      rw [e3] at this ⊢
      exact this
    rw [hz1, hz1] at hrun
    have hlen : ∀ m, (reps zs m).length = m * z := by
      intro m
      induction m with
      | zero => rw [Nat.zero_mul]; rfl
      | succ m ih => rw [reps_succ, List.length_append, ih, g3, Nat.add_mul]; omega
    have e1 : os.toArray ++ (⟨reps zs k⟩ : Array Value) ++ (⟨reps zs (cap - (n + k))⟩ : Array Value) = ⟨(os ++ reps zs k) ++ reps zs (cap - (n + k))⟩ := by
      apply Array.ext'
      simp
    rw [e1] at hrun
    refine ⟨upd σ N (w.heap.size, cap), _, _, Ext.one, Hd.alloc (o := .cells ⟨(os ++ reps zs k) ++ reps zs (cap - (n + k))⟩ el) (r := cap) (hf N (Nat.le_refl _) (Nat.lt_succ_self _)) (fun σ' hl => ?_),
      .sx (b := w.heap.size) (r := cap) (e := 0) (upd_same _ _ _) (by show 0 + (n + k) ≤ cap; omega) (by omega), .inl ?_⟩
    · rw [app_eq]
      refine ⟨os ++ reps zs k, reps zs (cap - (n + k)), (p1.mono hl).append (reps_rl (g6 σ') k), heap_new _ _, ?_, reps_flat hfl _⟩
      rw [List.length_append, List.length_append, p2, hlen, hlen, ← Nat.add_mul, ← Nat.add_mul]
      congr 1
      omega
    · have e2 : (⟨[x, y]⟩ : Array Operand).map a.eval = #[a.eval x, a.eval y] := by simp
      have e3 : (⟨[T, tn]⟩ : Array TypeId) = #[T, tn] := rfl
      simp only [execOp, ho, resolve, e2, e3, hY, hX, invoke, builtin, Sem.run_bind, Sem.run_pure, Result.andThen_ok]
      rw [hrun]
      rfl
  · rename_i n c k
    obtain ⟨⟨el, z⟩, hT, hr⟩ := obind_some hr
    obtain ⟨zs, hzs, hr⟩ := obind_some hr
    obtain ⟨htn, hr⟩ := ocond_some hr
    obtain ⟨hk1, hr⟩ := ocond_some hr
    obtain ⟨hn0, hr⟩ := ocond_some hr
    obtain ⟨hc0, hr⟩ := ocond_some hr
    obtain ⟨hm, hr⟩ := ocond_some hr
    dsimp only at hzs hr
    have hR := hr
    have e1 := Nat.eq_of_beq_eq_true hn0
    have e2 := Nat.eq_of_beq_eq_true hc0
    subst e1; subst e2
    obtain ⟨kn, htn'⟩ := isIntT_ok htn
    have hk1' : 1 ≤ k := Nat.le_of_ble_eq_true hk1
    have hc : 0 < 0 + k := by omega
    have hm' : 0 + k ≤ 100000 := by have := Nat.le_of_ble_eq_true hm; omega
    have hY : a.eval y = .int .i64 (k : Int) := rl_int hu
    obtain ⟨zs', by_, he, hz, hb, hb2⟩ := appT_ok hT
    obtain ⟨g1, g2, g3, g4⟩ := elz_ok hz
    obtain rfl : zs = zs' := Option.some.inj (hzs.symm.trans g2)
    obtain ⟨g5, g6⟩ := zer_ok g2
    have hfl := zer_flat g2
    obtain ⟨info, zv, hi, hzv, hisz, hzc⟩ := info_of_siz g1 g5
    obtain ⟨info', hi', hib⟩ := bytesB_ok hb w
    obtain rfl : info = info' := Option.some.inj (hi.symm.trans hi')
    have hbi : info.bytes ≤ 1000000 := by rw [hib]; exact hb2
    have Hd := H.ext (below_drew w)
    generalize hX : a.eval x = X at hs
    have hX0 := hs.plain_eq rfl
    subst hX0
    obtain ⟨os, hos⟩ : ∃ os : List Value, os = [] := ⟨_, rfl⟩
    have p3 : (Builtin.firstCells z 0 (.slice none 0 0)).run P w.drew = .ok os.toArray w.drew := by rw [hos]; simp [Builtin.firstCells]
    obtain ⟨n, hn⟩ : ∃ n, n = 0 := ⟨_, rfl⟩
    have p2 : os.length = n * z := by rw [hos, hn, Nat.zero_mul]; rfl
    have hbytes : (0 + k) * info.bytes ≤ 140737488355328 := by
      have h2 : (0 + k) * info.bytes ≤ 100000 * 1000000 := Nat.mul_le_mul hm' hbi
      omega
    have hk48 : k * info.bytes ≤ 281474976710656 := by
      have h2 : k * info.bytes ≤ (0 + k) * info.bytes := Nat.mul_le_mul_right _ (by omega)
      omega
    have hrun := Lib.run_append_grow_zeros (P := P) w T tn o.type el info zv .i64 kn he htn' hi hzv none 0 0 os (by rw [hisz]; exact p3) k (by omega) (by omega) hc (by omega) hk48 (growslice_fits hc hbytes)
    rw [Nat.zero_add] at hrun
    cases hR
    have hge := grownCap_ge w k 0 el
    generalize grownCap w k 0 el = cap at hrun hge
    have hz1 : ∀ m, Builtin.zeroCells zv.cells m = ⟨reps zs m⟩ := by
      intro m
      have e0 : zv.cells = ⟨zs⟩ := Array.ext' hzc
      rw [e0]
      have e3 : (⟨zs⟩ : Array Value).size = z := g3
      have := range_reps zs m z g3
      unfold Builtin.zeroCells
      rw [e3] at this ⊢
      exact this
    rw [hz1, hz1] at hrun
    have hlen : ∀ m, (reps zs m).length = m * z := by
      intro m
      induction m with
      | zero => rw [Nat.zero_mul]; rfl
      | succ m ih => rw [reps_succ, List.length_append, ih, g3, Nat.add_mul]; omega
    have e1 : os.toArray ++ (⟨reps zs k⟩ : Array Value) ++ (⟨reps zs (cap - k)⟩ : Array Value) = ⟨(os ++ reps zs k) ++ reps zs (cap - k)⟩ := by
      apply Array.ext'
      simp
    rw [e1] at hrun
    refine ⟨upd σ N (w.heap.size, cap), _, _, Ext.one, Hd.alloc (o := .cells ⟨(os ++ reps zs k) ++ reps zs (cap - k)⟩ el) (r := cap) (hf N (Nat.le_refl _) (Nat.lt_succ_self _)) (fun σ' hl => ?_),
      .sx (b := w.heap.size) (r := cap) (e := 0) (upd_same _ _ _) (by show 0 + k ≤ cap; omega) (by omega), .inl ?_⟩
    · refine ⟨os ++ reps zs k, reps zs (cap - k), by rw [hos, List.nil_append]; exact reps_rl (g6 σ') k, heap_new _ _, ?_, reps_flat hfl _⟩
      rw [hos, List.nil_append, List.length_append, hlen, hlen, ← Nat.add_mul]
      congr 1
      omega
    · have e2 : (⟨[x, y]⟩ : Array Operand).map a.eval = #[a.eval x, a.eval y] := by simp
      have e3 : (⟨[T, tn]⟩ : Array TypeId) = #[T, tn] := rfl
      simp only [execOp, ho, resolve, e2, e3, hY, hX, invoke, builtin, Sem.run_bind, Sem.run_pure, Result.andThen_ok]
      rw [hrun]
      rfl
  · cases hr
end
end Go.Ev
end

section
namespace Go.Ev
open Go.RowKit Go.Sx
set_option linter.unusedVariables false
set_option linter.unusedSimpArgs false

section
variable {P : Program} {w0 : Fen} {w : World} {σ : Sg} {h : Tr Ob} {e : Tr Value} {n N : Nat} {a : Act} {o : Oper}

noncomputable def evCopy (P : Program) (T : TypeId) (d x : Value) (h : Tr Ob) (N : Nat) : OpR :=
  obind (appT P T) fun ez => obind (lenV x) fun k => match d with
    | .slice none _ _ => ocond (match d with | .slice none 0 _ => true | _ => false) (some (.int .i64 0, h, N))
    | .slice (some ⟨i, off, _⟩) n _ => fN (Nat.min k n) fun m => fN (Nat.mul m ez.2) fun mz => obind (seg h x mz) fun news => ocond (allF news) (obind (evWrite h i off news) fun h' => some (.int .i64 (Int.ofNat m), h', N))
    | _ => none

theorem evCopy_ok (H : HR w0 σ h w) {T : Nat} {x y : Operand} (ho : o.op = .call { callee := .builtin .copy, args := ⟨[x, y]⟩, argTypes := ⟨[T, T]⟩ }) {s u : Value} (hs : Rl σ s (a.eval x)) (hu : Rl σ u (a.eval y))
    {v : Value} {h' : Tr Ob} {N' : Nat} (hr : evCopy P T s u h N = some (v, h', N')) : N' = N ∧ EOk P w0 σ N o a w v h' N' := by
  have fin : ∀ {x' : Value} {w' : World}, HR w0 σ h' w' → Rl σ v x' → (Builtin.copy_ #[T, T] o.type #[a.eval x, a.eval y]).run P w = .ok x' w' → EOk P w0 σ N o a w v h' N' := by
    intro x' w' h2 h3 h4
    refine ⟨σ, x', w', Ext.refl _ _ _, h2, h3, .inl ?_⟩
    have e1 : (⟨[x, y]⟩ : Array Operand).map a.eval = #[a.eval x, a.eval y] := by simp
    have e2 : (⟨[T, T]⟩ : Array TypeId) = #[T, T] := rfl
    simp only [execOp, ho, resolve, e1, e2, invoke, builtin, Sem.run_bind, Sem.run_pure, Result.andThen_ok, h4]
  obtain ⟨⟨el, z⟩, hT, hr1⟩ := obind_some hr
  obtain ⟨k, hk, hr2⟩ := obind_some hr1
  clear hr hr1
  have hr := hr2; clear hr2
  have hk' := lenV_ok (P := P) hu hk w
  obtain ⟨zs, by_, he, hz, hb, hb2⟩ := appT_ok hT
  obtain ⟨g1, g2, g3, g4⟩ := elz_ok hz
  generalize hX : a.eval x = X at hs fin
  generalize hY : a.eval y = Y at hu fin hk'
  split at hr
  · rename_i n c
    obtain ⟨h1, hr1⟩ := ocond_some hr
    cases hr1
    have := hs.plain_eq rfl; subst this
    split at h1
    · rename_i heq
      cases heq
      refine ⟨rfl, fin H (.sc rfl) ?_⟩
      have h0 : ∃ cs, (Builtin.firstCells z 0 Y).run P w = .ok cs w := by
        obtain ⟨us, _, _, hrun⟩ := seg_ok (P := P) H hu (z := z) (k := 0) (m := 0) (xs := []) (by simp) (by
          cases hu <;> first | rfl | (unfold lenV at hk; cases hk) | (rename_i hp; unfold lenV at hk; split at hk <;> first | (simp [plain] at hp; done) | (cases hk; cases ‹Option Addr› <;> first | rfl | (simp [plain] at hp)) | cases hk))
        exact ⟨_, hrun⟩
      obtain ⟨cs, h0⟩ := h0
      have hm : Nat.min k 0 = 0 := Nat.min_zero k
      simp only [Builtin.copy_, List.getElem?_toArray, Sem.run_bind]
      simp [run_underlying he, hk', hm, Sx.run_sizeOf g1, h0, goInt]
    · cases h1
  · rename_i i off sp n c
    rw [fN_eq, fN_eq] at hr
    obtain ⟨news, h1, hr1⟩ := obind_some hr
    obtain ⟨h2, hr2⟩ := ocond_some hr1
    obtain ⟨h3, h4, hr3⟩ := obind_some hr2
    clear hr hr1 hr2
    cases hr3
    obtain ⟨us, hus, hul, hrun⟩ := seg_ok (P := P) H hu (z := z) rfl h1
    have key : ∀ b r, σ i = some (b, r) → (∃ c', X = .slice (some ⟨b, off, none⟩) n c') → EOk P w0 σ N o a w (.int .i64 (Int.ofNat (Nat.min k n))) h' N := by
      rintro b r hi ⟨c', rfl⟩
      obtain ⟨cs, E, q1, q2, q3⟩ := evWrite_ok H hi h4 hus
      have hst := run_storeCells_at P b off E us 0 ⟨cs⟩ w q1 (by simpa using q2) (by have := allF_ok hus h2; simpa [flat] using this)
      rw [Nat.add_zero] at hst
      have hst' : (storeCells ⟨b, off, none⟩ us).run P w = .ok () (w.setRow b (setL cs off us).toArray) := by rw [setL_eq _ _ _ q2]; simpa using hst
      refine fin q3 (.sc rfl) ?_
      simp [Builtin.copy_, run_underlying he, hk', Sx.run_sizeOf g1, hrun, hst', goInt]
    refine ⟨rfl, ?_⟩
    cases hs
    · rename_i hp; simp [plain] at hp
    · rename_i b r hi; exact key b r hi ⟨_, rfl⟩
    · rename_i b r ee hi hle hcc; exact key _ _ hi ⟨_, rfl⟩
  · cases hr

end
end Go.Ev
end

section
namespace Go.Ev
open Go.RowKit Go.Sx
set_option linter.unusedVariables false
set_option linter.unusedSimpArgs false

theorem still_bind {α β : Type} {P : Program} {f : α → Sem β} {r : β} : ∀ (s : Sem α), still P (s.bind f) = some r → ∃ a, still P s = some a ∧ still P (f a) = some r
  | .pure b, h => ⟨b, rfl, h⟩
  | .program k, h => still_bind (k P) h
  | .mark m k, h => still_bind k h
  | .load _ _ _, h => by cases h
  | .store _ _ _ _, h => by cases h
  | .new _ _, h => by cases h
  | .shape _ _, h => by cases h
  | .freeze _ _ _, h => by cases h
  | .frozen _ _, h => by cases h
  | .getObj _ _, h => by cases h
  | .setObj _ _ _, h => by cases h
  | .choose _ _, h => by cases h
  | .sys _ _, h => by cases h
  | .halt _, h => by cases h

section
variable {P : Program} {w0 : Fen} {w : World} {σ : Sg} {h : Tr Ob} {e : Tr Value} {n N : Nat} {a : Act} {o : Oper}

/-- What was found, said of entries whose values are others. -/
def FRel (xs : List MapEntry) (n : Nat) (r r' : Option (Nat × Value)) : Prop :=
  match r with
  | none => r' = none
  | some (i, _) => n ≤ i ∧ ∃ x, xs[i - n]? = some x ∧ r' = some (i, x.val)

theorem findNow_rel {kind : TypeDesc} {k : Value} : ∀ (xs ys : List MapEntry) (n : Nat), xs.map (·.key) = ys.map (·.key) →
    match Instr.findNow kind k ys n with
    | none => Instr.findNow kind k xs n = none
    | some r => ∃ r', Instr.findNow kind k xs n = some r' ∧ FRel xs n r r'
  | [], ys, n, h => by
    cases ys with
    | nil => exact ⟨none, rfl, rfl⟩
    | cons y ys => simp at h
  | x :: xs, ys, n, h => by
    cases ys with
    | nil => simp at h
    | cons y ys =>
      simp only [List.map_cons, List.cons.injEq] at h
      obtain ⟨h1, h2⟩ := h
      simp only [Instr.findNow, h1]
      cases hs : Instr.sameNow kind k y.key with
      | none => simp
      | some b =>
        cases b with
        | true => exact ⟨_, rfl, Nat.le_refl _, x, by simp, rfl⟩
        | false =>
          have ih := findNow_rel (kind := kind) (k := k) xs ys (n + 1) h2
          simp only
          revert ih
          cases hn : Instr.findNow kind k ys (n + 1) with
          | none => exact fun ih => ih
          | some r =>
            rintro ⟨r', h3, h4⟩
            refine ⟨r', h3, ?_⟩
            unfold FRel at h4 ⊢
            split at h4
            · exact h4
            · rename_i i v
              obtain ⟨h5, z, h6, h7⟩ := h4
              refine ⟨by omega, z, ?_, h7⟩
              have : i - n = (i - (n + 1)) + 1 := by omega
              rw [this, List.getElem?_cons_succ]
              exact h6

theorem findAsk_rel {kt : TypeId} {k : Value} (w : World) : ∀ (xs ys : List MapEntry) (n : Nat) (r : Option (Nat × Value)), xs.map (·.key) = ys.map (·.key) → still P (Instr.findAsking kt k ys n) = some r →
    ∃ r', (Instr.findAsking kt k xs n).run P w = .ok r' w ∧ FRel xs n r r'
  | [], ys, n, r, h, hr => by
    cases ys with
    | nil => cases hr; exact ⟨none, by simp [Instr.findAsking], rfl⟩
    | cons y ys => simp at h
  | x :: xs, ys, n, r, h, hr => by
    cases ys with
    | nil => simp at h
    | cons y ys =>
      simp only [List.map_cons, List.cons.injEq] at h
      obtain ⟨h1, h2⟩ := h
      unfold Instr.findAsking at hr
      obtain ⟨b, hb, hr⟩ := still_bind _ hr
      have hbr := still_run w _ hb
      cases b with
      | true =>
        have hr' : still P (pure (some (n, y.val)) : Sem (Option (Nat × Value))) = some r := by simpa using hr
        cases hr'
        refine ⟨some (n, x.val), ?_, Nat.le_refl _, x, by simp, rfl⟩
        simp [Instr.findAsking, h1, hbr]
      | false =>
        have hr' : still P (Instr.findAsking kt k ys (n + 1)) = some r := by simpa using hr
        obtain ⟨r', h3, h4⟩ := findAsk_rel w xs ys (n + 1) r h2 hr'
        refine ⟨r', by simp [Instr.findAsking, h1, hbr, h3], ?_⟩
        clear hr
        cases r with
        | none => exact h4
        | some p =>
          obtain ⟨i, v⟩ := p
          unfold FRel at h4 ⊢
          dsimp only at h4 ⊢
          obtain ⟨h5, z, h6, h7⟩ := h4
          refine ⟨by omega, z, ?_, h7⟩
          have : i - n = (i - (n + 1)) + 1 := by omega
          rw [this, List.getElem?_cons_succ]
          exact h6

theorem findKey_rel {kt : TypeId} {k : Value} (w : World) {xs ys : List MapEntry} {r : Option (Nat × Value)} (hk : xs.map (·.key) = ys.map (·.key)) (hr : still P (Instr.findKey kt k ys) = some r) :
    ∃ r', (Instr.findKey kt k xs).run P w = .ok r' w ∧ FRel xs 0 r r' := by
  unfold Instr.findKey at hr
  obtain ⟨d, hd, hr⟩ := still_bind _ hr
  have hdr := still_run w _ hd
  have h1 := findNow_rel (kind := d) (k := k) xs ys 0 hk
  cases hn : Instr.findNow d k ys 0 with
  | none =>
    rw [hn] at h1 hr
    obtain ⟨r', h2, h3⟩ := findAsk_rel w xs ys 0 r hk hr
    exact ⟨r', by simp [Instr.findKey, hdr, h1, h2], h3⟩
  | some r0 =>
    rw [hn] at h1 hr
    obtain ⟨r', h2, h3⟩ := h1
    cases hr
    exact ⟨r', by simp [Instr.findKey, hdr, h2], h3⟩

/-- The keys alone. -/
noncomputable def keysOf (es : List (Value × Value × Nat)) : List MapEntry := List.rec (motive := fun _ => List MapEntry) [] (fun x _ ih => { key := x.1, val := .bool false, born := 0 } :: ih) es
noncomputable def keysP (es : List (Value × Value × Nat)) : Bool := List.rec (motive := fun _ => Bool) true (fun x _ ih => Bool.rec (motive := fun _ => Bool) false ih (scal x.1)) es
theorem MER.uncons {x : Value × Value × Nat} {es : List (Value × Value × Nat)} {xs : List MapEntry} (hm : MER σ (x :: es) xs) : ∃ y ys, xs = y :: ys ∧ Rl σ x.1 y.key ∧ Rl σ x.2.1 y.val ∧ x.2.2 = y.born ∧ MER σ es ys := by
  cases xs with
  | nil => exact absurd hm.1 (by simp)
  | cons y ys =>
    obtain ⟨h1, h2, h3⟩ := hm.2 0 x y rfl rfl
    exact ⟨y, ys, rfl, h1, h2, h3, by have := hm.1; simpa using this, fun i b z hb hz => hm.2 (i + 1) b z (by simpa using hb) (by simpa using hz)⟩
theorem keys_ok : ∀ {es : List (Value × Value × Nat)} {xs : List MapEntry}, MER σ es xs → keysP es = true → xs.map (·.key) = (keysOf es).map (·.key)
  | [], xs, hm, h => by
    have : xs = [] := by have := hm.1; simp at this; exact List.length_eq_zero_iff.1 this.symm
    subst this; rfl
  | x :: es, xs, hm, h => by
    obtain ⟨y, ys, rfl, h1, h2, h3, h4⟩ := hm.uncons
    have h' : Bool.rec (motive := fun _ => Bool) false (keysP es) (scal x.1) = true := h
    cases hs : scal x.1 with
    | false => rw [hs] at h'; cases h'
    | true =>
      rw [hs] at h'
      have e1 := h1.scal_eq hs
      show y.key :: ys.map (·.key) = x.1 :: (keysOf es).map (·.key)
      rw [e1, keys_ok h4 h']

/-- Where a key lies in a map; the key and all keys bear no block. -/
noncomputable def evFind (P : Program) (kt : TypeId) (k : Value) (es : List (Value × Value × Nat)) : Option (Option Nat) :=
  ocond (scal k) (ocond (keysP es) (obind (still P (Instr.findKey kt k (keysOf es))) fun r => some (Option.rec (motive := fun _ => Option Nat) none (fun p => some p.1) r)))
theorem evFind_ok {kt : TypeId} {k k' : Value} {es : List (Value × Value × Nat)} {xs : List MapEntry} {r : Option Nat} (hr : evFind P kt k es = some r) (hk : Rl σ k k') (hm : MER σ es xs) (w : World) :
    k' = k ∧ (match r with
      | none => (Instr.findKey kt k' xs).run P w = .ok none w
      | some i => ∃ x y, es[i]? = some x ∧ xs[i]? = some y ∧ y.key = x.1 ∧ Rl σ x.2.1 y.val ∧ x.2.2 = y.born ∧ (Instr.findKey kt k' xs).run P w = .ok (some (i, y.val)) w) := by
  obtain ⟨h1, hr⟩ := ocond_some hr
  obtain ⟨h2, hr⟩ := ocond_some hr
  obtain ⟨r0, h3, hr⟩ := obind_some hr
  cases hr
  have e1 := hk.scal_eq h1
  subst e1
  refine ⟨rfl, ?_⟩
  have hkeys := keys_ok hm h2
  obtain ⟨r', h4, h5⟩ := findKey_rel w hkeys h3
  cases r0 with
  | none => have h5' : r' = none := h5; subst h5'; exact h4
  | some p =>
    obtain ⟨i, v⟩ := p
    obtain ⟨_, y, h6, h7⟩ := h5
    rw [Nat.sub_zero] at h6
    subst h7
    have hlt : i < es.length := by
      rw [hm.1]
      rcases Nat.lt_or_ge i xs.length with h | h
      · exact h
      · rw [List.getElem?_eq_none h] at h6; cases h6
    have h8 : es[i]? = some es[i] := by simp [hlt]
    obtain ⟨h9, h10, h11⟩ := hm.2 i _ y h8 h6
    refine ⟨es[i], y, h8, h6, ?_, h10, h11, h4⟩
    have hk1 : (xs.map (·.key))[i]? = some y.key := by rw [List.getElem?_map, h6]; rfl
    have hgen : ∀ (L : List (Value × Value × Nat)), keysP L = true → ∀ (x : Value × Value × Nat), x ∈ L → scal x.1 = true := by
      intro L
      induction L with
      | nil => intro _ x hx; cases hx
      | cons z L ih =>
        intro hL x hx
        have hL' : Bool.rec (motive := fun _ => Bool) false (keysP L) (scal z.1) = true := hL
        cases hz : scal z.1 with
        | false => rw [hz] at hL'; cases hL'
        | true =>
          rw [hz] at hL'
          rcases List.mem_cons.1 hx with e | e
          · subst e; exact hz
          · exact ih hL' x e
    exact h9.scal_eq (hgen es h2 _ (List.getElem_mem hlt))

noncomputable def mapT (P : Program) (T : TypeId) : Option (Nat × Nat) :=
  match P.underlying T with
  | some (.map k e) => some (k, e)
  | _ => none
theorem mapT_ok {T k el : Nat} (hT : mapT P T = some (k, el)) : P.underlying T = some (.map k el) := by
  unfold mapT at hT; split at hT
  · rename_i hu; cases hT; exact hu
  · cases hT
noncomputable def mapAt (h : Tr Ob) (v : Value) : Option (Nat × List (Value × Value × Nat) × Nat) :=
  match v with
  | .map (some i) => match h.get i with
    | some (.m es c) => some (i, es, c)
    | _ => none
  | _ => none
theorem mapAt_ok (H : HR w0 σ h w) {v v' : Value} {i c : Nat} {es : List (Value × Value × Nat)} (hm : mapAt h v = some (i, es, c)) (hv : Rl σ v v') :
    ∃ b r xs, σ i = some (b, r) ∧ v' = .map (some b) ∧ MER σ es xs ∧ w.heap[b]? = some (.map ⟨xs⟩ c) ∧ wrB (h.get i) = true := by
  unfold mapAt at hm
  split at hm
  · split at hm
    · rename_i ho
      cases hm
      cases hv
      · rename_i hp; simp [plain] at hp
      · rename_i b r hi
        obtain ⟨xs, h1, h2⟩ := H.ob _ b r _ hi ho
        exact ⟨b, r, xs, hi, rfl, h1, h2, by rw [ho]; rfl⟩
    · cases hm
  · cases hm

noncomputable def noE : List (Value × Value × Nat) → Bool
  | [] => true
  | _ => false
/-- The key is checked (it may be hashed). -/
noncomputable def chk (P : Program) (em : Bool) (kt : TypeId) (k : Value) : Option Unit := still P (Instr.checkKey em 10000 kt k)

theorem run_getMap {b c : Nat} {xs : List MapEntry} (hw : w.heap[b]? = some (.map ⟨xs⟩ c)) : (getObj b).run P w = .ok (.map ⟨xs⟩ c) w := by simp [getObj, Sem.run, hw]
theorem run_setMap {b c : Nat} {xs : List MapEntry} (hw : w.heap[b]? = some (.map ⟨xs⟩ c)) (o : Obj) : (setObj b o).run P w = .ok () (w.putObj b o) := by simp [setObj, Sem.run, hw, World.putObj]

theorem HR.putMap (H : HR w0 σ h w) {i b r c c' : Nat} {xs xs' : List MapEntry} {es' : List (Value × Value × Nat)} (hi : σ i = some (b, r)) (hl : wrB (h.get i) = true) (hw : w.heap[b]? = some (.map ⟨xs⟩ c)) (hm : MER σ es' xs') :
    HR w0 σ (h.set (some (.m es' c')) i) (w.putObj b (.map ⟨xs'⟩ c')) :=
  H.write hi hl World.putObj_size rfl rfl rfl (fun k hk => World.putObj_heap_other hk) ⟨xs', hm, World.putObj_heap_same (H.low i b r hi)⟩

theorem MER.nil : MER σ [] [] := ⟨rfl, fun i a x h => by simp at h⟩

noncomputable def evMakeMap (h : Tr Ob) (N : Nat) : OpR := some (.map (some N), h.set (some (.m [] 0)) N, Nat.succ N)
theorem evMakeMap_ok (H : HR w0 σ h w) (hf : Fresh σ N (N + 1)) {T : TypeId} (ho : o.op = .makeMap T none) : EOk P w0 σ N o a w (.map (some N)) (h.set (some (.m [] 0)) N) (N + 1) := by
  refine eok_new (r := 0) (ob' := .map #[] 0) (mk := fun b => .map (some b)) H hf (fun σ' b hb => .mp hb) (fun σ' hle => ⟨[], MER.nil, heap_new w _⟩) ?_
  simp [execOp, ho, Instr.makeMap]

/-- The zero value, told to bear no block. -/
noncomputable def zval (P : Program) (T : TypeId) : Option Value := obind ((P.info? T).bind (·.zero)) fun z => ocond (scal z) (some z)
theorem zval_ok {T : Nat} {z : Value} (hz : zval P T = some z) (w : World) : (zeroValue T).run P w = .ok z w ∧ ∀ σ, Rl σ z z := by
  obtain ⟨z', h1, h2⟩ := obind_some hz
  obtain ⟨h3, h4⟩ := ocond_some h2
  cases h4
  cases hi : P.info? T with
  | none => rw [hi] at h1; cases h1
  | some i =>
    rw [hi] at h1
    have h1' : i.zero = some z := h1
    exact ⟨by simp [zeroValue, typeInfo, hi, h1'], fun σ => scal_refl h3⟩

/-- The entry's value is another. -/
noncomputable def setVal (es : List (Value × Value × Nat)) (k v : Value) : Nat → List (Value × Value × Nat) :=
  List.rec (motive := fun _ => Nat → List (Value × Value × Nat)) (fun _ => []) (fun x t ih n => Nat.rec (motive := fun _ => List (Value × Value × Nat)) ((k, v, x.2.2) :: t) (fun m _ => x :: ih m) n) es
theorem setVal_ok {k k' v u : Value} (hk : Rl σ k k') (hv : Rl σ v u) : ∀ {es : List (Value × Value × Nat)} {xs : List MapEntry} (i : Nat), MER σ es xs →
    MER σ (setVal es k v i) (xs.modify i fun e => { e with key := k', val := u })
  | [], xs, i, hm => by
    have : xs = [] := by have := hm.1; simp at this; exact List.length_eq_zero_iff.1 this.symm
    subst this
    have e1 : setVal [] k v i = [] := rfl
    rw [e1]
    simpa using hm
  | x :: es, xs, 0, hm => by
    obtain ⟨y, ys, rfl, h1, h2, h3, h4⟩ := hm.uncons
    have e1 : setVal (x :: es) k v 0 = (k, v, x.2.2) :: es := rfl
    rw [e1]
    refine ⟨by have := hm.1; simpa using this, fun i b z hb hz => ?_⟩
    cases i with
    | zero =>
      simp at hb hz
      subst hb; subst hz
      exact ⟨hk, hv, h3⟩
    | succ i => exact h4.2 i b z (by simpa using hb) (by simpa using hz)
  | x :: es, xs, i + 1, hm => by
    obtain ⟨y, ys, rfl, h1, h2, h3, h4⟩ := hm.uncons
    have e1 : setVal (x :: es) k v (i + 1) = x :: setVal es k v i := rfl
    rw [e1]
    have ih := setVal_ok hk hv (es := es) (xs := ys) i h4
    refine ⟨by have := ih.1; simpa using this, fun j b z hb hz => ?_⟩
    cases j with
    | zero => simp at hb hz; subst hb; subst hz; exact ⟨h1, h2, h3⟩
    | succ j => exact ih.2 j b z (by simpa using hb) (by simpa using hz)

noncomputable def evMapPut (P : Program) (T : TypeId) (m k v : Value) (h : Tr Ob) (N : Nat) : OpR :=
  obind (mapT P T) fun ke => obind (mapAt h m) fun iec => obind (chk P false ke.1 k) fun _ => obind (evFind P ke.1 k iec.2.1) fun r =>
    match r with
    | none => fN (Nat.succ iec.2.2) fun c' => some (.tuple ⟨[]⟩, h.set (some (.m (app iec.2.1 [(k, v, iec.2.2)]) c')) iec.1, N)
    | some j => obind (nth iec.2.1 j) fun x => ocond (Instr.sameBits 10000 x.1 k) (some (.tuple ⟨[]⟩, h.set (some (.m (setVal iec.2.1 k v j) iec.2.2)) iec.1, N))

theorem MER.snoc {es : List (Value × Value × Nat)} {xs : List MapEntry} (hm : MER σ es xs) {k k' v v' : Value} {c : Nat} (hk : Rl σ k k') (hv : Rl σ v v') : MER σ (es ++ [(k, v, c)]) (xs ++ [{ key := k', val := v', born := c }]) := by
  refine ⟨by simp [hm.1], fun i a x ha hx => ?_⟩
  rw [List.getElem?_append] at ha hx
  by_cases hi : i < es.length
  · rw [if_pos hi] at ha
    rw [if_pos (by rw [← hm.1]; exact hi)] at hx
    exact hm.2 i a x ha hx
  · rw [if_neg hi] at ha
    rw [if_neg (by rw [← hm.1]; exact hi), ← hm.1] at hx
    cases hj : i - es.length with
    | zero => rw [hj] at ha hx; simp at ha hx; subst ha; subst hx; exact ⟨hk, hv, rfl⟩
    | succ j => rw [hj] at ha; simp at ha

theorem evMapPut_ok (H : HR w0 σ h w) {T : Nat} {x y z : Operand} (ho : o.op = .mapUpdate T x y z ∨ o.op = .insert T x y z) {m k u : Value} (hm : Rl σ m (a.eval x)) (hk : Rl σ k (a.eval y)) (hu : Rl σ u (a.eval z))
    {v : Value} {h' : Tr Ob} {N' : Nat} (hr : evMapPut P T m k u h N = some (v, h', N')) : N' = N ∧ EOk P w0 σ N o a w v h' N' := by
  obtain ⟨⟨kt, et⟩, hT, hr1⟩ := obind_some hr
  obtain ⟨⟨i, es, c⟩, hma, hr2⟩ := obind_some hr1
  obtain ⟨q, hck, hr3⟩ := obind_some hr2
  obtain ⟨r, hfi, hr4⟩ := obind_some hr3
  clear hr hr1 hr2 hr3
  obtain ⟨b, rr, xs, hi, hX, hxs, hw, hl⟩ := mapAt_ok H hma hm
  obtain ⟨hk', hfind⟩ := evFind_ok hfi hk hxs w
  have hT' := mapT_ok hT
  have hck' : (Instr.checkKey false 10000 kt (a.eval y)).run P w = .ok () w := by rw [hk']; exact still_run w _ hck
  have fin : ∀ {w' : World}, HR w0 σ h' w' → N' = N → v = .tuple ⟨[]⟩ → (Instr.mapUpdate T (a.eval x) (a.eval y) (a.eval z)).run P w = .ok () w' → N' = N ∧ EOk P w0 σ N o a w v h' N' := by
    intro w' h1 h2 h3 h4
    subst h2; subst h3
    refine ⟨rfl, σ, undef, w', Ext.refl _ _ _, h1, .tup rfl (fun i a b h => by simp at h), .inr ⟨?_, rfl⟩⟩
    rcases ho with ho | ho <;> simp [execOp, ho, h4]
  cases r with
  | none =>
    have hr' : fN (Nat.succ c) (fun c' => (some (.tuple ⟨[]⟩, h.set (some (.m (app es [(k, u, c)]) c')) i, N) : OpR)) = some (v, h', N') := hr4
    rw [fN_eq, app_eq] at hr'
    cases hr'
    refine fin (H.putMap (c' := c + 1) hi hl hw (hxs.snoc hk hu)) rfl rfl ?_
    dsimp only at hfind
    simp [Instr.mapUpdate, run_underlying hT', hX, run_getMap hw, hck', hfind, run_setMap hw]
  | some j =>
    have hr' : obind (nth es j) (fun x => ocond (Instr.sameBits 10000 x.1 k) (some (.tuple ⟨[]⟩, h.set (some (.m (setVal es k u j) c)) i, N) : OpR)) = some (v, h', N') := hr4
    obtain ⟨x0, hx0, hr5⟩ := obind_some hr'
    obtain ⟨hsb, hr6⟩ := ocond_some hr5
    cases hr6
    rw [nth_eq] at hx0
    obtain ⟨x1, y1, g1, g2, g3, g4, g5, g6⟩ := hfind
    rw [hx0] at g1
    cases g1
    refine fin (H.putMap hi hl hw (setVal_ok hk hu j hxs)) rfl rfl ?_
    have hstay : (Instr.keyThatStays y1.key (a.eval y)).run P w = .ok (a.eval y) w := by
      rw [hk', g3]; simp [Instr.keyThatStays, hsb]
    have hmod : (⟨xs⟩ : Array MapEntry).modify j (fun e => { e with key := a.eval y, val := a.eval z }) = ⟨xs.modify j fun e => { e with key := a.eval y, val := a.eval z }⟩ := by
      apply Array.ext'; simp
    simp [Instr.mapUpdate, run_underlying hT', hX, run_getMap hw, hck', g6, run_setMap hw, g2, hstay, hmod]

/-! ### Asking, and taking out -/
noncomputable def evLookup (P : Program) (T : TypeId) (m k : Value) (ok : Bool) (h : Tr Ob) : Option Value :=
  obind (mapT P T) fun ke => obind (mapAt h m) fun iec => obind (chk P (noE iec.2.1) ke.1 k) fun _ => obind (evFind P ke.1 k iec.2.1) fun r =>
    match r with
    | none => obind (zval P ke.2) fun z => some (Bool.rec (motive := fun _ => Value) z (.tuple ⟨[z, .bool false]⟩) ok)
    | some j => obind (nth iec.2.1 j) fun x => some (Bool.rec (motive := fun _ => Value) x.2.1 (.tuple ⟨[x.2.1, .bool true]⟩) ok)

end
end Go.Ev
end

section
namespace Go.Ev
open Go.RowKit Go.Sx
set_option linter.unusedVariables false
set_option linter.unusedSimpArgs false

section
variable {P : Program} {w0 : Fen} {w : World} {σ : Sg} {h : Tr Ob} {e : Tr Value} {n N : Nat} {a : Act} {o : Oper}

theorem isEmpty_eq {es : List (Value × Value × Nat)} {xs : List MapEntry} (hm : MER σ es xs) : noE es = (⟨xs⟩ : Array MapEntry).isEmpty := by
  have := hm.1
  cases es <;> cases xs <;> simp_all [noE]

theorem evLookup_ok (H : HR w0 σ h w) {T : Nat} {m m' k k' r : Value} {ok : Bool} (hr : evLookup P T m k ok h = some r) (hm : Rl σ m m') (hk : Rl σ k k') :
    ∃ x, Rl σ r x ∧ (Instr.lookup T m' k' ok).run P w = .ok x w := by
  obtain ⟨⟨kt, et⟩, hT, hr1⟩ := obind_some hr
  obtain ⟨⟨i, es, c⟩, hma, hr2⟩ := obind_some hr1
  obtain ⟨q, hck, hr3⟩ := obind_some hr2
  obtain ⟨r0, hfi, hr4⟩ := obind_some hr3
  clear hr hr1 hr2 hr3
  obtain ⟨b, rr, xs, hi, hX, hxs, hw, hl⟩ := mapAt_ok H hma hm
  obtain ⟨hk', hfind⟩ := evFind_ok hfi hk hxs w
  have hT' := mapT_ok hT
  have hck' : (Instr.checkKey (⟨xs⟩ : Array MapEntry).isEmpty 10000 kt k').run P w = .ok () w := by
    dsimp only [chk] at hck
    have := still_run w _ hck
    rw [isEmpty_eq hxs] at this
    rw [hk']
    exact this
  cases r0 with
  | none =>
    obtain ⟨z, hz, hr5⟩ := obind_some hr4
    obtain ⟨hz1, hz2⟩ := zval_ok hz w
    dsimp only at hfind
    cases ok with
    | false => cases hr5; exact ⟨z, hz2 σ, by simp only [Instr.lookup, Sem.run_bind, run_underlying hT', Result.andThen_ok, hX, run_getMap hw, Sem.run_pure, hck', hfind, hz1]; rfl⟩
    | true =>
      cases hr5
      exact ⟨_, .tup rfl (RlL.cons (hz2 σ) (RlL.cons (.sc rfl) (.nil σ))).at_, by simp only [Instr.lookup, Sem.run_bind, run_underlying hT', Result.andThen_ok, hX, run_getMap hw, Sem.run_pure, hck', hfind, hz1]; rfl⟩
  | some j =>
    obtain ⟨x0, hx0, hr5⟩ := obind_some hr4
    rw [nth_eq] at hx0
    obtain ⟨x1, y1, g1, g2, g3, g4, g5, g6⟩ := hfind
    rw [hx0] at g1
    cases g1
    cases ok with
    | false => cases hr5; exact ⟨_, g4, by simp only [Instr.lookup, Sem.run_bind, run_underlying hT', Result.andThen_ok, hX, run_getMap hw, Sem.run_pure, hck', g6]; rfl⟩
    | true =>
      cases hr5
      exact ⟨.tuple ⟨[y1.val, .bool true]⟩, .tup rfl (RlL.cons g4 (RlL.cons (.sc rfl) (.nil σ))).at_, by simp only [Instr.lookup, Sem.run_bind, run_underlying hT', Result.andThen_ok, hX, run_getMap hw, Sem.run_pure, hck', g6]; rfl⟩

/-- The entry is taken out. -/
noncomputable def dropAt {α : Type} (es : List α) : Nat → List α :=
  List.rec (motive := fun _ => Nat → List α) (fun _ => []) (fun x t ih n => Nat.rec (motive := fun _ => List α) t (fun m _ => x :: ih m) n) es
theorem dropAt_eq {α : Type} : ∀ (es : List α) (i : Nat), dropAt es i = es.eraseIdx i
  | [], i => by cases i <;> rfl
  | x :: es, 0 => rfl
  | x :: es, i + 1 => by rw [List.eraseIdx_cons_succ, ← dropAt_eq es i]; rfl
theorem MER.erase : ∀ {es : List (Value × Value × Nat)} {xs : List MapEntry} (i : Nat), MER σ es xs → MER σ (es.eraseIdx i) (xs.eraseIdx i)
  | [], xs, i, hm => by
    have : xs = [] := by have := hm.1; simp at this; exact List.length_eq_zero_iff.1 this.symm
    subst this; simpa using hm
  | x :: es, xs, 0, hm => by
    obtain ⟨y, ys, rfl, h1, h2, h3, h4⟩ := hm.uncons
    simpa using h4
  | x :: es, xs, i + 1, hm => by
    obtain ⟨y, ys, rfl, h1, h2, h3, h4⟩ := hm.uncons
    have ih := MER.erase i h4
    simp only [List.eraseIdx_cons_succ]
    refine ⟨by have := ih.1; simpa using this, fun j b z hb hz => ?_⟩
    cases j with
    | zero => simp at hb hz; subst hb; subst hz; exact ⟨h1, h2, h3⟩
    | succ j => exact ih.2 j b z (by simpa using hb) (by simpa using hz)

noncomputable def evDelete (P : Program) (T : TypeId) (m k : Value) (h : Tr Ob) (N : Nat) : OpR :=
  obind (mapT P T) fun ke => obind (mapAt h m) fun iec => obind (chk P (noE iec.2.1) ke.1 k) fun _ => obind (evFind P ke.1 k iec.2.1) fun r =>
    match r with
    | none => some (.tuple ⟨[]⟩, h, N)
    | some j => some (.tuple ⟨[]⟩, h.set (some (.m (dropAt iec.2.1 j) iec.2.2)) iec.1, N)

theorem evDelete_ok (H : HR w0 σ h w) {T : Nat} {x y : Operand} {ts : List TypeId} (ho : o.op = .call { callee := .builtin .delete, args := ⟨[x, y]⟩, argTypes := ⟨T :: ts⟩ }) {m k : Value} (hm : Rl σ m (a.eval x)) (hk : Rl σ k (a.eval y))
    {v : Value} {h' : Tr Ob} {N' : Nat} (hr : evDelete P T m k h N = some (v, h', N')) : N' = N ∧ EOk P w0 σ N o a w v h' N' := by
  obtain ⟨⟨kt, et⟩, hT, hr1⟩ := obind_some hr
  obtain ⟨⟨i, es, c⟩, hma, hr2⟩ := obind_some hr1
  obtain ⟨q, hck, hr3⟩ := obind_some hr2
  obtain ⟨r0, hfi, hr4⟩ := obind_some hr3
  clear hr hr1 hr2 hr3
  obtain ⟨b, rr, xs, hi, hX, hxs, hw, hl⟩ := mapAt_ok H hma hm
  obtain ⟨hk', hfind⟩ := evFind_ok hfi hk hxs w
  have hT' := mapT_ok hT
  have hck' : (Instr.checkKey (⟨xs⟩ : Array MapEntry).isEmpty 10000 kt (a.eval y)).run P w = .ok () w := by
    dsimp only [chk] at hck
    have := still_run w _ hck
    rw [isEmpty_eq hxs] at this
    rw [hk']
    exact this
  have e1 : (⟨[x, y]⟩ : Array Operand).map a.eval = #[a.eval x, a.eval y] := by simp
  have fin : ∀ {w' : World}, HR w0 σ h' w' → N' = N → v = .tuple ⟨[]⟩ → (Builtin.delete_ ⟨T :: ts⟩ o.type #[a.eval x, a.eval y]).run P w = .ok (.tuple #[]) w' → N' = N ∧ EOk P w0 σ N o a w v h' N' := by
    intro w' h1 h2 h3 h4
    subst h2; subst h3
    refine ⟨rfl, σ, .tuple #[], w', Ext.refl _ _ _, h1, .tup rfl (fun i a b h => by simp at h), .inl ?_⟩
    simp only [execOp, ho, resolve, e1, invoke, builtin, Sem.run_bind, Sem.run_pure, Result.andThen_ok, h4]
  have htt : (⟨T :: ts⟩ : Array TypeId)[0]? = some T := by simp
  have h0 : (#[.map (some b), a.eval y] : Array Value)[0]? = some (.map (some b)) := rfl
  have h1 : (#[.map (some b), a.eval y] : Array Value)[1]? = some (a.eval y) := rfl
  cases r0 with
  | none =>
    cases hr4
    have hput : HR w0 σ h (w.putObj b (.map ⟨xs⟩ c)) := by
      have e2 : w.putObj b (.map ⟨xs⟩ c) = w := by
        unfold World.putObj
        have : w.heap.setIfInBounds b (.map ⟨xs⟩ c) = w.heap := by
          apply Array.ext_getElem?
          intro k
          by_cases e : k = b
          · subst e; rw [Array.getElem?_setIfInBounds_self_of_lt (lt_of_get hw), hw]
          · rw [Array.getElem?_setIfInBounds_ne (Ne.symm e)]
        rw [this]
      rw [e2]; exact H
    refine fin hput rfl rfl ?_
    dsimp only at hfind
    rw [hX]
    simp only [Builtin.delete_, htt, h0, h1, Sem.run_bind, run_underlying hT', Result.andThen_ok, run_getMap hw, hck', hfind, run_setMap hw, Sem.run_pure]
  | some j =>
    cases hr4
    have herase : (⟨xs⟩ : Array MapEntry).eraseIdxIfInBounds j = ⟨xs.eraseIdx j⟩ := by
      apply Array.ext'; simp
    obtain ⟨x1, y1, g1, g2, g3, g4, g5, g6⟩ := hfind
    refine fin (H.putMap hi hl hw (by rw [dropAt_eq]; exact hxs.erase j)) rfl rfl ?_
    rw [hX]
    simp only [Builtin.delete_, htt, h0, h1, Sem.run_bind, run_underlying hT', Result.andThen_ok, run_getMap hw, hck', g6, run_setMap hw, Sem.run_pure, herase]

noncomputable def evClear (P : Program) (T : TypeId) (v : Value) (h : Tr Ob) (N : Nat) : OpR :=
  match v with
  | .slice none _ _ => obind (elemOf P T) fun _ => some (.tuple ⟨[]⟩, h, N)
  | .slice (some ⟨i, off, _⟩) n _ => obind (elemOf P T) fun el => obind (elz P el) fun zz => ocond (allF zz.2) (obind (evWrite h i off (reps zz.2 n)) fun h' => some (.tuple ⟨[]⟩, h', N))
  | _ => none


theorem evClear_ok (H : HR w0 σ h w) {T : Nat} {x : Operand} {ts : List TypeId} (ho : o.op = .call { callee := .builtin .clear, args := ⟨[x]⟩, argTypes := ⟨T :: ts⟩ }) {s : Value} (hs : Rl σ s (a.eval x))
    {v : Value} {h' : Tr Ob} {N' : Nat} (hr : evClear P T s h N = some (v, h', N')) : N' = N ∧ EOk P w0 σ N o a w v h' N' := by
  have e1 : (⟨[x]⟩ : Array Operand).map a.eval = #[a.eval x] := by simp
  have fin : ∀ {w' : World}, HR w0 σ h' w' → N' = N → v = .tuple ⟨[]⟩ → (Builtin.clear_ ⟨T :: ts⟩ o.type #[a.eval x]).run P w = .ok (.tuple #[]) w' → N' = N ∧ EOk P w0 σ N o a w v h' N' := by
    intro w' h1 h2 h3 h4
    subst h2; subst h3
    refine ⟨rfl, σ, .tuple #[], w', Ext.refl _ _ _, h1, .tup rfl (fun i a b h => by simp at h), .inl ?_⟩
    simp only [execOp, ho, resolve, e1, invoke, builtin, Sem.run_bind, Sem.run_pure, Result.andThen_ok, h4]
  have htt : (⟨T :: ts⟩ : Array TypeId)[0]? = some T := by simp
  generalize hX : a.eval x = X at hs fin
  have h0 : (#[X] : Array Value)[0]? = some X := rfl
  unfold evClear at hr
  split at hr
  · rename_i n c
    obtain ⟨el, he, hr1⟩ := obind_some hr
    cases hr1
    have := hs.plain_eq rfl; subst this
    refine fin H rfl rfl ?_
    simp [Builtin.clear_, htt, run_underlying (elemOf_ok he)]
  · rename_i i off sp n c
    obtain ⟨el, he, hr1⟩ := obind_some hr
    obtain ⟨⟨z, zs⟩, hz, hr2⟩ := obind_some hr1
    obtain ⟨hf, hr3⟩ := ocond_some hr2
    obtain ⟨h3, hwr, hr4⟩ := obind_some hr3
    clear hr hr1 hr2 hr3
    cases hr4
    obtain ⟨g1, g2, g3, g4⟩ := elz_ok hz
    obtain ⟨g5, g6⟩ := zer_ok g2
    obtain ⟨t, ht, hrz⟩ := run_zero g5 w
    have key : ∀ b r, σ i = some (b, r) → (∃ c', X = .slice (some ⟨b, off, none⟩) n c') → N = N ∧ EOk P w0 σ N o a w (.tuple ⟨[]⟩) h' N := by
      rintro b r hi ⟨c', rfl⟩
      obtain ⟨cs, E, q1, q2, q3⟩ := evWrite_ok H hi hwr (reps_rl (g6 σ) n)
      have hfl : ∀ m, flat (reps zs m) = true := by
        intro m
        have hz1 := allF_ok (g6 σ) hf
        induction m with
        | zero => rfl
        | succ m ih => rw [reps_succ]; unfold flat at ih hz1 ⊢; rw [List.all_append, hz1, ih]; rfl
      by_cases hn : n = 0
      · subst hn
        have e2 : w.setRow b (setL cs off (reps zs 0)).toArray = w := setRow_self w b ⟨cs⟩ E (0, 0) q1
        rw [e2] at q3
        exact fin q3 rfl rfl (by simp [Builtin.clear_, htt, run_underlying (elemOf_ok he)])
      · have hst := run_storeCells_at P b off E (reps zs n) 0 ⟨cs⟩ w q1 (by simpa using q2) (by have := hfl n; simpa [flat] using this)
        rw [Nat.add_zero] at hst
        have hst' : (storeCells ⟨b, off, none⟩ (reps zs n)).run P w = .ok () (w.setRow b (setL cs off (reps zs n)).toArray) := by rw [setL_eq _ _ _ q2]; simpa using hst
        have hzc : (Builtin.zeroCells ⟨zs⟩ n).toList = reps zs n := by
          have := range_reps zs n z g3
          have e3 : (⟨zs⟩ : Array Value).size = z := g3
          unfold Builtin.zeroCells
          rw [e3] at this ⊢
          rw [this]
        refine fin q3 rfl rfl ?_
        obtain ⟨m, rfl⟩ := Nat.exists_eq_succ_of_ne_zero hn
        simp [Builtin.clear_, htt, run_underlying (elemOf_ok he), hrz, ht, hzc, hst']
    cases hs
    · rename_i hp; simp [plain] at hp
    · rename_i b r hi; exact key b r hi ⟨_, rfl⟩
    · rename_i b r ee hi hle hcc; exact key _ _ hi ⟨_, rfl⟩
  · cases hr

theorem inPlace_num {i off at_ : Nat} {sp : Option Nat} {m c : Nat} {news : List Value} {v : Value} {h' : Tr Ob} {N' : Nat} (hr : inPlace i off at_ sp m c news h N = some (v, h', N')) : N' = N + 1 := by
  obtain ⟨_, hr⟩ := ocond_some hr
  obtain ⟨_, _, hr⟩ := obind_some hr
  cases hr; rfl
theorem evAppend_num {T : Nat} {s u v : Value} {h' : Tr Ob} {N' : Nat} (hr : evAppend P T s u h N = some (v, h', N')) : N' = N + 1 := by
  obtain ⟨ez, _, hr1⟩ := obind_some hr
  obtain ⟨k, _, hr2⟩ := obind_some hr1
  rw [fN_eq] at hr2
  obtain ⟨news, _, hr3⟩ := obind_some hr2
  clear hr hr1 hr2
  have hr := hr3; clear hr3
  split at hr
  · obtain ⟨_, hr1⟩ := ocond_some hr
    obtain ⟨_, hr2⟩ := ocond_some hr1
    obtain ⟨_, hr3⟩ := ocond_some hr2
    clear hr hr1 hr2
    cases hk : Nat.beq k 0 <;> rw [hk] at hr3 <;> cases hr3 <;> rfl
  · rename_i i off n c
    rw [fN_eq, fN_eq] at hr
    cases hk : Nat.ble (Nat.add n k) c with
    | true => rw [hk] at hr; exact inPlace_num hr
    | false =>
      rw [hk] at hr
      obtain ⟨_, hr1⟩ := ocond_some hr
      obtain ⟨_, _, hr2⟩ := obind_some hr1
      cases hr2; rfl
  · rename_i i off eo n c
    rw [fN_eq, fN_eq] at hr
    split at hr
    · rename_i xs E z' _
      obtain ⟨_, hr1⟩ := ocond_some hr
      obtain ⟨_, hr2⟩ := ocond_some hr1
      obtain ⟨_, hr3⟩ := ocond_some hr2
      clear hr hr1 hr2
      have hr := hr3; clear hr3
      cases hk : Nat.ble (Nat.add off (Nat.add (Nat.mul n ez.2) (Nat.mul k ez.2))) (len xs) with
      | true => rw [hk] at hr; exact inPlace_num hr
      | false =>
        rw [hk] at hr
        obtain ⟨_, hr1⟩ := ocond_some hr
        obtain ⟨_, hr2⟩ := ocond_some hr1
        obtain ⟨_, hr3⟩ := ocond_some hr2
        obtain ⟨_, hr4⟩ := ocond_some hr3
        cases hr4; rfl
    · cases hr
  · cases hr

/-- One operation, but for calls of functions. -/
noncomputable def evOp (P : Program) (o : Oper) (e : Tr Value) (h : Tr Ob) (N : Nat) : OpR :=
  match o.op with
  | .alloc T => obind (zer P T) fun z => some (.pointer (some ⟨N, 0, none⟩), h.set (some (.c z T)) N, Nat.succ N)
  | .box T x => obind (evo e x) fun v => evBox T v h N
  | .build T ⟨ps⟩ => obind (evParts e ps) fun qs => obind (evBuild P T qs) fun v => some (v, h, N)
  | .buildSlice T m ⟨ps⟩ => obind (evParts e ps) fun qs => evBuildSlice P T m qs h N
  | .makeSlice T x y => obind (evo e x) fun l => obind (evo e y) fun c => evMakeSlice P T l c h N
  | .store T x y => obind (evo e x) fun p => obind (evo e y) fun v => evStore P T p v h N
  | .makeMap _ none => evMakeMap h N
  | .mapUpdate T x y z => obind (evo e x) fun m => obind (evo e y) fun k => obind (evo e z) fun v => evMapPut P T m k v h N
  | .insert T x y z => obind (evo e x) fun m => obind (evo e y) fun k => obind (evo e z) fun v => evMapPut P T m k v h N
  | .lookup T x y ok => obind (evo e x) fun m => obind (evo e y) fun k => obind (evLookup P T m k ok h) fun v => some (v, h, N)
  | .call { callee := .builtin .append, args := ⟨[x, y]⟩, argTypes := ⟨[T, T']⟩ } => obind (evo e x) fun s => obind (evo e y) fun u => Bool.rec (motive := fun _ => OpR) (evGrowZ P T T' s u h N) (evAppend P T s u h N) (Nat.beq T T')
  | .call { callee := .builtin .copy, args := ⟨[x, y]⟩, argTypes := ⟨[T, T']⟩ } => ocond (Nat.beq T T') (obind (evo e x) fun s => obind (evo e y) fun u => evCopy P T s u h N)
  | .call { callee := .builtin .delete, args := ⟨[x, y]⟩, argTypes := ⟨T :: _⟩ } => obind (evo e x) fun s => obind (evo e y) fun u => evDelete P T s u h N
  | .call { callee := .builtin .clear, args := ⟨[x]⟩, argTypes := ⟨T :: _⟩ } => obind (evo e x) fun s => evClear P T s h N
  | _ => obind (evPure P o e h) fun v => some (v, h, N)

theorem evStore_num {T : Nat} {p u v : Value} {h' : Tr Ob} {N' : Nat} (hr : evStore P T p u h N = some (v, h', N')) : N' = N := by
  unfold evStore at hr
  split at hr
  · obtain ⟨_, _, hr⟩ := obind_some hr
    obtain ⟨_, hr⟩ := ocond_some hr
    obtain ⟨_, hr⟩ := ocond_some hr
    obtain ⟨_, _, hr⟩ := obind_some hr
    cases hr; rfl
  · cases hr
theorem evMapPut_num {T : Nat} {m k u v : Value} {h' : Tr Ob} {N' : Nat} (hr : evMapPut P T m k u h N = some (v, h', N')) : N' = N := by
  obtain ⟨_, _, hr⟩ := obind_some hr
  obtain ⟨_, _, hr⟩ := obind_some hr
  obtain ⟨_, _, hr⟩ := obind_some hr
  obtain ⟨r, _, hr⟩ := obind_some hr
  cases r with
  | none =>
    dsimp only at hr
    rw [fN_eq] at hr
    cases hr; rfl
  | some j =>
    obtain ⟨_, _, hr⟩ := obind_some hr
    obtain ⟨_, hr⟩ := ocond_some hr
    cases hr; rfl
theorem evCopy_num {T : Nat} {s u v : Value} {h' : Tr Ob} {N' : Nat} (hr : evCopy P T s u h N = some (v, h', N')) : N' = N := by
  obtain ⟨ez, _, hr1⟩ := obind_some hr
  obtain ⟨k, _, hr2⟩ := obind_some hr1
  clear hr hr1
  have hr := hr2; clear hr2
  split at hr
  · obtain ⟨_, hr1⟩ := ocond_some hr
    cases hr1; rfl
  · rename_i i off sp n c
    rw [fN_eq, fN_eq] at hr
    obtain ⟨_, _, hr1⟩ := obind_some hr
    obtain ⟨_, hr2⟩ := ocond_some hr1
    obtain ⟨_, _, hr3⟩ := obind_some hr2
    cases hr3; rfl
  · cases hr
theorem evDelete_num {T : Nat} {m k v : Value} {h' : Tr Ob} {N' : Nat} (hr : evDelete P T m k h N = some (v, h', N')) : N' = N := by
  obtain ⟨_, _, hr⟩ := obind_some hr
  obtain ⟨_, _, hr⟩ := obind_some hr
  obtain ⟨_, _, hr⟩ := obind_some hr
  obtain ⟨r, _, hr⟩ := obind_some hr
  cases r <;> cases hr <;> rfl
theorem evClear_num {T : Nat} {s v : Value} {h' : Tr Ob} {N' : Nat} (hr : evClear P T s h N = some (v, h', N')) : N' = N := by
  unfold evClear at hr
  split at hr
  · obtain ⟨_, _, hr⟩ := obind_some hr
    cases hr; rfl
  · obtain ⟨_, _, hr⟩ := obind_some hr
    obtain ⟨_, _, hr⟩ := obind_some hr
    obtain ⟨_, hr⟩ := ocond_some hr
    obtain ⟨_, _, hr⟩ := obind_some hr
    cases hr; rfl
  · cases hr

theorem evOp_num {v : Value} {h' : Tr Ob} {N' : Nat} (hr : evOp P o e h N = some (v, h', N')) : N ≤ N' := by
  unfold evOp at hr
  split at hr
  · obtain ⟨z, hz, hr⟩ := obind_some hr
    cases hr; exact Nat.le_succ N
  · obtain ⟨u, hx, hr⟩ := obind_some hr
    cases hr; exact Nat.le_succ N
  · obtain ⟨qs, hq, hr⟩ := obind_some hr
    obtain ⟨u, hu, hr⟩ := obind_some hr
    cases hr; exact Nat.le_refl _
  · obtain ⟨qs, hq, hr⟩ := obind_some hr
    obtain ⟨_, _, hr⟩ := obind_some hr
    obtain ⟨_, _, hr⟩ := obind_some hr
    obtain ⟨_, hr⟩ := ocond_some hr
    obtain ⟨_, _, hr⟩ := obind_some hr
    cases hr; exact Nat.le_succ N
  · obtain ⟨l, hl, hr⟩ := obind_some hr
    obtain ⟨c, hc, hr⟩ := obind_some hr
    obtain ⟨_, _, hr⟩ := obind_some hr
    obtain ⟨_, _, hr⟩ := obind_some hr
    obtain ⟨_, _, hr⟩ := obind_some hr
    obtain ⟨_, _, hr⟩ := obind_some hr
    obtain ⟨_, _, hr⟩ := obind_some hr
    obtain ⟨_, hr⟩ := ocond_some hr
    obtain ⟨_, hr⟩ := ocond_some hr
    obtain ⟨_, hr⟩ := ocond_some hr
    cases hr; exact Nat.le_succ N
  · obtain ⟨l, hl, hr⟩ := obind_some hr
    obtain ⟨c, hc, hr⟩ := obind_some hr
    exact Nat.le_of_eq (evStore_num hr).symm
  · cases hr; exact Nat.le_succ N
  · obtain ⟨m, hm, hr⟩ := obind_some hr
    obtain ⟨k, hk, hr⟩ := obind_some hr
    obtain ⟨u, hu, hr⟩ := obind_some hr
    exact Nat.le_of_eq (evMapPut_num hr).symm
  · obtain ⟨m, hm, hr⟩ := obind_some hr
    obtain ⟨k, hk, hr⟩ := obind_some hr
    obtain ⟨u, hu, hr⟩ := obind_some hr
    exact Nat.le_of_eq (evMapPut_num hr).symm
  · obtain ⟨m, hm, hr⟩ := obind_some hr
    obtain ⟨k, hk, hr⟩ := obind_some hr
    obtain ⟨u, hu, hr⟩ := obind_some hr
    cases hr; exact Nat.le_refl _
  · rename_i xx yy T T' ho0
    obtain ⟨s, hs, hr⟩ := obind_some hr
    obtain ⟨u, hu, hr⟩ := obind_some hr
    cases hT : Nat.beq T T' with
    | true =>
      rw [hT] at hr
      have := evAppend_num hr
      omega
    | false =>
      rw [hT] at hr
      have := evGrowZ_num hr
      omega
  · obtain ⟨hT, hr⟩ := ocond_some hr
    obtain ⟨s, hs, hr⟩ := obind_some hr
    obtain ⟨u, hu, hr⟩ := obind_some hr
    exact Nat.le_of_eq (evCopy_num hr).symm
  · obtain ⟨s, hs, hr⟩ := obind_some hr
    obtain ⟨u, hu, hr⟩ := obind_some hr
    exact Nat.le_of_eq (evDelete_num hr).symm
  · obtain ⟨s, hs, hr⟩ := obind_some hr
    exact Nat.le_of_eq (evClear_num hr).symm
  · obtain ⟨u, hu, hr⟩ := obind_some hr
    cases hr; exact Nat.le_refl _

theorem evOp_ok (H : HR w0 σ h w) (hE : ER σ e n a.tmps) {v : Value} {h' : Tr Ob} {N' : Nat} (hr : evOp P o e h N = some (v, h', N')) (hf : Fresh σ N N') : N ≤ N' ∧ EOk P w0 σ N o a w v h' N' := by
  unfold evOp at hr
  split at hr
  · rename_i T ho
    obtain ⟨z, hz, hr⟩ := obind_some hr
    cases hr
    exact ⟨Nat.le_succ N, evAlloc_ok H hf ho hz⟩
  · rename_i T x ho
    obtain ⟨u, hx, hr⟩ := obind_some hr
    cases hr
    exact ⟨Nat.le_succ N, evBox_ok H hE hf ho hx⟩
  · rename_i T ps ho
    obtain ⟨qs, hq, hr⟩ := obind_some hr
    obtain ⟨u, hu, hr⟩ := obind_some hr
    cases hr
    obtain ⟨us, h1, h2⟩ := evParts_ok hE hq
    obtain ⟨x, h3, h4⟩ := evBuild_ok (w := w) (parts := (⟨ps⟩ : Array (Nat × Operand)).map fun (i, x) => (i, a.eval x)) hu h1 (by rw [← h2]; simp)
    refine ⟨Nat.le_refl _, σ, x, w, Ext.refl _ _ _, H, h3, .inl ?_⟩
    simp only [execOp, ho, Sem.run_bind, h4, Sem.run_pure, Result.andThen_ok]
  · rename_i T m ps ho
    obtain ⟨qs, hq, hr⟩ := obind_some hr
    have hN : N' = N + 1 := by
      obtain ⟨_, _, hr⟩ := obind_some hr
      obtain ⟨_, _, hr⟩ := obind_some hr
      obtain ⟨_, hr⟩ := ocond_some hr
      obtain ⟨_, _, hr⟩ := obind_some hr
      cases hr; rfl
    subst hN
    exact ⟨Nat.le_succ N, (evBuildSlice_ok H hE hf ho hq hr).2⟩
  · rename_i T x y ho
    obtain ⟨l, hl, hr⟩ := obind_some hr
    obtain ⟨c, hc, hr⟩ := obind_some hr
    have hN : N' = N + 1 := by
      obtain ⟨_, _, hr⟩ := obind_some hr
      obtain ⟨_, _, hr⟩ := obind_some hr
      obtain ⟨_, _, hr⟩ := obind_some hr
      obtain ⟨_, _, hr⟩ := obind_some hr
      obtain ⟨_, _, hr⟩ := obind_some hr
      obtain ⟨_, hr⟩ := ocond_some hr
      obtain ⟨_, hr⟩ := ocond_some hr
      obtain ⟨_, hr⟩ := ocond_some hr
      cases hr; rfl
    subst hN
    exact ⟨Nat.le_succ N, (evMakeSlice_ok H hf ho (evo_ok hE hl) (evo_ok hE hc) hr).2⟩
  · rename_i T x y ho
    obtain ⟨l, hl, hr⟩ := obind_some hr
    obtain ⟨c, hc, hr⟩ := obind_some hr
    obtain ⟨h1, h2⟩ := evStore_ok H ho (evo_ok hE hl) (evo_ok hE hc) hr
    exact ⟨by omega, h2⟩
  · rename_i T ho
    cases hr
    exact ⟨Nat.le_succ N, evMakeMap_ok H hf ho⟩
  · rename_i T x y z ho
    obtain ⟨m, hm, hr⟩ := obind_some hr
    obtain ⟨k, hk, hr⟩ := obind_some hr
    obtain ⟨u, hu, hr⟩ := obind_some hr
    obtain ⟨h1, h2⟩ := evMapPut_ok H (.inl ho) (evo_ok hE hm) (evo_ok hE hk) (evo_ok hE hu) hr
    exact ⟨by omega, h2⟩
  · rename_i T x y z ho
    obtain ⟨m, hm, hr⟩ := obind_some hr
    obtain ⟨k, hk, hr⟩ := obind_some hr
    obtain ⟨u, hu, hr⟩ := obind_some hr
    obtain ⟨h1, h2⟩ := evMapPut_ok H (.inr ho) (evo_ok hE hm) (evo_ok hE hk) (evo_ok hE hu) hr
    exact ⟨by omega, h2⟩
  · rename_i T x y ok ho
    obtain ⟨m, hm, hr⟩ := obind_some hr
    obtain ⟨k, hk, hr⟩ := obind_some hr
    obtain ⟨u, hu, hr⟩ := obind_some hr
    cases hr
    obtain ⟨x', h3, h4⟩ := evLookup_ok H hu (evo_ok hE hm) (evo_ok hE hk)
    refine ⟨Nat.le_refl _, σ, x', w, Ext.refl _ _ _, H, h3, .inl ?_⟩
    simp only [execOp, ho, Sem.run_bind, h4, Sem.run_pure, Result.andThen_ok]
  · rename_i x y T T' ho
    obtain ⟨s, hs, hr⟩ := obind_some hr
    obtain ⟨u, hu, hr⟩ := obind_some hr
    cases hT : Nat.beq T T' with
    | false =>
      rw [hT] at hr
      have hr' : evGrowZ P T T' s u h N = some (v, h', N') := hr
      clear hr
      have hN := evGrowZ_num hr'
      subst hN
      exact ⟨Nat.le_succ N, evGrowZ_ok H hf ho (evo_ok hE hs) (evo_ok hE hu) hr'⟩
    | true =>
    rw [hT] at hr
    have hT' := Nat.eq_of_beq_eq_true hT
    clear hT
    have hr' : evAppend P T s u h N = some (v, h', N') := hr
    clear hr
    subst hT'
    have hN := evAppend_num hr'
    subst hN
    exact ⟨Nat.le_succ N, (evAppend_ok H hf ho (evo_ok hE hs) (evo_ok hE hu) hr').2⟩
  · rename_i x y T T' ho
    obtain ⟨hT, hr⟩ := ocond_some hr
    obtain ⟨s, hs, hr⟩ := obind_some hr
    obtain ⟨u, hu, hr⟩ := obind_some hr
    have hT' := Nat.eq_of_beq_eq_true hT
    clear hT
    have hr' : evCopy P T s u h N = some (v, h', N') := hr
    clear hr
    subst hT'
    obtain ⟨h1, h2⟩ := evCopy_ok H ho (evo_ok hE hs) (evo_ok hE hu) hr'
    exact ⟨by omega, h2⟩
  · rename_i x y T ts ho
    obtain ⟨s, hs, hr⟩ := obind_some hr
    obtain ⟨u, hu, hr⟩ := obind_some hr
    obtain ⟨h1, h2⟩ := evDelete_ok H ho (evo_ok hE hs) (evo_ok hE hu) hr
    exact ⟨by omega, h2⟩
  · rename_i x T ts ho
    obtain ⟨s, hs, hr⟩ := obind_some hr
    obtain ⟨h1, h2⟩ := evClear_ok H ho (evo_ok hE hs) hr
    exact ⟨by omega, h2⟩
  · obtain ⟨u, hu, hr⟩ := obind_some hr
    cases hr
    exact ⟨Nat.le_refl _, (evPure_ok H hE hu).eok H⟩

end
end Go.Ev
end

section
namespace Go.Ev
open Go.RowKit Go.Sx
set_option linter.unusedVariables false
set_option linter.unusedSimpArgs false

/-- A function's contract, or a round's: it returns. -/
def CallV (P : Program) (fv : Value) (args : List Value) (w : World) (R : Value → World → Prop) : Prop :=
  ∃ nx, (do let d ← Deferred.ofValue fv ⟨args⟩; invoke d.target d.args : Sem Next).run P w = .ok nx w ∧
    ((∃ v, nx = .value v ∧ R v w ∧ args.length = 2) ∨ (∃ f as, nx = .enter f as ∧ Calls P f as w fun e w' => ∃ v, e = .returned v ∧ R v w') ∨
     ((∃ l, fv = .func (.yield l) ⟨[]⟩ ⟨[]⟩) ∧ ∃ l f tm asg body, nx = .round l f tm asg body ∧ RoundIn (Fr none) 0 P l f tm asg body w fun e w' => ∃ v, e = .returned v ∧ R v w'))

section
variable {P : Program} {w0 : Fen} {w : World} {σ : Sg} {h : Tr Ob} {e : Tr Value} {n N : Nat} {a : Act} {o : Oper}

theorem callV_wpIn {x : Operand} {xs : List Operand} {ts : Array TypeId} (ho : o.op = .call { callee := .value x, args := ⟨xs⟩, argTypes := ts }) {R : Value → World → Prop}
    (hc : CallV P (a.eval x) (xs.map a.eval) w R) {K : Act → World → Prop} {Q : Exit → Act → World → Prop} {rb : Option Nat} (hK : ∀ v w', R v w' → K (a.put o.dst v) w') : o.wpIn (Fr rb) 0 P a w K Q := by
  obtain ⟨nx, hrun, hnx⟩ := hc
  have hargs : (⟨xs⟩ : Array Operand).map a.eval = ⟨xs.map a.eval⟩ := List.map_toArray
  have hop : ∀ c, o.op ≠ .defer c := fun c h => by rw [ho] at h; cases h
  have hex : (execOp a.eval o).run P w = .ok nx w := by
    simp only [execOp, ho, resolve, hargs]
    simpa only [Sem.run_bind] using hrun
  refine ⟨fun _ _ => trivial, ?_⟩
  rw [Oper.semAt_eq _ _ _ hop, hex]
  rcases hnx with ⟨v, rfl, hv, _⟩ | ⟨f, as, rfl, hcalls⟩ | ⟨_, l, f, tm, asg, body, rfl, hround⟩
  · exact hK v w hv
  · refine ⟨fun h' => absurd h' (by simp [Fr, Fence.wide]), callsIn_fr (Calls.mono hcalls ?_)⟩
    rintro e w' ⟨v, rfl, hR⟩
    exact hK v w' hR
  · refine ⟨fun h' => absurd h' (by simp [Fr, Fence.wide]), ?_⟩
    refine RoundIn.mono (show RoundIn (Fr rb) 0 P l f tm asg body w _ from hround) ?_
    rintro e w' ⟨v, rfl, hR⟩
    exact hK v w' hR

abbrev CallF := Value → List Value → Tr Ob → Nat → OpR
/-- A way of calling that tells what calls do. -/
def CallOk (P : Program) (call : CallF) : Prop :=
  ∀ fv args h N v h' N', call fv args h N = some (v, h', N') → N ≤ N' ∧ ∀ w0 σ w fv' args', HR w0 σ h w → Rl σ fv fv' → RlL σ args args' → Fresh σ N N' →
    CallV P fv' args' w fun v' w' => ∃ σ', Ext σ σ' N N' ∧ HR w0 σ' h' w' ∧ Rl σ' v v'

/-- One operation, whatever it is. -/
noncomputable def evStep (P : Program) (call : CallF) (o : Oper) (e : Tr Value) (h : Tr Ob) (N : Nat) : OpR :=
  match o.op with
  | .call { callee := .value x, args := ⟨xs⟩, .. } => obind (evo e x) fun fv => obind (evs e xs) fun vs => call fv vs h N
  | _ => evOp P o e h N

theorem evOp_defer {v : Value} {h' : Tr Ob} {N' : Nat} (hr : evOp P o e h N = some (v, h', N')) : ∀ c, o.op ≠ .defer c := by
  intro c hc
  unfold evOp at hr
  rw [hc] at hr
  obtain ⟨u, hu, _⟩ := obind_some hr
  unfold evPure at hu
  rw [hc] at hu
  cases hu

theorem evStep_num {call : CallF} (hcall : CallOk P call) {v : Value} {h' : Tr Ob} {N' : Nat} (hr : evStep P call o e h N = some (v, h', N')) : N ≤ N' := by
  unfold evStep at hr
  split at hr
  · obtain ⟨fv, hfv, hr⟩ := obind_some hr
    obtain ⟨vs, hvs, hr⟩ := obind_some hr
    exact (hcall _ _ _ _ _ _ _ hr).1
  · exact evOp_num hr

theorem evStep_ok {call : CallF} (hcall : CallOk P call) (H : HR w0 σ h w) (hE : ER σ e n a.tmps) {v : Value} {h' : Tr Ob} {N' : Nat} (hr : evStep P call o e h N = some (v, h', N')) (hf : Fresh σ N N') :
    N ≤ N' ∧ ∀ (K : Act → World → Prop) (Q : Exit → Act → World → Prop) (rb : Option Nat),
      (∀ σ' x w', Ext σ σ' N N' → HR w0 σ' h' w' → Rl σ' v x → K (a.put o.dst x) w') → o.wpIn (Fr rb) 0 P a w K Q := by
  unfold evStep at hr
  split at hr
  · rename_i x xs ts ho
    obtain ⟨fv, hfv, hr⟩ := obind_some hr
    obtain ⟨vs, hvs, hr⟩ := obind_some hr
    obtain ⟨h1, h2⟩ := hcall _ _ _ _ _ _ _ hr
    refine ⟨h1, fun K Q rb hK => ?_⟩
    refine callV_wpIn ho (h2 w0 σ w _ _ H (evo_ok hE hfv) (evs_ok hE hvs) hf) ?_
    rintro v' w' ⟨σ', h3, h4, h5⟩
    exact hK σ' v' w' h3 h4 h5
  · have hd := evOp_defer hr
    obtain ⟨h1, σ', x, w', h2, h3, h4, h5⟩ := evOp_ok H hE hr hf
    refine ⟨h1, fun K Q rb hK => ?_⟩
    refine opIn_of hd ?_
    rcases h5 with h5 | ⟨h5, rfl⟩
    · rw [h5]; exact hK σ' x w' h2 h3 h4
    · rw [h5]; exact hK σ' _ w' h2 h3 h4

/-! ### Guards -/
noncomputable def dstOf (ops : Array Oper) (j : Nat) : Option Nat := obind (nth ops.toList j) fun o => o.dst
noncomputable def evWants (ops : Array Oper) (e : Tr Value) (o : Oper) : Option Bool :=
  match o.guard with
  | none => some true
  | some (j, c) => obind (dstOf ops j) fun d => match e.get d with
    | some (.bool x) => some (Bool.rec (motive := fun _ => Bool) (Bool.rec (motive := fun _ => Bool) true false x) x c)
    | some (.tuple _) => some false
    | _ => none

theorem dstOf_ok {ops : Array Oper} {j d : Nat} (h : dstOf ops j = some d) : (ops[j]?).bind (·.dst) = some d := by
  obtain ⟨o, h1, h2⟩ := obind_some h
  rw [nth_eq] at h1
  have : ops[j]? = some o := by simpa using h1
  rw [this]
  exact h2
theorem evWants_ok {ops : Array Oper} (hE : ER σ e n a.tmps) {r : Bool} (hr : evWants ops e o = some r) : Region.wanted o (yielded ops a.tmps) = r := by
  unfold evWants at hr
  unfold Region.wanted
  split at hr
  · rename_i hg
    cases hr
    rw [hg]
  · rename_i j c hg
    obtain ⟨d, hd, hr⟩ := obind_some hr
    have hd' := dstOf_ok hd
    rw [hg]
    split at hr
    · rename_i x hx
      cases hr
      obtain ⟨y, h1, h2⟩ := hE.at_ d _ hx
      have := rl_bool h1
      subst this
      have : yielded ops a.tmps j = some x := by simp [yielded, hd', h2]
      simp only [this]
      cases c <;> cases x <;> rfl
    · rename_i vs hx
      cases hr
      obtain ⟨y, h1, h2⟩ := hE.at_ d _ hx
      have : yielded ops a.tmps j = none := by
        cases h1
        · rename_i hp; simp [plain] at hp
        · simp [yielded, hd', h2]
      simp only [this]
      rfl
    · cases hr

/-- The slots that a region writes lie in the frame. -/
noncomputable def dstIn (n : Nat) (d : Option Nat) : Bool := Option.rec (motive := fun _ => Bool) true (fun t => Nat.ble (Nat.succ t) n) d
theorem dstIn_ok {d : Option Nat} (h : dstIn n d = true) : ∀ t, d = some t → t < n := by
  intro t ht
  subst ht
  exact Nat.le_of_ble_eq_true h

abbrev RgR := Option (Tr Value × Tr Ob × Nat)

/-! ### Operands and operations, read once -/
structure OdF where
  g : Tr Value → Option Value
noncomputable def cOd (x : Operand) : OdF :=
  match x with
  | .tmp t => ⟨fun e => e.get t⟩
  | .const v => Bool.rec (motive := fun _ => OdF) ⟨fun _ => none⟩ ⟨fun _ => some v⟩ (scal v)
  | .func f => ⟨fun _ => some (.func (.func f) ⟨[]⟩ ⟨[]⟩)⟩
  | .global _ => ⟨fun _ => none⟩
theorem cOd_eq (e : Tr Value) (x : Operand) : (cOd x).g e = evo e x := by
  cases x with
  | const v =>
    show (Bool.rec (motive := fun _ => OdF) ⟨fun _ => none⟩ ⟨fun _ => some v⟩ (scal v)).g e = Bool.rec (motive := fun _ => Option Value) none (some v) (scal v)
    cases scal v <;> rfl
  | _ => rfl
structure OdsF where
  g : Tr Value → Option (List Value)
noncomputable def cOds (l : List Operand) : OdsF :=
  List.rec (motive := fun _ => OdsF) ⟨fun _ => some []⟩ (fun x _ ih => ⟨fun e => Option.rec (motive := fun _ => Option (List Value)) none (fun v => Option.rec (motive := fun _ => Option (List Value)) none (fun vs => some (v :: vs)) (ih.g e)) ((cOd x).g e)⟩) l
theorem cOds_eq (e : Tr Value) : ∀ l, (cOds l).g e = evs e l
  | [] => rfl
  | x :: l => by
    show Option.rec (motive := fun _ => Option (List Value)) none (fun v => Option.rec (motive := fun _ => Option (List Value)) none (fun vs => some (v :: vs)) ((cOds l).g e)) ((cOd x).g e) = _
    rw [cOd_eq, cOds_eq e l]
    rfl

structure OpF where
  f : CallF → Tr Value → Tr Ob → Nat → OpR
noncomputable def cOp (P : Program) (o : Oper) : OpF :=
  match o.op with
  | .move x => ⟨fun _ e h N => obind ((cOd x).g e) fun v => some (v, h, N)⟩
  | .assign x => ⟨fun _ e h N => obind ((cOd x).g e) fun v => some (v, h, N)⟩
  | .pick c x y => ⟨fun _ e h N => obind (match (cOd c).g e with
    | some (.bool true) => (cOd x).g e
    | some (.bool false) => (cOd y).g e
    | _ => none) fun v => some (v, h, N)⟩
  | .load T x => ⟨fun _ e h N => obind (obind ((cOd x).g e) fun v => evLoad P h T v) fun v => some (v, h, N)⟩
  | .fieldAddr S x k => ⟨fun _ e h N => obind (obind ((cOd x).g e) fun v => evFieldAddr P S k v) fun v => some (v, h, N)⟩
  | .indexAddr T x y => ⟨fun _ e h N => obind (obind ((cOd x).g e) fun v => obind ((cOd y).g e) fun u => evIndexAddr P T v u) fun v => some (v, h, N)⟩
  | .binOp b T x y _ => ⟨fun _ e h N => obind (obind ((cOd x).g e) fun u => obind ((cOd y).g e) fun v => evBin P b T x y u v) fun v => some (v, h, N)⟩
  | .store T x y => ⟨fun _ e h N => obind ((cOd x).g e) fun p => obind ((cOd y).g e) fun v => evStore P T p v h N⟩
  | .box T x => ⟨fun _ e h N => obind ((cOd x).g e) fun v => evBox T v h N⟩
  | .call { callee := .value x, args := ⟨xs⟩, .. } => ⟨fun call e h N => obind ((cOd x).g e) fun fv => obind ((cOds xs).g e) fun vs => call fv vs h N⟩
  | _ => ⟨fun call e h N => evStep P call o e h N⟩
theorem cOp_eq (P : Program) (o : Oper) (call : CallF) (e : Tr Value) (h : Tr Ob) (N : Nat) : (cOp P o).f call e h N = evStep P call o e h N := by
  unfold cOp
  split
  · rename_i x ho; simp only [cOd_eq, evStep, evOp, evPure, ho]
  · rename_i x ho; simp only [cOd_eq, evStep, evOp, evPure, ho]
  · rename_i c x y ho; simp only [cOd_eq, evStep, evOp, evPure, ho]; rfl
  · rename_i T x ho; simp only [cOd_eq, evStep, evOp, evPure, ho]
  · rename_i S x k ho; simp only [cOd_eq, evStep, evOp, evPure, ho]
  · rename_i T x y ho; simp only [cOd_eq, evStep, evOp, evPure, ho]
  · rename_i b T x y T' ho; simp only [cOd_eq, evStep, evOp, evPure, ho]
  · rename_i T x y ho; simp only [cOd_eq, evStep, evOp, ho]
  · rename_i T x ho; simp only [cOd_eq, evStep, evOp, ho]
  · rename_i x xs ts ho; simp only [cOd_eq, cOds_eq, evStep, ho]
  · rfl

/-- The operations of a region, read once. -/
structure OsF where
  f : CallF → Tr Value → Tr Ob → Nat → RgR
structure PtF where
  g : Tr Value → Value → Tr Value
noncomputable def cPt (d : Option Nat) : PtF := Option.rec (motive := fun _ => PtF) ⟨fun e _ => e⟩ (fun t => ⟨fun e v => e.set (some v) t⟩) d
theorem cPt_eq (d : Option Nat) (e : Tr Value) (v : Value) : (cPt d).g e v = put e d v := by cases d <;> rfl

noncomputable def evOps (P : Program) (nt : Nat) (ops : Array Oper) (l : List Oper) : OsF :=
  List.rec (motive := fun _ => OsF) ⟨fun _ e h N => some (e, h, N)⟩
    (fun o _ ih => Bool.rec (motive := fun _ => OsF) ⟨fun _ _ _ _ => none⟩ (match o.guard with
      | none => ⟨fun call e h N => orun ((cOp P o).f call e h N) fun v h1 N1 => ih.f call ((cPt o.dst).g e v) h1 N1⟩
      | some _ => ⟨fun call e h N => obind (evWants ops e o) fun b => Bool.rec (motive := fun _ => RgR) (ih.f call ((cPt o.dst).g e undef) h N)
          (orun ((cOp P o).f call e h N) fun v h1 N1 => ih.f call ((cPt o.dst).g e v) h1 N1) b⟩) (dstIn nt o.dst)) l

theorem evOps_cons {call : CallF} {ops : Array Oper} {o : Oper} {l : List Oper} {r : Tr Value × Tr Ob × Nat} (hr : (evOps P n ops (o :: l)).f call e h N = some r) :
    dstIn n o.dst = true ∧ ∃ b, evWants ops e o = some b ∧ Bool.rec (motive := fun _ => RgR) ((evOps P n ops l).f call (put e o.dst undef) h N)
      (orun (evStep P call o e h N) fun v h1 N1 => (evOps P n ops l).f call (put e o.dst v) h1 N1) b = some r := by
  have hr' : (Bool.rec (motive := fun _ => OsF) ⟨fun _ _ _ _ => none⟩ (match o.guard with
      | none => ⟨fun call e h N => orun ((cOp P o).f call e h N) fun v h1 N1 => (evOps P n ops l).f call ((cPt o.dst).g e v) h1 N1⟩
      | some _ => ⟨fun call e h N => obind (evWants ops e o) fun b => Bool.rec (motive := fun _ => RgR) ((evOps P n ops l).f call ((cPt o.dst).g e undef) h N)
          (orun ((cOp P o).f call e h N) fun v h1 N1 => (evOps P n ops l).f call ((cPt o.dst).g e v) h1 N1) b⟩) (dstIn n o.dst)).f call e h N = some r := hr
  clear hr
  cases hd : dstIn n o.dst with
  | false => rw [hd] at hr'; cases hr'
  | true =>
    rw [hd] at hr'
    refine ⟨rfl, ?_⟩
    cases hg : o.guard with
    | none =>
      rw [hg] at hr'
      have h2 : orun ((cOp P o).f call e h N) (fun v h1 N1 => (evOps P n ops l).f call ((cPt o.dst).g e v) h1 N1) = some r := hr'
      rw [cOp_eq] at h2
      simp only [cPt_eq] at h2
      exact ⟨true, by unfold evWants; rw [hg], h2⟩
    | some p =>
      rw [hg] at hr'
      have h2 : obind (evWants ops e o) (fun b => Bool.rec (motive := fun _ => RgR) ((evOps P n ops l).f call ((cPt o.dst).g e undef) h N)
          (orun ((cOp P o).f call e h N) fun v h1 N1 => (evOps P n ops l).f call ((cPt o.dst).g e v) h1 N1) b) = some r := hr'
      obtain ⟨b, h3, h4⟩ := obind_some h2
      simp only [cPt_eq, cOp_eq] at h4
      exact ⟨b, h3, h4⟩

theorem evOps_ok {call : CallF} (hcall : CallOk P call) {ops : Array Oper} {rb : Option Nat} {Q : Exit → Act → World → Prop} : ∀ (l : List Oper) (e : Tr Value) (h : Tr Ob) (N : Nat) (e' : Tr Value) (h' : Tr Ob) (N' : Nat),
    (evOps P n ops l).f call e h N = some (e', h', N') → N ≤ N' ∧ ∀ σ a w, HR w0 σ h w → ER σ e n a.tmps → Fresh σ N N' →
      (∀ σ' a' w', Ext σ σ' N N' → HR w0 σ' h' w' → ER σ' e' n a'.tmps → a'.defers = a.defers → Q .normal a' w') → wpListIn (Fr rb) 0 P ops Q l a w
  | [], e, h, N, e', h', N', hr => by
    cases hr
    exact ⟨Nat.le_refl _, fun σ a w H hE hf hQ => hQ σ a w (Ext.refl _ _ _) H hE rfl⟩
  | o :: l, e, h, N, e', h', N', hr => by
    obtain ⟨hd, b, hb, hr2⟩ := evOps_cons hr
    clear hr
    have hd' := dstIn_ok hd
    cases b with
    | false =>
      have ih := evOps_ok hcall (rb := rb) (Q := Q) l _ _ _ _ _ _ hr2
      refine ⟨ih.1, fun σ a w H hE hf hQ => ?_⟩
      simp only [wpListIn, evWants_ok hE hb, Bool.false_eq_true, if_false]
      refine ⟨fun _ _ => trivial, ?_⟩
      exact ih.2 σ _ w H (put_ok hE hd' (.tup rfl (fun i a b h => by simp at h))) hf (fun σ' a' w' h1 h2 h3 h4 => hQ σ' a' w' h1 h2 h3 (h4.trans (by cases o.dst <;> rfl)))
    | true =>
      obtain ⟨v, h1, N1, hs, hr3⟩ := orun_some hr2
      have ih := evOps_ok hcall (rb := rb) (Q := Q) l _ _ _ _ _ _ hr3
      have hmono : N ≤ N1 := evStep_num hcall hs
      refine ⟨Nat.le_trans hmono ih.1, fun σ a w H hE hf hQ => ?_⟩
      simp only [wpListIn, evWants_ok hE hb, if_true]
      have hle := ih.1
      refine (evStep_ok hcall H hE hs (hf.sub (Nat.le_refl _) hle)).2 _ _ _ ?_
      intro σ' x w' h3 h4 h5
      refine ih.2 σ' _ w' h4 (put_ok (hE.mono (h3.le (hf.sub (Nat.le_refl _) hle))) hd' h5) (h3.fresh hf hmono) ?_
      intro σ2 a2 w2 h6 h7 h8 h9
      exact hQ σ2 a2 w2 (h3.trans h6 hmono hle) h7 h8 (h9.trans (by cases o.dst <;> rfl))

end
end Go.Ev
end

section
namespace Go.Ev
open Go.RowKit Go.Sx
set_option linter.unusedVariables false
set_option linter.unusedSimpArgs false

inductive Res where
  | no
  | ok (x : Ex) (e : Tr Value) (ds : List Nat) (h : Tr Ob) (N : Nat)

abbrev Cf := Tr Value → List Nat → Tr Ob → Nat → Res

noncomputable def rbind (r : Res) (f : Ex → Tr Value → List Nat → Tr Ob → Nat → Res) : Res := Res.rec (motive := fun _ => Res) .no f r
theorem rbind_ok {r : Res} {f : Ex → Tr Value → List Nat → Tr Ob → Nat → Res} {x e ds h N} (hr : rbind r f = .ok x e ds h N) : ∃ x1 e1 ds1 h1 N1, r = .ok x1 e1 ds1 h1 N1 ∧ f x1 e1 ds1 h1 N1 = .ok x e ds h N := by
  cases r with
  | no => cases hr
  | ok x1 e1 ds1 h1 N1 => exact ⟨x1, e1, ds1, h1, N1, rfl, hr⟩

@[irreducible] noncomputable def fuel : Nat := 1000000
noncomputable def evLoop (body : Cf) (f : Nat) : Cf :=
  Nat.rec (motive := fun _ => Cf) (fun _ _ _ _ => .no)
    (fun _ ih e ds h N => rbind (body e ds h N) fun x e1 ds1 h1 N1 => Ex.rec (motive := fun _ => Res) (ih e1 ds1 h1 N1) (fun id => .ok (.x id) e1 ds1 h1 N1) (.ok .r e1 ds1 h1 N1) x) f

/-- The record's way out is taken, and it is exhausted. -/
noncomputable def evEnd (l : Nat) (e : Tr Value) (ds : List Nat) (h : Tr Ob) (N : Nat) : Res :=
  match h.get l with
  | some (.l .ready pe n e' ps asg body df) => .ok pe e ds (h.set (some (.l .exhausted pe n e' ps asg body df)) l) N
  | some (.l .done pe n e' ps asg body df) => .ok pe e ds (h.set (some (.l .exhausted pe n e' ps asg body df)) l) N
  | _ => .no
noncomputable def isFn : Value → Bool
  | .func (.func _) _ _ => true
  | _ => false
noncomputable def evRange (call : CallF) (nt : Nat) (r : Option Nat) (f : Operand) (ps : List Nat) (asg body : Code) : Cf := fun e ds h N =>
  match evo e f with
  | some fv => Bool.rec (motive := fun _ => Res) .no (match r with
    | none => Option.rec (motive := fun _ => Res) .no (fun res => Prod.rec (motive := fun _ => Res) (fun _ r2 => Prod.rec (motive := fun _ => Res) (fun h1 N1 => evEnd (Nat.succ N) e (N :: ds) h1 N1) r2) res)
        (call fv [.func (.yield (Nat.succ N)) ⟨[]⟩ ⟨[]⟩] ((h.set (some .d) N).set (some (.l .ready .n nt e ps asg body N)) (Nat.succ N)) (Nat.succ (Nat.succ N)))
    | some l => match h.get l with
      | some (.l _ _ _ _ _ _ _ df) => Option.rec (motive := fun _ => Res) .no (fun res => Prod.rec (motive := fun _ => Res) (fun _ r2 => Prod.rec (motive := fun _ => Res) (fun h1 N1 => evEnd N e ds h1 N1) r2) res)
          (call fv [.func (.yield N) ⟨[]⟩ ⟨[]⟩] (h.set (some (.l .ready .n nt e ps asg body df)) N) (Nat.succ N))
      | _ => .no) (isFn fv)
  | none => .no

/-- A test. -/
noncomputable def ccond (v : Option Value) (x y : Res) : Res :=
  match v with
  | some (.bool b) => Bool.rec (motive := fun _ => Res) y x b
  | _ => .no
/-- A region's end. -/
noncomputable def rgk (x : RgR) (ds : List Nat) : Res :=
  Option.rec (motive := fun _ => Res) .no (fun r => Prod.rec (motive := fun _ => Res) (fun e r2 => Prod.rec (motive := fun _ => Res) (fun h N => .ok .n e ds h N) r2) r) x
theorem rgk_ok {x : RgR} {ds ds' : List Nat} {X : Ex} {e' : Tr Value} {h' : Tr Ob} {N' : Nat} (hr : rgk x ds = .ok X e' ds' h' N') : X = .n ∧ ds' = ds ∧ x = some (e', h', N') := by
  cases x with
  | none => cases hr
  | some r => obtain ⟨e, h, N⟩ := r; cases hr; exact ⟨rfl, rfl, rfl⟩

abbrev DrF := Nat → Array Oper → Tr Value → Tr Ob → Nat → RgR
structure CdF where
  f : CallF → DrF → Option Nat → Cf
noncomputable def evCode (P : Program) (nt : Nat) (c : Code) : CdF :=
  Code.rec (motive := fun _ => CdF)
    ⟨fun _ _ _ e ds h N => .ok .n e ds h N⟩
    (fun _ ops draw => Bool.rec (motive := fun _ => CdF) ⟨fun call _ _ e ds h N => rgk ((evOps P nt ops ops.toList).f call e h N) ds⟩ ⟨fun _ dr _ e ds h N => rgk (dr nt ops e h N) ds⟩ draw)
    (fun _ _ fx fy => ⟨fun call dr r e ds h N => rbind (fx.f call dr r e ds h N) fun x e1 ds1 h1 N1 => Ex.rec (motive := fun _ => Res) (fy.f call dr r e1 ds1 h1 N1) (fun id => .ok (.x id) e1 ds1 h1 N1) (.ok .r e1 ds1 h1 N1) x⟩)
    (fun c _ _ fx fy => ⟨fun call dr r e ds h N => ccond ((cOd c).g e) (fx.f call dr r e ds h N) (fy.f call dr r e ds h N)⟩)
    (fun id _ fx => ⟨fun call dr r e ds h N => rbind (fx.f call dr r e ds h N) fun x e1 ds1 h1 N1 => Ex.rec (motive := fun _ => Res) (.ok .n e1 ds1 h1 N1)
      (fun id' => Bool.rec (motive := fun _ => Res) (.ok (.x id') e1 ds1 h1 N1) (.ok .n e1 ds1 h1 N1) (Nat.beq id' id)) (.ok .r e1 ds1 h1 N1) x⟩)
    (fun _ fx => ⟨fun call dr r => evLoop (fx.f call dr r) fuel⟩)
    (fun f ps asg body _ _ => ⟨fun call _ r => evRange call nt r f ps.toList asg body⟩)
    (fun id => ⟨fun _ _ _ e ds h N => .ok (.x id) e ds h N⟩)
    (fun _ fx => ⟨fun call dr r e ds h N => match r with | none => fx.f call dr r e ds h N | some _ => .no⟩)
    (fun _ => ⟨fun _ _ _ e ds h N => .ok .n e ds h N⟩)
    (fun _ => ⟨fun _ _ _ _ _ _ _ => .no⟩)
    ⟨fun _ _ _ e ds h N => .ok .r e ds h N⟩
    (fun _ => ⟨fun _ _ _ _ _ _ _ => .no⟩) c

/-- The marks among the deferred calls. -/
def MR (σ : Sg) (ds : List Nat) (l : List Deferred) : Prop :=
  ds.length = l.length ∧ ∀ (i d : Nat) (m : Deferred), ds[i]? = some d → l[i]? = some m → ∃ b r, σ d = some (b, r) ∧ m = Sx.mark b
theorem MR.mono {σ σ' : Sg} (hs : SLe σ σ') {ds : List Nat} {l : List Deferred} (h : MR σ ds l) : MR σ' ds l :=
  ⟨h.1, fun i d m h1 h2 => let ⟨b, r, h3, h4⟩ := h.2 i d m h1 h2; ⟨b, r, hs _ _ h3, h4⟩⟩
theorem MR.cons {σ : Sg} {d b r : Nat} {ds : List Nat} {l : List Deferred} (hd : σ d = some (b, r)) (h : MR σ ds l) : MR σ (d :: ds) (Sx.mark b :: l) := by
  refine ⟨by simp [h.1], fun i d' m h1 h2 => ?_⟩
  cases i with
  | zero => simp at h1 h2; subst h1; subst h2; exact ⟨b, r, hd, rfl⟩
  | succ i => exact h.2 i d' m (by simpa using h1) (by simpa using h2)
structure AR (σ : Sg) (e : Tr Value) (nt : Nat) (ds : List Nat) (a : Act) : Prop where
  env : ER σ e nt a.tmps
  marks : MR σ ds a.defers
theorem AR.mono {σ σ' : Sg} (hs : SLe σ σ') {e : Tr Value} {nt : Nat} {ds : List Nat} {a : Act} (h : AR σ e nt ds a) : AR σ' e nt ds a := ⟨h.env.mono hs, h.marks.mono hs⟩
/-- In which round we are. -/
def RR (σ : Sg) : Option Nat → Option Nat → Prop
  | none, none => True
  | some l, some b => ∃ r, σ l = some (b, r)
  | _, _ => False
theorem RR.mono {σ σ' : Sg} (hs : SLe σ σ') : ∀ {r rb : Option Nat}, RR σ r rb → RR σ' r rb
  | none, none, _ => trivial
  | some l, some b, ⟨r, h⟩ => ⟨r, hs _ _ h⟩
  | none, some _, h => h.elim
  | some _, none, h => h.elim

def DrawOk (P : Program) (dr : Nat → Array Oper → Tr Value → Tr Ob → Nat → RgR) : Prop :=
  ∀ nt ops e h N e' h' N', dr nt ops e h N = some (e', h', N') → N ≤ N' ∧ ∀ (w0 : Fen) σ a w id rb (Q : Exit → Act → World → Prop), HR w0 σ h w → ER σ e nt a.tmps → Fresh σ N N' →
    (∀ σ' a' w', Ext σ σ' N N' → HR w0 σ' h' w' → ER σ' e' nt a'.tmps → a'.defers = a.defers → Q .normal a' w') → (Code.region id ops true).wpIn (Fr rb) 0 P Q a w

/-- What a piece of code does. -/
def CPost (w0 : Fen) (σ : Sg) (nt : Nat) (N : Nat) (x : Ex) (e' : Tr Value) (ds' : List Nat) (h' : Tr Ob) (N' : Nat) (X : Exit) (a' : Act) (w' : World) : Prop :=
  X = x.exit ∧ ∃ σ', Ext σ σ' N N' ∧ HR w0 σ' h' w' ∧ AR σ' e' nt ds' a'

def COk (P : Program) (nt : Nat) (r : Option Nat) (c : Code) (f : Cf) : Prop :=
  ∀ e ds h N x e' ds' h' N', f e ds h N = .ok x e' ds' h' N' → N ≤ N' ∧ ∀ w0 σ a w rb, HR w0 σ h w → AR σ e nt ds a → Fresh σ N N' → RR σ r rb →
    c.wpIn (Fr rb) 0 P (CPost w0 σ nt N x e' ds' h' N') a w

section
variable {P : Program} {nt : Nat} {r : Option Nat}

theorem COk.loop {c : Code} {body : Cf} (hb : COk P nt r c body) : ∀ f, COk P nt r (.loop c) (evLoop body f) := by
  -- one round after another
  have key : ∀ f e ds h N x e' ds' h' N', evLoop body f e ds h N = .ok x e' ds' h' N' → N ≤ N' ∧ ∀ w0 σ rb, Fresh σ N N' → RR σ r rb → ∀ a w, HR w0 σ h w → AR σ e nt ds a →
      ∀ (b : Frame) (k : List Item) (cs : List Frame), b.roundOf = (Fr rb).round → (Fr rb).fn b.fn → (Fr rb).room (cs.length + 1 + 0) →
      ∃ X a' w', CPost w0 σ nt N x e' ds' h' N' X a' w' ∧ ArrivesIn (Machine.fenced P (Fr rb)) P (lone (b.atR a (.code c :: .inLoop c :: k)) cs w) b k cs X a' w' := by
    intro f
    induction f with
    | zero => intro e ds h N x e' ds' h' N' hr; cases hr
    | succ f ih =>
      intro e ds h N x e' ds' h' N' hr
      have hr' : rbind (body e ds h N) (fun x e1 ds1 h1 N1 => Ex.rec (motive := fun _ => Res) (evLoop body f e1 ds1 h1 N1) (fun id => .ok (.x id) e1 ds1 h1 N1) (.ok .r e1 ds1 h1 N1) x) = .ok x e' ds' h' N' := hr
      obtain ⟨x1, e1, ds1, h1, N1, hb1, hr1⟩ := rbind_ok hr'
      obtain ⟨hN1, hbody⟩ := hb _ _ _ _ _ _ _ _ _ hb1
      cases x1 with
      | n =>
        obtain ⟨hN2, hloop⟩ := ih _ _ _ _ _ _ _ _ _ hr1
        refine ⟨Nat.le_trans hN1 hN2, fun w0 σ rb hf hrr a w H hA b k cs hro hbf hroom => ?_⟩
        obtain ⟨X, a1, w1, ⟨hX, σ1, g1, g2, g3⟩, harr⟩ := hbody w0 σ a w rb H hA (hf.sub (Nat.le_refl _) hN2) hrr b (.inLoop c :: k) cs hro hbf hroom
        subst hX
        have hle := g1.le (hf.sub (Nat.le_refl _) hN2)
        obtain ⟨X2, a2, w2, ⟨hX2, σ2, g4, g5, g6⟩, harr2⟩ := hloop w0 σ1 rb (g1.fresh hf hN1) (hrr.mono hle) a1 w1 g2 g3 b k cs hro hbf hroom
        exact ⟨X2, a2, w2, ⟨hX2, σ2, g1.trans g4 hN1 hN2, g5, g6⟩, .of_steps (StepsIn.trans harr (.one (fenced_calm hbf hroom rfl) stepR_inLoop)) harr2⟩
      | x id =>
        cases hr1
        refine ⟨hN1, fun w0 σ rb hf hrr a w H hA b k cs hro hbf hroom => ?_⟩
        obtain ⟨X, a1, w1, hq, harr⟩ := hbody w0 σ a w rb H hA hf hrr b (.inLoop c :: k) cs hro hbf hroom
        have hX := hq.1
        subst hX
        exact ⟨_, a1, w1, hq, .pass (x := .inLoop c) rfl (fun _ _ => .inl (by simp [Ex.exit])) harr⟩
      | r =>
        cases hr1
        refine ⟨hN1, fun w0 σ rb hf hrr a w H hA b k cs hro hbf hroom => ?_⟩
        obtain ⟨X, a1, w1, hq, harr⟩ := hbody w0 σ a w rb H hA hf hrr b (.inLoop c :: k) cs hro hbf hroom
        have hX := hq.1
        subst hX
        exact ⟨_, a1, w1, hq, .pass (x := .inLoop c) rfl (fun _ _ => .inl (by simp [Ex.exit])) harr⟩
  intro f e ds h N x e' ds' h' N' hr
  obtain ⟨h1, h2⟩ := key f e ds h N x e' ds' h' N' hr
  refine ⟨h1, fun w0 σ a w rb H hA hf hrr b k cs hro hbf hroom => ?_⟩
  obtain ⟨X, a', w', hq, harr⟩ := h2 w0 σ rb hf hrr a w H hA b k cs hro hbf hroom
  exact ⟨X, a', w', hq, .of_steps (.one (fenced_calm hbf hroom rfl) stepR_loop) harr⟩

theorem COk.seq {x y : Code} {fx fy : Cf} (hx : COk P nt r x fx) (hy : COk P nt r y fy) :
    COk P nt r (.seq x y) (fun e ds h N => rbind (fx e ds h N) fun x e1 ds1 h1 N1 => Ex.rec (motive := fun _ => Res) (fy e1 ds1 h1 N1) (fun id => .ok (.x id) e1 ds1 h1 N1) (.ok .r e1 ds1 h1 N1) x) := by
  intro e ds h N X e' ds' h' N' hr
  obtain ⟨x1, e1, ds1, h1, N1, hb1, hr1⟩ := rbind_ok hr
  obtain ⟨hN1, hbody⟩ := hx _ _ _ _ _ _ _ _ _ hb1
  cases x1 with
  | n =>
    obtain ⟨hN2, h2⟩ := hy _ _ _ _ _ _ _ _ _ hr1
    refine ⟨Nat.le_trans hN1 hN2, fun w0 σ a w rb H hA hf hrr => wpIn_seq ?_⟩
    refine wpIn_mono (hbody w0 σ a w rb H hA (hf.sub (Nat.le_refl _) hN2) hrr) ?_
    rintro E a1 w1 ⟨rfl, σ1, g1, g2, g3⟩
    have hle := g1.le (hf.sub (Nat.le_refl _) hN2)
    refine wpIn_mono (h2 w0 σ1 a1 w1 rb g2 g3 (g1.fresh hf hN1) (hrr.mono hle)) ?_
    rintro E a2 w2 ⟨rfl, σ2, g4, g5, g6⟩
    exact ⟨rfl, σ2, g1.trans g4 hN1 hN2, g5, g6⟩
  | x id =>
    cases hr1
    refine ⟨hN1, fun w0 σ a w rb H hA hf hrr => wpIn_seq ?_⟩
    refine wpIn_mono (hbody w0 σ a w rb H hA hf hrr) ?_
    rintro E a1 w1 hq
    have hX := hq.1
    subst hX
    exact hq
  | r =>
    cases hr1
    refine ⟨hN1, fun w0 σ a w rb H hA hf hrr => wpIn_seq ?_⟩
    refine wpIn_mono (hbody w0 σ a w rb H hA hf hrr) ?_
    rintro E a1 w1 hq
    have hX := hq.1
    subst hX
    exact hq

theorem COk.block {id : Nat} {x : Code} {fx : Cf} (hx : COk P nt r x fx) :
    COk P nt r (.block id x) (fun e ds h N => rbind (fx e ds h N) fun x e1 ds1 h1 N1 => Ex.rec (motive := fun _ => Res) (.ok .n e1 ds1 h1 N1)
      (fun id' => Bool.rec (motive := fun _ => Res) (.ok (.x id') e1 ds1 h1 N1) (.ok .n e1 ds1 h1 N1) (Nat.beq id' id)) (.ok .r e1 ds1 h1 N1) x) := by
  intro e ds h N X e' ds' h' N' hr
  obtain ⟨x1, e1, ds1, h1, N1, hb1, hr1⟩ := rbind_ok hr
  obtain ⟨hN1, hbody⟩ := hx _ _ _ _ _ _ _ _ _ hb1
  cases x1 with
  | n =>
    cases hr1
    refine ⟨hN1, fun w0 σ a w rb H hA hf hrr => wpIn_block (wpIn_mono (hbody w0 σ a w rb H hA hf hrr) ?_)⟩
    rintro E a1 w1 hq
    have hX := hq.1
    subst hX
    exact hq
  | x id' =>
    cases hid : Nat.beq id' id with
    | true =>
      have hr2 : Bool.rec (motive := fun _ => Res) (.ok (.x id') e1 ds1 h1 N1) (.ok .n e1 ds1 h1 N1) (Nat.beq id' id) = .ok X e' ds' h' N' := hr1
      rw [hid] at hr2
      cases hr2
      refine ⟨hN1, fun w0 σ a w rb H hA hf hrr => wpIn_block (wpIn_mono (hbody w0 σ a w rb H hA hf hrr) ?_)⟩
      rintro E a1 w1 ⟨rfl, hq⟩
      show if id' = id then _ else _
      rw [if_pos (Nat.eq_of_beq_eq_true hid)]
      exact ⟨rfl, hq⟩
    | false =>
      have hr2 : Bool.rec (motive := fun _ => Res) (.ok (.x id') e1 ds1 h1 N1) (.ok .n e1 ds1 h1 N1) (Nat.beq id' id) = .ok X e' ds' h' N' := hr1
      rw [hid] at hr2
      cases hr2
      refine ⟨hN1, fun w0 σ a w rb H hA hf hrr => wpIn_block (wpIn_mono (hbody w0 σ a w rb H hA hf hrr) ?_)⟩
      rintro E a1 w1 ⟨rfl, hq⟩
      show if id' = id then _ else _
      rw [if_neg (fun e => by rw [e, Nat.beq_refl] at hid; cases hid)]
      exact ⟨rfl, hq⟩
  | r =>
    cases hr1
    refine ⟨hN1, fun w0 σ a w rb H hA hf hrr => wpIn_block (wpIn_mono (hbody w0 σ a w rb H hA hf hrr) ?_)⟩
    rintro E a1 w1 hq
    have hX := hq.1
    subst hX
    exact hq

end
end Go.Ev
end

section
namespace Go.Ev
open Go.RowKit Go.Sx
set_option linter.unusedVariables false
set_option linter.unusedSimpArgs false

theorem run_enterLoop_in {P : Program} {w : World} {l₀ : Nat} {r₀ : Loop} (h : w.heap[l₀]? = some (.loop r₀)) (fn : FuncId) (tmps : Array Value) (ps : Array Tmp) (assign body : Code) :
    (Instr.enterLoop fn tmps ps assign body (some l₀)).run P w =
      .ok (w.heap.size, []) (w.alloc (.loop { state := .ready, pending := none, fn, tmps, params := ps, assign, body, defers := r₀.defers })) := by
  unfold Instr.enterLoop
  simp only [Sem.run_bind, run_getLoop h, run_newObj_alloc, Result.andThen, Sem.run_pure]

section
variable {P : Program} {w0 : Fen} {w : World} {σ : Sg} {h : Tr Ob} {e : Tr Value} {n N nt : Nat} {a : Act} {o : Oper} {r : Option Nat}

theorem callee_fn {call : CallF} (hcall : CallOk P call) {fv fv' : Value} {args args' : List Value} {v : Value} {h' : Tr Ob} {N' : Nat} (hr : call fv args h N = some (v, h', N')) (hfn : isFn fv = true) (hl2 : args.length ≠ 2)
    (H : HR w0 σ h w) (hfv : Rl σ fv fv') (ha : RlL σ args args') (hf : Fresh σ N N') :
    ∃ d f as, (Deferred.ofValue fv' ⟨args'⟩).run P w = .ok d w ∧ (invoke d.target d.args).run P w = .ok (.enter f as) w ∧ Calls P f as w fun e w' => ∃ v', e = .returned v' ∧ ∃ σ', Ext σ σ' N N' ∧ HR w0 σ' h' w' ∧ Rl σ' v v' := by
  obtain ⟨nx, hrun, hnx⟩ := (hcall _ _ _ _ _ _ _ hr).2 w0 σ w _ _ H hfv ha hf
  cases hfv <;> first | (simp [isFn] at hfn; done) | skip
  · rename_i hp; unfold isFn at hfn; split at hfn <;> simp_all [plain]
  rename_i f fs gs cs ds h3 h4 h1 h2
  have hof : (Deferred.ofValue (.func (.func f) ⟨gs⟩ ⟨ds⟩) ⟨args'⟩).run P w = .ok { target := .fn (.func f) ⟨ds⟩, args := (⟨gs⟩ : Array Value) ++ ⟨args'⟩ } w := by simp [Deferred.ofValue]
  rw [Sem.run_bind, hof, Result.andThen_ok] at hrun
  rcases hnx with ⟨v', rfl, _, h5⟩ | ⟨f', as, rfl, hc⟩ | ⟨⟨l, hl⟩, _⟩
  · exact absurd (ha.len.trans h5) hl2
  · exact ⟨_, f', as, hof, hrun, hc⟩
  · cases hl

theorem evEnd_ok {l b rr : Nat} {ds : List Nat} {N' : Nat} {x : Ex} {e' : Tr Value} {ds' : List Nat} {h' : Tr Ob} (hr : evEnd l e ds h N = .ok x e' ds' h' N') (H : HR w0 σ h w) (hl : σ l = some (b, rr)) :
    e' = e ∧ ds' = ds ∧ N' = N ∧ ∃ w', (Instr.endLoop b).run P w = .ok x.jump w' ∧ HR w0 σ h' w' := by
  unfold evEnd at hr
  split at hr
  · rename_i pe n' e1 ps asg body df ho
    cases hr
    obtain ⟨fn, tm, db, dr, h1, h2, h3⟩ := H.ob l b rr _ hl ho
    have hend := run_endLoop (P := P) h3 (by simp)
    refine ⟨rfl, rfl, rfl, _, hend, H.write hl (by rw [ho]; rfl) World.putObj_size rfl rfl rfl (fun k hk => World.putObj_heap_other hk) ?_⟩
    exact ⟨fn, tm, db, dr, h1, h2, World.putObj_heap_same (H.low l b rr hl)⟩
  · rename_i pe n' e1 ps asg body df ho
    cases hr
    obtain ⟨fn, tm, db, dr, h1, h2, h3⟩ := H.ob l b rr _ hl ho
    have hend := run_endLoop (P := P) h3 (by simp)
    refine ⟨rfl, rfl, rfl, _, hend, H.write hl (by rw [ho]; rfl) World.putObj_size rfl rfl rfl (fun k hk => World.putObj_heap_other hk) ?_⟩
    exact ⟨fn, tm, db, dr, h1, h2, World.putObj_heap_same (H.low l b rr hl)⟩
  · cases hr

/-- The loop's record is laid. -/
theorem lay_loop (H : HR w0 σ h w) {M df db dr : Nat} {tm : Array Value} {fn : Nat} {ps : List Nat} {asg body : Code} (hM : σ M = none) (hdf : σ df = some (db, dr)) (hE : ER σ e nt tm) :
    HR w0 (upd σ M (w.heap.size, 0)) (h.set (some (.l .ready .n nt e ps asg body df)) M) (w.alloc (.loop { state := .ready, pending := none, fn, tmps := tm, params := ⟨ps⟩, assign := asg, body, defers := db })) :=
  H.alloc hM (fun σ' hl => ⟨fn, tm, db, dr, hl _ _ hdf, hE.mono hl, heap_new w _⟩)

theorem jump_wp {x : Ex} {Q : Exit → Act → World → Prop} {rb : Option Nat} (hQ : Q x.exit a w) :
    (match x.jump with
      | none => Q .normal a w
      | some c => c.wpIn (Fr rb) 0 P Q a w) := by
  cases x with
  | n => exact hQ
  | x id => exact wpIn_exit hQ
  | r => exact wpIn_ret hQ

theorem COk.range {call : CallF} (hcall : CallOk P call) (f : Operand) (ps : Array Nat) (asg body : Code) : COk P nt r (.rangeFunc f ps asg body) (evRange call nt r f ps.toList asg body) := by
  intro e ds h N x e' ds' h' N' hr
  unfold evRange at hr
  split at hr
  · rename_i fv hfv
    cases hfn : isFn fv with
    | false => rw [hfn] at hr; cases hr
    | true =>
      rw [hfn] at hr
      cases r with
      | none =>
        dsimp only at hr
        cases hc : call fv [.func (.yield (Nat.succ N)) ⟨[]⟩ ⟨[]⟩] ((h.set (some .d) N).set (some (.l .ready .n nt e ps.toList asg body N)) (Nat.succ N)) (Nat.succ (Nat.succ N)) with
        | none => rw [hc] at hr; cases hr
        | some res =>
          rw [hc] at hr
          obtain ⟨v1, h1, N1⟩ := res
          have hr1 : evEnd (Nat.succ N) e (N :: ds) h1 N1 = .ok x e' ds' h' N' := hr
          have hNN : N' = N1 := by
            unfold evEnd at hr1
            split at hr1 <;> cases hr1 <;> rfl
          subst hNN
          have hN2 := (hcall _ _ _ _ _ _ _ hc).1
          refine ⟨by omega, fun w0 σ a w rb H hA hf hrr => ?_⟩
          have hrb : rb = none := by cases rb with | none => rfl | some b => exact hrr.elim
          subst hrb
          refine wpIn_rangeFunc fun fn hF => ?_
          have hro : (Fr none).round = none := rfl
          rw [hro]
          have hM0 : σ N = none := hf N (Nat.le_refl _) (by omega)
          have H1 : HR w0 (upd σ N (w.heap.size, 0)) (h.set (some .d) N) (w.alloc (.deferred (some []))) := H.alloc hM0 (fun σ' hl => heap_new w _)
          have hle1 : SLe σ (upd σ N (w.heap.size, 0)) := upd_le hM0
          have hM1 : (upd σ N (w.heap.size, 0)) (N + 1) = none := by rw [upd_other (by omega)]; exact hf (N + 1) (by omega) (by omega)
          have H2 := lay_loop (fn := fn) (ps := ps.toList) (asg := asg) (body := body) H1 hM1 (upd_same _ _ _) (hA.env.mono hle1)
          have hle2 := upd_le (x := ((w.alloc (.deferred (some []))).heap.size, 0)) hM1
          have hpsa : (⟨ps.toList⟩ : Array Nat) = ps := by simp
          rw [hpsa] at H2
          have hsz : (w.alloc (.deferred (some []))).heap.size = w.heap.size + 1 := by simp
          rw [hsz] at H2 hle2
          have hσN1 : (upd (upd σ N (w.heap.size, 0)) (N + 1) (w.heap.size + 1, 0)) (N + 1) = some (w.heap.size + 1, 0) := upd_same _ _ _
          obtain ⟨d, f', as, g1, g2, g3⟩ := callee_fn hcall hc hfn (by simp) H2 ((evo_ok hA.env hfv).mono (hle1.trans hle2)) (RlL.cons (.yl hσN1) (.nil _)) (fun i hi1 hi2 => by
            rw [upd_other (by omega), upd_other (by omega)]; exact hf i (by omega) hi2)
          refine ⟨_, _, _, d, _, f', as, _, run_enterLoop_outer fn a.tmps ps asg body, ?_, fun _ _ => trivial, g2, fun h' => absurd h' (by simp [Fr, Fence.wide]), ?_⟩
          · have hres : resolve a.eval (rangeCall f (w.heap.size + 1)) 0 = Deferred.ofValue (a.eval f) #[.func (.yield (w.heap.size + 1)) #[] #[]] := by
              simp [resolve, Act.eval]
            rw [hres]
            exact g1
          · refine callsIn_fr (Calls.mono g3 ?_)
            rintro E w3 ⟨v3, rfl, σ3, g4, g5, g6⟩
            have hσ3 : σ3 (N + 1) = some (w.heap.size + 1, 0) := by rw [g4 (N + 1) (by omega)]; exact hσN1
            obtain ⟨e1, e2, e3, w4, g7, g8⟩ := evEnd_ok (P := P) hr1 g5 hσ3
            subst e1; subst e2
            refine ⟨x.jump, w4, g7, ?_⟩
            have hext : Ext σ σ3 N N' := fun i hi => by
              rw [g4 i (by omega), upd_other (by omega), upd_other (by omega)]
            have hle3 := hext.le hf
            have hpost : CPost w0 σ nt N x e' (N :: ds) h' N' x.exit { a with defers := [Sx.mark w.heap.size] ++ a.defers } w4 := by
              refine ⟨rfl, σ3, hext, g8, ⟨hA.env.mono hle3, ?_⟩⟩
              have hσ3N : σ3 N = some (w.heap.size, 0) := by rw [g4 N (by omega), upd_other (by omega), upd_same]
              exact (hA.marks.mono hle3).cons hσ3N
            exact jump_wp hpost
      | some l =>
        dsimp only at hr
        split at hr
        · rename_i st0 pe0 n0 e0 ps0 asg0 body0 df ho
          cases hc : call fv [.func (.yield N) ⟨[]⟩ ⟨[]⟩] (h.set (some (.l .ready .n nt e ps.toList asg body df)) N) (Nat.succ N) with
          | none => rw [hc] at hr; cases hr
          | some res =>
            rw [hc] at hr
            obtain ⟨v1, h1, N1⟩ := res
            have hr1 : evEnd N e ds h1 N1 = .ok x e' ds' h' N' := hr
            have hNN : N' = N1 := by
              unfold evEnd at hr1
              split at hr1 <;> cases hr1 <;> rfl
            subst hNN
            have hN2 := (hcall _ _ _ _ _ _ _ hc).1
            refine ⟨by omega, fun w0 σ a w rb H hA hf hrr => ?_⟩
            cases rb with
            | none => exact hrr.elim
            | some rb =>
            obtain ⟨rr, hσl⟩ := hrr
            refine wpIn_rangeFunc fun fn hF => ?_
            have hro : (Fr (some rb)).round = some rb := rfl
            rw [hro]
            have hM0 : σ N = none := hf N (Nat.le_refl _) (by omega)
            obtain ⟨fn0, tm0, db, dr, q1, q2, q3⟩ := H.ob l rb rr _ hσl ho
            have H2 := lay_loop (fn := fn) (ps := ps.toList) (asg := asg) (body := body) H hM0 q1 hA.env
            have hle2 := upd_le (x := (w.heap.size, 0)) hM0
            have hpsa : (⟨ps.toList⟩ : Array Nat) = ps := by simp
            rw [hpsa] at H2
            have hσN1 : (upd σ N (w.heap.size, 0)) N = some (w.heap.size, 0) := upd_same _ _ _
            obtain ⟨d, f', as, g1, g2, g3⟩ := callee_fn hcall hc hfn (by simp) H2 ((evo_ok hA.env hfv).mono hle2) (RlL.cons (.yl hσN1) (.nil _)) (fun i hi1 hi2 => by
              rw [upd_other (by omega)]; exact hf i (by omega) hi2)
            refine ⟨_, _, _, d, _, f', as, _, run_enterLoop_in q3 fn a.tmps ps asg body, ?_, fun _ _ => trivial, g2, fun h' => absurd h' (by simp [Fr, Fence.wide]), ?_⟩
            · have hres : resolve a.eval (rangeCall f w.heap.size) 0 = Deferred.ofValue (a.eval f) #[.func (.yield w.heap.size) #[] #[]] := by
                simp [resolve, Act.eval]
              rw [hres]
              exact g1
            · refine callsIn_fr (Calls.mono g3 ?_)
              rintro E w3 ⟨v3, rfl, σ3, g4, g5, g6⟩
              have hσ3 : σ3 N = some (w.heap.size, 0) := by rw [g4 N (by omega)]; exact hσN1
              obtain ⟨e1, e2, e3, w4, g7, g8⟩ := evEnd_ok (P := P) hr1 g5 hσ3
              subst e1; subst e2
              refine ⟨x.jump, w4, g7, ?_⟩
              have hext : Ext σ σ3 N N' := fun i hi => by
                rw [g4 i (by omega), upd_other (by omega)]
              have hle3 := hext.le hf
              have hpost : CPost w0 σ nt N x e' ds' h' N' x.exit { a with defers := [] ++ a.defers } w4 := by
                refine ⟨rfl, σ3, hext, g8, ⟨hA.env.mono hle3, ?_⟩⟩
                exact hA.marks.mono hle3
              exact jump_wp hpost
        · cases hr
  · cases hr

/-- Whatever the code. -/
theorem evCode_ok {call : CallF} (hcall : CallOk P call) {dr : Nat → Array Oper → Tr Value → Tr Ob → Nat → RgR} (hdr : DrawOk P dr) : ∀ c : Code, COk P nt r c ((evCode P nt c).f call dr r)
  | .skip => by
    intro e ds h N x e' ds' h' N' hr
    cases hr
    exact ⟨Nat.le_refl _, fun w0 σ a w rb H hA hf hrr => wpIn_skip ⟨rfl, σ, Ext.refl _ _ _, H, hA⟩⟩
  | .region id ops draw => by
    intro e ds h N x e' ds' h' N' hr
    cases draw with
    | false =>
      have hr' : rgk ((evOps P nt ops ops.toList).f call e h N) ds = .ok x e' ds' h' N' := hr
      obtain ⟨rfl, rfl, hq⟩ := rgk_ok hr'
      obtain ⟨g1, g2⟩ := evOps_ok (w0 := default) (rb := none) (Q := fun _ _ _ => True) hcall _ _ _ _ _ _ _ hq
      refine ⟨g1, fun w0 σ a w rb H hA hf hrr => wpIn_region_list ?_⟩
      refine (evOps_ok hcall _ _ _ _ _ _ _ hq).2 σ a w H hA.env hf ?_
      intro σ' a' w' g3 g4 g5 g6
      exact ⟨rfl, σ', g3, g4, ⟨g5, by rw [g6]; exact hA.marks.mono (g3.le hf)⟩⟩
    | true =>
      have hr' : rgk (dr nt ops e h N) ds = .ok x e' ds' h' N' := hr
      obtain ⟨rfl, rfl, hq⟩ := rgk_ok hr'
      obtain ⟨g1, g2⟩ := hdr _ _ _ _ _ _ _ _ hq
      refine ⟨g1, fun w0 σ a w rb H hA hf hrr => ?_⟩
      refine g2 w0 σ a w id rb _ H hA.env hf ?_
      intro σ' a' w' g3 g4 g5 g6
      exact ⟨rfl, σ', g3, g4, ⟨g5, by rw [g6]; exact hA.marks.mono (g3.le hf)⟩⟩
  | .seq x y => (evCode_ok hcall hdr x).seq (evCode_ok hcall hdr y)
  | .cond c x y => by
    intro e ds h N X e' ds' h' N' hr
    have hr' : ccond ((cOd c).g e) ((evCode P nt x).f call dr r e ds h N) ((evCode P nt y).f call dr r e ds h N) = .ok X e' ds' h' N' := hr
    rw [cOd_eq] at hr'
    unfold ccond at hr'
    split at hr'
    · rename_i b hb
      cases b with
      | true =>
        obtain ⟨g1, g2⟩ := evCode_ok hcall hdr x _ _ _ _ _ _ _ _ _ hr'
        exact ⟨g1, fun w0 σ a w rb H hA hf hrr => wpIn_cond_true (rl_bool (evo_ok hA.env hb)) (g2 w0 σ a w rb H hA hf hrr)⟩
      | false =>
        obtain ⟨g1, g2⟩ := evCode_ok hcall hdr y _ _ _ _ _ _ _ _ _ hr'
        exact ⟨g1, fun w0 σ a w rb H hA hf hrr => wpIn_cond_false (rl_bool (evo_ok hA.env hb)) (g2 w0 σ a w rb H hA hf hrr)⟩
    · cases hr'
  | .block id x => (evCode_ok hcall hdr x).block
  | .loop x => (evCode_ok hcall hdr x).loop fuel
  | .rangeFunc f ps asg body => COk.range hcall f ps asg body
  | .exit id => by
    intro e ds h N x e' ds' h' N' hr
    cases hr
    exact ⟨Nat.le_refl _, fun w0 σ a w rb H hA hf hrr => wpIn_exit ⟨rfl, σ, Ext.refl _ _ _, H, hA⟩⟩
  | .scope x => by
    have ih := evCode_ok hcall hdr x
    intro e ds h N X e' ds' h' N' hr
    cases r with
    | some l => cases hr
    | none =>
      have hr' : (evCode P nt x).f call dr none e ds h N = .ok X e' ds' h' N' := hr
      obtain ⟨g1, g2⟩ := ih _ _ _ _ _ _ _ _ _ hr'
      refine ⟨g1, fun w0 σ a w rb H hA hf hrr => ?_⟩
      have hrb : rb = none := by cases rb with | none => rfl | some b => exact hrr.elim
      subst hrb
      refine (wpIn_wide (n := 0)).2 (wp_scope_straight ((wpIn_wide (n := 0)).1 ?_))
      refine wpIn_mono (g2 w0 σ a w none H hA hf hrr) ?_
      rintro E a1 w1 hq
      have hE := hq.1
      subst hE
      cases X <;> exact hq
  | .label l => by
    intro e ds h N x e' ds' h' N' hr
    cases hr
    exact ⟨Nat.le_refl _, fun w0 σ a w rb H hA hf hrr => wpIn_label ⟨rfl, σ, Ext.refl _ _ _, H, hA⟩⟩
  | .goto l => by intro e ds h N x e' ds' h' N' hr; cases hr
  | .ret => by
    intro e ds h N x e' ds' h' N' hr
    cases hr
    exact ⟨Nat.le_refl _, fun w0 σ a w rb H hA hf hrr => wpIn_ret ⟨rfl, σ, Ext.refl _ _ _, H, hA⟩⟩
  | .refuse s => by intro e ds h N x e' ds' h' N' hr; cases hr

end
end Go.Ev
end

section
namespace Go.Ev
open Go.RowKit Go.Sx
set_option linter.unusedVariables false
set_option linter.unusedSimpArgs false

noncomputable def isNone' {α : Type _} (x : Option α) : Bool := Option.rec (motive := fun _ => Bool) true (fun _ => false) x
theorem isNone'_ok {α : Type _} {x : Option α} (h : isNone' x = true) : x = none := by cases x with | none => rfl | some _ => cases h
noncomputable def notB (b : Bool) : Bool := Bool.rec (motive := fun _ => Bool) true false b
theorem notB_ok {b : Bool} (h : notB b = true) : b = false := by cases b with | false => rfl | true => cases h

/-- The function is slices.overlaps: the cells of an element. -/
noncomputable def ovOf (P : Program) (f : Nat) : Option Nat :=
  match P.funcs[f]? with
  | some fn => ocond (isNone' fn.body) (ocond (fn.origin == "slices.overlaps") (ocond (notB (fn.name == "runtime.NumGoroutine"))
      (ocond (isNone' (Extern.allNextRows.lookup fn.name)) (ocond (isNone' (Extern.allGenericRows.lookup fn.name)) (ocond (isNone' (Extern.allTypedRows.lookup fn.name)) (ocond (isNone' (Extern.allRows.lookup fn.name))
      (match fn.params, fn.resultTypes with
        | ⟨[t, t2]⟩, ⟨[_]⟩ => ocond (Nat.beq t t2) (obind (elemOf P t) fun e => sizeB P e)
        | _, _ => none)))))))
  | none => none

theorem ov_next : Extern.allNextRows.lookup "slices.overlaps" = none := by kernel_rfl
theorem ov_gen : Extern.allGenericRows.lookup "slices.overlaps" = none := by kernel_rfl
theorem ov_typed : Extern.allTypedRows.lookup "slices.overlaps" = some Extern.SlicesOverlaps.overlaps := by kernel_rfl

theorem ovOf_ok {P : Program} {f z : Nat} (h : ovOf P f = some z) : ∃ fn t el r, P.funcs[f]? = some fn ∧ (fn.name == "runtime.NumGoroutine") = false ∧ fn.body.isNone = true ∧ Extern.findNext fn = none ∧
    Extern.find fn = some (Extern.SlicesOverlaps.overlaps #[t, t] #[r]) ∧ P.underlying t = some (.slice el) ∧ sizeB P el = some z := by
  unfold ovOf at h
  split at h
  · rename_i fn hfn
    obtain ⟨h1, h⟩ := ocond_some h
    obtain ⟨h2, h⟩ := ocond_some h
    obtain ⟨h3, h⟩ := ocond_some h
    obtain ⟨h4, h⟩ := ocond_some h
    obtain ⟨h5, h⟩ := ocond_some h
    obtain ⟨h6, h⟩ := ocond_some h
    obtain ⟨h7, h⟩ := ocond_some h
    have h2' : fn.origin = "slices.overlaps" := by simpa using h2
    split at h
    · rename_i t t2 r hp hrs
      obtain ⟨h8, hh⟩ := ocond_some h
      obtain ⟨e, h9, hz⟩ := obind_some hh
      have h8' := Nat.eq_of_beq_eq_true h8
      subst h8'
      refine ⟨fn, t, e, r, hfn, notB_ok h3, by rw [isNone'_ok h1]; rfl, ?_, ?_, elemOf_ok h9, hz⟩
      · simp only [Extern.findNext, isNone'_ok h4, h2', ov_next, Option.map_none]
        rfl
      · simp only [Extern.find, isNone'_ok h5, isNone'_ok h6, isNone'_ok h7, h2', ov_gen, ov_typed, Option.map_none, hp, hrs]
        rfl
    · cases h
  · cases h

section
variable {P : Program} {w0 : Fen} {w : World} {σ : Sg} {h : Tr Ob}

/-- A slice's block, if it has one. -/
noncomputable def blkOf : Value → Option Nat
  | .slice (some ⟨i, _, _⟩) _ _ => some i
  | _ => none

noncomputable def evOver (P : Program) (f : Nat) (args : List Value) (h : Tr Ob) (N : Nat) : OpR :=
  obind (ovOf P f) fun _ => match args with
  | [x, y] => obind (blkOf x) fun i => obind (blkOf y) fun j =>
      ocond (notB (Nat.beq i j)) (obind (cellsOf h i) fun _ => obind (cellsOf h j) fun ys => ocond (Nat.ble 1 (len ys)) (some (.bool false, h, N)))
  | _ => none

theorem blkOf_some {x x' : Value} {i : Nat} (h : blkOf x = some i) (hx : Rl σ x x') : ∃ b r off n c, σ i = some (b, r) ∧ x' = .slice (some ⟨b, off, none⟩) n c := by
  unfold blkOf at h
  split at h
  · cases h
    cases hx
    · rename_i hp; simp [plain] at hp
    · exact ⟨_, _, _, _, _, by assumption, rfl⟩
    · exact ⟨_, _, _, _, _, by assumption, rfl⟩
  · cases h

theorem evOver_ok {f : Nat} {args : List Value} {N N' : Nat} {v : Value} {h' : Tr Ob} (hr : evOver P f args h N = some (v, h', N')) :
    h' = h ∧ N' = N ∧ v = .bool false ∧ ∀ w0 σ w args', HR w0 σ h w → RlL σ args args' → (callFunc f ⟨args'⟩).run P w = .ok (.value (.bool false)) w := by
  obtain ⟨z, hz, hr1⟩ := obind_some hr
  clear hr
  obtain ⟨fn, t, el, r, g1, g2, g3, g4, g5, g7, g8⟩ := ovOf_ok hz
  split at hr1
  · rename_i x y
    obtain ⟨i, ha, hr2⟩ := obind_some hr1
    obtain ⟨j, hb, hr3⟩ := obind_some hr2
    obtain ⟨h1, hr4⟩ := ocond_some hr3
    obtain ⟨xs, h2, hr5⟩ := obind_some hr4
    obtain ⟨ys, h3, hr6⟩ := obind_some hr5
    obtain ⟨h4, hr7⟩ := ocond_some hr6
    cases hr7
    refine ⟨rfl, rfl, rfl, fun w0 σ w args' H hl => ?_⟩
    obtain ⟨x', r1, rfl, q1, q2⟩ := hl.uncons
    obtain ⟨y', r2, rfl, q3, q4⟩ := q2.uncons
    rw [q4.of_nil]
    obtain ⟨b1, r1, o1, n1, c1, k1, rfl⟩ := blkOf_some ha q1
    obtain ⟨b2, r2, o2, n2, c2, k2, rfl⟩ := blkOf_some hb q3
    obtain ⟨cs1, rest1, T1, k3, k4⟩ := cellsOf_ok H k1 h2
    obtain ⟨cs2, rest2, T2, k5, k6⟩ := cellsOf_ok H k2 h3
    have hl1 : wrB (h.get i) = true := by
      unfold cellsOf at h2
      split at h2
      · rename_i ho; rw [ho]; rfl
      · rename_i ho; rw [ho]; rfl
      · cases h2
    have hl2 : (h.get j).isSome = true := by
      unfold cellsOf at h3; cases hg : h.get j with | none => rw [hg] at h3; cases h3 | some o => rfl
    have hne : b1 ≠ b2 := by
      intro e
      subst e
      have := H.inj i j b1 r1 r2 k1 k2 hl1 hl2
      subst this
      have := notB_ok h1
      rw [Nat.beq_refl] at this
      cases this
    have hlen : (cs2 ++ rest2).length ≠ 0 := by
      have := Nat.le_of_ble_eq_true h4
      rw [len_eq, k5.len] at this
      simp
      intro e
      subst e
      simp at this
    have hov := Lib.run_overlaps_apart (P := P) w t r el g7 z (fun w => Sx.run_sizeOf g8 w) ⟨b1, o1, none⟩ ⟨b2, o2, none⟩ n1 c1 n2 c2 hne T1 T2 (cs1 ++ rest1).length (cs2 ++ rest2).length
      (by simp [World.shape?, k4]) (by simp [World.shape?, k6]) hlen (by simp [World.frozen?, k4]) (by simp [World.frozen?, k4])
    rw [run_callFunc_extern g1 g2 g3 g4 g5, hov]
    rfl
  · cases hr1
end

/-! ### Equal values, told by program -/
noncomputable def band (a b : Bool) : Bool := Bool.rec (motive := fun _ => Bool) false b a
theorem band_ok {a b : Bool} (h : band a b = true) : a = true ∧ b = true := by cases a <;> cases b <;> first | exact ⟨rfl, rfl⟩ | cases h
noncomputable def listEq {α : Type} (eq : α → α → Bool) (l : List α) : List α → Bool :=
  List.rec (motive := fun _ => List α → Bool) (fun r => List.rec (motive := fun _ => Bool) true (fun _ _ _ => false) r)
    (fun x _ ih r => List.rec (motive := fun _ => Bool) false (fun y r' _ => band (eq x y) (ih r')) r) l
theorem listEq_ok {α : Type} {eq : α → α → Bool} (he : ∀ x y, eq x y = true → x = y) : ∀ (l r : List α), listEq eq l r = true → l = r
  | [], [], _ => rfl
  | [], y :: r, h => by cases h
  | x :: l, [], h => by cases h
  | x :: l, y :: r, h => by
    have h' : band (eq x y) (listEq eq l r) = true := h
    obtain ⟨h1, h2⟩ := band_ok h'
    rw [he x y h1, listEq_ok he l r h2]
noncomputable def optN (a b : Option Nat) : Bool :=
  match a, b with
  | none, none => true
  | some x, some y => Nat.beq x y
  | _, _ => false
theorem optN_ok {a b : Option Nat} (h : optN a b = true) : a = b := by
  unfold optN at h
  split at h
  · rfl
  · rw [Nat.eq_of_beq_eq_true h]
  · cases h
noncomputable def addrEq (a b : Addr) : Bool := band (Nat.beq a.block b.block) (band (Nat.beq a.off b.off) (optN a.spot b.spot))
theorem addrEq_ok {a b : Addr} (h : addrEq a b = true) : a = b := by
  obtain ⟨h1, h⟩ := band_ok h
  obtain ⟨h2, h3⟩ := band_ok h
  cases a; cases b
  simp only at h1 h2 h3
  rw [Nat.eq_of_beq_eq_true h1, Nat.eq_of_beq_eq_true h2, optN_ok h3]
noncomputable def valEq1 (ih : Value → Value → Bool) (a b : Value) : Bool := match a, b with
    | .bool x, .bool y => decide (x = y)
    | .int k x, .int k' y => band (decide (k = k')) (decide (x = y))
    | .string x, .string y => decide (x = y)
    | .pointer none, .pointer none => true
    | .pointer (some x), .pointer (some y) => addrEq x y
    | .slice none n c, .slice none n' c' => band (Nat.beq n n') (Nat.beq c c')
    | .slice (some x) n c, .slice (some y) n' c' => band (addrEq x y) (band (Nat.beq n n') (Nat.beq c c'))
    | .map x, .map y => optN x y
    | .nilFunc, .nilFunc => true
    | .nilIface, .nilIface => true
    | .func (.func f) ⟨fs⟩ ⟨cs⟩, .func (.func g) ⟨gs⟩ ⟨ds⟩ => band (Nat.beq f g) (band (listEq ih fs gs) (listEq ih cs ds))
    | .func (.yield f) ⟨[]⟩ ⟨[]⟩, .func (.yield g) ⟨[]⟩ ⟨[]⟩ => Nat.beq f g
    | .agg ⟨cs⟩, .agg ⟨ds⟩ => listEq ih cs ds
    | .tuple ⟨cs⟩, .tuple ⟨ds⟩ => listEq ih cs ds
    | _, _ => false
theorem valEq1_ok {ih : Value → Value → Bool} (hi : ∀ x y, ih x y = true → x = y) {a b : Value} (h : valEq1 ih a b = true) : a = b := by
  unfold valEq1 at h
  split at h
  · rw [of_decide_eq_true h]
  · obtain ⟨h1, h2⟩ := band_ok h; rw [of_decide_eq_true h1, of_decide_eq_true h2]
  · rw [of_decide_eq_true h]
  · rfl
  · rw [addrEq_ok h]
  · obtain ⟨h1, h2⟩ := band_ok h; rw [Nat.eq_of_beq_eq_true h1, Nat.eq_of_beq_eq_true h2]
  · obtain ⟨h1, h2⟩ := band_ok h; obtain ⟨h3, h4⟩ := band_ok h2; rw [addrEq_ok h1, Nat.eq_of_beq_eq_true h3, Nat.eq_of_beq_eq_true h4]
  · rw [optN_ok h]
  · rfl
  · rfl
  · obtain ⟨h1, h2⟩ := band_ok h; obtain ⟨h3, h4⟩ := band_ok h2; rw [Nat.eq_of_beq_eq_true h1, listEq_ok hi _ _ h3, listEq_ok hi _ _ h4]
  · rw [Nat.eq_of_beq_eq_true h]
  · rw [listEq_ok hi _ _ h]
  · rw [listEq_ok hi _ _ h]
  · cases h
noncomputable def valEq (d : Nat) : Value → Value → Bool := Nat.rec (motive := fun _ => Value → Value → Bool) (fun _ _ => false) (fun _ ih => valEq1 ih) d
theorem valEq_ok : ∀ (d : Nat) (a b : Value), valEq d a b = true → a = b
  | 0, a, b, h => by cases h
  | d + 1, a, b, h => valEq1_ok (valEq_ok d) (show valEq1 (valEq d) a b = true from h)
noncomputable def obEq (a : Option Ob) (b : Ob) : Bool :=
  match a, b with
  | some (.c xs T), .c ys T' => band (Nat.beq T T') (listEq (valEq 3) xs ys)
  | some (.m [] c), .m [] c' => Nat.beq c c'
  | _, _ => false
theorem obEq_ok {a : Option Ob} {b : Ob} (h : obEq a b = true) : a = some b := by
  unfold obEq at h
  split at h
  · obtain ⟨h1, h2⟩ := band_ok h; rw [Nat.eq_of_beq_eq_true h1, listEq_ok (valEq_ok 3) _ _ h2]
  · rw [Nat.eq_of_beq_eq_true h]
  · cases h


end Go.Ev
end

section
namespace Go.Ev
open Go.RowKit Go.Sx
set_option linter.unusedVariables false
set_option linter.unusedSimpArgs false

noncomputable def fnOf (P : Program) (f : Nat) : Option (Nat × Code × List ResultVar) :=
  match P.funcs[f]? with
  | some fn => Bool.rec (motive := fun _ => Option (Nat × Code × List ResultVar)) (match fn.body with
    | some c => some (fn.ntmps, c, fn.results.toList)
    | none => none) none (fn.name == "runtime.NumGoroutine")
  | none => none
theorem fnOf_ok {P : Program} {f nt : Nat} {c : Code} {rs : List ResultVar} (hf : fnOf P f = some (nt, c, rs)) : ∃ fn, P.funcs[f]? = some fn ∧ fn.body = some c ∧ fn.ntmps = nt ∧ fn.results.toList = rs ∧ callable P f := by
  unfold fnOf at hf
  split at hf
  · rename_i fn hfn
    cases hn : fn.name == "runtime.NumGoroutine" with
    | true => rw [hn] at hf; cases hf
    | false =>
      rw [hn] at hf
      split at hf
      · rename_i c' hb
        cases hf
        exact ⟨fn, hfn, hb, rfl, rfl, fn, hfn, hn, by rw [hb]; rfl⟩
      · cases hf
  · cases hf

/-- The slots of a call that begins. -/
noncomputable def envT (vs : List Value) : Nat → Tr Value := List.rec (motive := fun _ => Nat → Tr Value) (fun _ => .e 32) (fun v _ ih i => (ih (Nat.succ i)).set (some v) i) vs
theorem envT_get : ∀ (vs : List Value) (i t : Nat) (v : Value), (envT vs i).get t = some v → i ≤ t ∧ vs[t - i]? = some v
  | [], i, t, v, h => by cases h
  | u :: vs, i, t, v, h => by
    have h' : ((envT vs (i + 1)).set (some u) i).get t = some v := h
    rw [Tr.get_set] at h'
    by_cases e : t = i
    · rw [if_pos e] at h'
      cases h'
      subst e
      simp
    · rw [if_neg e] at h'
      obtain ⟨h1, h2⟩ := envT_get vs (i + 1) t v h'
      refine ⟨by omega, ?_⟩
      have : t - i = (t - (i + 1)) + 1 := by omega
      rw [this, List.getElem?_cons_succ]
      exact h2

section
variable {P : Program} {w0 : Fen} {w : World} {σ : Sg} {h : Tr Ob} {e : Tr Value} {n N nt : Nat} {a : Act} {o : Oper} {r : Option Nat}

theorem er_start {vs us : List Value} (hv : RlL σ vs us) (hn : us.length ≤ nt) : ER σ (envT vs 0) nt ((⟨us⟩ : Array Value) ++ Array.replicate (nt - (⟨us⟩ : Array Value).size) undef) := by
  have hs : (⟨us⟩ : Array Value).size = us.length := rfl
  refine ⟨by simp [hs]; omega, fun t v ht => ?_⟩
  obtain ⟨_, h2⟩ := envT_get vs 0 t v ht
  rw [Nat.sub_zero] at h2
  obtain ⟨x, h3, h4⟩ := hv.get h2
  refine ⟨x, h4, ?_⟩
  have hlt : t < us.length := by
    rcases Nat.lt_or_ge t us.length with h | h
    · exact h
    · rw [List.getElem?_eq_none h] at h3; cases h3
  rw [Array.getElem?_append_left (by rw [hs]; exact hlt)]
  simpa using h3

/-! ### Results -/
noncomputable def evRv (P : Program) (e : Tr Value) (h : Tr Ob) : ResultVar → Option Value
  | .tmp t => e.get t
  | .cell p ty => obind (e.get p) fun v => evLoad P h ty v
noncomputable def evRvs (P : Program) (e : Tr Value) (h : Tr Ob) (rs : List ResultVar) : Option (List Value) :=
  List.rec (motive := fun _ => Option (List Value)) (some []) (fun x _ ih => obind (evRv P e h x) fun v => obind ih fun vs => some (v :: vs)) rs
noncomputable def pack : List Value → Value
  | [v] => v
  | vs => .tuple ⟨vs⟩

theorem evRv_ok (H : HR w0 σ h w) {tm : Array Value} (hE : ER σ e n tm) {x : ResultVar} {v : Value} (hr : evRv P e h x = some v) : ∃ u, Rl σ v u ∧ (rvRun tm x).run P w = .ok u w := by
  cases x with
  | tmp t =>
    obtain ⟨u, h1, h2⟩ := hE.at_ t v hr
    exact ⟨u, h1, by simp [rvRun, h2]⟩
  | cell p ty =>
    obtain ⟨q, hq, hr⟩ := obind_some hr
    obtain ⟨u, h1, h2⟩ := hE.at_ p q hq
    obtain ⟨b, off, y, rfl, h7, h8⟩ := evLoad_at (P := P) H hr h1
    exact ⟨y, h7, by simp [rvRun, h2, asAddr, h8]⟩

theorem evRvs_ok (H : HR w0 σ h w) {tm : Array Value} (hE : ER σ e n tm) : ∀ {rs : List ResultVar} {vs : List Value}, evRvs P e h rs = some vs → ∃ us, RlL σ vs us ∧ (rs.mapM (rvRun tm) : Sem (List Value)).run P w = .ok us w
  | [], vs, hr => by cases hr; exact ⟨[], .nil σ, by simp⟩
  | x :: rs, vs, hr => by
    have hr' : obind (evRv P e h x) (fun v => obind (evRvs P e h rs) fun vs => some (v :: vs)) = some vs := hr
    obtain ⟨v, h1, hr2⟩ := obind_some hr'
    obtain ⟨vs', h2, hr3⟩ := obind_some hr2
    cases hr3
    obtain ⟨u, h3, h4⟩ := evRv_ok (P := P) H hE h1
    obtain ⟨us, h5, h6⟩ := evRvs_ok H hE h2
    exact ⟨u :: us, .cons h3 h5, by simp [List.mapM_cons, h4, h6]⟩

theorem results_eq (fn : Func) (tm : Array Value) : results fn tm = (do let vs ← fn.results.mapM (rvRun tm); pure (if h : vs.size = 1 then vs[0] else .tuple vs)) := by
  unfold results
  have : (fun x => match x with
    | ResultVar.tmp t => pure (tm.getD t undef)
    | .cell a t => do loadVar t (← asAddr (tm.getD a undef)) : ResultVar → Sem Value) = rvRun tm := by
    funext x; cases x <;> rfl
  rw [← this]
  rfl

theorem pack_ok {vs us : List Value} (hv : RlL σ vs us) : Rl σ (pack vs) (if hh : (⟨us⟩ : Array Value).size = 1 then (⟨us⟩ : Array Value)[0] else .tuple ⟨us⟩) := by
  have hl := hv.len
  match vs, us, hv, hl with
  | [], [], hv, _ => exact .tup rfl (fun i a b h => by simp at h)
  | [v], [u], hv, _ => exact hv.at_ 0 v u rfl rfl
  | v :: v' :: vs, u :: u' :: us, hv, _ =>
    have : ¬ (⟨u :: u' :: us⟩ : Array Value).size = 1 := by simp
    rw [dif_neg this]
    exact .tup hv.len hv.at_

theorem run_results {fn : Func} {tm : Array Value} {rs : List ResultVar} (hrs : fn.results.toList = rs) (H : HR w0 σ h w) (hE : ER σ e n tm) {vs : List Value} (hr : evRvs P e h rs = some vs) :
    ∃ u, Rl σ (pack vs) u ∧ (results fn tm).run P w = .ok u w := by
  obtain ⟨us, h1, h2⟩ := evRvs_ok (P := P) H hE hr
  refine ⟨_, pack_ok h1, ?_⟩
  rw [results_eq]
  have h3 : (fn.results.mapM (rvRun tm) : Sem (Array Value)).run P w = .ok ⟨us⟩ w := by
    have : (fn.results.mapM (rvRun tm) : Sem (Array Value)) = Functor.map List.toArray (fn.results.toList.mapM (rvRun tm)) := by
      rw [← Array.toArray_toList (xs := fn.results), List.mapM_toArray]
    rw [this, hrs]
    simp only [Sem.run_map, h2, Result.andThen_ok]
  simp only [Sem.run_bind, h3, Result.andThen_ok, Sem.run_pure]

/-! ### The marks are taken -/
noncomputable def unmark (ds : List Nat) : Tr Ob → Option (Tr Ob) := List.rec (motive := fun _ => Tr Ob → Option (Tr Ob)) (fun h => some h) (fun d _ ih h => match h.get d with | some .d => ih (h.set none d) | _ => none) ds

theorem unmark_ok {fn : Func} {R : Ending → World → Prop} {h' : Tr Ob} {tm : Array Value} : ∀ (ds : List Nat) (l : List Deferred) (h : Tr Ob) (w : World), unmark ds h = some h' → HR w0 σ h w → MR σ ds l →
    (∀ w', HR w0 σ h' w' → ∃ u, (results fn tm).run P w' = .ok u w' ∧ R (.returned u) w') → LeavesInM (Fr none) 0 P fn tm R l .returning w
  | [], l, h, w, hr, H, hm, hR => by
    have : l = [] := by have := hm.1; simp at this; exact List.length_eq_zero_iff.1 this.symm
    subst this
    cases hr
    obtain ⟨u, h1, h2⟩ := hR w H
    show LeavesIn _ _ _ _ _ _ [] _ _
    exact ⟨u, h1, h2⟩
  | d :: ds, l, h, w, hr, H, hm, hR => by
    cases l with
    | nil => exact absurd hm.1 (by simp)
    | cons m l =>
      obtain ⟨b, rr, hσ, rfl⟩ := hm.2 0 d m rfl rfl
      have hr' : (match h.get d with | some .d => unmark ds (h.set none d) | _ => none) = some h' := hr
      split at hr'
      · rename_i ho
        have hob : w.heap[b]? = some (.deferred (some [])) := H.ob d b rr _ hσ ho
        have H' := H.lose (w' := w.putObj b (.deferred none)) hσ (by rw [ho]; rfl) World.putObj_size rfl rfl rfl (fun k hk => World.putObj_heap_other hk)
        refine ⟨by simp, .inl ⟨b, _, rfl, run_takeDeferred hob, ?_⟩⟩
        exact unmark_ok ds l _ _ hr' H' ⟨by have := hm.1; simpa using this, fun i d' m' h1 h2 => hm.2 (i + 1) d' m' (by simpa using h1) (by simpa using h2)⟩ hR
      · cases hr'

/-! ### A function, a round -/

noncomputable def evFn (P : Program) (call : CallF) (dr : DrF) (f : Nat) (args : List Value) (h : Tr Ob) (N : Nat) : OpR :=
  obind (fnOf P f) fun fi => ocond (Nat.ble (len args) fi.1)
    (Res.rec (motive := fun _ => OpR) none (fun x e ds h N => Ex.rec (motive := fun _ => OpR)
        (obind (unmark ds h) fun h' => obind (evRvs P e h' fi.2.2) fun vs => some (pack vs, h', N)) (fun _ => none)
        (obind (unmark ds h) fun h' => obind (evRvs P e h' fi.2.2) fun vs => some (pack vs, h', N)) x) ((evCode P fi.1 fi.2.1).f call dr none (envT args 0) [] h N))

theorem evFn_ok {call : CallF} (hcall : CallOk P call) {dr : DrF} (hdr : DrawOk P dr) {f : Nat} {args : List Value} {v : Value} {h' : Tr Ob} {N' : Nat} (hr : evFn P call dr f args h N = some (v, h', N')) :
    callable P f ∧ N ≤ N' ∧ ∀ w0 σ w args', HR w0 σ h w → RlL σ args args' → Fresh σ N N' →
      Calls P f ⟨args'⟩ w fun e w' => ∃ v', e = .returned v' ∧ ∃ σ', Ext σ σ' N N' ∧ HR w0 σ' h' w' ∧ Rl σ' v v' := by
  obtain ⟨⟨nt, c, rs⟩, hfi, hr1⟩ := obind_some hr
  obtain ⟨hle, hr2⟩ := ocond_some hr1
  clear hr hr1
  obtain ⟨fn, hfn, hb, hnt, hrs, hcal⟩ := fnOf_ok hfi
  have hle' := Nat.le_of_ble_eq_true hle
  rw [len_eq] at hle'
  dsimp only at hr2 hle'
  cases hcode : (evCode P nt c).f call dr none (envT args 0) [] h N with
  | no => rw [hcode] at hr2; cases hr2
  | ok x e ds h1 N1 =>
    rw [hcode] at hr2
    have hr3 : (obind (unmark ds h1) fun h' => obind (evRvs P e h' rs) fun vs => (some (pack vs, h', N1) : OpR)) = some (v, h', N') ∧ (x = .n ∨ x = .r) := by
      cases x with
      | n => exact ⟨hr2, .inl rfl⟩
      | x id => cases hr2
      | r => exact ⟨hr2, .inr rfl⟩
    obtain ⟨hr3, hx⟩ := hr3
    obtain ⟨h2, hum, hr4⟩ := obind_some hr3
    obtain ⟨vs, hvs, hr5⟩ := obind_some hr4
    cases hr5
    obtain ⟨g1, g2⟩ := evCode_ok (nt := nt) (r := none) hcall hdr c _ _ _ _ _ _ _ _ _ hcode
    refine ⟨hcal, g1, fun w0 σ w args' H ha hf => ?_⟩
    refine callsIn_wide.1 (callsIn_of_wp_marks (F := Fr none) (n := 0) hfn hb trivial ?_)
    rw [hnt]
    have hst := er_start (nt := nt) ha (by rw [← ha.len]; exact hle')
    refine wpIn_mono (g2 w0 σ { tmps := _, defers := [] } w none H ⟨hst, ⟨rfl, fun i d m h => by simp at h⟩⟩ hf trivial) ?_
    rintro E a' w' ⟨rfl, σ', g3, g4, g5⟩
    have hleave : LeavesInM (Fr none) 0 P fn a'.tmps (fun e w' => ∃ v', e = .returned v' ∧ ∃ σ', Ext σ σ' N N' ∧ HR w0 σ' h' w' ∧ Rl σ' (pack vs) v') a'.defers .returning w' := by
      -- what goes out is read behind the marks
      refine unmark_ok (σ := σ') ds a'.defers h1 w' hum g4 g5.marks ?_
      intro w2 H2
      obtain ⟨u, q1, q2⟩ := run_results hrs H2 g5.env hvs
      exact ⟨u, q2, u, rfl, σ', g3, H2, q1⟩
    rcases hx with rfl | rfl
    · exact hleave
    · exact hleave


/-- yield's arguments in the loop's parameters. -/
noncomputable def putAll (ps : List Nat) : List Value → Tr Value → Tr Value :=
  List.rec (motive := fun _ => List Value → Tr Value → Tr Value) (fun _ e => e) (fun p _ ih vs e => List.rec (motive := fun _ => Tr Value) e (fun v vs _ => ih vs (e.set (some v) p)) vs) ps
theorem putAll_ok : ∀ (ps : List Nat) (vs us : List Value) (e : Tr Value) (tm : Array Value), RlL σ vs us → ER σ e nt tm → (∀ p ∈ ps, p < nt) →
    ER σ (putAll ps vs e) nt ((ps.zip us).foldl (fun t (x : Nat × Value) => t.setIfInBounds x.1 x.2) tm)
  | [], vs, us, e, tm, hv, hE, hp => hE
  | p :: ps, [], us, e, tm, hv, hE, hp => by rw [hv.of_nil]; exact hE
  | p :: ps, v :: vs, us, e, tm, hv, hE, hp => by
    obtain ⟨u, us', rfl, h1, h2⟩ := hv.uncons
    have hput := put_ok (a := { tmps := tm, defers := [] }) (d := some p) hE (fun t ht => by cases ht; exact hp p (by simp)) h1
    exact putAll_ok ps vs us' (e.set (some v) p) (tm.setIfInBounds p u) h2 hput (fun q hq => hp q (by simp [hq]))

noncomputable def allLt (nt : Nat) (ps : List Nat) : Bool := List.rec (motive := fun _ => Bool) true (fun p _ ih => Bool.rec (motive := fun _ => Bool) false ih (Nat.ble (Nat.succ p) nt)) ps
theorem allLt_ok : ∀ {ps : List Nat}, allLt nt ps = true → ∀ p ∈ ps, p < nt
  | [], _, p, hp => by cases hp
  | q :: ps, h, p, hp => by
    have h' : Bool.rec (motive := fun _ => Bool) false (allLt nt ps) (Nat.ble (Nat.succ q) nt) = true := h
    cases hb : Nat.ble (Nat.succ q) nt with
    | false => rw [hb] at h'; cases h'
    | true =>
      rw [hb] at h'
      rcases List.mem_cons.1 hp with e | e
      · subst e; exact Nat.le_of_ble_eq_true hb
      · exact allLt_ok h' p e

/-- The record l is of another state. -/
noncomputable def setSt (h : Tr Ob) (l : Nat) (ok : LoopState → Bool) (st : LoopState) (pe : Option Ex) : Option (Tr Ob) :=
  match h.get l with
  | some (.l st0 pe0 nt e ps asg body df) => ocond (ok st0) (some (h.set (some (.l st (Option.rec (motive := fun _ => Ex) pe0 (fun x => x) pe) nt e ps asg body df)) l))
  | _ => none
def isReady : LoopState → Bool
  | .ready => true
  | _ => false
noncomputable def isN : Ex → Bool
  | .n => true
  | _ => false

noncomputable def evRound (P : Program) (call : CallF) (dr : DrF) (l : Nat) (args : List Value) (h : Tr Ob) (N : Nat) : OpR :=
  match h.get l with
  | some (.l .ready _ nt e ps asg body _) => ocond (Nat.beq (len args) (len ps)) (ocond (allLt nt ps)
    (Res.rec (motive := fun _ => OpR) none (fun x1 e1 ds1 h1 N1 => ocond (isN x1) (ocond (List.rec (motive := fun _ => Bool) true (fun _ _ _ => false) ds1) (obind (setSt h1 l isReady .busy none) fun h2 =>
      Res.rec (motive := fun _ => OpR) none (fun x3 e3 ds3 h3 N3 => obind (setSt h3 l (fun _ => true) (Bool.rec (motive := fun _ => LoopState) .done .ready (isN x3)) (some x3)) fun h4 => some (.bool (isN x3), h4, N3))
        ((evCode P nt body).f call dr (some l) e1 [] h2 N1)))) ((evCode P nt asg).f call dr (some l) (putAll ps args e) [] h N)))
  | _ => none

theorem setSt_ok {l b rr : Nat} {ok : LoopState → Bool} {st : LoopState} {pe : Option Ex} {h' : Tr Ob} (hr : setSt h l ok st pe = some h') (H : HR w0 σ h w) (hl : σ l = some (b, rr)) :
    ∃ rec : Loop, w.heap[b]? = some (.loop rec) ∧ ok rec.state = true ∧ HR w0 σ h' (w.putObj b (.loop { rec with state := st, pending := match pe with | none => rec.pending | some x => x.jump })) := by
  unfold setSt at hr
  split at hr
  · rename_i st0 pe0 nt e ps asg body df ho
    obtain ⟨h1, hr1⟩ := ocond_some hr
    cases hr1
    obtain ⟨fn, tm, db, dr, g1, g2, g3⟩ := H.ob l b rr _ hl ho
    refine ⟨_, g3, h1, H.write hl (by rw [ho]; rfl) World.putObj_size rfl rfl rfl (fun k hk => World.putObj_heap_other hk) ?_⟩
    refine ⟨fn, tm, db, dr, g1, g2, ?_⟩
    rw [World.putObj_heap_same (H.low l b rr hl)]
    cases pe <;> rfl
  · cases hr

theorem isReady_ok {st : LoopState} (h : isReady st = true) : st = .ready := by cases st <;> first | rfl | cases h

theorem evRound_ok {call : CallF} (hcall : CallOk P call) {dr : DrF} (hdr : DrawOk P dr) {l : Nat} {args : List Value} {v : Value} {h' : Tr Ob} {N' : Nat} (hr : evRound P call dr l args h N = some (v, h', N')) :
    N ≤ N' ∧ ∀ w0 σ w b rr args', HR w0 σ h w → σ l = some (b, rr) → RlL σ args args' → Fresh σ N N' →
      ∃ fn tm asg body, (Instr.yield b ⟨args'⟩).run P w = .ok (.round b fn tm asg body) w ∧
        RoundIn (Fr none) 0 P b fn tm asg body w fun e w' => ∃ v', e = .returned v' ∧ ∃ σ', Ext σ σ' N N' ∧ HR w0 σ' h' w' ∧ Rl σ' v v' := by
  unfold evRound at hr
  split at hr
  · rename_i pe0 nt e ps asg body df ho
    obtain ⟨hlen, hr1⟩ := ocond_some hr
    obtain ⟨hlt, hr2⟩ := ocond_some hr1
    clear hr hr1
    have hlen' := Nat.eq_of_beq_eq_true hlen
    rw [len_eq, len_eq] at hlen'
    cases hc1 : (evCode P nt asg).f call dr (some l) (putAll ps args e) [] h N with
    | no => rw [hc1] at hr2; cases hr2
    | ok x1 e1 ds1 h1 N1 =>
      rw [hc1] at hr2
      obtain ⟨hx1, hr3⟩ := ocond_some hr2
      obtain ⟨hds, hr4⟩ := ocond_some hr3
      obtain ⟨h2, hset, hr5⟩ := obind_some hr4
      clear hr2 hr3 hr4
      have hx1' : x1 = .n := by cases x1 <;> first | rfl | cases hx1
      subst hx1'
      have hds' : ds1 = [] := by cases ds1 with | nil => rfl | cons d ds => cases hds
      subst hds'
      cases hc3 : (evCode P nt body).f call dr (some l) e1 [] h2 N1 with
      | no => rw [hc3] at hr5; cases hr5
      | ok x3 e3 ds3 h3 N3 =>
        rw [hc3] at hr5
        obtain ⟨h4, hset4, hr6⟩ := obind_some hr5
        clear hr5
        cases hr6
        obtain ⟨g1, g2⟩ := evCode_ok (nt := nt) (r := some l) hcall hdr asg _ _ _ _ _ _ _ _ _ hc1
        obtain ⟨g3, g4⟩ := evCode_ok (nt := nt) (r := some l) hcall hdr body _ _ _ _ _ _ _ _ _ hc3
        refine ⟨Nat.le_trans g1 g3, fun w0 σ w b rr args' H hσ ha hf => ?_⟩
        obtain ⟨fn, tm, db, drr, q1, q2, q3⟩ := H.ob l b rr _ hσ ho
        have hy := run_yield (P := P) (args := ⟨args'⟩) q3 (by show args'.length = ps.length; rw [← ha.len]; exact hlen')
        refine ⟨_, _, _, _, hy, roundIn_of_wpIn trivial ?_⟩
        dsimp only
        have hfold : ((⟨ps⟩ : Array Nat).zip ⟨args'⟩).foldl (fun tmps (x : Nat × Value) => tmps.setIfInBounds x.1 x.2) tm = (ps.zip args').foldl (fun t (x : Nat × Value) => t.setIfInBounds x.1 x.2) tm := by
          rw [← Array.foldl_toList]; simp
        have hER := putAll_ok ps args args' e tm ha q2 (allLt_ok hlt)
        rw [← hfold] at hER
        have hb := g2 w0 σ { tmps := ((⟨ps⟩ : Array Nat).zip ⟨args'⟩).foldl (fun tmps (x : Nat × Value) => tmps.setIfInBounds x.1 x.2) tm, defers := [] } w (some b) H ⟨hER, ⟨rfl, fun i d m h => by simp at h⟩⟩ (hf.sub (Nat.le_refl _) g3) ⟨rr, hσ⟩
        refine wpIn_mono hb ?_
        rintro E a1 w1 ⟨rfl, σ1, k1, k2, k3⟩
        have hle1 := k1.le (hf.sub (Nat.le_refl _) g3)
        have hσ1 := hle1 _ _ hσ
        obtain ⟨rec1, r1, r2, r3⟩ := setSt_ok hset k2 hσ1
        have hbr := run_beginRound (P := P) r1 (isReady_ok r2)
        show ∃ w₂, (Instr.beginRound b).run P w1 = .ok () w₂ ∧ _
        refine ⟨_, hbr, ?_⟩
        have hf1 := k1.fresh hf g1
        have hbody := g4 w0 σ1 a1 _ (some b) r3 k3 hf1 ⟨rr, hσ1⟩
        refine wpIn_mono hbody ?_
        rintro E3 a3 w3 ⟨rfl, σ3, k4, k5, k6⟩
        have hle3 := k4.le hf1
        have hσ3 := hle3 _ _ hσ1
        obtain ⟨rec3, r4, r5, r6⟩ := setSt_ok hset4 k5 hσ3
        have hend := run_endRound (P := P) x3.jump r4
        have fin : ∃ v w', (Instr.endRound b x3.jump).run P w3 = .ok v w' ∧ ∃ v', Ending.returned v = .returned v' ∧ ∃ σ', Ext σ σ' N N' ∧ HR w0 σ' h' w' ∧ Rl σ' (.bool (isN x3)) v' := by
          refine ⟨_, _, hend, _, rfl, σ3, k1.trans k4 g1 g3, ?_, ?_⟩
          · have e1 : (if x3.jump.isNone then LoopState.ready else LoopState.done) = (Bool.rec (motive := fun _ => LoopState) .done .ready (isN x3)) := by cases x3 <;> rfl
            rw [e1]
            exact r6
          · have e2 : x3.jump.isNone = isN x3 := by cases x3 <;> rfl
            rw [e2]
            exact .sc rfl
        cases x3 <;> exact fin
  · cases hr

/-! ### A call whose first argument's capacity decides: both cases -/
/-- Blocks of which the value is made are older than N. -/
noncomputable def oldV (N : Nat) (v : Value) : Bool :=
  match v with
  | .pointer (some ⟨i, _, none⟩) => Nat.ble (Nat.succ i) N
  | .slice (some ⟨i, _, _⟩) _ _ => Nat.ble (Nat.succ i) N
  | .map (some i) => Nat.ble (Nat.succ i) N
  | v => plain v
theorem oldV_ok {σ σ1 : Sg} {N N1 : Nat} {v x : Value} (ho : oldV N v = true) (hE : Ext σ σ1 N N1) (hr : Rl σ1 v x) : Rl σ v x := by
  have key : ∀ {i : Nat} {p : Nat × Nat}, Nat.ble (Nat.succ i) N = true → σ1 i = some p → σ i = some p := fun hi h => by
    rw [← hE _ (.inl (Nat.le_of_ble_eq_true hi))]; exact h
  unfold oldV at ho
  split at ho
  · cases hr
    · rename_i hp; simp [plain] at hp
    · rename_i h; exact .ptr (key ho h)
  · cases hr
    · rename_i hp; simp [plain] at hp
    · rename_i h; exact .sl (key ho h)
    · rename_i h h2 h3; exact .sx (key ho h) h2 h3
  · cases hr
    · rename_i hp; simp [plain] at hp
    · rename_i h; exact .mp (key ho h)
  · rw [hr.plain_eq ho]; exact .sc ho
noncomputable def allOld (N : Nat) (l : List Value) : Bool := List.rec (motive := fun _ => Bool) true (fun v _ ih => Bool.rec (motive := fun _ => Bool) false ih (oldV N v)) l
theorem allOld_ok {σ σ1 : Sg} {N N1 : Nat} (hE : Ext σ σ1 N N1) : ∀ {l cs : List Value}, allOld N l = true → RlL σ1 l cs → RlL σ l cs
  | [], cs, _, hr => by rw [hr.of_nil]; exact .nil σ
  | v :: l, cs, h, hr => by
    obtain ⟨x, cs', rfl, h1, h2⟩ := hr.uncons
    have h' : Bool.rec (motive := fun _ => Bool) false (allOld N l) (oldV N v) = true := h
    cases hv : oldV N v with
    | false => rw [hv] at h'; cases h'
    | true => rw [hv] at h'; exact .cons (oldV_ok hv hE h1) (allOld_ok hE h' h2)

/-- All but two blocks stays as it is. -/
def fen2 (w : World) (bi bj : Nat) : Fen := ⟨w, fun k => k < w.heap.size ∧ k ≠ bi ∧ k ≠ bj, fun _ h => h.1⟩

theorem HR.two (H : HR w0 σ h w) {i j bi ri bj rj : Nat} (hi : σ i = some (bi, ri)) (hj : σ j = some (bj, rj)) (hij : i ≠ j) (li : wrB (h.get i) = true) (lj : wrB (h.get j) = true)
    {oi oj : Ob} (h1 : OR σ w bi ri oi) (h2 : h.get j = some oj) : HR (fen2 w bi bj) σ ((Tr.set .nil (some oi) i).set (some oj) j) w := by
  have hget : ∀ k o, ((Tr.set .nil (some oi) i).set (some oj) j).get k = some o → (k = j ∧ o = oj) ∨ (k = i ∧ o = oi) := by
    intro k o hk
    rw [Tr.get_set] at hk
    by_cases e : k = j
    · rw [if_pos e] at hk; cases hk; exact .inl ⟨e, rfl⟩
    · rw [if_neg e, Tr.get_set] at hk
      by_cases e2 : k = i
      · rw [if_pos e2] at hk; cases hk; exact .inr ⟨e2, rfl⟩
      · rw [if_neg e2] at hk; cases hk
  have hlive : ∀ k, (((Tr.set .nil (some oi) i).set (some oj) j).get k).isSome = true → k = j ∨ k = i := by
    intro k hk
    cases hg : ((Tr.set .nil (some oi) i).set (some oj) j).get k with
    | none => rw [hg] at hk; cases hk
    | some o => rcases hget k o hg with ⟨e, _⟩ | ⟨e, _⟩; exact .inl e; exact .inr e
  refine ⟨⟨rfl, rfl, rfl, Nat.le_refl _, fun _ _ => rfl⟩, H.low, ?_, ?_, ?_⟩
  · intro k b r o hk ho
    rcases hget k o ho with ⟨rfl, rfl⟩ | ⟨rfl, rfl⟩
    · exact H.ob _ _ _ _ hk h2
    · rw [hi] at hk; cases hk; exact h1
  · intro k l b r r' hk hl h3 h4
    rcases hlive k (wrB_live h3) with rfl | rfl <;> rcases hlive l h4 with rfl | rfl
    · rfl
    · exact H.inj _ _ _ _ _ hk hl lj (wrB_live li)
    · exact H.inj _ _ _ _ _ hk hl li (wrB_live lj)
    · rfl
  · intro k b r hk h3 hF
    rcases hlive k (wrB_live h3) with rfl | rfl
    · rw [hj] at hk; cases hk; exact hF.2.2 rfl
    · rw [hi] at hk; cases hk; exact hF.2.1 rfl

theorem HR.back (H : HR w0 σ h w) {i j bi ri bj rj : Nat} (hi : σ i = some (bi, ri)) (hj : σ j = some (bj, rj)) (li : wrB (h.get i) = true) (lj : wrB (h.get j) = true)
    {σ1 : Sg} {h1 : Tr Ob} {w1 : World} {N N1 : Nat} (hE : Ext σ σ1 N N1) (H1 : HR (fen2 w bi bj) σ1 h1 w1) {k bk rk : Nat} (hk : σ1 k = some (bk, rk)) {xs : List Value} {T : TypeId} {z : Nat} (hg : h1.get k = some (.g xs T z))
    (hold : allOld N xs = true) {K : Nat} (hK : σ K = none) : HR w0 (upd σ K (bk, rk)) (((h.set none i).set none j).set (some (.g xs T z)) K) w1 := by
  have hget : ∀ l o, ((h.set none i).set none j).get l = some o → l ≠ i ∧ l ≠ j ∧ h.get l = some o := by
    intro l o hl
    rw [Tr.get_set] at hl
    by_cases e : l = j
    · rw [if_pos e] at hl; cases hl
    · rw [if_neg e, Tr.get_set] at hl
      by_cases e2 : l = i
      · rw [if_pos e2] at hl; cases hl
      · rw [if_neg e2] at hl; exact ⟨e2, e, hl⟩
  have hlive : ∀ l, (((h.set none i).set none j).get l).isSome = true → l ≠ i ∧ l ≠ j ∧ (h.get l).isSome = true := by
    intro l hl
    cases hg : ((h.set none i).set none j).get l with
    | none => rw [hg] at hl; cases hl
    | some o => obtain ⟨e1, e2, e3⟩ := hget l o hg; exact ⟨e1, e2, by rw [e3]; rfl⟩
  have hF : ∀ l b r, σ l = some (b, r) → l ≠ i → l ≠ j → (h.get l).isSome = true → (fen2 w bi bj).F b := by
    intro l b r hl e1 e2 hlv
    exact ⟨H.low l b r hl, fun e => e1 (H.inj i l bi ri r hi (by rw [← e]; exact hl) li hlv).symm, fun e => e2 (H.inj j l bj rj r hj (by rw [← e]; exact hl) lj hlv).symm⟩
  have hwr : ∀ l, wrB (((h.set none i).set none j).get l) = true → l ≠ i ∧ l ≠ j ∧ wrB (h.get l) = true := by
    intro l hl
    cases hg : ((h.set none i).set none j).get l with
    | none => rw [hg] at hl; cases hl
    | some o => obtain ⟨e1, e2, e3⟩ := hget l o hg; rw [hg] at hl; exact ⟨e1, e2, by rw [e3]; exact hl⟩
  have hsz : w.heap.size ≤ w1.heap.size := H1.bel.size
  have hmid : HR w0 σ ((h.set none i).set none j) w1 := by
    refine ⟨⟨H1.bel.os.trans H.bel.os, H1.bel.tape.trans H.bel.tape, H1.bel.output.trans H.bel.output, Nat.le_trans H.bel.size hsz, fun k hk => ?_⟩, ?_, ?_, ?_, ?_⟩
    · refine (H1.bel.block k ⟨Nat.lt_of_lt_of_le (w0.lt k hk) H.bel.size, fun e => H.own i bi ri hi li (e ▸ hk), fun e => H.own j bj rj hj lj (e ▸ hk)⟩).trans (H.bel.block k hk)
    · exact fun l b r hl => Nat.lt_of_lt_of_le (H.low l b r hl) hsz
    · intro l b r o hl ho
      obtain ⟨e1, e2, e3⟩ := hget l o ho
      exact (H.ob l b r o hl e3).mono (SLe.refl σ) (H1.bel.block b (hF l b r hl e1 e2 (by rw [e3]; rfl)))
    · intro l m b r r' hl hm h3 h4
      exact H.inj l m b r r' hl hm (hwr l h3).2.2 (hlive m h4).2.2
    · intro l b r hl h3
      exact H.own l b r hl (hwr l h3).2.2
  have hnF : ¬ (fen2 w bi bj).F bk := H1.own k bk rk hk (by rw [hg]; rfl)
  refine hmid.add hK (H1.low k bk rk hk) ?_ ?_ ?_
  · intro hw0
    refine hnF ⟨Nat.lt_of_lt_of_le (w0.lt bk hw0) H.bel.size, fun e => H.own i bi ri hi li (e ▸ hw0), fun e => H.own j bj rj hj lj (e ▸ hw0)⟩
  · intro l r' hl h3
    obtain ⟨e1, e2, e3⟩ := hlive l h3
    exact hnF (hF l bk r' hl e1 e2 e3)
  · intro σ' hle
    obtain ⟨cs, rest, q1, q2, q3, q4⟩ := H1.ob k bk rk _ hk hg
    exact ⟨cs, rest, (allOld_ok hE hold q1).mono hle, q2, q3, q4⟩

noncomputable def vlistEq (eq : Value → Value → Bool) (l : List Value) : List Value → Bool :=
  List.rec (motive := fun _ => List Value → Bool) (fun r => List.rec (motive := fun _ => Bool) true (fun _ _ _ => false) r)
    (fun x _ ih r => List.rec (motive := fun _ => Bool) false (fun y r' _ => Bool.rec (motive := fun _ => Bool) false (ih r') (eq x y)) r) l
theorem vlistEq_ok {eq : Value → Value → Bool} (he : ∀ x y, eq x y = true → x = y) : ∀ (l r : List Value), vlistEq eq l r = true → l = r
  | [], [], _ => rfl
  | [], y :: r, h => by cases h
  | x :: l, [], h => by cases h
  | x :: l, y :: r, h => by
    have h' : Bool.rec (motive := fun _ => Bool) false (vlistEq eq l r) (eq x y) = true := h
    cases hb : eq x y with
    | false => rw [hb] at h'; cases h'
    | true => rw [hb] at h'; rw [he x y hb, vlistEq_ok he l r h']

/-- What comes out of one case. -/
noncomputable def outOf (q : Value × Tr Ob × Nat) (N : Nat) : Option (Nat × List Value × Nat × Nat) :=
  match q.1 with
  | .slice (some ⟨k, 0, some 0⟩) m _ => match q.2.1.get k with
    | some (.g xs T z) => ocond (allOld N xs) (some (m, xs, T, z))
    | _ => none
  | _ => none
theorem outOf_ok {q : Value × Tr Ob × Nat} {m : Nat} {xs : List Value} {T z : Nat} (h : outOf q N = some (m, xs, T, z)) : ∃ k c, q.1 = .slice (some ⟨k, 0, some 0⟩) m c ∧ q.2.1.get k = some (.g xs T z) ∧ allOld N xs = true := by
  unfold outOf at h
  split at h
  · rename_i k m' c hq
    split at h
    · rename_i hg
      obtain ⟨h3, h4⟩ := ocond_some h
      cases h4
      exact ⟨k, c, hq, hg, h3⟩
    · cases h
  · cases h

noncomputable def mxN (a b : Nat) : Nat := Bool.rec (motive := fun _ => Nat) a b (Nat.ble a b)
theorem mxN_ok (a b : Nat) : a ≤ mxN a b ∧ b ≤ mxN a b := by
  unfold mxN
  cases h : Nat.ble a b with
  | true => exact ⟨Nat.le_of_ble_eq_true h, Nat.le_refl _⟩
  | false =>
    refine ⟨Nat.le_refl _, ?_⟩
    rcases Nat.lt_or_ge b a with h1 | h1
    · exact Nat.le_of_lt h1
    · rw [Nat.ble_eq_true_of_le h1] at h; cases h

noncomputable def evSplit (P : Program) (veq : Value → Value → Bool) (call : CallF) (dr : DrF) (f : Nat) (args : List Value) (h : Tr Ob) (N : Nat) : OpR :=
  match args with
  | [.slice (some ⟨i, 0, some 0⟩) n _, y, .slice (some ⟨j, oj, sj⟩) nj cj] => ocond (notB (Nat.beq i j)) (match h.get i, h.get j with
    | some (.g xs T z), some obj => ocond (wrB (some obj)) (ocond (Nat.beq (len xs) (Nat.mul n z)) (ocond (Nat.ble 1 z)
        (obind (evFn P call dr f [.slice (some ⟨i, 0, none⟩) n n, y, .slice (some ⟨j, oj, sj⟩) nj cj] ((Tr.set .nil (some (.c xs T)) i).set (some obj) j) N) fun a =>
         fN (Nat.succ n) fun n1 => obind (evFn P call dr f [.slice (some ⟨i, 0, some 0⟩) n n1, y, .slice (some ⟨j, oj, sj⟩) nj cj] ((Tr.set .nil (some (.g (app xs (reps [.chan none] z)) T z)) i).set (some obj) j) N) fun b =>
         obind (outOf a N) fun oa => obind (outOf b N) fun ob => ocond (Nat.beq oa.1 ob.1) (ocond (vlistEq veq oa.2.1 ob.2.1) (ocond (Nat.beq oa.2.2.1 ob.2.2.1) (ocond (Nat.beq oa.2.2.2 ob.2.2.2)
          (fN (mxN a.2.2 b.2.2) fun K => some (.slice (some ⟨K, 0, some 0⟩) oa.1 0, ((h.set none i).set none j).set (some (.g oa.2.1 oa.2.2.1 oa.2.2.2)) K, Nat.succ K))))))))
    | _, _ => none)
  | _ => none

theorem evSplit_ok {call : CallF} (hcall : CallOk P call) {dr : DrF} (hdr : DrawOk P dr) {veq : Value → Value → Bool} (hveq : ∀ x y, veq x y = true → x = y) {f : Nat} {args : List Value} {v : Value} {h' : Tr Ob} {N' : Nat} (hr : evSplit P veq call dr f args h N = some (v, h', N')) :
    callable P f ∧ N ≤ N' ∧ ∀ w0 σ w args', HR w0 σ h w → RlL σ args args' → Fresh σ N N' →
      Calls P f ⟨args'⟩ w fun e w' => ∃ v', e = .returned v' ∧ ∃ σ', Ext σ σ' N N' ∧ HR w0 σ' h' w' ∧ Rl σ' v v' := by
  unfold evSplit at hr
  split at hr
  · rename_i i n c0 y j oj sj nj cj
    obtain ⟨hij, hr⟩ := ocond_some hr
    have hij' : i ≠ j := fun e => by have := notB_ok hij; rw [e, Nat.beq_refl] at this; cases this
    split at hr
    · rename_i xs T z obj hgi hgj
      obtain ⟨hwj, hr⟩ := ocond_some hr
      obtain ⟨hlx, y1⟩ := ocond_some hr
      obtain ⟨hz1, y2⟩ := ocond_some y1
      obtain ⟨⟨va, ha, Na⟩, hA, y3⟩ := obind_some y2
      rw [fN_eq] at y3
      obtain ⟨⟨vb, hb, Nb⟩, hB, y4⟩ := obind_some y3
      obtain ⟨⟨ma, xa, Ta, za⟩, hoa, y5⟩ := obind_some y4
      obtain ⟨⟨mb, xb, Tb, zb⟩, hob, y6⟩ := obind_some y5
      obtain ⟨e1, y7⟩ := ocond_some y6
      obtain ⟨e2, y8⟩ := ocond_some y7
      obtain ⟨e3, y9⟩ := ocond_some y8
      obtain ⟨e4, y10⟩ := ocond_some y9
      rw [fN_eq] at y10
      clear hr y1 y2 y3 y4 y5 y6 y7 y8 y9
      have d1 : ma = mb := Nat.eq_of_beq_eq_true e1
      have d2 : xa = xb := vlistEq_ok hveq _ _ e2
      have d3 : Ta = Tb := Nat.eq_of_beq_eq_true e3
      have d4 : za = zb := Nat.eq_of_beq_eq_true e4
      clear e1 e2 e3 e4
      dsimp only at y10
      subst d1; subst d2; subst d3; subst d4
      obtain ⟨ka, ca, qa1, qa2, qa3⟩ := outOf_ok hoa
      obtain ⟨kb, cb, qb1, qb2, qb3⟩ := outOf_ok hob
      dsimp only at qa1 qa2 qb1 qb2
      subst qa1; subst qb1
      obtain ⟨hmx1, hmx2⟩ := mxN_ok Na Nb
      obtain ⟨hcal, gA1, gA2⟩ := evFn_ok hcall hdr hA
      obtain ⟨_, gB1, gB2⟩ := evFn_ok hcall hdr hB
      generalize hKe : mxN Na Nb = K at y10 hmx1 hmx2
      cases y10
      refine ⟨hcal, by omega, fun w0 σ w args' H hl hf => ?_⟩
      obtain ⟨x', r1, rfl, p1, p2⟩ := hl.uncons
      obtain ⟨y', r2, rfl, p3, p4⟩ := p2.uncons
      obtain ⟨v', r3, rfl, p5, p6⟩ := p4.uncons
      rw [p6.of_nil]
      obtain ⟨bj, rj, o2, n2, c2, hj, hv'⟩ := blkOf_some (show blkOf (.slice (some ⟨j, oj, sj⟩) nj cj) = some j from rfl) p5
      have hlx' := Nat.eq_of_beq_eq_true hlx
      rw [len_eq] at hlx'
      have hz1' : 1 ≤ z := Nat.le_of_ble_eq_true hz1
      have li : wrB (h.get i) = true := by rw [hgi]; rfl
      have lj : wrB (h.get j) = true := by rw [hgj]; exact hwj
      have hKσ : σ K = none := hf K (by omega) (Nat.lt_succ_self _)
      -- how it ends in either case
      have fin : ∀ {σ1 : Sg} {h1 : Tr Ob} {w1 : World} {N1 k c : Nat} {u : Value} {bi ri : Nat}, σ i = some (bi, ri) → N ≤ N1 → N1 ≤ K → Ext σ σ1 N N1 → HR (fen2 w bi bj) σ1 h1 w1 → h1.get k = some (.g xa Ta za) → allOld N xa = true → Rl σ1 (.slice (some ⟨k, 0, some 0⟩) ma c) u →
          ∃ σ', Ext σ σ' N (K + 1) ∧ HR w0 σ' (((h.set none i).set none j).set (some (.g xa Ta za)) K) w1 ∧ Rl σ' (.slice (some ⟨K, 0, some 0⟩) ma 0) u := by
        intro σ1 h1 w1 N1 k c u bi ri hi t1 t2 hE H1 hg hold hu
        cases hu
        · rename_i hp; simp [plain] at hp
        rename_i bk rk hk hle hcc
        refine ⟨upd σ K (bk, rk), ?_, H.back hi hj li lj hE H1 hk hg hold hKσ, .sx (upd_same _ _ _) hle (by omega)⟩
        intro l hl
        exact upd_other (by omega)
      cases p1
      · rename_i hp; simp [plain] at hp
      rename_i bi ri hi hle hcc
      have hle' : 0 + n ≤ ri := hle
      obtain ⟨cs, rest, s1, s2, s3, s4⟩ := H.ob i bi ri _ hi hgi
      have hcs : cs.length = n * z := by rw [← s1.len]; exact hlx'
      by_cases hrn : ri = n
      · -- no room
        have hrest : rest = [] := by
          have : rest.length = 0 := by rw [List.length_append, hcs, hrn] at s3; omega
          exact List.length_eq_zero_iff.1 this
        have HA := H.two hi hj hij' li lj (oi := .c xs T) ⟨cs, s1, by rw [s2, hrest, List.append_nil]⟩ hgj
        refine Calls.mono (gA2 _ σ w [.slice (some ⟨bi, 0, none⟩) n (ri - 0), y', v'] HA ?_ (fun l h1 h2 => hf l h1 (by omega))) ?_
        · refine .cons ?_ (.cons p3 (.cons p5 (.nil σ)))
          rw [hrn]
          exact .sl hi
        · rintro e w1 ⟨u, rfl, σ1, t1, t2, t3⟩
          exact ⟨u, rfl, fin hi gA1 hmx1 t1 t2 qa2 qa3 t3⟩
      · -- room for one
        have hroom : n + 1 ≤ ri := by omega
        have hrl : z ≤ rest.length := by
          have h1 : (n + 1) * z ≤ ri * z := Nat.mul_le_mul_right _ hroom
          rw [List.length_append, hcs] at s3
          rw [Nat.add_mul] at h1
          omega
        have hfl : ∀ (l : List Value), flat l = true → ∀ m, m ≤ l.length → RlL σ (reps [.chan none] m) (l.take m) := by
          intro l hl m
          induction m generalizing l with
          | zero => intro _; rw [List.take_zero]; exact .nil σ
          | succ m ih =>
            intro hm
            cases l with
            | nil => simp at hm
            | cons u l =>
              unfold flat at hl
              rw [List.all_cons, Bool.and_eq_true] at hl
              rw [reps_succ, List.take_succ_cons]
              exact .cons (.an hl.1) (ih l hl.2 (by simpa using hm))
        have HB := H.two hi hj hij' li lj (oi := .g (app xs (reps [.chan none] z)) T z) ⟨cs ++ rest.take z, rest.drop z, by rw [app_eq]; exact s1.append (hfl rest s4 z hrl),
          by rw [s2, List.append_assoc, List.take_append_drop], by rw [List.append_assoc, List.take_append_drop]; exact s3, by unfold flat at s4 ⊢; rw [List.all_eq_true] at s4 ⊢; exact fun x hx => s4 x (List.mem_of_mem_drop hx)⟩ hgj
        refine Calls.mono (gB2 _ σ w [.slice (some ⟨bi, 0, none⟩) n (ri - 0), y', v'] HB ?_ (fun l h1 h2 => hf l h1 (by omega))) ?_
        · exact .cons (.sx hi hle (by omega)) (.cons p3 (.cons p5 (.nil σ)))
        · rintro e w1 ⟨u, rfl, σ1, t1, t2, t3⟩
          exact ⟨u, rfl, fin hi gB1 hmx2 t1 t2 qb2 qb3 t3⟩
    · cases hr
  · cases hr


/-! ### The evaluator -/
noncomputable def noBody (P : Program) (f : Nat) : Bool := match P.funcs[f]? with
  | some fn => isNone' fn.body
  | none => false
noncomputable def evAny (P : Program) (ih : CallF) (dr : DrF) (fv : Value) (args : List Value) (h : Tr Ob) (N : Nat) : OpR :=
  match fv with
  | .func (.func f) ⟨fs⟩ ⟨cs⟩ => Bool.rec (motive := fun _ => OpR) (oor (evFn P ih dr f (app fs (app args cs)) h N) (evSplit P (valEq 9) ih dr f (app fs (app args cs)) h N)) (ocond (Nat.beq (len args) 2) (evOver P f (app fs (app args cs)) h N)) (noBody P f)
  | .func (.yield l) ⟨[]⟩ ⟨[]⟩ => evRound P ih dr l args h N
  | _ => none
noncomputable def ev (P : Program) (drw : CallF → DrF) (d : Nat) : CallF :=
  Nat.rec (motive := fun _ => CallF) (fun _ _ _ _ => none) (fun _ ih fv args h N => evAny P ih (drw ih) fv args h N) d

theorem evAny_ok {ih' : CallF} {dr : DrF} (ih : CallOk P ih') (hdr : DrawOk P dr) : CallOk P (evAny P ih' dr) := by
    intro fv args h N v h' N' hr'
    unfold evAny at hr'
    split at hr'
    · rename_i f fs cs
      rw [app_eq, app_eq] at hr'
      cases hnb : noBody P f with
      | true =>
        rw [hnb] at hr'
        obtain ⟨hl2, hr2⟩ := ocond_some (show ocond (Nat.beq (len args) 2) (evOver P f (fs ++ (args ++ cs)) h N) = some (v, h', N') from hr')
        clear hr'
        have hl2 := Nat.eq_of_beq_eq_true hl2
        rw [len_eq] at hl2
        obtain ⟨rfl, rfl, rfl, g2⟩ := evOver_ok hr2
        refine ⟨Nat.le_refl _, fun w0 σ w fv' args' H hfv ha hf => ?_⟩
        cases hfv
        · rename_i hp; simp [plain] at hp
        rename_i gs ds h3 h4 h1 h2
        have hcl := g2 w0 σ w _ H ((RlL.mk h3 h4).append (ha.append (RlL.mk h1 h2)))
        refine ⟨_, ?_, .inl ⟨.bool false, rfl, ⟨σ, .refl _ _ _, H, .sc rfl⟩, ha.len.symm.trans hl2⟩⟩
        simp only [Deferred.ofValue, Sem.run_bind, Sem.run_pure, Result.andThen_ok, invoke]
        rw [← hcl]
        congr 2
        apply Array.ext'
        simp
      | false =>
      rw [hnb] at hr'
      have hr2 : oor (evFn P ih' dr f (fs ++ (args ++ cs)) h N) (evSplit P (valEq 9) ih' dr f (fs ++ (args ++ cs)) h N) = some (v, h', N') := hr'
      clear hr'
      have hboth : callable P f ∧ N ≤ N' ∧ ∀ w0 σ w args', HR w0 σ h w → RlL σ (fs ++ (args ++ cs)) args' → Fresh σ N N' →
          Calls P f ⟨args'⟩ w fun e w' => ∃ v', e = .returned v' ∧ ∃ σ', Ext σ σ' N N' ∧ HR w0 σ' h' w' ∧ Rl σ' v v' := by
        rcases oor_some hr2 with hr3 | hr3
        · exact evFn_ok ih hdr hr3
        · exact evSplit_ok ih hdr (valEq_ok 9) hr3
      obtain ⟨hcal, g1, g2⟩ := hboth
      refine ⟨g1, fun w0 σ w fv' args' H hfv ha hf => ?_⟩
      cases hfv
      · rename_i hp; simp [plain] at hp
      rename_i gs ds h3 h4 h1 h2
      have hcl := g2 w0 σ w _ H ((RlL.mk h3 h4).append (ha.append (RlL.mk h1 h2))) hf
      refine ⟨_, ?_, .inr (.inl ⟨f, _, rfl, hcl⟩)⟩
      have := run_callee (w := w) (args := (⟨gs ++ (args' ++ ds)⟩ : Array Value)) hcal
      simp only [Deferred.ofValue, Sem.run_bind, Sem.run_pure, Result.andThen_ok, invoke]
      rw [← this]
      congr 2
      apply Array.ext'
      simp
    · rename_i l
      obtain ⟨g1, g2⟩ := evRound_ok ih hdr hr'
      refine ⟨g1, fun w0 σ w fv' args' H hfv ha hf => ?_⟩
      cases hfv
      · rename_i hp; simp [plain] at hp
      rename_i b rr hσ
      obtain ⟨fn, tm, asg, body, q1, q2⟩ := g2 w0 σ w b rr args' H hσ ha hf
      refine ⟨_, ?_, .inr (.inr ⟨⟨b, rfl⟩, b, fn, tm, asg, body, rfl, q2⟩)⟩
      simp only [Deferred.ofValue, Sem.run_bind, Sem.run_pure, Result.andThen_ok, invoke]
      rw [← q1]
      congr 2
      apply Array.ext'
      simp
    · cases hr'

theorem ev_ok {drw : CallF → DrF} (hdr : ∀ call, CallOk P call → DrawOk P (drw call)) : ∀ d, CallOk P (ev P drw d)
  | 0 => by intro fv args h N v h' N' hr; cases hr
  | d + 1 => evAny_ok (ev_ok hdr d) (hdr _ (ev_ok hdr d))

/-- A closed call: what the evaluator says holds in whatever world. -/
theorem ev_closed {drw : CallF → DrF} (hdr : ∀ call, CallOk P call → DrawOk P (drw call)) {d f : Nat} {v : Value} {h' : Tr Ob} {N' : Nat} (hr : ev P drw d (.func (.func f) ⟨[]⟩ ⟨[]⟩) [] .nil 0 = some (v, h', N')) (hv : plain v = true) (w : World) :
    Calls P f #[] w fun e w' => e = .returned v ∧ Below w.heap.size w w' := by
  cases d with
  | zero => cases hr
  | succ d =>
    have hr0 : Bool.rec (motive := fun _ => OpR) (oor (evFn P (ev P drw d) (drw (ev P drw d)) f (app [] (app [] [])) .nil 0) (evSplit P (valEq 9) (ev P drw d) (drw (ev P drw d)) f (app [] (app [] [])) .nil 0)) (ocond (Nat.beq (len ([] : List Value)) 2) (evOver P f (app [] (app [] [])) .nil 0)) (noBody P f) = some (v, h', N') := hr
    have hr' : evFn P (ev P drw d) (drw (ev P drw d)) f (app [] (app [] [])) .nil 0 = some (v, h', N') := by
      cases hnb : noBody P f with
      | true => rw [hnb] at hr0; cases hr0
      | false =>
        rw [hnb] at hr0
        rcases oor_some (show oor _ _ = some (v, h', N') from hr0) with h1 | h1
        · exact h1
        · cases h1
    have ih := ev_ok hdr d
    obtain ⟨_, _, g2⟩ := evFn_ok ih (hdr _ ih) hr'
    have H : HR (.all w) (fun _ => none) .nil w := ⟨Kept.all _, (fun i b r h => by cases h), (fun i b r o h => by cases h), (fun i j b r r' h => by cases h), (fun i b r h => by cases h)⟩
    refine (g2 (.all w) (fun _ => none) w [] H (.nil _) (fun i _ _ => rfl)).mono ?_
    rintro e w' ⟨v', rfl, σ', _, H', hrl⟩
    exact ⟨by rw [hrl.plain_eq hv], H'.bel.below⟩

end
end Go.Ev
end

section
namespace Go.Ev
open Go.RowKit Go.Sx
set_option linter.unusedVariables false
set_option linter.unusedSimpArgs false

theorem HR.congr {w0 : Fen} {w : World} {σ : Sg} {h h' : Tr Ob} (H : HR w0 σ h w) (hh : ∀ i b r, σ i = some (b, r) → h'.get i = h.get i) : HR w0 σ h' w :=
  ⟨H.bel, H.low, fun i b r o hi ho => H.ob i b r o hi (by rw [← hh i b r hi]; exact ho), fun i j b r r' hi hj h1 h2 => H.inj i j b r r' hi hj (by rw [← hh i b r hi]; exact h1) (by rw [← hh j b r' hj]; exact h2), fun i b r hi h1 => H.own i b r hi (by rw [← hh i b r hi]; exact h1)⟩

/-! ### Operations that change nothing that lies there -/
section
variable {P : Program} {w0 : Fen} {w : World} {σ : Sg} {h : Tr Ob} {e : Tr Value} {n N nt : Nat} {a : Act} {o : Oper}

abbrev PasR := Option (Value × Option Ob)
noncomputable def newOf (N : Nat) (r : OpR) : PasR := obind r fun q => some (q.1, q.2.1.get N)
noncomputable def evPas (P : Program) (o : Oper) (e : Tr Value) (h : Tr Ob) (N : Nat) : PasR :=
  match o.op with
  | .alloc T => obind (zer P T) fun z => some (.pointer (some ⟨N, 0, none⟩), some (.c z T))
  | .box T x => obind (evo e x) fun v => some (.pointer (some ⟨N, 0, none⟩), some (.c (cel v) T))
  | .build T ⟨ps⟩ => obind (evParts e ps) fun qs => obind (evBuild P T qs) fun v => some (v, none)
  | .buildSlice T m ⟨ps⟩ => obind (evParts e ps) fun qs => newOf N (evBuildSlice P T m qs h N)
  | .makeSlice T x y => obind (evo e x) fun l => obind (evo e y) fun c => newOf N (evMakeSlice P T l c h N)
  | .makeMap _ none => some (.map (some N), some (.m [] 0))
  | .lookup T x y ok => obind (evo e x) fun m => obind (evo e y) fun k => obind (evLookup P T m k ok h) fun v => some (v, none)
  | _ => obind (evPure P o e h) fun v => some (v, none)

theorem evPas_none (H : HR w0 σ h w) (hE : ER σ e n a.tmps) {v : Value} (hr : evPas P o e h N = some (v, none)) : VOk P σ o a w v := by
  unfold evPas at hr
  split at hr
  · obtain ⟨z, hz, hr⟩ := obind_some hr
    cases hr
  · obtain ⟨z, hz, hr⟩ := obind_some hr
    cases hr
  · rename_i T ps ho
    obtain ⟨qs, hq, hr⟩ := obind_some hr
    obtain ⟨u, hu, hr⟩ := obind_some hr
    cases hr
    obtain ⟨us, h1, h2⟩ := evParts_ok hE hq
    obtain ⟨x, h3, h4⟩ := evBuild_ok (w := w) (parts := (⟨ps⟩ : Array (Nat × Operand)).map fun (i, x) => (i, a.eval x)) hu h1 (by rw [← h2]; simp)
    exact ⟨x, h3, by simp only [execOp, ho, Sem.run_bind, h4, Sem.run_pure, Result.andThen_ok]⟩
  · obtain ⟨qs, hq, hr⟩ := obind_some hr
    obtain ⟨⟨v1, h1, N1⟩, hr1, hr2⟩ := obind_some hr
    exfalso
    obtain ⟨el, he, hr3⟩ := obind_some hr1
    obtain ⟨zz, hz, hr4⟩ := obind_some hr3
    obtain ⟨_, hr5⟩ := ocond_some hr4
    obtain ⟨cs, _, hr6⟩ := obind_some hr5
    cases hr6
    have hr2' : (some (Value.slice (some ⟨N, 0, none⟩) _ _, (h.set (some (Ob.c cs el)) N).get N) : PasR) = some (v, none) := hr2
    rw [Tr.get_set, if_pos rfl] at hr2'
    cases hr2'
  · obtain ⟨l, hl, hr⟩ := obind_some hr
    obtain ⟨c, hc, hr⟩ := obind_some hr
    obtain ⟨⟨v1, h1, N1⟩, hr1, hr2⟩ := obind_some hr
    exfalso
    obtain ⟨_, _, hr3⟩ := obind_some hr1
    obtain ⟨_, _, hr4⟩ := obind_some hr3
    obtain ⟨_, _, hr5⟩ := obind_some hr4
    obtain ⟨_, _, hr6⟩ := obind_some hr5
    obtain ⟨_, _, hr7⟩ := obind_some hr6
    obtain ⟨_, hr8⟩ := ocond_some hr7
    obtain ⟨_, hr9⟩ := ocond_some hr8
    obtain ⟨_, hr10⟩ := ocond_some hr9
    cases hr10
    have hr2' : (some (Value.slice (some ⟨N, 0, none⟩) _ _, (h.set (some (Ob.c _ _)) N).get N) : PasR) = some (v, none) := hr2
    rw [Tr.get_set, if_pos rfl] at hr2'
    cases hr2'
  · cases hr
  · rename_i T x y ok ho
    obtain ⟨m, hm, hr⟩ := obind_some hr
    obtain ⟨k, hk, hr⟩ := obind_some hr
    obtain ⟨u, hu, hr⟩ := obind_some hr
    cases hr
    obtain ⟨x', h3, h4⟩ := evLookup_ok H hu (evo_ok hE hm) (evo_ok hE hk)
    exact ⟨x', h3, by simp only [execOp, ho, Sem.run_bind, h4, Sem.run_pure, Result.andThen_ok]⟩
  · obtain ⟨u, hu, hr⟩ := obind_some hr
    cases hr
    exact evPure_ok H hE hu

theorem evPas_some (H : HR w0 σ h w) (hE : ER σ e n a.tmps) (hf : Fresh σ N (N + 1)) {v : Value} {ob : Ob} (hr : evPas P o e h N = some (v, some ob)) : EOk P w0 σ N o a w v (h.set (some ob) N) (N + 1) := by
  unfold evPas at hr
  split at hr
  · rename_i T ho
    obtain ⟨z, hz, hr⟩ := obind_some hr
    cases hr
    exact evAlloc_ok H hf ho hz
  · rename_i T x ho
    obtain ⟨u, hx, hr⟩ := obind_some hr
    cases hr
    exact evBox_ok H hE hf ho hx
  · obtain ⟨qs, hq, hr⟩ := obind_some hr
    obtain ⟨u, hu, hr⟩ := obind_some hr
    cases hr
  · rename_i T m ps ho
    obtain ⟨qs, hq, hr⟩ := obind_some hr
    obtain ⟨⟨v1, h1, N1⟩, hr1, hr2⟩ := obind_some hr
    obtain ⟨hN, hok⟩ := evBuildSlice_ok H hE hf ho hq hr1
    have hr2' : (some (v1, h1.get N) : PasR) = some (v, some ob) := hr2
    obtain ⟨el, he, hr3⟩ := obind_some hr1
    obtain ⟨zz, hz, hr4⟩ := obind_some hr3
    obtain ⟨_, hr5⟩ := ocond_some hr4
    obtain ⟨cs, _, hr6⟩ := obind_some hr5
    cases hr6
    rw [Tr.get_set, if_pos rfl] at hr2'
    cases hr2'
    exact hok
  · rename_i T x y ho
    obtain ⟨l, hl, hr⟩ := obind_some hr
    obtain ⟨c, hc, hr⟩ := obind_some hr
    obtain ⟨⟨v1, h1, N1⟩, hr1, hr2⟩ := obind_some hr
    obtain ⟨hN, hok⟩ := evMakeSlice_ok H hf ho (evo_ok hE hl) (evo_ok hE hc) hr1
    have hr2' : (some (v1, h1.get N) : PasR) = some (v, some ob) := hr2
    obtain ⟨_, _, hr3⟩ := obind_some hr1
    obtain ⟨_, _, hr4⟩ := obind_some hr3
    obtain ⟨_, _, hr5⟩ := obind_some hr4
    obtain ⟨_, _, hr6⟩ := obind_some hr5
    obtain ⟨_, _, hr7⟩ := obind_some hr6
    obtain ⟨_, hr8⟩ := ocond_some hr7
    obtain ⟨_, hr9⟩ := ocond_some hr8
    obtain ⟨_, hr10⟩ := ocond_some hr9
    cases hr10
    rw [Tr.get_set, if_pos rfl] at hr2'
    cases hr2'
    exact hok
  · rename_i T ho
    cases hr
    exact evMakeMap_ok H hf ho
  · obtain ⟨m, hm, hr⟩ := obind_some hr
    obtain ⟨k, hk, hr⟩ := obind_some hr
    obtain ⟨u, hu, hr⟩ := obind_some hr
    cases hr
  · obtain ⟨u, hu, hr⟩ := obind_some hr
    cases hr

theorem evPas_defer {r : Value × Option Ob} (hr : evPas P o e h N = some r) : ∀ c, o.op ≠ .defer c := by
  intro c hc
  unfold evPas at hr
  rw [hc] at hr
  obtain ⟨u, hu, _⟩ := obind_some hr
  unfold evPure at hu
  rw [hc] at hu
  cases hu
theorem evPure_defer {r : Value} (hr : evPure P o e h = some r) : ∀ c, o.op ≠ .defer c := by
  intro c hc
  unfold evPure at hr
  rw [hc] at hr
  cases hr
end

/-! ### The plan of a region -/
inductive Kd where
  | skip
  | pure
  | heap
  | eff
structure Tk where
  i : Nat
  o : Oper
  anc : Nat
  R : Tr Value
  v : Value
  lo : Nat
  hi : Nat
  st : Nat
  kd : Kd
  rk : Nat

def Tk.isE (τ : Tk) : Prop := τ.kd = .eff

/-- All that is asked of a region's operations, gone through in one order, so that they may go in any. -/
structure Plan (P : Program) (call : CallF) (nt : Nat) (ops : Array Oper) (e0 : Tr Value) (h0 : Tr Ob) (N0 : Nat) (T : List Tk) (Hs : Nat → Tr Ob) (m : Nat) (e' : Tr Value) (N' : Nat) : Prop where
  all : ∀ i, i < ops.size → ∃ τ ∈ T, τ.i = i
  uniq : ∀ τ ∈ T, ∀ τ' ∈ T, τ.i = τ'.i → τ = τ'
  op : ∀ τ ∈ T, ops[τ.i]? = some τ.o
  edge : ∀ τ ∈ T, ∀ g ∈ τ.o.after, Region.binds .any g = true → τ.anc.testBit g.on = true
  anc : ∀ τ ∈ T, ∀ j, τ.anc.testBit j = true → ∃ g ∈ τ.o.after, Region.binds .any g = true ∧ (j = g.on ∨ ∃ τ' ∈ T, τ'.i = g.on ∧ τ'.anc.testBit j = true)
  rank : ∀ τ ∈ T, ∀ j, τ.anc.testBit j = true → ∃ τ' ∈ T, τ'.i = j ∧ τ'.rk < τ.rk
  effs : ∀ τ ∈ T, ∀ k, k < τ.st → ∃ τe ∈ T, τe.isE ∧ τe.st = k ∧ τ.anc.testBit τe.i = true
  effu : ∀ τ ∈ T, ∀ τ' ∈ T, τ.isE → τ'.isE → τ.st = τ'.st → τ = τ'
  effm : ∀ τ ∈ T, (τ.isE → τ.st < m) ∧ τ.st ≤ m
  effx : ∀ k, k < m → ∃ τ ∈ T, τ.isE ∧ τ.st = k
  num : N0 ≤ N' ∧ ∀ τ ∈ T, N0 ≤ τ.lo ∧ τ.lo ≤ τ.hi ∧ τ.hi ≤ N'
  disj : ∀ τ ∈ T, ∀ τ' ∈ T, τ.i ≠ τ'.i → τ.hi ≤ τ'.lo ∨ τ'.hi ≤ τ.lo
  dst : ∀ τ ∈ T, ∀ t, τ.o.dst = some t → t < nt ∧ ∀ τ' ∈ T, τ'.o.dst = some t → τ'.i = τ.i
  env : ∀ τ ∈ T, ∀ t v, τ.R.get t = some v → (∃ τ' ∈ T, τ'.o.dst = some t ∧ τ'.v = v ∧ τ.anc.testBit τ'.i = true) ∨ (e0.get t = some v ∧ ∀ τ' ∈ T, τ'.o.dst = some t → τ'.anc.testBit τ.i = true)
  want : ∀ τ ∈ T, evWants ops τ.R τ.o = some (match τ.kd with | .skip => false | _ => true)
  skip : ∀ τ ∈ T, τ.kd = .skip → τ.v = undef
  pure : ∀ τ ∈ T, τ.kd = .pure → evPure P τ.o τ.R .nil = some τ.v
  heap : ∀ τ ∈ T, τ.kd = .heap → ∀ k, τ.st ≤ k → k ≤ m → (∀ τe ∈ T, τe.isE → τe.st < k → τe.anc.testBit τ.i = false) →
    ∃ ob, evPas P τ.o τ.R (Hs k) τ.lo = some (τ.v, ob) ∧ (∀ o, ob = some o → (Hs k).get τ.lo = some o ∧ τ.hi = τ.lo + 1)
  eff : ∀ τ ∈ T, τ.isE → ∃ hx, evStep P call τ.o τ.R (Hs τ.st) τ.lo = some (τ.v, hx, τ.hi) ∧ ∀ id, hx.get id = (Hs (τ.st + 1)).get id ∨ ∃ τ' ∈ T, τ'.st = τ.st + 1 ∧ τ'.lo ≤ id ∧ id < τ'.hi
  beg : ∀ id, h0.get id = (Hs 0).get id ∨ ∃ τ ∈ T, τ.lo ≤ id ∧ id < τ.hi
  fin : ∀ t v, e'.get t = some v → (∃ τ ∈ T, τ.o.dst = some t ∧ τ.v = v) ∨ (e0.get t = some v ∧ ∀ τ ∈ T, τ.o.dst ≠ some t)

/-- In the middle of a region: some operations are done. -/
structure Mid (w0 : Fen) (σ0 : Sg) (nt : Nat) (ops : Array Oper) (e0 : Tr Value) (N0 N' : Nat) (T : List Tk) (Hs : Nat → Tr Ob) (m : Nat) (ds : List Deferred) (D : Array Bool) (σ : Sg) (k : Nat) (a : Act) (w : World) : Prop where
  size : D.size = ops.size
  km : k ≤ m
  cnt : ∀ τ ∈ T, τ.isE → (D.getD τ.i false = true ↔ τ.st < k)
  mem : HR w0 σ (Hs k) w
  closed : ∀ τ ∈ T, D.getD τ.i false = true → ∀ g ∈ τ.o.after, Region.binds .any g = true → D.getD g.on false = true
  slots : ∀ τ ∈ T, D.getD τ.i false = true → ∀ t, τ.o.dst = some t → ∃ x, Rl σ τ.v x ∧ a.tmps[t]? = some x
  olds : ∀ t v, e0.get t = some v → (∀ τ ∈ T, D.getD τ.i false = true → τ.o.dst ≠ some t) → ∃ x, Rl σ v x ∧ a.tmps[t]? = some x
  tsize : a.tmps.size = nt
  defers : a.defers = ds
  ext : Ext σ0 σ N0 N'
  fresh : ∀ τ ∈ T, D.getD τ.i false = false → Fresh σ τ.lo τ.hi

section
variable {P : Program} {call : CallF} {w0 : Fen} {w : World} {σ0 σ : Sg} {nt N0 N' m k : Nat} {ops : Array Oper} {e0 e' : Tr Value} {h0 : Tr Ob} {T : List Tk} {Hs : Nat → Tr Ob} {ds : List Deferred} {D : Array Bool} {a : Act}

theorem Plan.anc_done (p : Plan P call nt ops e0 h0 N0 T Hs m e' N') (M : Mid w0 σ0 nt ops e0 N0 N' T Hs m ds D σ k a w) : ∀ τ ∈ T, (∀ g ∈ τ.o.after, Region.binds .any g = true → D.getD g.on false = true) →
    ∀ j, τ.anc.testBit j = true → D.getD j false = true := by
  have key : ∀ n, ∀ τ ∈ T, τ.rk = n → (∀ g ∈ τ.o.after, Region.binds .any g = true → D.getD g.on false = true) → ∀ j, τ.anc.testBit j = true → D.getD j false = true := by
    intro n
    induction n using Nat.strongRecOn with
    | _ n ih =>
      intro τ hτ hn hg j hj
      obtain ⟨g, hgm, hgb, hjg⟩ := p.anc τ hτ j hj
      rcases hjg with rfl | ⟨τ', hτ', hi, hj'⟩
      · exact hg g hgm hgb
      · obtain ⟨τ2, h1, h2, h3⟩ := p.rank τ hτ g.on (p.edge τ hτ g hgm hgb)
        have := p.uniq τ2 h1 τ' hτ' (by rw [h2, hi])
        subst this
        refine ih τ2.rk (by rw [← hn]; exact h3) τ2 hτ' rfl ?_ j hj'
        exact M.closed τ2 hτ' (by rw [hi]; exact hg g hgm hgb)
  intro τ hτ hg
  exact key _ τ hτ rfl hg

theorem getD_set {D : Array Bool} {i j : Nat} (hi : i < D.size) : (D.setIfInBounds i true).getD j false = if j = i then true else D.getD j false := by
  simp only [Array.getD_eq_getD_getElem?]
  by_cases e : j = i
  · subst e; simp [hi]
  · rw [if_neg e, Array.getElem?_setIfInBounds_ne (Ne.symm e)]

/-- The slots that an operation looks at. -/
theorem Plan.er (p : Plan P call nt ops e0 h0 N0 T Hs m e' N') (M : Mid w0 σ0 nt ops e0 N0 N' T Hs m ds D σ k a w) {τ : Tk} (hτ : τ ∈ T) (hD : D.getD τ.i false = false) (hg : ∀ g ∈ τ.o.after, Region.binds .any g = true → D.getD g.on false = true) : ER σ τ.R nt a.tmps := by
  refine ⟨M.tsize, fun t v ht => ?_⟩
  rcases p.env τ hτ t v ht with ⟨τ', h1, h2, h3, h4⟩ | ⟨h1, h2⟩
  · subst h3
    exact M.slots τ' h1 (p.anc_done M τ hτ hg _ h4) t h2
  · refine M.olds t v h1 (fun τ' h3 h4 h5 => ?_)
    have := p.anc_done M τ' h3 (M.closed τ' h3 h4) _ (h2 τ' h3 h5)
    rw [hD] at this
    cases this

/-- One operation more is done. -/
theorem Mid.step (p : Plan P call nt ops e0 h0 N0 T Hs m e' N') (M : Mid w0 σ0 nt ops e0 N0 N' T Hs m ds D σ k a w) {τ : Tk} (hτ : τ ∈ T) (hD : D.getD τ.i false = false) (hg : ∀ g ∈ τ.o.after, Region.binds .any g = true → D.getD g.on false = true)
    {σ' : Sg} {k' : Nat} {x : Value} {w' : World} (hext : Ext σ σ' τ.lo τ.hi) (hx : Rl σ' τ.v x) (hmem : HR w0 σ' (Hs k') w') (hk' : k' ≤ m) (hk : (τ.isE ∧ τ.st = k ∧ k' = k + 1) ∨ (¬ τ.isE ∧ k' = k)) :
    Mid w0 σ0 nt ops e0 N0 N' T Hs m ds (D.setIfInBounds τ.i true) σ' k' (a.put τ.o.dst x) w' := by
  have hi : τ.i < D.size := by
    rw [M.size]
    have := p.op τ hτ
    rcases Nat.lt_or_ge τ.i ops.size with h | h
    · exact h
    · rw [Array.getElem?_eq_none h] at this; cases this
  have hle : SLe σ σ' := hext.le (M.fresh τ hτ hD)
  have hput : ∀ t y, (∀ d, τ.o.dst = some d → d ≠ t) → a.tmps[t]? = some y → (a.put τ.o.dst x).tmps[t]? = some y := by
    intro t y hne hy
    cases hd : τ.o.dst with
    | none => simpa [Act.put] using hy
    | some d =>
      simp only [Act.put]
      rw [Array.getElem?_setIfInBounds_ne (hne d hd)]
      exact hy
  refine ⟨by simp [M.size], hk', ?_, hmem, ?_, ?_, ?_, ?_, ?_, ?_, ?_⟩
  · intro τ' hτ' hE
    rw [getD_set hi]
    by_cases e : τ'.i = τ.i
    · have := p.uniq τ' hτ' τ hτ e
      subst this
      rw [if_pos rfl]
      rcases hk with ⟨_, h2, h3⟩ | ⟨h1, _⟩
      · simp; omega
      · exact absurd hE h1
    · rw [if_neg e, M.cnt τ' hτ' hE]
      rcases hk with ⟨h1, h2, h3⟩ | ⟨_, h2⟩
      · have hne : τ'.st ≠ k := fun hs => e (by rw [p.effu τ' hτ' τ hτ hE h1 (by omega)])
        omega
      · rw [h2]
  · intro τ' hτ' hd g hgm hgb
    rw [getD_set hi] at hd ⊢
    by_cases eg : g.on = τ.i
    · rw [if_pos eg]
    · rw [if_neg eg]
      by_cases e : τ'.i = τ.i
      · have := p.uniq τ' hτ' τ hτ e
        subst this
        exact hg g hgm hgb
      · rw [if_neg e] at hd
        exact M.closed τ' hτ' hd g hgm hgb
  · intro τ' hτ' hd t ht
    rw [getD_set hi] at hd
    by_cases e : τ'.i = τ.i
    · have := p.uniq τ' hτ' τ hτ e
      subst this
      refine ⟨x, hx, ?_⟩
      rw [ht]
      have := (p.dst τ' hτ t ht).1
      simp [Act.put, M.tsize, this]
    · rw [if_neg e] at hd
      obtain ⟨y, h1, h2⟩ := M.slots τ' hτ' hd t ht
      exact ⟨y, h1.mono hle, hput t y (fun d hd' hdt => by subst hdt; exact e ((p.dst τ hτ d hd').2 τ' hτ' ht)) h2⟩
  · intro t v hv hno
    have hself : (D.setIfInBounds τ.i true).getD τ.i false = true := by rw [getD_set hi, if_pos rfl]
    obtain ⟨y, h1, h2⟩ := M.olds t v hv (fun τ' h3 h4 => hno τ' h3 (by
      rw [getD_set hi]
      by_cases e : τ'.i = τ.i
      · rw [if_pos e]
      · rw [if_neg e]; exact h4))
    exact ⟨y, h1.mono hle, hput t y (fun d hd' hdt => by subst hdt; exact hno τ hτ hself hd') h2⟩
  · rw [← M.tsize]; cases τ.o.dst <;> simp [Act.put]
  · rw [← M.defers]; cases τ.o.dst <;> rfl
  · intro i hi'
    have := (p.num.2 τ hτ)
    rw [hext i (by omega)]
    exact M.ext i hi'
  · intro τ' hτ' hd i h1 h2
    rw [getD_set hi] at hd
    by_cases e : τ'.i = τ.i
    · rw [if_pos e] at hd; cases hd
    · rw [if_neg e] at hd
      have := p.disj τ' hτ' τ hτ e
      rw [hext i (by omega)]
      exact M.fresh τ' hτ' hd i h1 h2

end
end Go.Ev
end

