/-
  The evaluator, part J: append and copy, their soundness.
  Conditions: none; generic over the program.
-/
import Derived.Test.YtdpnadknaacinaaEvI
namespace Go.Ev
open Go.RowKit Go.Sx
set_option linter.unusedVariables false
set_option linter.unusedSimpArgs false

section
variable {P : Program} {w0 : Fen} {w : World} {σ : Sg} {h : Tr Ob} {e : Tr Value} {n N : Nat} {a : Act} {o : Oper}

/-- A block that no number that lives names is given one. -/
theorem HR.add (H : HR w0 σ h w) {N b r : Nat} {ob : Ob} (hn : σ N = none) (hb : b < w.heap.size) (hF : ¬ w0.F b) (hfree : ∀ j r', σ j = some (b, r') → (h.get j).isSome = true → False)
    (ho : ∀ σ', SLe σ σ' → OR σ' w b r ob) : HR w0 (upd σ N (b, r)) (h.set (some ob) N) w := by
  have hle := upd_le (x := (b, r)) hn
  refine ⟨H.bel, ?_, ?_, ?_, ?_⟩
  · intro i b' r' hi
    by_cases e : i = N
    · subst e; rw [upd_same] at hi; cases hi; exact hb
    · rw [upd_other e] at hi; exact H.low i b' r' hi
  · intro i b' r' o' hi ho'
    rw [Tr.get_set] at ho'
    by_cases e : i = N
    · subst e
      rw [upd_same] at hi
      rw [if_pos rfl] at ho'
      cases hi; cases ho'
      exact ho _ hle
    · rw [upd_other e] at hi
      rw [if_neg e] at ho'
      exact (H.ob i b' r' o' hi ho').mono hle rfl
  · intro i j b' r1 r2 hi hj h1 h2
    rw [Tr.get_set] at h1 h2
    by_cases ei : i = N <;> by_cases ej : j = N
    · rw [ei, ej]
    · subst ei
      rw [upd_same] at hi
      rw [upd_other ej] at hj
      rw [if_neg ej] at h2
      cases hi
      exact (hfree j r2 hj h2).elim
    · subst ej
      rw [upd_same] at hj
      rw [upd_other ei] at hi
      rw [if_neg ei] at h1
      cases hj
      exact (hfree i r1 hi h1).elim
    · rw [upd_other ei] at hi
      rw [upd_other ej] at hj
      rw [if_neg ei] at h1
      rw [if_neg ej] at h2
      exact H.inj i j b' r1 r2 hi hj h1 h2
  · intro i b' r' hi h1
    rw [Tr.get_set] at h1
    by_cases e : i = N
    · subst e; rw [upd_same] at hi; cases hi; exact hF
    · rw [upd_other e] at hi
      rw [if_neg e] at h1
      exact H.own i b' r' hi h1

theorem below_drew (w : World) : Below w.heap.size w w.drew := (Below.refl _ _).drew

theorem inPlace_ok (H : HR w0 σ h w) {i b r off n k c z T el : Nat} {sp : Option Nat} {xv : Value} {news us : List Value} {T' : TypeId} (hT : appT P T = some (el, z)) (hi : σ i = some (b, r)) (hk : (Builtin.lenOf xv).run P w = .ok k w)
    (hu : RlL σ news us) (hn : (Builtin.firstCells z k xv).run P w = .ok ⟨us⟩ w) {m cc : Nat} {v : Value} {h' : Tr Ob} {N' : Nat} (hnk : n + k ≤ c) (hr : inPlace i off (off + n * z) sp m cc news h N = some (v, h', N')) :
    N' = N + 1 ∧ v = .slice (some ⟨i, off, sp⟩) m cc ∧ ∃ w', HR w0 σ h' w' ∧ (Builtin.append_ #[T, T] T' #[.slice (some ⟨b, off, none⟩) n c, xv]).run P w = .ok (.slice (some ⟨b, off, none⟩) (n + k) c) w' := by
  obtain ⟨h1, hr⟩ := ocond_some hr
  obtain ⟨h2, hw, hr⟩ := obind_some hr
  cases hr
  obtain ⟨cs, E, g1, g2, g3⟩ := evWrite_ok H hi hw hu
  exact ⟨rfl, rfl, _, g3, run_append_in hT hk hnk g1 hn g2 (allF_ok hu h1)⟩

theorem growTo_ok (H : HR w0 σ h w) (hf : Fresh σ N (N + 1)) {n k c z T el : Nat} {p : Option Addr} {xv : Value} {xs olds us : List Value} {T' : TypeId} (hT : appT P T = some (el, z)) (hk : (Builtin.lenOf xv).run P w = .ok k w) (hnk : c < n + k)
    (hle : n + k ≤ 1000000) (ho : (Builtin.firstCells z n (.slice p n c)).run P w.drew = .ok ⟨olds⟩ w.drew) (hn : (Builtin.firstCells z k xv).run P w.drew = .ok ⟨us⟩ w.drew) (hx : RlL σ xs (olds ++ us)) (hlen : (olds ++ us).length = (n + k) * z)
    {v : Value} {h' : Tr Ob} {N' : Nat} (hr : growTo el z (n + k) xs h N = some (v, h', N')) :
    N' = N + 1 ∧ ∃ σ' x w', Ext σ σ' N N' ∧ HR w0 σ' h' w' ∧ Rl σ' v x ∧ (Builtin.append_ #[T, T] T' #[.slice p n c, xv]).run P w = .ok x w' := by
  cases hr
  obtain ⟨cap, rest, h1, h2, h2f, h3⟩ := run_append_grow (T' := T') hT hk hnk hle ho hn
  have Hd := H.ext (below_drew w)
  refine ⟨rfl, upd σ N (w.heap.size, cap), _, _, Ext.one, Hd.alloc (o := .cells ⟨olds ++ us ++ rest⟩ el) (r := cap) (hf N (Nat.le_refl _) (Nat.lt_succ_self _)) (fun σ' hl => ?_), .sx (b := w.heap.size) (r := cap) (e := 0) (upd_same _ _ _) (by omega) (by omega), ?_⟩
  · refine ⟨olds ++ us, rest, hx.mono hl, heap_new _ _, ?_, h2f⟩
    rw [List.length_append, hlen, h2, ← Nat.add_mul]
    congr 1
    omega
  · rw [h3]
    rfl

theorem evAppend_ok (H : HR w0 σ h w) (hf : Fresh σ N (N + 1)) {T : Nat} {x y : Operand} (ho : o.op = .call { callee := .builtin .append, args := ⟨[x, y]⟩, argTypes := ⟨[T, T]⟩ }) {s u : Value} (hs : Rl σ s (a.eval x)) (hu : Rl σ u (a.eval y))
    {v : Value} {h' : Tr Ob} {N' : Nat} (hr : evAppend P T s u h N = some (v, h', N')) : N' = N + 1 ∧ EOk P w0 σ N o a w v h' N' := by
  have fin : ∀ {σ' : Sg} {x' : Value} {w' : World}, Ext σ σ' N N' → HR w0 σ' h' w' → Rl σ' v x' → (Builtin.append_ #[T, T] o.type #[a.eval x, a.eval y]).run P w = .ok x' w' → EOk P w0 σ N o a w v h' N' := by
    intro σ' x' w' h1 h2 h3 h4
    refine ⟨σ', x', w', h1, h2, h3, .inl ?_⟩
    have e1 : (⟨[x, y]⟩ : Array Operand).map a.eval = #[a.eval x, a.eval y] := by simp
    have e2 : (⟨[T, T]⟩ : Array TypeId) = #[T, T] := rfl
    simp only [execOp, ho, resolve, e1, e2, invoke, builtin, Sem.run_bind, Sem.run_pure, Result.andThen_ok, h4]
  obtain ⟨⟨el, z⟩, hT, hr1⟩ := obind_some hr
  obtain ⟨k, hk, hr2⟩ := obind_some hr1
  rw [fN_eq] at hr2
  obtain ⟨news, hseg, hr3⟩ := obind_some hr2
  clear hr hr1 hr2
  have hr := hr3; clear hr3
  have hk' := lenV_ok (P := P) hu hk w
  have Hd := H.ext (below_drew w)
  obtain ⟨us, hus, hul, hrun⟩ := seg_ok (P := P) H hu (z := z) rfl hseg
  obtain ⟨us2, hus2, hul2, hrun2⟩ := seg_ok (P := P) Hd hu (z := z) rfl hseg
  obtain ⟨zs, by_, he, hz, hb, hb2⟩ := appT_ok hT
  obtain ⟨g1, g2, g3, g4⟩ := elz_ok hz
  generalize hX : a.eval x = X at hs fin
  generalize hY : a.eval y = Y at hu fin hk' hrun hrun2
  split at hr
  · rename_i n c
    obtain ⟨h1, hr1⟩ := ocond_some hr
    obtain ⟨h2, hr2⟩ := ocond_some hr1
    obtain ⟨h3, hr3⟩ := ocond_some hr2
    clear hr hr1 hr2
    have hr := hr3; clear hr3
    have e1 := Nat.eq_of_beq_eq_true h1
    have e2 := Nat.eq_of_beq_eq_true h2
    subst e1; subst e2
    have := hs.plain_eq rfl; subst this
    cases hk0 : Nat.beq k 0 with
    | true =>
      rw [hk0] at hr
      cases hr
      have e0 := Nat.eq_of_beq_eq_true hk0
      subst e0
      refine ⟨rfl, fin (Ext.refl _ _ _) H (.sc rfl) ?_⟩
      simp [Builtin.append_, run_underlying he, Sx.run_sizeOf g1, hk', hrun]
    | false =>
      rw [hk0] at hr
      have hkp : 0 < k := by
        rcases Nat.eq_zero_or_pos k with e | e
        · subst e; cases hk0
        · exact e
      have h3' := Nat.le_of_ble_eq_true h3
      have hr' : growTo el z (0 + k) news h N = some (v, h', N') := by rw [Nat.zero_add]; exact hr
      obtain ⟨g5, σ', x', w', g6, g7, g8, g9⟩ := growTo_ok (olds := []) (p := none) (n := 0) (c := 0) (T' := o.type) H hf hT hk' (by omega) (by omega) (by simp [Builtin.firstCells]) hrun2 (by simpa using hus2) (by simpa using hul2) hr'
      exact ⟨g5, fin g6 g7 g8 g9⟩
  · rename_i i off n c
    rw [fN_eq, fN_eq] at hr
    cases hs
    · rename_i hp; simp [plain] at hp
    rename_i b r hi
    cases hmc : Nat.ble (Nat.add n k) c with
    | true =>
      rw [hmc] at hr
      obtain ⟨q1, q2, w', q3, q4⟩ := inPlace_ok (T' := o.type) H hT hi hk' hus hrun (Nat.le_of_ble_eq_true hmc) hr
      subst q1; subst q2
      exact ⟨rfl, fin (Ext.refl _ _ _) q3 (.sl hi) q4⟩
    | false =>
      rw [hmc] at hr
      obtain ⟨q1, hr⟩ := ocond_some hr
      obtain ⟨olds, q2, hr⟩ := obind_some hr
      rw [app_eq] at hr
      have hc : c < n + k := by
        rcases Nat.lt_or_ge c (n + k) with e | e
        · exact e
        · have : Nat.ble (n + k) c = true := Nat.ble_eq_true_of_le e
          rw [show Nat.ble (Nat.add n k) c = Nat.ble (n + k) c from rfl, this] at hmc; cases hmc
      obtain ⟨os, p1, p2, p3⟩ := seg_ok (P := P) Hd (Rl.sl (n := n) (c := c) (off := off) hi) (z := z) (k := n) rfl q2
      obtain ⟨g5, σ', x', w', g6, g7, g8, g9⟩ := growTo_ok (T' := o.type) H hf hT hk' hc (Nat.le_of_ble_eq_true q1) p3 hrun2 (p1.append hus2) (by rw [List.length_append, p2, hul2, Nat.add_mul]) hr
      exact ⟨g5, fin g6 g7 g8 g9⟩
  · rename_i i off eo n c
    rw [fN_eq, fN_eq] at hr
    cases hs
    · rename_i hp; simp [plain] at hp
    rename_i b r hi hle0 hcc0
    have hle : eo + n ≤ r := hle0
    split at hr
    · rename_i xs E z' hob
      obtain ⟨q1, hr⟩ := ocond_some hr
      obtain ⟨q2, hr⟩ := ocond_some hr
      obtain ⟨q3, hr⟩ := ocond_some hr
      have q1' := Nat.eq_of_beq_eq_true q1
      have q2' := Nat.eq_of_beq_eq_true q2
      have q3' := Nat.eq_of_beq_eq_true q3
      dsimp only at q1' q2' q3'
      subst q1'; subst q2'
      obtain ⟨cs, rest, p1, p2, p3, p9⟩ := H.ob i b r _ hi hob
      cases hmc : Nat.ble (Nat.add off (Nat.add (Nat.mul n z') (Nat.mul k z'))) (len xs) with
      | true =>
        rw [hmc] at hr
        have hl := Nat.le_of_ble_eq_true hmc
        rw [len_eq, p1.len] at hl
        have hl' : eo * z' + (n * z' + k * z') ≤ cs.length := by have : off = eo * z' := q3'; rw [← this]; exact hl
        have hroom : (eo + (n + k)) * z' ≤ r * z' := by
          rw [Nat.add_mul, Nat.add_mul, ← p3, List.length_append]; omega
        have hroom' : eo + (n + k) ≤ r := Nat.le_of_mul_le_mul_right hroom g4
        obtain ⟨q4, q5, w', q6, q7⟩ := inPlace_ok (T' := o.type) H hT hi hk' hus hrun (n := n) (c := r - eo) (by omega) hr
        subst q4; subst q5
        exact ⟨rfl, fin (Ext.refl _ _ _) q6 (.sx hi (by exact hroom') (by omega)) q7⟩
      | false =>
        rw [hmc] at hr
        obtain ⟨q4, hr⟩ := ocond_some hr
        obtain ⟨q5, hr⟩ := ocond_some hr
        obtain ⟨q6, hr⟩ := ocond_some hr
        obtain ⟨q7, hr⟩ := ocond_some hr
        cases hr
        have q4' := Nat.eq_of_beq_eq_true q4
        subst q4'
        have q3'' : off = 0 := by rw [q3']; exact Nat.zero_mul _
        subst q3''
        have q5' := Nat.eq_of_beq_eq_true q5
        rw [len_eq, p1.len] at q5'
        have q5'' : n * z' = cs.length := q5'
        have q6' : n + k ≤ 1000000 := Nat.le_of_ble_eq_true q6
        refine ⟨rfl, ?_⟩
        have hNn : σ N = none := hf N (Nat.le_refl _) (Nat.lt_succ_self _)
        by_cases hroom : n + k ≤ r
        · -- in place
          have hsz : ∀ x : Array Value, (w.setRow b x).heap.size = w.heap.size := fun x => by simp [World.setRow]
          have hfit : 0 + n * z' + us.length ≤ (cs ++ rest).length := by
            have : (n + k) * z' ≤ r * z' := Nat.mul_le_mul_right _ hroom
            rw [p3, hul]; rw [Nat.add_mul] at this; omega
          have hap := run_append_in (T' := o.type) hT hk' (n := n) (c := r - 0) (by omega) p2 hrun hfit (allF_ok hus q7)
          have hlose := H.lose (w' := w.setRow b (setL (cs ++ rest) (0 + n * z') us).toArray) hi (by rw [hob]; rfl) (hsz _) rfl rfl rfl (fun kk hkk => setRow_other w b kk _ hkk)
          have hlow := H.low i b r hi
          have hadd := hlose.add (N := N) (b := b) (r := r) (ob := .g (xs ++ news) E z') hNn (by rw [hsz]; exact hlow) (H.own i b r hi (by rw [hob]; rfl)) (fun j r' hj hlive => by
              rw [Tr.get_set] at hlive
              by_cases ej : j = i
              · rw [if_pos ej] at hlive; cases hlive
              · rw [if_neg ej] at hlive
                exact ej (H.inj j i b r' r hj hi hlive (by rw [hob]; rfl)))
            (fun σ' hl => by
              refine ⟨cs ++ us, rest.drop us.length, (p1.append hus).mono hl, ?_, ?_, ?_⟩
              · have := setRow_heap w b ⟨cs ++ rest⟩ (setL (cs ++ rest) (0 + n * z') us).toArray E _ p2
                rw [this]
                rw [setL_eq _ _ _ hfit]
                have e1 : (cs ++ rest).take (0 + n * z') = cs := by rw [Nat.zero_add, q5'', List.take_left]
                have e2 : (cs ++ rest).drop (0 + n * z' + us.length) = rest.drop us.length := by rw [Nat.zero_add, q5'', ← List.drop_drop, List.drop_left]
                rw [e1, e2]
              · have := p3
                simp only [List.length_append, List.length_drop] at this hfit ⊢
                omega
              · unfold flat at p9 ⊢
                rw [List.all_eq_true] at p9 ⊢
                exact fun x hx => p9 x (List.mem_of_mem_drop hx))
          rw [← app_eq xs news] at hadd
          exact fin (Ext.one) hadd (.sx (upd_same _ _ _) (by show 0 + (n + k) ≤ r; omega) (by omega)) hap
        · -- a new block
          obtain ⟨os, p4, p5, p6⟩ := seg_ok (P := P) Hd (Rl.sl (n := n) (c := r - 0) (off := 0) hi) (z := z') (k := n) (m := n * z') (xs := xs) rfl (by
            unfold seg
            cases hz0 : Nat.beq (n * z') 0 with
            | true =>
              have e0 := Nat.eq_of_beq_eq_true hz0
              have : xs = [] := by rw [q5''] at e0; have := p1.len; rw [e0] at this; exact List.length_eq_zero_iff.1 this
              rw [this]
            | false =>
              have hc : cellsOf h i = some xs := by unfold cellsOf; rw [hob]
              show obind (cellsOf h i) _ = _
              rw [hc]
              have h1 : Nat.ble (Nat.add 0 (n * z')) (len xs) = true := Nat.ble_eq_true_of_le (by rw [len_eq, p1.len, ← q5'']; show 0 + n * z' ≤ n * z'; omega)
              show ocond (Nat.ble (Nat.add 0 (n * z')) (len xs)) (some (tak (drp xs 0) (n * z'))) = some xs
              rw [h1]
              show some (tak (drp xs 0) (n * z')) = some xs
              rw [tak_eq, drp_eq, List.drop_zero, q5'', ← p1.len, List.take_length])
          obtain ⟨cap, rest', h1, h2, h2f, h3⟩ := run_append_grow (T' := o.type) hT hk' (p := some ⟨b, 0, none⟩) (n := n) (c := r - 0) (by omega) q6' p6 hrun2
          have hall := (Hd.kill i).alloc (o := .cells ⟨os ++ us2 ++ rest'⟩ E) (ob := .g (xs ++ news) E z') (r := cap) hNn (fun σ' hl => by
            refine ⟨os ++ us2, rest', (p4.append hus2).mono hl, heap_new _ _, ?_, h2f⟩
            rw [List.length_append, List.length_append, p5, hul2, h2, ← Nat.add_mul, ← Nat.add_mul]
            congr 1
            omega)
          rw [← app_eq xs news] at hall
          exact fin (Ext.one) hall (.sx (b := w.heap.size) (r := cap) (upd_same _ _ _) (by show 0 + (n + k) ≤ cap; omega) (by omega)) h3
    · cases hr
  · cases hr

end
end Go.Ev
