/-
  The evaluator: append(s, make(.., k)...) where s has no room: a new block.
  Conditions: none; generic over the program.
-/
import Derived.Test.YtdpnadknaacinaaEvJ
import Derived.Lib.AppendZerosOnto
namespace Go.Ev
open Go.RowKit Go.Sx
set_option linter.unusedVariables false
set_option linter.unusedSimpArgs false

section
variable {P : Program} {w0 : Fen} {w : World} {σ : Sg} {h : Tr Ob} {e : Tr Value} {n N : Nat} {a : Act} {o : Oper}

theorem info_of_siz {e size : Nat} {z : List Value} (hn : sizeB P e = some size) (hz : zeroB P e = some z) : ∃ i v, P.info? e = some i ∧ i.zero = some v ∧ i.size = size ∧ v.cells.toList = z := by
  unfold sizeB at hn
  unfold zeroB at hz
  cases hi : P.info? e with
  | none => rw [hi] at hn; simp at hn
  | some i =>
    rw [hi] at hn hz
    cases hv : i.zero with
    | none => simp [hv] at hz
    | some v => exact ⟨i, v, rfl, hv, by simpa using hn, by simpa [hv] using hz⟩
noncomputable def isIntT (P : Program) (T : TypeId) : Bool :=
  match P.underlying T with
  | some (.int _) => true
  | _ => false
theorem isIntT_ok {T : TypeId} (h : isIntT P T = true) : ∃ k, P.underlying T = some (.int k) := by
  unfold isIntT at h
  split at h
  · rename_i k hk; exact ⟨k, hk⟩
  · cases h

noncomputable def evGrowZ (P : Program) (T tn : TypeId) (s x : Value) (h : Tr Ob) (N : Nat) : OpR :=
  match s, x with
  | .slice (some ⟨i, off, none⟩) n c, .int .i64 (.ofNat k) =>
    obind (appT P T) fun ez => obind (zer P ez.1) fun zs => ocond (isIntT P tn) (ocond (Nat.ble 1 k) (fN (Nat.add n k) fun m => ocond (Nat.ble (Nat.succ c) m) (ocond (Nat.ble m 100000)
      (fN (Nat.mul n ez.2) fun nz => obind (seg h (.slice (some ⟨i, off, none⟩) n c) nz) fun olds => growTo ez.1 ez.2 m (app olds (reps zs k)) h N))))
  | _, _ => none

theorem evGrowZ_num {T tn : TypeId} {s u v : Value} {h' : Tr Ob} {N' : Nat} (hr : evGrowZ P T tn s u h N = some (v, h', N')) : N' = N + 1 := by
  unfold evGrowZ at hr
  split at hr
  · obtain ⟨ez, _, hr⟩ := obind_some hr
    obtain ⟨zs, _, hr⟩ := obind_some hr
    obtain ⟨_, hr⟩ := ocond_some hr
    obtain ⟨_, hr⟩ := ocond_some hr
    rw [fN_eq] at hr
    obtain ⟨_, hr⟩ := ocond_some hr
    obtain ⟨_, hr⟩ := ocond_some hr
    rw [fN_eq] at hr
    obtain ⟨olds, _, hr⟩ := obind_some hr
    cases hr
    rfl
  · cases hr

theorem evGrowZ_ok (H : HR w0 σ h w) (hf : Fresh σ N (N + 1)) {T tn : Nat} {x y : Operand} (ho : o.op = .call { callee := .builtin .append, args := ⟨[x, y]⟩, argTypes := ⟨[T, tn]⟩ }) {s u : Value} (hs : Rl σ s (a.eval x)) (hu : Rl σ u (a.eval y))
    {v : Value} {h' : Tr Ob} {N' : Nat} (hr : evGrowZ P T tn s u h N = some (v, h', N')) : EOk P w0 σ N o a w v h' N' := by
  unfold evGrowZ at hr
  split at hr
  · rename_i i off n c k
    obtain ⟨⟨el, z⟩, hT, hr⟩ := obind_some hr
    obtain ⟨zs, hzs, hr⟩ := obind_some hr
    obtain ⟨htn, hr⟩ := ocond_some hr
    obtain ⟨hk1, hr⟩ := ocond_some hr
    rw [fN_eq] at hr
    obtain ⟨hcm, hr⟩ := ocond_some hr
    obtain ⟨hm, hr⟩ := ocond_some hr
    rw [fN_eq] at hr
    obtain ⟨olds, hseg, hr⟩ := obind_some hr
    dsimp only at hzs hseg hr
    obtain ⟨kn, htn'⟩ := isIntT_ok htn
    have hk1' : 1 ≤ k := Nat.le_of_ble_eq_true hk1
    have hc : c < n + k := Nat.le_of_ble_eq_true hcm
    have hm' : n + k ≤ 100000 := Nat.le_of_ble_eq_true hm
    have hY : a.eval y = .int .i64 (k : Int) := rl_int hu
    obtain ⟨zs', by_, he, hz, hb, hb2⟩ := appT_ok hT
    obtain ⟨g1, g2, g3, g4⟩ := elz_ok hz
    obtain rfl : zs = zs' := Option.some.inj (hzs.symm.trans g2)
    obtain ⟨g5, g6⟩ := zer_ok g2
    have hfl := zer_flat g2
    obtain ⟨info, zv, hi, hzv, hisz, hzc⟩ := info_of_siz g1 g5
    obtain ⟨info', hi', hib⟩ := bytesB_ok hb w
    obtain rfl : info = info' := Option.some.inj (hi.symm.trans hi')
    have hbi : info.bytes ≤ 1000000 := by rw [hib]; exact hb2
    have Hd := H.ext (below_drew w)
    generalize hX : a.eval x = X at hs
    cases hs
    · rename_i hp; simp [plain] at hp
    rename_i b r hσ
    obtain ⟨os, p1, p2, p3⟩ := seg_ok (P := P) Hd (Rl.sl (n := n) (c := c) (off := off) hσ) (z := z) (k := n) rfl hseg
    have hbytes : (n + k) * info.bytes ≤ 140737488355328 := by
      have h2 : (n + k) * info.bytes ≤ 100000 * 1000000 := Nat.mul_le_mul hm' hbi
      omega
    have hk48 : k * info.bytes ≤ 281474976710656 := by
      have h2 : k * info.bytes ≤ (n + k) * info.bytes := Nat.mul_le_mul_right _ (by omega)
      omega
    have hrun := Lib.run_append_grow_zeros (P := P) w T tn o.type el info zv .i64 kn he htn' hi hzv (some ⟨b, off, none⟩) n c os (by rw [hisz]; exact p3) k (by omega) (by omega) hc (by omega) hk48 (growslice_fits hc hbytes)
    cases hr
    have hge := grownCap_ge w (n + k) c el
    generalize grownCap w (n + k) c el = cap at hrun hge
    have hz1 : ∀ m, Builtin.zeroCells zv.cells m = ⟨reps zs m⟩ := by
      intro m
      have e0 : zv.cells = ⟨zs⟩ := Array.ext' hzc
      rw [e0]
      have e3 : (⟨zs⟩ : Array Value).size = z := g3
      have := range_reps zs m z g3
      unfold Builtin.zeroCells
      rw [e3] at this ⊢
      exact this
    rw [hz1, hz1] at hrun
    have hlen : ∀ m, (reps zs m).length = m * z := by
      intro m
      induction m with
      | zero => rw [Nat.zero_mul]; rfl
      | succ m ih => rw [reps_succ, List.length_append, ih, g3, Nat.add_mul]; omega
    have e1 : os.toArray ++ (⟨reps zs k⟩ : Array Value) ++ (⟨reps zs (cap - (n + k))⟩ : Array Value) = ⟨(os ++ reps zs k) ++ reps zs (cap - (n + k))⟩ := by
      apply Array.ext'
      simp
    rw [e1] at hrun
    refine ⟨upd σ N (w.heap.size, cap), _, _, Ext.one, Hd.alloc (o := .cells ⟨(os ++ reps zs k) ++ reps zs (cap - (n + k))⟩ el) (r := cap) (hf N (Nat.le_refl _) (Nat.lt_succ_self _)) (fun σ' hl => ?_),
      .sx (b := w.heap.size) (r := cap) (e := 0) (upd_same _ _ _) (by show 0 + (n + k) ≤ cap; omega) (by omega), .inl ?_⟩
    · rw [app_eq]
      refine ⟨os ++ reps zs k, reps zs (cap - (n + k)), (p1.mono hl).append (reps_rl (g6 σ') k), heap_new _ _, ?_, reps_flat hfl _⟩
      rw [List.length_append, List.length_append, p2, hlen, hlen, ← Nat.add_mul, ← Nat.add_mul]
      congr 1
      omega
    · have e2 : (⟨[x, y]⟩ : Array Operand).map a.eval = #[a.eval x, a.eval y] := by simp
      have e3 : (⟨[T, tn]⟩ : Array TypeId) = #[T, tn] := rfl
      simp only [execOp, ho, resolve, e2, e3, hY, hX, invoke, builtin, Sem.run_bind, Sem.run_pure, Result.andThen_ok]
      rw [hrun]
      rfl
  · cases hr
end
end Go.Ev
