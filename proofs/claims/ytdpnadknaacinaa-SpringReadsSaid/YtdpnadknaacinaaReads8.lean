/-
  Texts that the proof uses, part 8.
  Conditions: none.
-/
import Derived.Test.YtdpnadknaacinaaReads7

section
namespace Go.Proofs.Ytdpnadknaacinaa
open Go.Sx Go.Proofs.Ytdpnadknaacinaa.Ty
set_option linter.unusedVariables false
set_option linter.unusedSimpArgs false
set_option maxHeartbeats 2000000


def fl (p : Rd → Bool) (L : List Rd) (k : Nat) : List Rd := (L.take k).filter fun x => !p x
theorem fl_succ {p : Rd → Bool} {L : List Rd} {k : Nat} {x : Rd} (hx : L[k]? = some x) : fl p L (k + 1) = if p x then fl p L k else fl p L k ++ [x] := by
  unfold fl
  rw [List.take_add_one, hx, List.filter_append]
  cases h : p x <;> simp [h]
theorem fl_len (p : Rd → Bool) (L : List Rd) (k : Nat) : (fl p L k).length ≤ k := Nat.le_trans (List.length_filter_le _ _) (by simp; omega)
theorem fl_all {p : Rd → Bool} {L : List Rd} {k : Nat} (h : L.length ≤ k) : fl p L k = L.filter fun x => !p x := by unfold fl; rw [List.take_of_length_le h]
theorem setL_at {g vs : List Value} {off : Nat} (h : off + vs.length ≤ g.length) (j : Nat) : (setL g off vs)[j]? = if off ≤ j ∧ j < off + vs.length then vs[j - off]? else g[j]? := by
  rw [setL_eq vs off g h]
  have e1 : (g.take off).length = off := by simp; omega
  split
  · rename_i hj
    rw [List.getElem?_append_left (by simp [e1]; omega), List.getElem?_append_right (by omega), e1]
  · rename_i hj
    rcases Nat.lt_or_ge j off with h1 | h1
    · rw [List.getElem?_append_left (by simp; omega), List.getElem?_append_left (by omega), List.getElem?_take, if_pos h1]
    · rw [List.getElem?_append_right (by simp; omega), List.getElem?_drop]
      congr 1
      simp; omega
theorem sub_set_same {g vs : List Value} {i : Nat} (hl : vs.length = 5) (h : i * 5 + 5 ≤ g.length) : sub (setL g (i * 5) vs) (i * 5) 5 = vs := by
  apply List.ext_getElem?
  intro j
  unfold sub
  rw [List.getElem?_take]
  split
  · rw [List.getElem?_drop, setL_at (by omega), if_pos (by omega)]
    congr 1; omega
  · rw [List.getElem?_eq_none (by omega)]
theorem sub_set_other {g vs : List Value} {off r : Nat} (h : off + vs.length ≤ g.length) (hr : r * 5 + 5 ≤ off ∨ off + vs.length ≤ r * 5) : sub (setL g off vs) (r * 5) 5 = sub g (r * 5) 5 := by
  apply List.ext_getElem?
  intro j
  unfold sub
  rw [List.getElem?_take, List.getElem?_take]
  split
  · rw [List.getElem?_drop, List.getElem?_drop, setL_at h, if_neg (by omega)]
  · rfl
structure DInv (p : Rd → Bool) (L : List Rd) (cs g : List Value) (k : Nat) : Prop where
  len : g.length = cs.length
  done : ∀ (r : Nat) (x : Rd), (fl p L k)[r]? = some x → sub g (r * 5) 5 = rdL x
  left : ∀ (r : Nat) (x : Rd), k ≤ r → L[r]? = some x → sub g (r * 5) 5 = rdL x
theorem DInv.skip {p : Rd → Bool} {L : List Rd} {cs g : List Value} {k : Nat} {x : Rd} (h : DInv p L cs g k) (hx : L[k]? = some x) (hp : p x = true) : DInv p L cs g (k + 1) :=
  ⟨h.len, fun r y hy => by rw [fl_succ hx, if_pos hp] at hy; exact h.done r y hy, fun r y hr hy => h.left r y (by omega) hy⟩
theorem DInv.keep {p : Rd → Bool} {L : List Rd} {cs g : List Value} {k : Nat} {x : Rd} (h : DInv p L cs g k) (hcs : L.length * 5 ≤ cs.length) (hx : L[k]? = some x) (hp : p x = false) : DInv p L cs (setL g ((fl p L k).length * 5) (rdL x)) (k + 1) := by
  have hk : k < L.length := by rcases Nat.lt_or_ge k L.length with h1 | h1; exact h1; rw [List.getElem?_eq_none h1] at hx; cases hx
  have hl := fl_len p L k
  have hg := h.len
  have h5 : (rdL x).length = 5 := rfl
  refine ⟨by rw [length_setL]; exact h.len, fun r y hy => ?_, fun r y hr hy => ?_⟩
  · rw [fl_succ hx, if_neg (by simp [hp])] at hy
    rcases Nat.lt_or_ge r (fl p L k).length with h1 | h1
    · rw [List.getElem?_append_left h1] at hy
      rw [sub_set_other (by omega) (by omega)]; exact h.done r y hy
    · rw [List.getElem?_append_right h1] at hy
      have : r = (fl p L k).length := by
        rcases Nat.lt_or_ge (r - (fl p L k).length) 1 with h3 | h3
        · omega
        · rw [List.getElem?_eq_none (by simpa using h3)] at hy; cases hy
      subst this
      simp at hy
      subst hy
      exact sub_set_same rfl (by omega)
  · rw [sub_set_other (by omega) (by omega)]; exact h.left r y (by omega) hy
theorem rows_take {g : List Value} {F : List Rd} (h : ∀ (r : Nat) (x : Rd), F[r]? = some x → sub g (r * 5) 5 = rdL x) (hl : F.length * 5 ≤ g.length) : g.take (F.length * 5) = rdsC F := by
  apply List.ext_getElem?
  intro j
  rcases Nat.lt_or_ge j (F.length * 5) with hj | hj
  · have hi : j / 5 < F.length := by omega
    obtain ⟨x, hx⟩ : ∃ x, F[j / 5]? = some x := ⟨F[j / 5], by simp [hi]⟩
    have h1 := h _ x hx
    have h2 := rows_at (f := rdL) (m := 5) (fun _ => rfl) hx
    have e : j = j / 5 * 5 + j % 5 := by omega
    have h3 := sub_at h1 (j % 5) (by omega)
    have h4 := sub_at h2 (j % 5) (by omega)
    rw [← e] at h3 h4
    rw [List.getElem?_take, if_pos hj, h3]; exact h4.symm
  · rw [List.getElem?_eq_none (by simp; omega), List.getElem?_eq_none (by rw [rdsC_len]; exact hj)]
theorem fl_first {p : Rd → Bool} {L : List Rd} {k : Nat} {x : Rd} (hx : L[k]? = some x) (hp : p x = true) (hall : ∀ (j : Nat) (y : Rd), j < k → L[j]? = some y → p y = false) : fl p L (k + 1) = L.take k := by
  rw [fl_succ hx, if_pos hp]
  unfold fl
  rw [List.filter_eq_self]
  intro y hy
  obtain ⟨j, hj⟩ := List.mem_iff_getElem?.1 hy
  rw [List.getElem?_take] at hj
  split at hj
  · rename_i h1; simp [hall j y h1 hj]
  · cases hj
theorem zer69 : zeroB Try.prog 69 = some [.int .i64 0, .int .i64 0, .int .i64 0, .int .i64 0, .int .i64 0] := zer_of rfl

theorem deleteFunc_fn (M : Args) (mp : List (Nat × Array MapEntry × Nat)) (L : List Rd) (hl : L.length ≤ 1000) (gf : Nat) (first cap : Array Value) (hc : callable Try.prog gf) (p : Rd → Bool) (hp : TestG gf first cap M mp L p) (b c : Nat) (cs : List Value) (hsl : Sl [(b, cs, 69)] 69 5 (some ⟨b, 0, none⟩) L.length c (rdsC L)) : CnG Try.prog 117 [.slice (some ⟨b, 0, none⟩) L.length c, .func (.func gf) first cap] M mp [(b, cs, 69)] (fun g : List Value => .slice (some ⟨b, 0, none⟩) (L.filter fun x => !p x).length c) (fun g => [(b, g, 69)]) (fun g => []) (fun g => Sl [(b, g, 69)] 69 5 (some ⟨b, 0, none⟩) (L.filter fun x => !p x).length c (rdsC (L.filter fun x => !p x))) := by
  obtain ⟨hcm, hcl, hlc, htk⟩ : c ≤ maxLen ∧ cs.length = c * 5 ∧ L.length ≤ c ∧ cs.take (L.length * 5) = rdsC L := by rcases hsl.2 with ⟨h, _⟩ | ⟨g, cs', h1, h2, h3, h4, h5, h6⟩; cases h; (cases h1; cases h2; exact ⟨h4, h5, h3, h6⟩)
  have hcs : L.length * 5 ≤ cs.length := by omega
  have hrows : ∀ (r : Nat) (x : Rd), L[r]? = some x → sub cs (r * 5) 5 = rdL x := fun r x hr => by rw [sub_take (n := L.length) (by rcases Nat.lt_or_ge r L.length with h1 | h1; exact h1; rw [List.getElem?_eq_none h1] at hr; cases hr), htk]; exact rows_at (f := rdL) (m := 5) (fun _ => rfl) hr
  have hin : RdsIn ((b, cs) :: M) (some ⟨b, 0, none⟩) L := ⟨b, 0, cs, 0, fun _ => ⟨rfl, rfl, fun k x hx => by rw [Nat.zero_add]; exact hrows k x hx⟩⟩
  refine fn_introG (n := 42) Try.func117 rfl rfl rfl fun w0 => ?_
  refine okc_seq ?_
  refine okc_region ?_
  refine s_assign rfl rfl rfl rfl rfl rfl ?_
  refine okl_nil ?_
  change OkC Try.prog _ _ _ _ _ _ _
  refine okc_weak (l' := [(0, _), (1, _), (4, _)]) ⟨rfl, rfl, rfl, trivial⟩ ?_
  refine okc_seq ?_
  refine okc_region ?_
  refine s_move rfl rfl rfl rfl rfl rfl ?_
  refine s_move rfl rfl rfl rfl rfl rfl ?_
  refine okl_x (c := []) (keep := [(b, cs, 69)]) [] rfl rfl rfl rfl (opx_call rfl rfl rfl c124 (indexFunc_fn ((b, cs) :: M) mp L hl gf first cap hc p (fun x hx => CnG.mono (hp x hx) (fun y hy => List.mem_cons_of_mem _ hy)) (some ⟨b, 0, none⟩) c hin) (covers_own 0 rfl covers_all) cxG_maps) (by simp) (fun v B hv => ?_)
  obtain ⟨i, rfl, hi, rfl⟩ := hv
  refine s_assign rfl rfl rfl rfl rfl rfl ?_
  refine okl_nil ?_
  change OkC Try.prog _ _ _ _ _ _ _
  refine okc_weak (l' := [(0, _), (1, _), (4, _), (5, _)]) ⟨rfl, rfl, rfl, rfl, trivial⟩ ?_
  refine okc_seq ?_
  refine okc_seq ?_
  refine okc_region ?_
  refine s_move rfl rfl rfl rfl rfl rfl ?_
  refine s_cmpS rfl rfl rfl rfl rfl rfl rfl rfl (fun h1 => ?_) (fun h1 => ?_)
  · have hi1 : i = -1 := by simpa using h1
    have hall : ∀ x ∈ L, p x = false := by rcases hi with ⟨_, h1⟩ | ⟨k, x, h1, _⟩; exact h1; omega
    have hfe : (L.filter fun x => !p x) = L := List.filter_eq_self.2 (fun x hx => by simp [hall x hx])
    refine okl_nil ?_
    change OkC Try.prog _ _ _ _ _ _ _
    refine okc_weak (l' := [(0, _), (1, _), (4, _), (5, _), (12, _)]) ⟨rfl, rfl, rfl, rfl, rfl, trivial⟩ ?_
    refine okc_cond_t rfl ?_
    refine okc_seq ?_
    refine okc_region ?_
    refine s_move rfl rfl rfl rfl rfl rfl ?_
    refine s_assign rfl rfl rfl rfl rfl rfl ?_
    refine okl_nil ?_
    change OkC Try.prog _ _ _ _ _ _ _
    refine okc_weak (l' := [(0, _), (1, _), (4, _), (5, _), (12, _)]) ⟨rfl, rfl, rfl, rfl, rfl, trivial⟩ ?_
    refine okc_ret fun a w hs => ?_
    exact ret_postG hs (run_results1 hs rfl (rv_tmp rfl)) cs (by rw [hfe]) (by rw [hfe]; exact hsl) rfl (by simp) (by simp [nums])
  · have hi1 : ¬ i = -1 := by simpa using h1
    obtain ⟨k0, x0, hik, hx0, hpx0, hall⟩ : ∃ (k : Nat) (x : Rd), i = (k : Int) ∧ L[k]? = some x ∧ p x = true ∧ ∀ (j : Nat) (y : Rd), j < k → L[j]? = some y → p y = false := by rcases hi with ⟨h1, _⟩ | h1; exact absurd h1 hi1; exact h1
    have hk0 : k0 + 1 ≤ L.length := by rcases Nat.lt_or_ge k0 L.length with h1 | h1; exact h1; rw [List.getElem?_eq_none h1] at hx0; cases hx0
    have hf0 := fl_first hx0 hpx0 hall
    obtain rfl : i = ((fl p L (k0 + 1)).length : Int) := by rw [hf0, hik]; simp; omega
    have hI0 : DInv p L cs cs (k0 + 1) := ⟨rfl, fun r x hr => hrows r x (by rw [hf0, List.getElem?_take] at hr; split at hr; exact hr; cases hr), fun r x _ hr => hrows r x hr⟩
    refine okl_nil ?_
    change OkC Try.prog _ _ _ _ _ _ _
    refine okc_weak (l' := [(0, _), (1, _), (4, _), (5, _), (12, _)]) ⟨rfl, rfl, rfl, rfl, rfl, trivial⟩ ?_
    refine okc_cond_f rfl ?_
    refine okc_skip ?_
    change OkC Try.prog _ _ _ _ _ _ _
    refine okc_weak (l' := [(0, _), (1, _), (4, _), (5, _), (12, _)]) ⟨rfl, rfl, rfl, rfl, rfl, trivial⟩ ?_
    refine okc_seq ?_
    refine okc_seq ?_
    refine okc_region ?_
    refine s_move rfl rfl rfl rfl rfl rfl ?_
    refine s_add rfl rfl rfl rfl rfl rfl rfl (by omega) ?_
    refine s_assign rfl rfl rfl rfl rfl rfl ?_
    refine okl_nil ?_
    change OkC Try.prog _ _ _ _ _ _ _
    refine okc_weak (l' := [(0, _), (1, _), (4, _), (5, _), (6, _), (12, _)]) ⟨rfl, rfl, rfl, rfl, rfl, rfl, trivial⟩ ?_
    refine okc_block ?_
    refine okc_loopF (γ := Nat × List Value) [(0, _), (1, _), (4, _), (12, _)] ⟨rfl, rfl, rfl, rfl, trivial⟩ [] [0] (by decide) _ rfl (fun g => [(5, .int .i64 ((fl p L g.1).length : Int)), (6, .int .i64 (g.1 : Int))]) (fun g => [(b, g.2, 69)]) (fun g => g.1 ≤ L.length ∧ DInv p L cs g.2 g.1) (fun g => L.length - g.1) (k0 + 1, cs) ⟨hk0, hI0⟩ ⟨rfl, congrArg (fun z => some (Value.int .i64 z)) (by show _ = ((k0 + 1 : Nat) : Int); rw [hf0]; simp; omega), trivial⟩ rfl ?_
    rintro ⟨k, g⟩ ⟨hk, hI⟩
    dsimp only at hk hI ⊢
    change OkC Try.prog _ _ _ _ _ _ _
    refine okc_seq ?_
    refine okc_seq ?_
    refine okc_region ?_
    refine s_move rfl rfl rfl rfl rfl rfl ?_
    refine s_move rfl rfl rfl rfl rfl rfl ?_
    refine s_len rfl rfl rfl rfl rfl rfl rfl ?_
    refine s_cmpS rfl rfl rfl rfl rfl rfl rfl rfl (fun h2 => ?_) (fun h2 => ?_)
    · have hlt : k < L.length := by simpa using h2
      obtain ⟨x, hx⟩ : ∃ x, L[k]? = some x := ⟨L[k], by simp [hlt]⟩
      have hcell : sub g (0 + k * 5) 5 = rdL x := by rw [Nat.zero_add]; exact hI.left k x (Nat.le_refl _) hx
      have hfl := fl_len p L k
      refine okl_nil ?_
      change OkC Try.prog _ _ _ _ _ _ _
      refine okc_weak (l' := [(0, _), (1, _), (4, _), (5, _), (6, _), (12, _), (19, _)]) ⟨rfl, rfl, rfl, rfl, rfl, rfl, rfl, trivial⟩ ?_
      refine okc_cond_t rfl ?_
      refine okc_skip ?_
      change OkC Try.prog _ _ _ _ _ _ _
      refine okc_weak (l' := [(0, _), (1, _), (4, _), (5, _), (6, _), (12, _), (19, _)]) ⟨rfl, rfl, rfl, rfl, rfl, rfl, rfl, trivial⟩ ?_
      refine okc_seq ?_
      refine okc_block ?_
      refine okc_seq ?_
      refine okc_region ?_
      refine s_move rfl rfl rfl rfl rfl rfl ?_
      refine s_move rfl rfl rfl rfl rfl rfl ?_
      refine s_indexS k rfl rfl rfl rfl rfl rfl rfl rfl rfl rfl (by omega) rfl ?_
      refine s_loadP 0 rfl rfl rfl rfl rfl rfl rfl rfl rfl (by assumption) rfl ?_
      refine s_alloc rfl rfl rfl rfl rfl rfl (fun b3 => ?_)
      refine k_storeW 0 rfl rfl rfl rfl rfl rfl rfl rfl rfl rfl rfl rfl ?_
      refine okl_nil ?_
      change OkC Try.prog _ _ _ _ _ _ _
      refine okc_weak (l' := [(0, _), (1, _), (4, _), (5, _), (6, _), (7, _), (12, _), (19, _)]) ⟨rfl, rfl, rfl, rfl, rfl, rfl, rfl, rfl, trivial⟩ ?_
      refine okc_seq ?_
      refine okc_region ?_
      refine s_move rfl rfl rfl rfl rfl rfl ?_
      refine s_loadW 0 rfl rfl rfl rfl rfl rfl rfl rfl rfl rfl ?_
      refine okl_callGb rfl rfl rfl rfl rfl rfl rfl hc (hp x (List.mem_of_getElem? hx)) covers_all cxG_maps (fun h4 => ?_) (fun h4 => ?_)
      · have hpx : p x = true := h4
        refine s_not rfl rfl rfl rfl rfl rfl ?_
        refine okl_nil ?_
        change OkC Try.prog _ _ _ _ _ _ _
        refine okc_weak (l' := [(0, _), (1, _), (4, _), (5, _), (6, _), (7, _), (12, _), (19, _), (29, _)]) ⟨rfl, rfl, rfl, rfl, rfl, rfl, rfl, rfl, rfl, trivial⟩ ?_
        refine okc_cond_f rfl ?_
        refine okc_skip ?_
        change OkC Try.prog _ _ _ _ _ _ _
        refine okc_weak (l' := [(0, _), (1, _), (4, _), (5, _), (6, _), (7, _), (12, _), (19, _), (29, _)]) ⟨rfl, rfl, rfl, rfl, rfl, rfl, rfl, rfl, rfl, trivial⟩ ?_
        refine okc_region ?_
        refine s_move rfl rfl rfl rfl rfl rfl ?_
        refine s_add rfl rfl rfl rfl rfl rfl rfl (by omega) ?_
        refine s_assign rfl rfl rfl rfl rfl rfl ?_
        refine okl_nil ?_
        refine fun a w hs => ⟨(k + 1, g), ⟨by show k + 1 ≤ _; omega, hI.skip hx hpx⟩, by show _ - (k + 1) < _ - k; omega, ?_⟩
        exact hs.weak ⟨congrArg (fun z => some (Value.int .i64 z)) (by show _ = (((fl p L (k + 1)).length : Nat) : Int); rw [fl_succ hx, if_pos hpx]), rfl, rfl, rfl, rfl, rfl, trivial⟩ [1] (by decide) (rfl)
      · have hpx : p x = false := h4
        refine s_not rfl rfl rfl rfl rfl rfl ?_
        refine okl_nil ?_
        change OkC Try.prog _ _ _ _ _ _ _
        refine okc_weak (l' := [(0, _), (1, _), (4, _), (5, _), (6, _), (7, _), (12, _), (19, _), (29, _)]) ⟨rfl, rfl, rfl, rfl, rfl, rfl, rfl, rfl, rfl, trivial⟩ ?_
        refine okc_cond_t rfl ?_
        refine okc_seq ?_
        refine okc_region ?_
        refine s_move rfl rfl rfl rfl rfl rfl ?_
        refine s_move rfl rfl rfl rfl rfl rfl ?_
        refine s_loadW 0 rfl rfl rfl rfl rfl rfl rfl rfl rfl rfl ?_
        refine s_indexS (fl p L k).length rfl rfl rfl rfl rfl rfl rfl rfl rfl rfl (by omega) rfl ?_
        refine k_store 1 rfl rfl rfl rfl rfl rfl rfl rfl rfl rfl (Nat.ble_eq_true_of_le (by have := hI.len; have := fl_len p L k; show 0 + (fl p L k).length * 5 + 5 ≤ g.length; omega)) rfl ?_
        simp only [Nat.zero_add]
        refine okl_nil ?_
        change OkC Try.prog _ _ _ _ _ _ _
        refine okc_weak (l' := [(0, _), (1, _), (4, _), (5, _), (6, _), (7, _), (12, _), (19, _), (29, _)]) ⟨rfl, rfl, rfl, rfl, rfl, rfl, rfl, rfl, rfl, trivial⟩ ?_
        refine okc_region ?_
        refine s_move rfl rfl rfl rfl rfl rfl ?_
        refine s_add rfl rfl rfl rfl rfl rfl rfl (by omega) ?_
        refine s_assign rfl rfl rfl rfl rfl rfl ?_
        refine okl_nil ?_
        change OkC Try.prog _ _ _ _ _ _ _
        refine okc_weak (l' := [(0, _), (1, _), (4, _), (5, _), (6, _), (7, _), (12, _), (19, _), (29, _)]) ⟨rfl, rfl, rfl, rfl, rfl, rfl, rfl, rfl, rfl, trivial⟩ ?_
        refine okc_region ?_
        refine s_move rfl rfl rfl rfl rfl rfl ?_
        refine s_add rfl rfl rfl rfl rfl rfl rfl (by omega) ?_
        refine s_assign rfl rfl rfl rfl rfl rfl ?_
        refine okl_nil ?_
        refine fun a w hs => ⟨(k + 1, setL g ((fl p L k).length * 5) (rdL x)), ⟨by show k + 1 ≤ _; omega, hI.keep hcs hx hpx⟩, by show _ - (k + 1) < _ - k; omega, ?_⟩
        exact hs.weak ⟨congrArg (fun z => some (Value.int .i64 z)) (by show _ = (((fl p L (k + 1)).length : Nat) : Int); rw [fl_succ hx, if_neg (by simp [hpx])]; simp), rfl, rfl, rfl, rfl, rfl, trivial⟩ [1] (by decide) (rfl)
    · have hge : ¬ k < L.length := by simpa using h2
      have hfl := fl_len p L k
      have hflL : (fl p L k).length ≤ L.length := Nat.le_trans hfl hk
      refine okl_nil ?_
      change OkC Try.prog _ _ _ _ _ _ _
      refine okc_weak (l' := [(0, _), (1, _), (4, _), (5, _), (6, _), (12, _), (19, _)]) ⟨rfl, rfl, rfl, rfl, rfl, rfl, rfl, trivial⟩ ?_
      refine okc_cond_f rfl ?_
      refine okc_exit ?_
      change OkC Try.prog _ _ _ _ _ _ _
      refine okc_weak (l' := [(0, _), (1, _), (4, _), (5, _), (6, _), (12, _), (19, _)]) ⟨rfl, rfl, rfl, rfl, rfl, rfl, rfl, trivial⟩ ?_
      refine okc_seq ?_
      refine okc_region ?_
      refine s_move rfl rfl rfl rfl rfl rfl ?_
      refine s_move rfl rfl rfl rfl rfl rfl ?_
      refine okl_v rfl rfl rfl rfl (op_sliceLo rfl rfl rfl (sl_un (sl_of rfl)) (siz_of rfl) rfl (by omega)) ?_
      obtain ⟨m, hm⟩ : ∃ m, L.length - (fl p L k).length = m := ⟨_, rfl⟩
      rw [hm]
      cases m with
      | zero =>
        refine okl_clear0 rfl rfl rfl rfl rfl (sl_un (sl_of rfl)) ?_
        have hfin : ∀ (r : Nat) (x : Rd), (fl p L k)[r]? = some x → sub g (r * 5) 5 = rdL x := hI.done
        have hgl : g.length = cs.length := hI.len
        refine okl_nil ?_
        change OkC Try.prog _ _ _ _ _ _ _
        refine okc_weak (l' := [(0, _), (1, _), (4, _), (5, _), (6, _), (12, _), (19, _)]) ⟨rfl, rfl, rfl, rfl, rfl, rfl, rfl, trivial⟩ ?_
        refine okc_seq ?_
        refine okc_region ?_
        refine s_move rfl rfl rfl rfl rfl rfl ?_
        refine s_move rfl rfl rfl rfl rfl rfl ?_
        refine okl_v rfl rfl rfl rfl (op_sliceHi rfl rfl rfl (sl_un (sl_of rfl)) (siz_of rfl) rfl (by omega)) ?_
        refine s_assign rfl rfl rfl rfl rfl rfl ?_
        refine okl_nil ?_
        change OkC Try.prog _ _ _ _ _ _ _
        refine okc_weak (l' := [(0, _), (1, _), (4, _), (5, _), (6, _), (12, _), (19, _)]) ⟨rfl, rfl, rfl, rfl, rfl, rfl, rfl, trivial⟩ ?_
        refine okc_ret fun a w hs => ?_
        exact ret_postG hs (run_results1 hs rfl (rv_tmp rfl)) g (by rw [← fl_all (p := p) (k := k) (by omega)]) (by rw [← fl_all (p := p) (k := k) (by omega)]; refine ⟨rdsC_len _, .inr ⟨b, _, rfl, rfl, by omega, hcm, by rw [hgl]; exact hcl, rows_take hfin (by rw [hgl]; omega)⟩⟩) rfl (by simp) (by simp [nums])
      | succ m =>
        rw [cutA_at (by omega)]
        refine okl_clear (zs := [.int .i64 0, .int .i64 0, .int .i64 0, .int .i64 0, .int .i64 0]) (j := 0) rfl rfl rfl rfl rfl (sl_un (sl_of rfl)) zer69 (siz_of rfl) rfl (by decide) rfl rfl (by have := hI.len; omega) ?_
        have hzl : (zerosL [.int .i64 0, .int .i64 0, .int .i64 0, .int .i64 0, .int .i64 0] (m + 1)).length = (m + 1) * 5 := zerosL_len _ _
        have hfin : ∀ (r : Nat) (x : Rd), (fl p L k)[r]? = some x → sub (setL g ((fl p L k).length * 5) (zerosL [.int .i64 0, .int .i64 0, .int .i64 0, .int .i64 0, .int .i64 0] (m + 1))) (r * 5) 5 = rdL x := by
          intro r x hr
          have hrl : r < (fl p L k).length := by rcases Nat.lt_or_ge r (fl p L k).length with h1 | h1; exact h1; rw [List.getElem?_eq_none h1] at hr; cases hr
          rw [sub_set_other (by have := hI.len; omega) (by omega)]; exact hI.done r x hr
        have hgl : (setL g ((fl p L k).length * 5) (zerosL [.int .i64 0, .int .i64 0, .int .i64 0, .int .i64 0, .int .i64 0] (m + 1))).length = cs.length := by rw [length_setL]; exact hI.len
        refine okl_nil ?_
        change OkC Try.prog _ _ _ _ _ _ _
        refine okc_weak (l' := [(0, _), (1, _), (4, _), (5, _), (6, _), (12, _), (19, _)]) ⟨rfl, rfl, rfl, rfl, rfl, rfl, rfl, trivial⟩ ?_
        refine okc_seq ?_
        refine okc_region ?_
        refine s_move rfl rfl rfl rfl rfl rfl ?_
        refine s_move rfl rfl rfl rfl rfl rfl ?_
        refine okl_v rfl rfl rfl rfl (op_sliceHi rfl rfl rfl (sl_un (sl_of rfl)) (siz_of rfl) rfl (by omega)) ?_
        refine s_assign rfl rfl rfl rfl rfl rfl ?_
        refine okl_nil ?_
        change OkC Try.prog _ _ _ _ _ _ _
        refine okc_weak (l' := [(0, _), (1, _), (4, _), (5, _), (6, _), (12, _), (19, _)]) ⟨rfl, rfl, rfl, rfl, rfl, rfl, rfl, trivial⟩ ?_
        refine okc_ret fun a w hs => ?_
        exact ret_postG hs (run_results1 hs rfl (rv_tmp rfl)) (setL g ((fl p L k).length * 5) (zerosL [.int .i64 0, .int .i64 0, .int .i64 0, .int .i64 0, .int .i64 0] (m + 1))) (by rw [← fl_all (p := p) (k := k) (by omega)]) (by rw [← fl_all (p := p) (k := k) (by omega)]; refine ⟨rdsC_len _, .inr ⟨b, _, rfl, rfl, by omega, hcm, by rw [hgl]; exact hcl, rows_take hfin (by rw [hgl]; omega)⟩⟩) rfl (by simp) (by simp [nums])
end Go.Proofs.Ytdpnadknaacinaa
end

section
namespace Go.Proofs.Ytdpnadknaacinaa
open Go.Sx Go.Proofs.Ytdpnadknaacinaa.Ty
set_option linter.unusedVariables false
set_option linter.unusedSimpArgs false
set_option maxHeartbeats 2000000


/-- The spring without the readings of these numbers. -/
def wtS (s : Sp) (nums : List Int) : Sp := { s with reads := s.reads.filter fun x => decide (x.number ∉ nums) }
theorem insK_nodup {ks : List Int} {k : Int} (h : ks.Nodup) : (insK ks k).Nodup := by
  unfold insK; split
  · exact h
  · rename_i hn
    rw [List.nodup_append]
    exact ⟨h, by simp, fun a ha b hb e => by simp at hb; subst hb; subst e; exact hn ha⟩
theorem mem_insK {ks : List Int} {k n : Int} : n ∈ insK ks k ↔ n ∈ ks ∨ n = k := by
  unfold insK; split
  · rename_i h; exact ⟨.inl, fun h2 => by rcases h2 with h2 | h2; exact h2; subst h2; exact h⟩
  · simp
/-- Keys that are there: of the first k readings, less the first j numbers. -/
def KeyI (s : Sp) (ns : List Int) (k j : Nat) (ks : List Int) : Prop := ks.Nodup ∧ ∀ n, n ∈ ks ↔ (∃ x ∈ s.reads.take k, x.number = n) ∧ n ∉ ns.take j
theorem KeyI.zero (s : Sp) (ns : List Int) : KeyI s ns 0 0 [] := ⟨List.nodup_nil, fun n => by simp⟩
theorem KeyI.put {s : Sp} {ns ks : List Int} {k : Nat} {x : Rd} (h : KeyI s ns k 0 ks) (hx : s.reads[k]? = some x) : KeyI s ns (k + 1) 0 (insK ks x.number) := by
  refine ⟨insK_nodup h.1, fun n => ?_⟩
  rw [mem_insK, h.2 n, List.take_add_one, hx]
  simp only [List.take_zero, List.not_mem_nil, not_false_eq_true, and_true, Option.toList_some, List.mem_append, List.mem_singleton]
  constructor
  · rintro (⟨y, hy, rfl⟩ | rfl)
    · exact ⟨y, .inl hy, rfl⟩
    · exact ⟨x, .inr rfl, rfl⟩
  · rintro ⟨y, hy | rfl, rfl⟩
    · exact .inl ⟨y, hy, rfl⟩
    · exact .inr rfl
theorem KeyI.del {s : Sp} {ns ks : List Int} {k j : Nat} {m : Int} (h : KeyI s ns k j ks) (hm : ns[j]? = some m) : KeyI s ns k (j + 1) (ks.erase m) := by
  refine ⟨h.1.erase m, fun n => ?_⟩
  rw [h.1.mem_erase_iff, h.2 n, List.take_add_one, hm]
  simp only [Option.toList_some, List.mem_append, List.mem_singleton, not_or]
  constructor
  · rintro ⟨h1, h2, h3⟩; exact ⟨h2, h3, h1⟩
  · rintro ⟨h2, h3, h1⟩; exact ⟨h1, h2, h3⟩
theorem KeyI.filter {s : Sp} {ns ks : List Int} (h : KeyI s ns s.reads.length ns.length ks) : (s.reads.filter fun x => !(!decide (x.number ∈ ks))) = (wtS s ns).reads := by
  unfold wtS
  refine List.filter_congr fun x hx => ?_
  have h1 := h.2 x.number
  rw [List.take_length, List.take_length] at h1
  simp only [Bool.not_not, decide_eq_decide]
  rw [h1]
  exact ⟨fun h => h.2, fun h2 => ⟨⟨x, hx, rfl⟩, h2⟩⟩
theorem okl_xmT {N : Cx} {w0 : World} {l : Env} {O : Blks} {A : Args} {o : Oper} {ops : Array Oper} {Q : Exit → Act → World → Prop} {is : List Nat} {i d : Nat} {φ : Value → Blks → Prop} (E B1 B : Blks) (ho : ops[i]? = some o) (hg : wantsB ops l o = some true) (hd : o.dst = some d) (hN : Nat.blt d N.n = true)
    (h : OpX Try.prog N w0 l B (E ++ B1) A o φ) (hO : O = E ++ (B1 ++ B)) (rest : ∀ v B', φ v B' → Go.Sx.OkL Try.prog N w0 ops Q is ((d, v) :: l) (E ++ (B1 ++ B')) A) : Go.Sx.OkL Try.prog N w0 ops Q (i :: is) l O A :=
  okl_xm (E ++ B1) B [] ho hg hd hN (by simpa using h) (by simpa using hO) (fun v B' hφ => by simpa using rest v B' hφ)
theorem deleteFunc_nil (M : Args) (mp : List (Nat × Array MapEntry × Nat)) (gf : Nat) (first cap : Array Value) (hc : callable Try.prog gf) (p : Rd → Bool) : CnG Try.prog 117 [.slice none 0 0, .func (.func gf) first cap] M mp [] (fun _ : Unit => .slice none 0 0) (fun _ => []) (fun _ => []) (fun _ => True) := by
  refine fn_introG (n := 42) Try.func117 rfl rfl rfl fun w0 => ?_
  refine okc_seq ?_
  refine okc_region ?_
  refine s_assign rfl rfl rfl rfl rfl rfl ?_
  refine okl_nil ?_
  change OkC Try.prog _ _ _ _ _ _ _
  refine okc_weak (l' := [(0, _), (1, _), (4, _)]) ⟨rfl, rfl, rfl, trivial⟩ ?_
  refine okc_seq ?_
  refine okc_region ?_
  refine s_move rfl rfl rfl rfl rfl rfl ?_
  refine s_move rfl rfl rfl rfl rfl rfl ?_
  refine okl_x (c := []) (keep := []) [] rfl rfl rfl rfl (opx_call rfl rfl rfl c124 (indexFunc_fn [] [] [] (by simp) gf first cap hc p (fun x hx => by cases hx) none 0 ⟨0, 0, [], 0, fun h => absurd rfl h⟩) covers_nil (fun b es c h => by cases h)) (by simp) (fun v B hv => ?_)
  obtain ⟨i, rfl, hi, rfl⟩ := hv
  have hi1 : i = -1 := by rcases hi with ⟨h1, _⟩ | ⟨k, x, _, h2, _⟩; exact h1; simp at h2
  refine s_assign rfl rfl rfl rfl rfl rfl ?_
  refine okl_nil ?_
  change OkC Try.prog _ _ _ _ _ _ _
  refine okc_weak (l' := [(0, _), (1, _), (4, _), (5, _)]) ⟨rfl, rfl, rfl, rfl, trivial⟩ ?_
  refine okc_seq ?_
  refine okc_seq ?_
  refine okc_region ?_
  refine s_move rfl rfl rfl rfl rfl rfl ?_
  refine s_cmpS rfl rfl rfl rfl rfl rfl rfl rfl (fun h1 => ?_) (fun h1 => ?_)
  · refine okl_nil ?_
    change OkC Try.prog _ _ _ _ _ _ _
    refine okc_weak (l' := [(0, _), (1, _), (4, _), (5, _), (12, _)]) ⟨rfl, rfl, rfl, rfl, rfl, trivial⟩ ?_
    refine okc_cond_t rfl ?_
    refine okc_seq ?_
    refine okc_region ?_
    refine s_move rfl rfl rfl rfl rfl rfl ?_
    refine s_assign rfl rfl rfl rfl rfl rfl ?_
    refine okl_nil ?_
    change OkC Try.prog _ _ _ _ _ _ _
    refine okc_weak (l' := [(0, _), (1, _), (4, _), (5, _), (12, _)]) ⟨rfl, rfl, rfl, rfl, rfl, trivial⟩ ?_
    refine okc_ret fun a w hs => ?_
    exact ret_postG hs (run_results1 hs rfl (rv_tmp rfl)) () rfl trivial rfl (by simp) (by simp [nums])
  · exact absurd hi1 (by simpa using h1) --closed
/-- Whatever lies there. -/
theorem opx_delete {N : Cx} {w0 : World} {l : Env} {B keep : Blks} {A : Args} {o : Oper} {xs : Array Operand} {ts : Array TypeId} {x : Operand} {q : Option Addr} {c : Nat} (M : Args) (mp : List (Nat × Array MapEntry × Nat)) (L : List Rd) (hl : L.length ≤ 1000) (gf : Nat) (first cap : Array Value) (hc : callable Try.prog gf) (p : Rd → Bool) (hp : TestG gf first cap M mp L p)
    (hsl : Sl B 69 5 q L.length c (rdsC L)) (hop : o.op = .call { callee := .value x, args := xs, argTypes := ts }) (hf : ev l x = some (.func (.func 117) #[] #[])) (hx : evAll l xs.toList = some [.slice q L.length c, .func (.func gf) first cap])
    (hM : covers keep A M) (hmp : ∀ b es c, (b, es, c) ∈ mp → ∃ own, (b, es, c, own) ∈ N.maps) :
    OpX Try.prog N w0 l B keep A o (fun v B' => v = .slice q (L.filter fun x => !p x).length c ∧ Sl B' 69 5 q (L.filter fun x => !p x).length c (rdsC (L.filter fun x => !p x))) := by
  have hsl0 := hsl
  rcases hsl.2 with ⟨rfl, hn, rfl, rfl⟩ | ⟨g, cs, rfl, rfl, _⟩
  · have hL : L = [] := List.length_eq_zero_iff.1 hn
    subst hL
    refine (opx_call (cap := #[]) hop hf hx c117 (deleteFunc_nil M mp gf first cap hc p) hM hmp).mono ?_
    rintro v B ⟨_, rfl, _, rfl⟩
    exact ⟨rfl, Sl.nil 69 5⟩
  · refine (opx_call (cap := #[]) hop hf hx c117 (deleteFunc_fn M mp L hl gf first cap hc p hp g c cs hsl0) hM hmp).mono ?_
    rintro v B ⟨g', rfl, hok, rfl⟩
    exact ⟨rfl, by simpa using hok⟩

theorem without_fn (s : Sp) (M : Args) (hin : s.In M) (hgr : s.book.length ≤ 30 ∧ s.reads.length ≤ 30) (ns : List Int) (pn : Option Addr) (cn : Nat) (hns : IntsIn M pn ns) : Cn Try.prog 93 [spV s, .slice pn ns.length cn] M (fun g : Rn2 => spV (twS (wtS s ns) g)) (fun g => g.B1 ++ g.B2) (TwOk (wtS s ns)) := by
  have hnl := hns.len
  obtain ⟨bN, oN, cN, jN, hN⟩ := hns.row
  obtain ⟨bR, oR, cR, jR, hR⟩ := hin.reads
  refine fn_intro (N := 43) Try.func93 rfl rfl rfl fun w0 => ?_
  refine okc_seq ?_
  refine okc_region ?_
  refine s_boxA rfl rfl rfl rfl rfl rfl (fun b2 => ?_)
  refine s_alloc rfl rfl rfl rfl rfl rfl (fun b3 => ?_)
  refine okl_nil ?_
  change OkC Try.prog _ _ _ _ _ _ _
  refine okc_weak (l' := [(0, _), (1, _), (2, _), (4, _)]) ⟨rfl, rfl, rfl, rfl, trivial⟩ ?_
  refine okc_seq ?_
  refine okc_region ?_
  refine okl_makeMap rfl rfl rfl rfl rfl rfl (fun bm => ?_)
  refine s_alloc rfl rfl rfl rfl rfl rfl (fun b4 => ?_)
  refine k_storeW 0 rfl rfl rfl rfl rfl rfl rfl rfl rfl rfl rfl rfl ?_
  refine okl_nil ?_
  change OkC Try.prog _ _ _ _ _ _ _
  refine okc_weak (l' := [(0, _), (1, _), (2, _), (4, _), (5, _)]) ⟨rfl, rfl, rfl, rfl, rfl, trivial⟩ ?_
  refine okc_seq ?_
  refine okc_seq ?_
  refine okc_region ?_
  refine s_field rfl rfl rfl rfl rfl rfl rfl rfl ?_
  refine s_field rfl rfl rfl rfl rfl rfl rfl rfl ?_
  refine s_load1 2 rfl rfl rfl rfl rfl rfl rfl rfl rfl ?_
  refine s_len rfl rfl rfl rfl rfl rfl rfl ?_
  refine s_move rfl rfl rfl rfl rfl rfl ?_
  refine okl_nil ?_
  change OkC Try.prog _ _ _ _ _ _ _
  refine okc_weak (l' := [(0, _), (1, _), (2, _), (4, _), (5, _), (14, _), (15, _), (16, _)]) ⟨rfl, rfl, rfl, rfl, rfl, rfl, rfl, rfl, trivial⟩ ?_
  refine okc_block ?_
  refine okc_loopM (γ := Nat × List Int × Array MapEntry × Nat) [(0, _), (1, _), (2, _), (4, _), (5, _), (14, _), (15, _)] ⟨rfl, rfl, rfl, rfl, rfl, rfl, rfl, trivial⟩ [0, 1, 2] [] (by decide) _ rfl (fun g => [(16, .int .i64 (g.1 : Int))]) (fun g => []) (fun g => [(bm, g.2.2.1, g.2.2.2, true)]) (fun g => g.1 ≤ s.reads.length ∧ KeyI s ns g.1 0 g.2.1 ∧ MapI g.2.2.1 g.2.1 (.bool true)) (fun g => s.reads.length - g.1) (0, [], #[], 0) ⟨Nat.zero_le _, KeyI.zero s ns, MapI.nil _⟩ ⟨rfl, trivial⟩ rfl rfl ?_
  rintro ⟨k, ks, es, cl⟩ ⟨hk, hK, hI⟩
  dsimp only at hk hK hI ⊢
  change OkC Try.prog _ _ _ _ _ _ _
  refine okc_seq ?_
  refine okc_region ?_
  refine s_cmpS rfl rfl rfl rfl rfl rfl rfl rfl (fun h5 => ?_) (fun h5 => ?_)
  · have hlt : k < s.reads.length := by simpa using h5
    obtain ⟨x, hx⟩ : ∃ x, s.reads[k]? = some x := ⟨s.reads[k], by simp [hlt]⟩
    obtain ⟨hpR, hjR, hatR⟩ := hR (by intro e; simp [e] at hlt)
    have hcell := hatR k x hx
    refine okl_nil ?_
    change OkC Try.prog _ _ _ _ _ _ _
    refine okc_weak (l' := [(0, _), (1, _), (2, _), (4, _), (5, _), (14, _), (15, _), (16, _), (17, _)]) ⟨rfl, rfl, rfl, rfl, rfl, rfl, rfl, rfl, rfl, trivial⟩ ?_
    refine okc_seq ?_
    refine okc_cond_t rfl ?_
    refine okc_skip ?_
    change OkC Try.prog _ _ _ _ _ _ _
    refine okc_weak (l' := [(0, _), (1, _), (2, _), (4, _), (5, _), (14, _), (15, _), (16, _), (17, _)]) ⟨rfl, rfl, rfl, rfl, rfl, rfl, rfl, rfl, rfl, trivial⟩ ?_
    refine okc_seq ?_
    refine okc_block ?_
    refine okc_seq ?_
    refine okc_region ?_
    refine s_indexP k hpR rfl rfl rfl rfl rfl rfl rfl rfl rfl rfl (by omega) rfl ?_
    refine s_loadAP jR rfl rfl rfl rfl rfl rfl rfl hjR rfl (by assumption) rfl ?_
    refine s_alloc rfl rfl rfl rfl rfl rfl (fun b6 => ?_)
    refine k_storeW 0 rfl rfl rfl rfl rfl rfl rfl rfl rfl rfl rfl rfl ?_
    refine okl_nil ?_
    change OkC Try.prog _ _ _ _ _ _ _
    refine okc_weak (l' := [(0, _), (1, _), (2, _), (4, _), (5, _), (7, _), (14, _), (15, _), (16, _), (17, _)]) ⟨rfl, rfl, rfl, rfl, rfl, rfl, rfl, rfl, rfl, rfl, trivial⟩ ?_
    refine okc_region ?_
    refine s_load1 1 rfl rfl rfl rfl rfl rfl rfl rfl rfl ?_
    refine s_field rfl rfl rfl rfl rfl rfl rfl rfl ?_
    refine s_load1 0 rfl rfl rfl rfl rfl rfl rfl rfl rfl ?_
    refine okl_mapPut rfl rfl rfl rfl rfl rfl rfl Try.underlying176 int3 rfl hI (fun es2 cl2 hI2 => ?_)
    refine okl_nil ?_
    change OkC Try.prog _ _ _ _ _ _ _
    refine okc_weak (l' := [(0, _), (1, _), (2, _), (4, _), (5, _), (7, _), (14, _), (15, _), (16, _), (17, _)]) ⟨rfl, rfl, rfl, rfl, rfl, rfl, rfl, rfl, rfl, rfl, trivial⟩ ?_
    refine okc_region ?_
    refine s_add rfl rfl rfl rfl rfl rfl rfl (by omega) ?_
    refine s_move rfl rfl rfl rfl rfl rfl ?_
    refine okl_nil ?_
    refine fun a w hs => ⟨(k + 1, insK ks x.number, es2, cl2), ⟨by show k + 1 ≤ _; omega, hK.put hx, hI2⟩, by show _ - (k + 1) < _ - k; omega, ?_⟩
    exact hs.weak ⟨rfl, rfl, rfl, rfl, rfl, rfl, rfl, rfl, trivial⟩ [1, 2, 3] (by decide) (rfl)
  · have hge : ¬ k < s.reads.length := by simpa using h5
    obtain rfl : k = s.reads.length := by omega
    refine okl_nil ?_
    change OkC Try.prog _ _ _ _ _ _ _
    refine okc_weak (l' := [(0, _), (1, _), (2, _), (4, _), (5, _), (14, _), (15, _), (16, _), (17, _)]) ⟨rfl, rfl, rfl, rfl, rfl, rfl, rfl, rfl, rfl, trivial⟩ ?_
    refine okc_seq ?_
    refine okc_cond_f rfl ?_
    refine okc_exit ?_
    change OkC Try.prog _ _ _ _ _ _ _
    refine okc_weak (l' := [(0, _), (1, _), (2, _), (4, _), (5, _), (14, _), (15, _), (16, _), (17, _)]) ⟨rfl, rfl, rfl, rfl, rfl, rfl, rfl, rfl, rfl, trivial⟩ ?_
    refine okc_seq ?_
    refine okc_seq ?_
    refine okc_region ?_
    refine s_move rfl rfl rfl rfl rfl rfl ?_
    refine s_len rfl rfl rfl rfl rfl rfl rfl ?_
    refine s_move rfl rfl rfl rfl rfl rfl ?_
    refine okl_nil ?_
    change OkC Try.prog _ _ _ _ _ _ _
    refine okc_weak (l' := [(0, _), (1, _), (2, _), (4, _), (5, _), (14, _), (15, _), (16, _), (17, _), (24, _), (25, _), (26, _)]) ⟨rfl, rfl, rfl, rfl, rfl, rfl, rfl, rfl, rfl, rfl, rfl, rfl, trivial⟩ ?_
    refine okc_block ?_
    refine okc_loopM (γ := Nat × List Int × Array MapEntry × Nat) [(0, _), (1, _), (2, _), (4, _), (5, _), (14, _), (15, _), (16, _), (17, _), (24, _), (25, _)] ⟨rfl, rfl, rfl, rfl, rfl, rfl, rfl, rfl, rfl, rfl, rfl, trivial⟩ [0, 1, 2] [] (by decide) _ rfl (fun g => [(26, .int .i64 (g.1 : Int))]) (fun g => []) (fun g => [(bm, g.2.2.1, g.2.2.2, true)]) (fun g => g.1 ≤ ns.length ∧ KeyI s ns s.reads.length g.1 g.2.1 ∧ MapI g.2.2.1 g.2.1 (.bool true)) (fun g => ns.length - g.1) (0, ks, es, cl) ⟨Nat.zero_le _, hK, hI⟩ ⟨rfl, trivial⟩ rfl rfl ?_
    rintro ⟨j, ks, es, cl⟩ ⟨hj, hK, hI⟩
    dsimp only at hj hK hI ⊢
    change OkC Try.prog _ _ _ _ _ _ _
    refine okc_seq ?_
    refine okc_region ?_
    refine s_cmpS rfl rfl rfl rfl rfl rfl rfl rfl (fun h7 => ?_) (fun h7 => ?_)
    · have hlt : j < ns.length := by simpa using h7
      obtain ⟨m, hm⟩ : ∃ m, ns[j]? = some m := ⟨ns[j], by simp [hlt]⟩
      obtain ⟨hpN, hjN, hatN⟩ := hN (by intro e; simp [e] at hlt)
      have hcell := hatN j m hm
      refine okl_nil ?_
      change OkC Try.prog _ _ _ _ _ _ _
      refine okc_weak (l' := [(0, _), (1, _), (2, _), (4, _), (5, _), (14, _), (15, _), (16, _), (17, _), (24, _), (25, _), (26, _), (27, _)]) ⟨rfl, rfl, rfl, rfl, rfl, rfl, rfl, rfl, rfl, rfl, rfl, rfl, rfl, trivial⟩ ?_
      refine okc_seq ?_
      refine okc_cond_t rfl ?_
      refine okc_skip ?_
      change OkC Try.prog _ _ _ _ _ _ _
      refine okc_weak (l' := [(0, _), (1, _), (2, _), (4, _), (5, _), (14, _), (15, _), (16, _), (17, _), (24, _), (25, _), (26, _), (27, _)]) ⟨rfl, rfl, rfl, rfl, rfl, rfl, rfl, rfl, rfl, rfl, rfl, rfl, rfl, trivial⟩ ?_
      refine okc_seq ?_
      refine okc_block ?_
      refine okc_seq ?_
      refine okc_region ?_
      refine s_indexP j hpN rfl rfl rfl rfl rfl rfl rfl rfl rfl rfl (by omega) rfl ?_
      refine s_loadA1 jN rfl rfl rfl rfl rfl rfl rfl hjN (by assumption) ?_
      refine s_assign rfl rfl rfl rfl rfl rfl ?_
      refine okl_nil ?_
      change OkC Try.prog _ _ _ _ _ _ _
      refine okc_weak (l' := [(0, _), (1, _), (2, _), (4, _), (5, _), (9, _), (14, _), (15, _), (16, _), (17, _), (24, _), (25, _), (26, _), (27, _)]) ⟨rfl, rfl, rfl, rfl, rfl, rfl, rfl, rfl, rfl, rfl, rfl, rfl, rfl, rfl, trivial⟩ ?_
      refine okc_region ?_
      refine s_load1 0 rfl rfl rfl rfl rfl rfl rfl rfl rfl ?_
      refine s_move rfl rfl rfl rfl rfl rfl ?_
      refine okl_mapDel rfl rfl rfl rfl rfl rfl Try.underlying176 int3 rfl hI (fun es2 cl2 hI2 => ?_)
      refine okl_nil ?_
      change OkC Try.prog _ _ _ _ _ _ _
      refine okc_weak (l' := [(0, _), (1, _), (2, _), (4, _), (5, _), (9, _), (14, _), (15, _), (16, _), (17, _), (24, _), (25, _), (26, _), (27, _)]) ⟨rfl, rfl, rfl, rfl, rfl, rfl, rfl, rfl, rfl, rfl, rfl, rfl, rfl, rfl, trivial⟩ ?_
      refine okc_region ?_
      refine s_add rfl rfl rfl rfl rfl rfl rfl (by omega) ?_
      refine s_move rfl rfl rfl rfl rfl rfl ?_
      refine okl_nil ?_
      refine fun a w hs => ⟨(j + 1, ks.erase m, es2, cl2), ⟨by show j + 1 ≤ _; omega, hK.del hm, hI2⟩, by show _ - (j + 1) < _ - j; omega, ?_⟩
      exact hs.weak ⟨rfl, rfl, rfl, rfl, rfl, rfl, rfl, rfl, rfl, rfl, rfl, rfl, trivial⟩ [0, 1, 2] (by decide) (rfl)
    · have hge : ¬ j < ns.length := by simpa using h7
      obtain rfl : j = ns.length := by omega
      refine okl_nil ?_
      change OkC Try.prog _ _ _ _ _ _ _
      refine okc_weak (l' := [(0, _), (1, _), (2, _), (4, _), (5, _), (14, _), (15, _), (16, _), (17, _), (24, _), (25, _), (26, _), (27, _)]) ⟨rfl, rfl, rfl, rfl, rfl, rfl, rfl, rfl, rfl, rfl, rfl, rfl, rfl, trivial⟩ ?_
      refine okc_seq ?_
      refine okc_cond_f rfl ?_
      refine okc_exit ?_
      change OkC Try.prog _ _ _ _ _ _ _
      refine okc_weak (l' := [(0, _), (1, _), (2, _), (4, _), (5, _), (14, _), (15, _), (16, _), (17, _), (24, _), (25, _), (26, _), (27, _)]) ⟨rfl, rfl, rfl, rfl, rfl, rfl, rfl, rfl, rfl, rfl, rfl, rfl, rfl, trivial⟩ ?_
      refine okc_seq ?_
      refine okc_region ?_
      refine s_field rfl rfl rfl rfl rfl rfl rfl rfl ?_
      refine s_loadW 2 rfl rfl rfl rfl rfl rfl rfl rfl rfl rfl ?_
      refine okl_rE rfl rfl rfl rfl (op_call rfl rfl rfl c97 (copied_fn s M hin hgr) covers_all) (fun g hg => ?_)
      obtain ⟨p1, k1, B1, p2, k2, B2⟩ := g
      obtain ⟨hg1, hg2⟩ := hg
      dsimp only at hg1 hg2
      refine s_alloc rfl rfl rfl rfl rfl rfl (fun b8 => ?_)
      refine k_storeW 0 rfl rfl rfl rfl rfl rfl rfl rfl rfl rfl rfl rfl ?_
      refine okl_nil ?_
      change OkC Try.prog _ _ _ _ _ _ _
      refine okc_weak (l' := [(0, _), (1, _), (2, _), (4, _), (5, _), (10, _), (14, _), (15, _), (16, _), (17, _), (24, _), (25, _), (26, _), (27, _)]) ⟨rfl, rfl, rfl, rfl, rfl, rfl, rfl, rfl, rfl, rfl, rfl, rfl, rfl, rfl, trivial⟩ ?_
      refine okc_seq ?_
      refine okc_region ?_
      refine s_field rfl rfl rfl rfl rfl rfl rfl rfl ?_
      refine s_load1 0 rfl rfl rfl rfl rfl rfl rfl rfl rfl ?_
      refine okl_v rfl rfl rfl rfl (op_makeFunc rfl rfl) ?_
      have hfe := hK.filter
      obtain ⟨j5, hj5⟩ : ∃ j5 : Nat, j5 = 0 := ⟨0, rfl⟩
      refine okl_xmT [_, _, _, _] B1 B2 rfl rfl rfl rfl (opx_delete [(b4, [.map (some bm)])] [(bm, es, cl)] s.reads (by omega) 118 #[] #[.pointer (some ⟨b4, 0, none⟩)] c118 (fun x => !decide (x.number ∈ ks)) (fun x _ => kept_fn x _ b4 bm cl 0 es ks rfl hI) hg2 rfl rfl rfl (covers_own 1 rfl covers_nil) (fun b es c h => by cases List.mem_singleton.1 h; exact ⟨true, List.mem_singleton.2 rfl⟩)) rfl (fun v B3 hv => ?_)
      obtain ⟨rfl, hsl⟩ := hv
      rw [hfe] at hsl ⊢
      refine s_field rfl rfl rfl rfl rfl rfl rfl rfl ?_
      refine k_store 0 rfl rfl rfl rfl rfl rfl rfl rfl rfl rfl rfl rfl ?_
      refine okl_nil ?_
      change OkC Try.prog _ _ _ _ _ _ _
      refine okc_weak (l' := [(0, _), (1, _), (2, _), (4, _), (5, _), (10, _), (14, _), (15, _), (16, _), (17, _), (24, _), (25, _), (26, _), (27, _)]) ⟨rfl, rfl, rfl, rfl, rfl, rfl, rfl, rfl, rfl, rfl, rfl, rfl, rfl, rfl, trivial⟩ ?_
      refine okc_seq ?_
      refine okc_region ?_
      refine s_loadW 0 rfl rfl rfl rfl rfl rfl rfl rfl rfl rfl ?_
      refine s_build rfl rfl rfl rfl rfl rfl rfl rfl rfl ?_
      refine k_storeW 2 rfl rfl rfl rfl rfl rfl rfl rfl rfl rfl rfl rfl ?_
      refine okl_nil ?_
      change OkC Try.prog _ _ _ _ _ _ _
      refine okc_weak (l' := [(0, _), (1, _), (2, _), (4, _), (5, _), (10, _), (14, _), (15, _), (16, _), (17, _), (24, _), (25, _), (26, _), (27, _)]) ⟨rfl, rfl, rfl, rfl, rfl, rfl, rfl, rfl, rfl, rfl, rfl, rfl, rfl, rfl, trivial⟩ ?_
      refine okc_ret fun a w hs => ?_
      exact ret_postS hs (run_results1 hs rfl (k_ragg 2 rfl rfl rfl rfl rfl)) ⟨p1, k1, B1, p2, k2, B3⟩ rfl ⟨hg1, hsl⟩ (sub_drop 4 rfl)
end Go.Proofs.Ytdpnadknaacinaa
end

section
namespace Go.Proofs.Ytdpnadknaacinaa
open Go.Sx Go.Proofs.Ytdpnadknaacinaa.Ty
set_option linter.unusedVariables false
set_option linter.unusedSimpArgs false
set_option maxHeartbeats 2000000


def FW (s : Sp) (ns : List Int) (k : Nat) : List Rd := (s.reads.take k).filter fun x => decide (x.number ∉ ns)
theorem FW_succ {s : Sp} {ns : List Int} {k : Nat} {x : Rd} (hx : s.reads[k]? = some x) : FW s ns (k + 1) = if x.number ∈ ns then FW s ns k else FW s ns k ++ [x] := by
  unfold FW
  rw [List.take_add_one, hx, List.filter_append]
  by_cases h : x.number ∈ ns <;> simp [h]
theorem FW_len (s : Sp) (ns : List Int) (k : Nat) : (FW s ns k).length ≤ k := Nat.le_trans (List.length_filter_le _ _) (by simp; omega)
theorem rdsC_snoc (L : List Rd) (x : Rd) : rdsC (L ++ [x]) = rdsC L ++ rdL x := by simp [rdsC]
structure Wg where
  k : Nat
  q : Option Addr
  c : Nat
  B : Blks

theorem rWithout_fn (s : Sp) (M : Args) (hin : s.In M) (hgr : s.book.length ≤ 30 ∧ s.reads.length ≤ 30) (ns : List Int) (pn : Option Addr) (cn : Nat) (hns : IntsIn M pn ns) : Cn Try.prog 94 [spV s, .slice pn ns.length cn] M (fun g : Rn2 => spV (twS (wtS s ns) g)) (fun g => g.B1 ++ g.B2) (TwOk (wtS s ns)) := by
  have hnl := hns.len
  obtain ⟨bN, oN, cN, jN, hN⟩ := hns.row
  obtain ⟨bR, oR, cR, jR, hR⟩ := hin.reads
  refine fn_intro (N := 45) Try.func94 rfl rfl rfl fun w0 => ?_
  refine okc_seq ?_
  refine okc_region ?_
  refine s_boxA rfl rfl rfl rfl rfl rfl (fun b1 => ?_)
  refine s_alloc rfl rfl rfl rfl rfl rfl (fun b2 => ?_)
  refine okl_nil ?_
  change OkC Try.prog _ _ _ _ _ _ _
  refine okc_weak (l' := [(0, _), (1, _), (2, _), (4, _)]) ⟨rfl, rfl, rfl, rfl, trivial⟩ ?_
  refine okc_seq ?_
  refine okc_region ?_
  refine s_loadW 1 rfl rfl rfl rfl rfl rfl rfl rfl rfl rfl ?_
  refine okl_rE rfl rfl rfl rfl (op_call rfl rfl rfl c17 (twin_fn s M hin hgr) covers_all) (fun g hg => ?_)
  obtain ⟨p1, k1, B1, p2, k2, B2⟩ := g
  obtain ⟨hg1, hg2⟩ := hg
  dsimp only at hg1 hg2
  refine s_alloc rfl rfl rfl rfl rfl rfl (fun b3 => ?_)
  refine k_storeW 0 rfl rfl rfl rfl rfl rfl rfl rfl rfl rfl rfl rfl ?_
  refine okl_nil ?_
  change OkC Try.prog _ _ _ _ _ _ _
  refine okc_weak (l' := [(0, _), (1, _), (2, _), (4, _), (5, _)]) ⟨rfl, rfl, rfl, rfl, rfl, trivial⟩ ?_
  refine okc_seq ?_
  refine okc_region ?_
  refine s_field rfl rfl rfl rfl rfl rfl rfl rfl ?_
  refine k_store 0 rfl rfl rfl rfl rfl rfl rfl rfl rfl rfl rfl rfl ?_
  refine okl_nil ?_
  change OkC Try.prog _ _ _ _ _ _ _
  refine okc_weak (l' := [(0, _), (1, _), (2, _), (4, _), (5, _)]) ⟨rfl, rfl, rfl, rfl, rfl, trivial⟩ ?_
  refine okc_seq ?_
  refine okc_seq ?_
  refine okc_region ?_
  refine s_field rfl rfl rfl rfl rfl rfl rfl rfl ?_
  refine s_load1 2 rfl rfl rfl rfl rfl rfl rfl rfl rfl ?_
  refine s_len rfl rfl rfl rfl rfl rfl rfl ?_
  refine s_move rfl rfl rfl rfl rfl rfl ?_
  refine okl_nil ?_
  change OkC Try.prog _ _ _ _ _ _ _
  refine okc_weak (l' := [(0, _), (1, _), (2, _), (4, _), (5, _), (15, _), (16, _), (17, _)]) ⟨rfl, rfl, rfl, rfl, rfl, rfl, rfl, rfl, trivial⟩ ?_
  refine okc_block ?_
  refine okc_sub (O' := [_, _, _] ++ (B1 ++ [])) (List.Sublist.append (List.Sublist.refl _) (List.Sublist.append (List.Sublist.refl _) (List.nil_sublist _))) ?_
  refine okc_loopH (γ := Wg) [(0, _), (1, _), (2, _), (4, _), (5, _), (15, _), (16, _)] ⟨rfl, rfl, rfl, rfl, rfl, rfl, rfl, trivial⟩ [1, 2] [0] (by decide) [_, _, _] B1 _ rfl (fun g => [(17, .int .i64 (g.k : Int))]) (fun g => [(b3, [.int .i64 s.weeks, .int .i64 s.most, .int .i64 s.fall, .int .i64 s.slo, .int .i64 s.shi, .int .i64 s.wlo, .int .i64 s.whi, .slice p1 s.book.length k1, .slice g.q (FW s ns g.k).length g.c], 27)]) (fun g => g.B) (fun g => g.k ≤ s.reads.length ∧ Sl g.B 69 5 g.q (FW s ns g.k).length g.c (rdsC (FW s ns g.k))) (fun g => s.reads.length - g.k) ⟨0, none, 0, []⟩ ⟨Nat.zero_le _, Sl.nil 69 5⟩ ⟨rfl, trivial⟩ rfl rfl ?_
  rintro ⟨k, q, c, B⟩ ⟨hk, hsl⟩
  dsimp only at hk hsl ⊢
  change OkC Try.prog _ _ _ _ _ _ _
  refine okc_seq ?_
  refine okc_region ?_
  refine s_cmpS rfl rfl rfl rfl rfl rfl rfl rfl (fun h4 => ?_) (fun h4 => ?_)
  · have hlt : k < s.reads.length := by simpa using h4
    obtain ⟨x, hx⟩ : ∃ x, s.reads[k]? = some x := ⟨s.reads[k], by simp [hlt]⟩
    obtain ⟨hpR, hjR, hatR⟩ := hR (by intro e; simp [e] at hlt)
    have hcell := hatR k x hx
    have hfw := FW_len s ns k
    refine okl_nil ?_
    change OkC Try.prog _ _ _ _ _ _ _
    refine okc_weak (l' := [(0, _), (1, _), (2, _), (4, _), (5, _), (15, _), (16, _), (17, _), (18, _)]) ⟨rfl, rfl, rfl, rfl, rfl, rfl, rfl, rfl, rfl, trivial⟩ ?_
    refine okc_seq ?_
    refine okc_cond_t rfl ?_
    refine okc_skip ?_
    change OkC Try.prog _ _ _ _ _ _ _
    refine okc_weak (l' := [(0, _), (1, _), (2, _), (4, _), (5, _), (15, _), (16, _), (17, _), (18, _)]) ⟨rfl, rfl, rfl, rfl, rfl, rfl, rfl, rfl, rfl, trivial⟩ ?_
    refine okc_seq ?_
    refine okc_block ?_
    refine okc_seq ?_
    refine okc_region ?_
    refine s_indexP k hpR rfl rfl rfl rfl rfl rfl rfl rfl rfl rfl (by omega) rfl ?_
    refine s_loadAP jR rfl rfl rfl rfl rfl rfl rfl hjR rfl (by assumption) rfl ?_
    refine s_alloc rfl rfl rfl rfl rfl rfl (fun b5 => ?_)
    refine k_storeW 0 rfl rfl rfl rfl rfl rfl rfl rfl rfl rfl rfl rfl ?_
    refine okl_nil ?_
    change OkC Try.prog _ _ _ _ _ _ _
    refine okc_weak (l' := [(0, _), (1, _), (2, _), (4, _), (5, _), (7, _), (15, _), (16, _), (17, _), (18, _)]) ⟨rfl, rfl, rfl, rfl, rfl, rfl, rfl, rfl, rfl, rfl, trivial⟩ ?_
    refine okc_seq ?_
    refine okc_region ?_
    refine s_assign rfl rfl rfl rfl rfl rfl ?_
    refine okl_nil ?_
    change OkC Try.prog _ _ _ _ _ _ _
    refine okc_weak (l' := [(0, _), (1, _), (2, _), (4, _), (5, _), (7, _), (8, _), (15, _), (16, _), (17, _), (18, _)]) ⟨rfl, rfl, rfl, rfl, rfl, rfl, rfl, rfl, rfl, rfl, rfl, trivial⟩ ?_
    refine okc_seq ?_
    refine okc_seq ?_
    refine okc_region ?_
    refine s_move rfl rfl rfl rfl rfl rfl ?_
    refine s_len rfl rfl rfl rfl rfl rfl rfl ?_
    refine s_move rfl rfl rfl rfl rfl rfl ?_
    refine okl_nil ?_
    change OkC Try.prog _ _ _ _ _ _ _
    refine okc_weak (l' := [(0, _), (1, _), (2, _), (4, _), (5, _), (7, _), (8, _), (15, _), (16, _), (17, _), (18, _), (21, _), (22, _), (23, _)]) ⟨rfl, rfl, rfl, rfl, rfl, rfl, rfl, rfl, rfl, rfl, rfl, rfl, rfl, rfl, trivial⟩ ?_
    refine okc_block ?_
    refine okc_loopH (γ := Nat × Bool) [(0, _), (1, _), (2, _), (4, _), (5, _), (7, _), (15, _), (16, _), (17, _), (18, _), (21, _), (22, _)] ⟨rfl, rfl, rfl, rfl, rfl, rfl, rfl, rfl, rfl, rfl, rfl, rfl, trivial⟩ [0, 1, 2, 3] [] (by decide) [_, _, _, _] B1 _ rfl (fun g => [(8, .bool g.2), (23, .int .i64 (g.1 : Int))]) (fun g => []) (fun g => B) (fun g => g.1 ≤ ns.length ∧ g.2 = decide (x.number ∈ ns.take g.1)) (fun g => ns.length - g.1) (0, false) ⟨Nat.zero_le _, by simp⟩ ⟨rfl, rfl, trivial⟩ rfl rfl ?_
    rintro ⟨j, b⟩ ⟨hj, hb⟩
    dsimp only at hj hb ⊢
    change OkC Try.prog _ _ _ _ _ _ _
    cases b
    · refine okc_seq ?_
      refine okc_region ?_
      refine s_cmpS rfl rfl rfl rfl rfl rfl rfl rfl (fun h6 => ?_) (fun h6 => ?_)
      · have hlt2 : j < ns.length := by simpa using h6
        obtain ⟨m, hm⟩ : ∃ m, ns[j]? = some m := ⟨ns[j], by simp [hlt2]⟩
        obtain ⟨hpN, hjN, hatN⟩ := hN (by intro e; simp [e] at hlt2)
        have hcell2 := hatN j m hm
        refine okl_nil ?_
        change OkC Try.prog _ _ _ _ _ _ _
        refine okc_weak (l' := [(0, _), (1, _), (2, _), (4, _), (5, _), (7, _), (8, _), (15, _), (16, _), (17, _), (18, _), (21, _), (22, _), (23, _), (24, _)]) ⟨rfl, rfl, rfl, rfl, rfl, rfl, rfl, rfl, rfl, rfl, rfl, rfl, rfl, rfl, rfl, trivial⟩ ?_
        refine okc_seq ?_
        refine okc_cond_t rfl ?_
        refine okc_skip ?_
        change OkC Try.prog _ _ _ _ _ _ _
        refine okc_weak (l' := [(0, _), (1, _), (2, _), (4, _), (5, _), (7, _), (8, _), (15, _), (16, _), (17, _), (18, _), (21, _), (22, _), (23, _), (24, _)]) ⟨rfl, rfl, rfl, rfl, rfl, rfl, rfl, rfl, rfl, rfl, rfl, rfl, rfl, rfl, rfl, trivial⟩ ?_
        refine okc_seq ?_
        refine okc_block ?_
        refine okc_seq ?_
        refine okc_region ?_
        refine s_indexP j hpN rfl rfl rfl rfl rfl rfl rfl rfl rfl rfl (by omega) rfl ?_
        refine s_loadA1 jN rfl rfl rfl rfl rfl rfl rfl hjN (by assumption) ?_
        refine s_assign rfl rfl rfl rfl rfl rfl ?_
        refine okl_nil ?_
        change OkC Try.prog _ _ _ _ _ _ _
        refine okc_weak (l' := [(0, _), (1, _), (2, _), (4, _), (5, _), (7, _), (8, _), (10, _), (15, _), (16, _), (17, _), (18, _), (21, _), (22, _), (23, _), (24, _)]) ⟨rfl, rfl, rfl, rfl, rfl, rfl, rfl, rfl, rfl, rfl, rfl, rfl, rfl, rfl, rfl, rfl, trivial⟩ ?_
        refine okc_region ?_
        refine s_move rfl rfl rfl rfl rfl rfl ?_
        refine s_move rfl rfl rfl rfl rfl rfl ?_
        refine s_move rfl rfl rfl rfl rfl rfl ?_
        refine s_field rfl rfl rfl rfl rfl rfl rfl rfl ?_
        refine s_load1 0 rfl rfl rfl rfl rfl rfl rfl rfl rfl ?_
        refine s_cmpS rfl rfl rfl rfl rfl rfl rfl rfl (fun h7 => ?_) (fun h7 => ?_)
        · have hme : m = x.number := by simpa using h7
          refine s_pick_f rfl rfl rfl rfl rfl rfl rfl ?_
          refine s_assign rfl rfl rfl rfl rfl rfl ?_
          refine okl_nil ?_
          change OkC Try.prog _ _ _ _ _ _ _
          refine okc_weak (l' := [(0, _), (1, _), (2, _), (4, _), (5, _), (7, _), (8, _), (10, _), (15, _), (16, _), (17, _), (18, _), (21, _), (22, _), (23, _), (24, _)]) ⟨rfl, rfl, rfl, rfl, rfl, rfl, rfl, rfl, rfl, rfl, rfl, rfl, rfl, rfl, rfl, rfl, trivial⟩ ?_
          refine okc_region ?_
          refine s_add rfl rfl rfl rfl rfl rfl rfl (by omega) ?_
          refine s_move rfl rfl rfl rfl rfl rfl ?_
          refine okl_nil ?_
          refine fun a w hs => ⟨(j + 1, true), ⟨by show j + 1 ≤ _; omega, by show _ = decide _; rw [List.take_add_one, hm]; clear hN hR hsl; simp_all <;> (try omega) <;> (try (exact fun h => hme h.symm))⟩, by show _ - (j + 1) < _ - j; omega, ?_⟩
          exact St.pickG (FE := [_, _, _, _]) (G := B1 ++ B) (O' := [_, _, _, _]) hs ⟨rfl, rfl, rfl, rfl, rfl, rfl, rfl, rfl, rfl, rfl, rfl, rfl, rfl, rfl, trivial⟩ [0, 1, 2, 3] (by decide) (rfl)
        · have hme : ¬ m = x.number := by simpa using h7
          refine s_pick_f rfl rfl rfl rfl rfl rfl rfl ?_
          refine s_assign rfl rfl rfl rfl rfl rfl ?_
          refine okl_nil ?_
          change OkC Try.prog _ _ _ _ _ _ _
          refine okc_weak (l' := [(0, _), (1, _), (2, _), (4, _), (5, _), (7, _), (8, _), (10, _), (15, _), (16, _), (17, _), (18, _), (21, _), (22, _), (23, _), (24, _)]) ⟨rfl, rfl, rfl, rfl, rfl, rfl, rfl, rfl, rfl, rfl, rfl, rfl, rfl, rfl, rfl, rfl, trivial⟩ ?_
          refine okc_region ?_
          refine s_add rfl rfl rfl rfl rfl rfl rfl (by omega) ?_
          refine s_move rfl rfl rfl rfl rfl rfl ?_
          refine okl_nil ?_
          refine fun a w hs => ⟨(j + 1, false), ⟨by show j + 1 ≤ _; omega, by show _ = decide _; rw [List.take_add_one, hm]; clear hN hR hsl; simp_all <;> (try omega) <;> (try (exact fun h => hme h.symm))⟩, by show _ - (j + 1) < _ - j; omega, ?_⟩
          exact St.pickG (FE := [_, _, _, _]) (G := B1 ++ B) (O' := [_, _, _, _]) hs ⟨rfl, rfl, rfl, rfl, rfl, rfl, rfl, rfl, rfl, rfl, rfl, rfl, rfl, rfl, trivial⟩ [0, 1, 2, 3] (by decide) (rfl)
      · have hge2 : ¬ j < ns.length := by simpa using h6
        obtain rfl : j = ns.length := by omega
        rw [List.take_length] at hb
        refine okl_nil ?_
        change OkC Try.prog _ _ _ _ _ _ _
        refine okc_weak (l' := [(0, _), (1, _), (2, _), (4, _), (5, _), (7, _), (8, _), (15, _), (16, _), (17, _), (18, _), (21, _), (22, _), (23, _), (24, _)]) ⟨rfl, rfl, rfl, rfl, rfl, rfl, rfl, rfl, rfl, rfl, rfl, rfl, rfl, rfl, rfl, trivial⟩ ?_
        refine okc_seq ?_
        refine okc_cond_f rfl ?_
        refine okc_exit ?_
        change OkC Try.prog _ _ _ _ _ _ _
        refine okc_weak (l' := [(0, _), (1, _), (2, _), (4, _), (5, _), (7, _), (8, _), (15, _), (16, _), (17, _), (18, _), (21, _), (22, _), (23, _), (24, _)]) ⟨rfl, rfl, rfl, rfl, rfl, rfl, rfl, rfl, rfl, rfl, rfl, rfl, rfl, rfl, rfl, trivial⟩ ?_
        refine okc_seq ?_
        refine okc_region ?_
        refine s_move rfl rfl rfl rfl rfl rfl ?_
        refine s_not rfl rfl rfl rfl rfl rfl ?_
        refine okl_nil ?_
        change OkC Try.prog _ _ _ _ _ _ _
        refine okc_weak (l' := [(0, _), (1, _), (2, _), (4, _), (5, _), (7, _), (8, _), (15, _), (16, _), (17, _), (18, _), (21, _), (22, _), (23, _), (24, _), (36, _)]) ⟨rfl, rfl, rfl, rfl, rfl, rfl, rfl, rfl, rfl, rfl, rfl, rfl, rfl, rfl, rfl, rfl, trivial⟩ ?_
        refine okc_cond_t rfl ?_
        refine okc_region ?_
        refine s_field rfl rfl rfl rfl rfl rfl rfl rfl ?_
        refine s_load1 1 rfl rfl rfl rfl rfl rfl rfl rfl rfl ?_
        refine s_loadW 0 rfl rfl rfl rfl rfl rfl rfl rfl rfl rfl ?_
        refine s_slice1N rfl rfl rfl rfl rfl rfl rfl rfl rfl rfl rfl rfl rfl (fun b8 => ?_)
        refine okl_xmT [_, _, _, _, _] B1 B rfl rfl rfl rfl (k_append1 0 hsl by69 rfl rfl rfl rfl rfl rfl rfl rfl rfl rfl rfl (by omega)) rfl (fun v B3 hv => ?_)
        obtain ⟨p3, c3, rfl, hsl3⟩ := hv
        refine s_field rfl rfl rfl rfl rfl rfl rfl rfl ?_
        refine k_store 2 rfl rfl rfl rfl rfl rfl rfl rfl rfl rfl rfl rfl ?_
        refine okl_nil ?_
        change OkC Try.prog _ _ _ _ _ _ _
        refine okc_weak (l' := [(0, _), (1, _), (2, _), (4, _), (5, _), (7, _), (8, _), (15, _), (16, _), (17, _), (18, _), (21, _), (22, _), (23, _), (24, _), (36, _)]) ⟨rfl, rfl, rfl, rfl, rfl, rfl, rfl, rfl, rfl, rfl, rfl, rfl, rfl, rfl, rfl, rfl, trivial⟩ ?_
        refine okc_region ?_
        refine s_add rfl rfl rfl rfl rfl rfl rfl (by omega) ?_
        refine s_move rfl rfl rfl rfl rfl rfl ?_
        refine okl_nil ?_
        refine fun a w hs => ⟨⟨k + 1, p3, c3, B3⟩, ⟨hlt, by dsimp only; rw [FW_succ hx, if_neg (by simpa using hb.symm), rdsC_snoc]; simpa using hsl3⟩, by show _ - (k + 1) < _ - k; omega, ?_⟩
        exact St.pickG (FE := [_, _, _, _, _]) (G := B1 ++ B3) (O' := [_, _, _]) hs ⟨rfl, rfl, rfl, rfl, rfl, rfl, rfl, rfl, trivial⟩ [2, 3, 4] (by decide) (by dsimp only; rw [FW_succ hx, if_neg (by simpa using hb.symm), List.length_append]; rfl)
    · refine okc_seq ?_
      refine okc_region ?_
      refine s_cmpS rfl rfl rfl rfl rfl rfl rfl rfl (fun h9 => ?_) (fun h9 => ?_)
      · have hlt2 : j < ns.length := by simpa using h9
        obtain ⟨m, hm⟩ : ∃ m, ns[j]? = some m := ⟨ns[j], by simp [hlt2]⟩
        obtain ⟨hpN, hjN, hatN⟩ := hN (by intro e; simp [e] at hlt2)
        have hcell2 := hatN j m hm
        refine okl_nil ?_
        change OkC Try.prog _ _ _ _ _ _ _
        refine okc_weak (l' := [(0, _), (1, _), (2, _), (4, _), (5, _), (7, _), (8, _), (15, _), (16, _), (17, _), (18, _), (21, _), (22, _), (23, _), (24, _)]) ⟨rfl, rfl, rfl, rfl, rfl, rfl, rfl, rfl, rfl, rfl, rfl, rfl, rfl, rfl, rfl, trivial⟩ ?_
        refine okc_seq ?_
        refine okc_cond_t rfl ?_
        refine okc_skip ?_
        change OkC Try.prog _ _ _ _ _ _ _
        refine okc_weak (l' := [(0, _), (1, _), (2, _), (4, _), (5, _), (7, _), (8, _), (15, _), (16, _), (17, _), (18, _), (21, _), (22, _), (23, _), (24, _)]) ⟨rfl, rfl, rfl, rfl, rfl, rfl, rfl, rfl, rfl, rfl, rfl, rfl, rfl, rfl, rfl, trivial⟩ ?_
        refine okc_seq ?_
        refine okc_block ?_
        refine okc_seq ?_
        refine okc_region ?_
        refine s_indexP j hpN rfl rfl rfl rfl rfl rfl rfl rfl rfl rfl (by omega) rfl ?_
        refine s_loadA1 jN rfl rfl rfl rfl rfl rfl rfl hjN (by assumption) ?_
        refine s_assign rfl rfl rfl rfl rfl rfl ?_
        refine okl_nil ?_
        change OkC Try.prog _ _ _ _ _ _ _
        refine okc_weak (l' := [(0, _), (1, _), (2, _), (4, _), (5, _), (7, _), (8, _), (10, _), (15, _), (16, _), (17, _), (18, _), (21, _), (22, _), (23, _), (24, _)]) ⟨rfl, rfl, rfl, rfl, rfl, rfl, rfl, rfl, rfl, rfl, rfl, rfl, rfl, rfl, rfl, rfl, trivial⟩ ?_
        refine okc_region ?_
        refine s_move rfl rfl rfl rfl rfl rfl ?_
        refine s_move rfl rfl rfl rfl rfl rfl ?_
        refine okl_skip rfl rfl rfl rfl ?_
        refine okl_skip rfl rfl rfl rfl ?_
        refine okl_skip rfl rfl rfl rfl ?_
        refine okl_skip rfl rfl rfl rfl ?_
        refine s_pick_t rfl rfl rfl rfl rfl rfl rfl ?_
        refine s_assign rfl rfl rfl rfl rfl rfl ?_
        refine okl_nil ?_
        change OkC Try.prog _ _ _ _ _ _ _
        refine okc_weak (l' := [(0, _), (1, _), (2, _), (4, _), (5, _), (7, _), (8, _), (10, _), (15, _), (16, _), (17, _), (18, _), (21, _), (22, _), (23, _), (24, _)]) ⟨rfl, rfl, rfl, rfl, rfl, rfl, rfl, rfl, rfl, rfl, rfl, rfl, rfl, rfl, rfl, rfl, trivial⟩ ?_
        refine okc_region ?_
        refine s_add rfl rfl rfl rfl rfl rfl rfl (by omega) ?_
        refine s_move rfl rfl rfl rfl rfl rfl ?_
        refine okl_nil ?_
        refine fun a w hs => ⟨(j + 1, true), ⟨by show j + 1 ≤ _; omega, by show _ = decide _; rw [List.take_add_one, hm]; clear hN hR hsl; simp_all <;> (try omega) <;> (try (exact fun h => hme h.symm))⟩, by show _ - (j + 1) < _ - j; omega, ?_⟩
        exact St.pickG (FE := [_, _, _, _]) (G := B1 ++ B) (O' := [_, _, _, _]) hs ⟨rfl, rfl, rfl, rfl, rfl, rfl, rfl, rfl, rfl, rfl, rfl, rfl, rfl, rfl, trivial⟩ [0, 1, 2, 3] (by decide) (rfl)
      · have hge2 : ¬ j < ns.length := by simpa using h9
        obtain rfl : j = ns.length := by omega
        rw [List.take_length] at hb
        refine okl_nil ?_
        change OkC Try.prog _ _ _ _ _ _ _
        refine okc_weak (l' := [(0, _), (1, _), (2, _), (4, _), (5, _), (7, _), (8, _), (15, _), (16, _), (17, _), (18, _), (21, _), (22, _), (23, _), (24, _)]) ⟨rfl, rfl, rfl, rfl, rfl, rfl, rfl, rfl, rfl, rfl, rfl, rfl, rfl, rfl, rfl, trivial⟩ ?_
        refine okc_seq ?_
        refine okc_cond_f rfl ?_
        refine okc_exit ?_
        change OkC Try.prog _ _ _ _ _ _ _
        refine okc_weak (l' := [(0, _), (1, _), (2, _), (4, _), (5, _), (7, _), (8, _), (15, _), (16, _), (17, _), (18, _), (21, _), (22, _), (23, _), (24, _)]) ⟨rfl, rfl, rfl, rfl, rfl, rfl, rfl, rfl, rfl, rfl, rfl, rfl, rfl, rfl, rfl, trivial⟩ ?_
        refine okc_seq ?_
        refine okc_region ?_
        refine s_move rfl rfl rfl rfl rfl rfl ?_
        refine s_not rfl rfl rfl rfl rfl rfl ?_
        refine okl_nil ?_
        change OkC Try.prog _ _ _ _ _ _ _
        refine okc_weak (l' := [(0, _), (1, _), (2, _), (4, _), (5, _), (7, _), (8, _), (15, _), (16, _), (17, _), (18, _), (21, _), (22, _), (23, _), (24, _), (36, _)]) ⟨rfl, rfl, rfl, rfl, rfl, rfl, rfl, rfl, rfl, rfl, rfl, rfl, rfl, rfl, rfl, rfl, trivial⟩ ?_
        refine okc_cond_f rfl ?_
        refine okc_skip ?_
        change OkC Try.prog _ _ _ _ _ _ _
        refine okc_weak (l' := [(0, _), (1, _), (2, _), (4, _), (5, _), (7, _), (8, _), (15, _), (16, _), (17, _), (18, _), (21, _), (22, _), (23, _), (24, _), (36, _)]) ⟨rfl, rfl, rfl, rfl, rfl, rfl, rfl, rfl, rfl, rfl, rfl, rfl, rfl, rfl, rfl, rfl, trivial⟩ ?_
        refine okc_region ?_
        refine s_add rfl rfl rfl rfl rfl rfl rfl (by omega) ?_
        refine s_move rfl rfl rfl rfl rfl rfl ?_
        refine okl_nil ?_
        refine fun a w hs => ⟨⟨k + 1, q, c, B⟩, ⟨hlt, by dsimp only; rw [FW_succ hx, if_pos (by simpa using hb.symm)]; exact hsl⟩, by show _ - (k + 1) < _ - k; omega, ?_⟩
        exact St.pickG (FE := [_, _, _, _]) (G := B1 ++ B) (O' := [_, _, _]) hs ⟨rfl, rfl, rfl, rfl, rfl, rfl, rfl, rfl, trivial⟩ [1, 2, 3] (by decide) (by dsimp only; rw [FW_succ hx, if_pos (by simpa using hb.symm)]; rfl)
  · have hge : ¬ k < s.reads.length := by simpa using h4
    obtain rfl : k = s.reads.length := by omega
    have hfin : FW s ns s.reads.length = (wtS s ns).reads := by unfold FW wtS; rw [List.take_length]
    refine okl_nil ?_
    change OkC Try.prog _ _ _ _ _ _ _
    refine okc_weak (l' := [(0, _), (1, _), (2, _), (4, _), (5, _), (15, _), (16, _), (17, _), (18, _)]) ⟨rfl, rfl, rfl, rfl, rfl, rfl, rfl, rfl, rfl, trivial⟩ ?_
    refine okc_seq ?_
    refine okc_cond_f rfl ?_
    refine okc_exit ?_
    change OkC Try.prog _ _ _ _ _ _ _
    refine okc_weak (l' := [(0, _), (1, _), (2, _), (4, _), (5, _), (15, _), (16, _), (17, _), (18, _)]) ⟨rfl, rfl, rfl, rfl, rfl, rfl, rfl, rfl, rfl, trivial⟩ ?_
    refine okc_seq ?_
    refine okc_region ?_
    refine s_loadW 0 rfl rfl rfl rfl rfl rfl rfl rfl rfl rfl ?_
    refine k_storeW 1 rfl rfl rfl rfl rfl rfl rfl rfl rfl rfl rfl rfl ?_
    refine okl_nil ?_
    change OkC Try.prog _ _ _ _ _ _ _
    refine okc_weak (l' := [(0, _), (1, _), (2, _), (4, _), (5, _), (15, _), (16, _), (17, _), (18, _)]) ⟨rfl, rfl, rfl, rfl, rfl, rfl, rfl, rfl, rfl, trivial⟩ ?_
    refine okc_ret fun a w hs => ?_
    rw [hfin] at hsl
    exact ret_postS hs (run_results1 hs rfl (k_ragg 1 rfl rfl rfl rfl rfl)) ⟨p1, k1, B1, q, c, B⟩ (by show Value.agg _ = Value.agg _; rw [hfin]; rfl) ⟨hg1, hsl⟩ (sub_drop 3 rfl)
end Go.Proofs.Ytdpnadknaacinaa
end

section
namespace Go.Proofs.Ytdpnadknaacinaa
open Go.Sx Go.Proofs.Ytdpnadknaacinaa.Ty
set_option linter.unusedVariables false
set_option linter.unusedSimpArgs false
set_option maxHeartbeats 2000000


theorem perm_nil {α : Type} (O : List α) : O.Perm (O ++ []) := by simp
/-! Fewer readings leave more. -/
def Wide (f f' : Bd) : Prop := ∀ j, (f' j).1 ≤ (f j).1 ∧ (f j).2 ≤ (f' j).2
theorem Wide.fwd {fall : Int} {f f' : Bd} (h : Wide f f') : ∀ k, Wide (fwdN fall k f) (fwdN fall k f')
  | 0 => h
  | k + 1 => fun j => by
    have ih := Wide.fwd (fall := fall) h k
    have h1 := ih j; have h2 := ih (k + 1); have h3 := ih k
    simp only [fwdN, up]
    split <;> (try dsimp only) <;> omega
theorem Wide.bwd {fall : Int} {n : Nat} {f f' : Bd} (h : Wide f f') : ∀ k, Wide (bwdN fall n k f) (bwdN fall n k f')
  | 0 => h
  | k + 1 => fun j => by
    have ih := Wide.bwd (fall := fall) (n := n) h k
    have h1 := ih j; have h2 := ih (n - 2 - k); have h3 := ih (n - 2 - k + 1)
    simp only [bwdN, up]
    split <;> (try dsimp only) <;> omega
theorem wide_pre (s : Sp) (ns : List Int) (r : Int) : Wide (preS s r) (preS (wtS s ns) r) := by
  intro j
  have sub : ∀ x ∈ (wtS s ns).reads, x ∈ s.reads := fun x hx => (List.mem_filter.1 hx).1
  constructor
  · show ((wtS s ns).reads.foldl (addR s) _ j).1 ≤ _
    rw [addR_lo]
    have h := (addR_lo (s := s) s.reads (s.book.foldl (addL r) (iniN s.most s.weeks.toNat)) j ((preS s r j).1)).1 (Int.le_refl _)
    exact ⟨h.1, fun x hx => h.2 x (sub x hx)⟩
  · show _ ≤ ((wtS s ns).reads.foldl (addR s) _ j).2
    rw [addR_hi]
    have h := (addR_hi (s := s) s.reads (s.book.foldl (addL r) (iniN s.most s.weeks.toNat)) j ((preS s r j).2)).1 (Int.le_refl _)
    exact ⟨h.1, fun x hx => h.2 x (sub x hx)⟩
theorem wide_leaves (s : Sp) (ns : List Int) (r : Int) : Wide (leavesS s r) (leavesS (wtS s ns) r) := ((wide_pre s ns r).fwd _).bwd _
theorem okN_wide {s : Sp} {f f' : Bd} (h : Wide f f') (hok : okN s f = true) : okN s f' = true := by
  rw [okN_all] at hok ⊢
  intro j hj
  have := hok j hj; have := h j; omega
theorem can_wt {s : Sp} {ns : List Int} (h : canS s = true) : canS (wtS s ns) = true := by
  unfold canS at h ⊢
  cases hr : rainsS s with
  | nil => rw [hr] at h; cases h
  | cons r L =>
    have hm : r ∈ rainsS s := by rw [hr]; simp
    have hm2 : r ∈ rainsS (wtS s ns) := by
      unfold rainsS rainsN at hm ⊢
      rw [List.mem_filter] at hm ⊢
      exact ⟨hm.1, okN_wide (wide_leaves s ns r) hm.2⟩
    cases hr2 : rainsS (wtS s ns) with
    | nil => rw [hr2] at hm2; cases hm2
    | cons x L => rfl
theorem rds_low {weeks : Int} : ∀ (L : List Rd) (a b : Int), a ≤ b → rdsB weeks b L = true → rdsB weeks a L = true
  | [], _, _, _, _ => rfl
  | x :: L, a, b, hab, h => by
    simp only [rdsB, Bool.and_eq_true, decide_eq_true_eq] at h ⊢
    exact ⟨⟨by omega, h.1.2⟩, h.2⟩
theorem rds_filter {weeks : Int} (p : Rd → Bool) : ∀ (L : List Rd) (bef : Int), rdsB weeks bef L = true → rdsB weeks bef (L.filter p) = true
  | [], _, _ => rfl
  | x :: L, bef, h => by
    simp only [rdsB, Bool.and_eq_true, decide_eq_true_eq] at h
    have ih := rds_filter p L x.number h.2
    rw [List.filter_cons]
    split
    · simp only [rdsB, Bool.and_eq_true, decide_eq_true_eq]; exact ⟨h.1, ih⟩
    · exact rds_low _ _ _ (by omega) ih
theorem valid_wt {s : Sp} {ns : List Int} (h : validB s = true) : validB (wtS s ns) = true := by
  simp only [validB, readsB, Bool.and_eq_true, decide_eq_true_eq] at h ⊢
  have hl : (wtS s ns).reads.length ≤ s.reads.length := List.length_filter_le _ _
  exact ⟨h.1, by omega, rds_filter _ _ _ h.2.2⟩
theorem er_wt {s : Sp} {w : Int} {ns : List Int} (h : erS s w = 0) : erS (wtS s ns) w = 0 := by
  obtain ⟨hv, h0, h1, hc⟩ := er_ok h
  exact er0 (valid_wt hv) (by show isWeekB s.weeks w = true; simp [isWeekB, inS]; omega) (can_wt hc)
/-- The readings on which a week rests. -/
def restB (s : Sp) (w : Int) (x : Rd) : Bool := decide (gE (wtS s [x.number]) w ≠ gE s w)
def restK (s : Sp) (w : Int) (i : Nat) : List Int := ((s.reads.take i).filter (restB s w)).map (·.number)
def restS (s : Sp) (w : Int) : List Int := if erS s w = 0 then (s.reads.filter (restB s w)).map (·.number) else []
theorem restK_succ {s : Sp} {w : Int} {i : Nat} {x : Rd} (hx : s.reads[i]? = some x) : restK s w (i + 1) = if restB s w x then restK s w i ++ [x.number] else restK s w i := by
  unfold restK
  rw [List.take_add_one, hx, List.filter_append]
  cases h : restB s w x <;> simp [h]
theorem restK_len (s : Sp) (w : Int) (i : Nat) : (restK s w i).length ≤ i := by
  unfold restK
  rw [List.length_map]
  exact Nat.le_trans (List.length_filter_le _ _) (by simp; omega)
theorem restK_all (s : Sp) (w : Int) : restK s w s.reads.length = (s.reads.filter (restB s w)).map (·.number) := by unfold restK; rw [List.take_length]
theorem tw_in {s : Sp} {g : Rn2} (hb : s.book.length ≤ 1000000000000) (hr : s.reads.length ≤ 1000000000000) (h : TwOk s g) : (twS s g).In (argsOf (g.B1 ++ g.B2)) := by
  obtain ⟨h1, h2⟩ := h
  refine ⟨?_, ?_, hb, hr⟩
  · by_cases hn : s.book = []
    · exact ⟨0, 0, [], 0, fun hne => absurd hn hne⟩
    · obtain ⟨b, cs, hp, hB, ht⟩ := sl_pos h1 (by rcases hb : s.book with _ | _; exact absurd hb hn; simp)
      obtain ⟨j, hj⟩ := argsOf_mem (B := g.B1 ++ g.B2) (b := b) (cs := cs) (T := 76) (by simp [hB])
      refine ⟨b, 0, cs, j, fun _ => ⟨hp, hj, fun k x hx => ?_⟩⟩
      have hk : k < s.book.length := by
        rcases Nat.lt_or_ge k s.book.length with h | h
        · exact h
        · have hx' : s.book[k]? = some x := hx
          rw [List.getElem?_eq_none h] at hx'; cases hx'
      rw [Nat.zero_add, sub_take hk, ht]
      exact rows_at (f := lnL) (fun _ => rfl) hx
  · by_cases hn : s.reads = []
    · exact ⟨0, 0, [], 0, fun hne => absurd hn hne⟩
    · obtain ⟨b, cs, hp, hB, ht⟩ := sl_pos h2 (by rcases hb : s.reads with _ | _; exact absurd hb hn; simp)
      obtain ⟨j, hj⟩ := argsOf_mem (B := g.B1 ++ g.B2) (b := b) (cs := cs) (T := 69) (by simp [hB])
      refine ⟨b, 0, cs, j, fun _ => ⟨hp, hj, fun k x hx => ?_⟩⟩
      have hk : k < s.reads.length := by
        rcases Nat.lt_or_ge k s.reads.length with h | h
        · exact h
        · have hx' : s.reads[k]? = some x := hx
          rw [List.getElem?_eq_none h] at hx'; cases hx'
      rw [Nat.zero_add, sub_take hk, ht]
      exact rows_at (f := rdL) (fun _ => rfl) hx
theorem ints_one (b : Nat) (n : Int) (M : Args) : IntsIn ((b, [.int .i64 n]) :: M) (some ⟨b, 0, none⟩) [n] :=
  ⟨by simp, b, 0, [.int .i64 n], 0, fun _ => ⟨rfl, rfl, fun i x hx => by
    cases i with
    | zero => simp at hx; subst hx; rfl
    | succ i => simp at hx⟩⟩
theorem wt_len (s : Sp) (ns : List Int) : (wtS s ns).reads.length ≤ s.reads.length := List.length_filter_le _ _
theorem gvS_tw (s : Sp) (g : Rn2) (k : Nat) : gvS (twS s g) k = gvS s k := rfl
theorem eq_rest {s : Sp} {w : Int} {x : Rd} (h : (!(decide ((gE (wtS s [x.number]) w).1 = (gE s w).1) && decide ((gE (wtS s [x.number]) w).2 = (gE s w).2))) = true) : restB s w x = true := by
  unfold restB
  rw [decide_eq_true_eq]
  intro e
  rw [e] at h; simp at h
theorem ne_rest {s : Sp} {w : Int} {x : Rd} (h : (!(decide ((gE (wtS s [x.number]) w).1 = (gE s w).1) && decide ((gE (wtS s [x.number]) w).2 = (gE s w).2))) = false) : restB s w x = false := by
  unfold restB
  rw [decide_eq_false_iff_not]
  intro e
  refine e ?_
  simp at h
  exact Prod.ext h.1 h.2
structure Ig where
  i : Nat
  q : Option Addr
  c : Nat
  B : Blks

theorem Rests_no (s : Sp) (M : Args) (hin : s.In M) (w : Int) (hb : ¬ beginS s (qw w) [1, 4] = 0) : Cn Try.prog 44 [spV s, .int .i64 w] M (fun _ : Unit => .tuple #[.slice none 0 0, .int .i64 (erS s w)]) (fun _ => []) (fun _ => True) := by
  refine fn_intro (N := 50) Try.func44 rfl rfl rfl fun w0 => ?_
  refine okc_seq ?_
  refine okc_region ?_
  refine s_boxA rfl rfl rfl rfl rfl rfl (fun b1 => ?_)
  refine s_assign rfl rfl rfl rfl rfl rfl ?_
  refine s_assign rfl rfl rfl rfl rfl rfl ?_
  refine okl_nil ?_
  change OkC Try.prog _ _ _ _ _ _ _
  refine okc_weak (l' := [(0, _), (1, _), (2, _), (4, _), (5, _)]) ⟨rfl, rfl, rfl, rfl, rfl, trivial⟩ ?_
  refine okc_seq ?_
  refine okc_region ?_
  refine s_loadW 0 rfl rfl rfl rfl rfl rfl rfl rfl rfl rfl ?_
  refine s_move rfl rfl rfl rfl rfl rfl ?_
  refine s_build rfl rfl rfl rfl rfl rfl rfl rfl rfl ?_
  refine s_slice2 rfl rfl rfl rfl rfl rfl rfl rfl rfl rfl rfl rfl (fun b2 => ?_)
  refine s_callv rfl rfl rfl rfl rfl rfl rfl c72 (begin_no (M := (b2, ints [1, 4]) :: M) (q := qw w) (more := [1, 4]) (hin.cons _) (moreAt b2 [1, 4] M (by decide) (by decide)) hb) (covers_own 0 rfl covers_all) ?_
  refine s_move rfl rfl rfl rfl rfl rfl ?_
  refine s_extract rfl rfl rfl rfl rfl rfl rfl ?_
  refine s_extract rfl rfl rfl rfl rfl rfl rfl ?_
  refine s_alloc rfl rfl rfl rfl rfl rfl (fun b3 => ?_)
  refine k_storeW 0 rfl rfl rfl rfl rfl rfl rfl rfl rfl rfl rfl rfl ?_
  refine s_assign rfl rfl rfl rfl rfl rfl ?_
  refine okl_nil ?_
  change OkC Try.prog _ _ _ _ _ _ _
  refine okc_weak (l' := [(0, _), (1, _), (2, _), (4, _), (5, _), (6, _), (7, _)]) ⟨rfl, rfl, rfl, rfl, rfl, rfl, rfl, trivial⟩ ?_
  refine okc_seq ?_
  refine okc_seq ?_
  refine okc_region ?_
  refine s_move rfl rfl rfl rfl rfl rfl ?_
  refine s_cmpS rfl rfl rfl rfl rfl rfl rfl rfl (fun h4 => ?_) (fun h4 => ?_)
  · refine okl_nil ?_
    change OkC Try.prog _ _ _ _ _ _ _
    refine okc_weak (l' := [(0, _), (1, _), (2, _), (4, _), (5, _), (6, _), (7, _), (21, _)]) ⟨rfl, rfl, rfl, rfl, rfl, rfl, rfl, rfl, trivial⟩ ?_
    refine okc_cond_t rfl ?_
    refine okc_seq ?_
    refine okc_region ?_
    refine s_move rfl rfl rfl rfl rfl rfl ?_
    refine s_assign rfl rfl rfl rfl rfl rfl ?_
    refine s_assign rfl rfl rfl rfl rfl rfl ?_
    refine okl_nil ?_
    change OkC Try.prog _ _ _ _ _ _ _
    refine okc_weak (l' := [(0, _), (1, _), (2, _), (4, _), (5, _), (6, _), (7, _), (21, _)]) ⟨rfl, rfl, rfl, rfl, rfl, rfl, rfl, rfl, trivial⟩ ?_
    refine okc_ret fun a w hs => ?_
    exact ret_v hs (run_results2 hs rfl (rv_tmp rfl) (rv_tmp rfl)) (rfl)
  · exact absurd h4 (by simp [hb]) --closed

theorem Rests_ok (s : Sp) (M : Args) (hin : s.In M) (hgr : s.book.length ≤ 30 ∧ s.reads.length ≤ 30) (k : Nat) (hv : validB s = true) (hs0 : OkS s) (hk : (k : Int) ≤ s.weeks - 1) (hb : beginS s (qw (k : Int)) [1, 4] = 0) : Cn Try.prog 44 [spV s, .int .i64 (k : Int)] M (fun g : SlG => .tuple #[.slice g.p (restS s (k : Int)).length g.c, .int .i64 0]) (fun g => g.B) (fun g => Sl g.B 3 1 g.p (restS s (k : Int)).length g.c (ints (restS s (k : Int)))) := by
  obtain ⟨bR, oR, cR, jR, hR⟩ := hin.reads
  refine fn_intro (N := 50) Try.func44 rfl rfl rfl fun w0 => ?_
  refine okc_seq ?_
  refine okc_region ?_
  refine s_boxA rfl rfl rfl rfl rfl rfl (fun b5 => ?_)
  refine s_assign rfl rfl rfl rfl rfl rfl ?_
  refine s_assign rfl rfl rfl rfl rfl rfl ?_
  refine okl_nil ?_
  change OkC Try.prog _ _ _ _ _ _ _
  refine okc_weak (l' := [(0, _), (1, _), (2, _), (4, _), (5, _)]) ⟨rfl, rfl, rfl, rfl, rfl, trivial⟩ ?_
  refine okc_seq ?_
  refine okc_region ?_
  refine s_loadW 0 rfl rfl rfl rfl rfl rfl rfl rfl rfl rfl ?_
  refine s_move rfl rfl rfl rfl rfl rfl ?_
  refine s_build rfl rfl rfl rfl rfl rfl rfl rfl rfl ?_
  refine s_slice2 rfl rfl rfl rfl rfl rfl rfl rfl rfl rfl rfl rfl (fun b6 => ?_)
  refine s_callv rfl rfl rfl rfl rfl rfl rfl c72 (begin_ok (M := (b6, ints [1, 4]) :: M) (q := qw k) (more := [1, 4]) (hin.cons _) (moreAt b6 [1, 4] M (by decide) (by decide)) hb) (covers_own 0 rfl covers_all) ?_
  refine s_move rfl rfl rfl rfl rfl rfl ?_
  refine s_extract rfl rfl rfl rfl rfl rfl rfl ?_
  refine s_extract rfl rfl rfl rfl rfl rfl rfl ?_
  refine s_alloc rfl rfl rfl rfl rfl rfl (fun b7 => ?_)
  refine k_storeW 0 rfl rfl rfl rfl rfl rfl rfl rfl rfl rfl rfl rfl ?_
  refine s_assign rfl rfl rfl rfl rfl rfl ?_
  refine okl_nil ?_
  change OkC Try.prog _ _ _ _ _ _ _
  refine okc_weak (l' := [(0, _), (1, _), (2, _), (4, _), (5, _), (6, _), (7, _)]) ⟨rfl, rfl, rfl, rfl, rfl, rfl, rfl, trivial⟩ ?_
  refine okc_seq ?_
  refine okc_seq ?_
  refine okc_region ?_
  refine s_move rfl rfl rfl rfl rfl rfl ?_
  refine s_cmpS rfl rfl rfl rfl rfl rfl rfl rfl (fun h8 => ?_) (fun h8 => ?_)
  · exact absurd h8 (by decide) --closed
  · refine okl_nil ?_
    change OkC Try.prog _ _ _ _ _ _ _
    refine okc_weak (l' := [(0, _), (1, _), (2, _), (4, _), (5, _), (6, _), (7, _), (21, _)]) ⟨rfl, rfl, rfl, rfl, rfl, rfl, rfl, rfl, trivial⟩ ?_
    refine okc_cond_f rfl ?_
    refine okc_skip ?_
    change OkC Try.prog _ _ _ _ _ _ _
    refine okc_weak (l' := [(0, _), (1, _), (2, _), (4, _), (5, _), (6, _), (7, _), (21, _)]) ⟨rfl, rfl, rfl, rfl, rfl, rfl, rfl, rfl, trivial⟩ ?_
    refine okc_seq ?_
    refine okc_region ?_
    refine s_assign rfl rfl rfl rfl rfl rfl ?_
    refine okl_nil ?_
    change OkC Try.prog _ _ _ _ _ _ _
    refine okc_weak (l' := [(0, _), (1, _), (2, _), (4, _), (5, _), (6, _), (7, _), (8, _), (21, _)]) ⟨rfl, rfl, rfl, rfl, rfl, rfl, rfl, rfl, rfl, trivial⟩ ?_
    refine okc_seq ?_
    refine okc_region ?_
    refine s_loadW 0 rfl rfl rfl rfl rfl rfl rfl rfl rfl rfl ?_
    refine s_move rfl rfl rfl rfl rfl rfl ?_
    refine s_callv rfl rfl rfl rfl rfl rfl rfl c77 (gives_fn s M hin hs0 k (by omega)) covers_all ?_
    refine s_alloc rfl rfl rfl rfl rfl rfl (fun b9 => ?_)
    refine k_storeW 0 rfl rfl rfl rfl rfl rfl rfl rfl rfl rfl rfl rfl ?_
    refine okl_nil ?_
    change OkC Try.prog _ _ _ _ _ _ _
    refine okc_weak (l' := [(0, _), (1, _), (2, _), (4, _), (5, _), (6, _), (7, _), (8, _), (9, _), (21, _)]) ⟨rfl, rfl, rfl, rfl, rfl, rfl, rfl, rfl, rfl, rfl, trivial⟩ ?_
    refine okc_seq ?_
    refine okc_seq ?_
    refine okc_region ?_
    refine s_field rfl rfl rfl rfl rfl rfl rfl rfl ?_
    refine s_field rfl rfl rfl rfl rfl rfl rfl rfl ?_
    refine s_load1 1 rfl rfl rfl rfl rfl rfl rfl rfl rfl ?_
    refine s_len rfl rfl rfl rfl rfl rfl rfl ?_
    refine s_move rfl rfl rfl rfl rfl rfl ?_
    refine okl_nil ?_
    change OkC Try.prog _ _ _ _ _ _ _
    refine okc_weak (l' := [(0, _), (1, _), (2, _), (4, _), (5, _), (6, _), (7, _), (8, _), (9, _), (21, _), (28, _), (29, _), (30, _)]) ⟨rfl, rfl, rfl, rfl, rfl, rfl, rfl, rfl, rfl, rfl, rfl, rfl, rfl, trivial⟩ ?_
    refine okc_block ?_
    refine okc_loopH (γ := Ig) [(0, _), (1, _), (2, _), (4, _), (5, _), (6, _), (7, _), (9, _), (21, _), (28, _), (29, _)] ⟨rfl, rfl, rfl, rfl, rfl, rfl, rfl, rfl, rfl, rfl, rfl, trivial⟩ [0, 1, 2, 3] [] (by decide) [_, _, _, _] [] _ rfl (fun g => [(8, .slice g.q (restK s (k : Int) g.i).length g.c), (30, .int .i64 (g.i : Int))]) (fun g => []) (fun g => g.B) (fun g => g.i ≤ s.reads.length ∧ Sl g.B 3 1 g.q (restK s (k : Int) g.i).length g.c (ints (restK s (k : Int) g.i))) (fun g => s.reads.length - g.i) ⟨0, none, 0, []⟩ ⟨Nat.zero_le _, Sl.nil 3 1⟩ ⟨rfl, rfl, trivial⟩ rfl rfl ?_
    rintro ⟨i, q, c, B⟩ ⟨hi, hsl⟩
    dsimp only at hi hsl ⊢
    change OkC Try.prog _ _ _ _ _ _ _
    refine okc_seq ?_
    refine okc_region ?_
    refine s_cmpS rfl rfl rfl rfl rfl rfl rfl rfl (fun h10 => ?_) (fun h10 => ?_)
    · have hlt : i < s.reads.length := by simpa using h10
      obtain ⟨x, hx⟩ : ∃ x, s.reads[i]? = some x := ⟨s.reads[i], by simp [hlt]⟩
      obtain ⟨hpR, hjR, hatR⟩ := hR (by intro e; simp [e] at hlt)
      have hcell := hatR i x hx
      have hrk := restK_len s (k : Int) i
      refine okl_nil ?_
      change OkC Try.prog _ _ _ _ _ _ _
      refine okc_weak (l' := [(0, _), (1, _), (2, _), (4, _), (5, _), (6, _), (7, _), (8, _), (9, _), (21, _), (28, _), (29, _), (30, _), (31, _)]) ⟨rfl, rfl, rfl, rfl, rfl, rfl, rfl, rfl, rfl, rfl, rfl, rfl, rfl, rfl, trivial⟩ ?_
      refine okc_seq ?_
      refine okc_cond_t rfl ?_
      refine okc_skip ?_
      change OkC Try.prog _ _ _ _ _ _ _
      refine okc_weak (l' := [(0, _), (1, _), (2, _), (4, _), (5, _), (6, _), (7, _), (8, _), (9, _), (21, _), (28, _), (29, _), (30, _), (31, _)]) ⟨rfl, rfl, rfl, rfl, rfl, rfl, rfl, rfl, rfl, rfl, rfl, rfl, rfl, rfl, trivial⟩ ?_
      refine okc_seq ?_
      refine okc_block ?_
      refine okc_seq ?_
      refine okc_region ?_
      refine s_indexP i hpR rfl rfl rfl rfl rfl rfl rfl rfl rfl rfl (by omega) rfl ?_
      refine s_loadAP jR rfl rfl rfl rfl rfl rfl rfl hjR rfl (by assumption) rfl ?_
      refine s_alloc rfl rfl rfl rfl rfl rfl (fun b11 => ?_)
      refine k_storeW 0 rfl rfl rfl rfl rfl rfl rfl rfl rfl rfl rfl rfl ?_
      refine okl_nil ?_
      change OkC Try.prog _ _ _ _ _ _ _
      refine okc_weak (l' := [(0, _), (1, _), (2, _), (4, _), (5, _), (6, _), (7, _), (8, _), (9, _), (11, _), (21, _), (28, _), (29, _), (30, _), (31, _)]) ⟨rfl, rfl, rfl, rfl, rfl, rfl, rfl, rfl, rfl, rfl, rfl, rfl, rfl, rfl, rfl, trivial⟩ ?_
      refine okc_seq ?_
      refine okc_drawx [34, 35, 36, 37, 38, 39, 40, 41] [6, 7] [⟨some 34, [], [], fun _ v B => v = spV s ∧ B = []⟩, ⟨some 35, [], [], fun _ v B => v = .pointer (some ⟨b11, 0 + 0, none⟩) ∧ B = []⟩, ⟨some 36, [1], [], fun _ v B => v = .int .i64 x.number ∧ B = []⟩, ⟨some 37, [2], [], fun _ v B => ∃ b, v = .slice (some ⟨b, 0, none⟩) 1 1 ∧ B = [(b, [.int .i64 x.number], 3)] ∧ True⟩, ⟨some 38, [0, 3], [], fun _ v B => ∃ g : Rn2, v = spV (twS (wtS s [x.number]) g) ∧ B = g.B1 ++ g.B2 ∧ TwOk (wtS s [x.number]) g⟩, ⟨some 39, [], [], fun _ v B => v = .int .i64 (k : Int) ∧ B = []⟩, ⟨some 40, [4, 5], [], fun _ v B => v = .agg #[.int .i64 (gvS (wtS s [x.number]) k).1, .int .i64 (gvS (wtS s [x.number]) k).2] ∧ B = []⟩, ⟨some 41, [], [], fun _ v B => v = .agg #[.int .i64 (gvS s k).1, .int .i64 (gvS s k).2] ∧ B = []⟩] 8 4 _ rfl rfl rfl rfl rfl rfl rfl (perm_nil _) ⟨?_, ?_, ?_, ?_, ?_, ?_, ?_, ?_, trivial⟩ (fun ρ hρ => ?_) rfl
      · refine obl_x rfl rfl rfl rfl (fun ρ hρ => ?_)
        exact .inl ⟨rfl, opx_v (fun F => k_loadW 2 rfl rfl rfl rfl rfl rfl)⟩
      · refine obl_x rfl rfl rfl rfl (fun ρ hρ => ?_)
        exact .inl ⟨rfl, opx_v (fun F => k_field rfl rfl rfl rfl)⟩
      · refine obl_x rfl rfl rfl rfl (fun ρ hρ => ?_)
        have h1 := hρ 1 (by simp) _ rfl
        change GoodX Try.prog _ _ _ _ ((35, (ρ 1).1) :: _) _ (((ρ 1).2 ++ []) ++ _) _ _
        generalize ρ 1 = q1 at h1 ⊢
        obtain ⟨v1, B1⟩ := q1
        obtain ⟨rfl, rfl⟩ := h1
        exact .inl ⟨rfl, opx_v (fun F => k_load1 0 rfl rfl rfl rfl rfl)⟩
      · refine obl_x rfl rfl rfl rfl (fun ρ hρ => ?_)
        have h2 := hρ 2 (by simp) _ rfl
        change GoodX Try.prog _ _ _ _ ((36, (ρ 2).1) :: _) _ (((ρ 2).2 ++ []) ++ _) _ _
        generalize ρ 2 = q2 at h2 ⊢
        obtain ⟨v2, B2⟩ := q2
        obtain ⟨rfl, rfl⟩ := h2
        exact .inl ⟨rfl, opx_r (fun F => k_slice1 rfl rfl rfl rfl rfl rfl)⟩
      · refine obl_x rfl rfl rfl rfl (fun ρ hρ => ?_)
        have h0 := hρ 0 (by simp) _ rfl
        have h3 := hρ 3 (by simp) _ rfl
        change GoodX Try.prog _ _ _ _ ((34, (ρ 0).1) :: (37, (ρ 3).1) :: _) _ (((ρ 0).2 ++ ((ρ 3).2 ++ [])) ++ _) _ _
        generalize ρ 0 = q0 at h0 ⊢
        obtain ⟨v0, B0⟩ := q0
        obtain ⟨rfl, rfl⟩ := h0
        generalize ρ 3 = q3 at h3 ⊢
        obtain ⟨v3, B3⟩ := q3
        obtain ⟨b83, rfl, rfl, _⟩ := h3
        exact .inl ⟨rfl, opx_r (fun F => op_call rfl rfl rfl c93 (without_fn s ((b83, [.int .i64 x.number]) :: M) (hin.cons _) hgr [x.number] (some ⟨b83, 0, none⟩) 1 (ints_one b83 x.number M)) (covers_own 0 rfl covers_all))⟩
      · refine obl_x rfl rfl rfl rfl (fun ρ hρ => ?_)
        exact .inl ⟨rfl, opx_v (fun F => op_move rfl rfl)⟩
      · refine obl_x rfl rfl rfl rfl (fun ρ hρ => ?_)
        have h4 := hρ 4 (by simp) _ rfl
        have h5 := hρ 5 (by simp) _ rfl
        change GoodX Try.prog _ _ _ _ ((38, (ρ 4).1) :: (39, (ρ 5).1) :: _) _ (((ρ 4).2 ++ ((ρ 5).2 ++ [])) ++ _) _ _
        generalize ρ 4 = q4 at h4 ⊢
        obtain ⟨v4, B4⟩ := q4
        obtain ⟨g4, rfl, rfl, hg4⟩ := h4
        generalize ρ 5 = q5 at h5 ⊢
        obtain ⟨v5, B5⟩ := q5
        obtain ⟨rfl, rfl⟩ := h5
        have hoks : OkS (wtS s [x.number]) := ok_of_valid (valid_wt hv)
        have hgv := gives_fn (twS (wtS s [x.number]) g4) (argsOf (g4.B1 ++ g4.B2)) (tw_in (by show s.book.length ≤ _; omega) (by have := wt_len s [x.number]; omega) hg4) (ok_of_valid (by exact valid_wt hv)) k (by show (k : Int) < s.weeks; omega)
        exact .inl ⟨rfl, opx_v (fun F => op_callv rfl rfl rfl c77 hgv (covers_grp fun y hy => List.mem_append_left _ (List.mem_append_left _ (List.mem_append_left _ hy))))⟩
      · refine obl_x rfl rfl rfl rfl (fun ρ hρ => ?_)
        exact .inl ⟨rfl, opx_v (fun F => k_loadW 1 rfl rfl rfl rfl rfl rfl)⟩
      have h0 := hρ 0 (by decide) _ rfl
      have h1 := hρ 1 (by decide) _ rfl
      have h2 := hρ 2 (by decide) _ rfl
      have h3 := hρ 3 (by decide) _ rfl
      have h4 := hρ 4 (by decide) _ rfl
      have h5 := hρ 5 (by decide) _ rfl
      have h6 := hρ 6 (by decide) _ rfl
      have h7 := hρ 7 (by decide) _ rfl
      change Go.Sx.OkL Try.prog _ _ _ _ _ ((40, (ρ 6).1) :: (41, (ρ 7).1) :: _) (_ ++ ((ρ 0).2 ++ ((ρ 1).2 ++ ((ρ 2).2 ++ ((ρ 3).2 ++ ((ρ 4).2 ++ ((ρ 5).2 ++ ((ρ 6).2 ++ ((ρ 7).2 ++ []))))))))) _
      generalize ρ 0 = q0 at *
      obtain ⟨v0, B0⟩ := q0
      obtain ⟨rfl, rfl⟩ := h0
      generalize ρ 1 = q1 at *
      obtain ⟨v1, B1⟩ := q1
      obtain ⟨rfl, rfl⟩ := h1
      generalize ρ 2 = q2 at *
      obtain ⟨v2, B2⟩ := q2
      obtain ⟨rfl, rfl⟩ := h2
      generalize ρ 3 = q3 at *
      obtain ⟨v3, B3⟩ := q3
      obtain ⟨b83, rfl, rfl, _⟩ := h3
      generalize ρ 4 = q4 at *
      obtain ⟨v4, B4⟩ := q4
      obtain ⟨g4, rfl, rfl, hg4⟩ := h4
      generalize ρ 5 = q5 at *
      obtain ⟨v5, B5⟩ := q5
      obtain ⟨rfl, rfl⟩ := h5
      generalize ρ 6 = q6 at *
      obtain ⟨v6, B6⟩ := q6
      obtain ⟨rfl, rfl⟩ := h6
      generalize ρ 7 = q7 at *
      obtain ⟨v7, B7⟩ := q7
      obtain ⟨rfl, rfl⟩ := h7
      refine okl_sub (List.sublist_append_left _ _) ?_
      have hge1 : gE (wtS s [x.number]) (k : Int) = gvS (wtS s [x.number]) k := gE_ok (er_wt hb)
      have hge2 : gE s (k : Int) = gvS s k := gE_ok hb
      refine s_b rfl rfl rfl rfl (op_neqA rfl rfl rfl g23 (eq23 9998 _ _ _ _)) (fun h12 => ?_) (fun h12 => ?_)
      · have hre : restB s (k : Int) x = true := eq_rest (by rw [hge1, hge2]; exact h12)
        refine okl_nil ?_
        change OkC Try.prog _ _ _ _ _ _ _
        refine okc_weak (l' := [(0, _), (1, _), (2, _), (4, _), (5, _), (6, _), (7, _), (8, _), (9, _), (11, _), (21, _), (28, _), (29, _), (30, _), (31, _), (42, _)]) ⟨rfl, rfl, rfl, rfl, rfl, rfl, rfl, rfl, rfl, rfl, rfl, rfl, rfl, rfl, rfl, rfl, trivial⟩ ?_
        refine okc_cond_t rfl ?_
        refine okc_region ?_
        refine s_move rfl rfl rfl rfl rfl rfl ?_
        refine s_field rfl rfl rfl rfl rfl rfl rfl rfl ?_
        refine s_load1 0 rfl rfl rfl rfl rfl rfl rfl rfl rfl ?_
        refine s_slice1 rfl rfl rfl rfl rfl rfl rfl rfl rfl rfl (fun b13 => ?_)
        refine okl_xmT [_, _, _, _, _, _] [] B rfl rfl rfl rfl (k_append1 0 hsl by3 rfl rfl rfl rfl rfl rfl rfl rfl rfl rfl rfl (by omega)) rfl (fun v B3 hv => ?_)
        obtain ⟨p3, c3, rfl, hsl3⟩ := hv
        refine s_assign rfl rfl rfl rfl rfl rfl ?_
        refine okl_nil ?_
        change OkC Try.prog _ _ _ _ _ _ _
        refine okc_weak (l' := [(0, _), (1, _), (2, _), (4, _), (5, _), (6, _), (7, _), (8, _), (9, _), (11, _), (21, _), (28, _), (29, _), (30, _), (31, _), (42, _)]) ⟨rfl, rfl, rfl, rfl, rfl, rfl, rfl, rfl, rfl, rfl, rfl, rfl, rfl, rfl, rfl, rfl, trivial⟩ ?_
        refine okc_region ?_
        refine s_add rfl rfl rfl rfl rfl rfl rfl (by omega) ?_
        refine s_move rfl rfl rfl rfl rfl rfl ?_
        refine okl_nil ?_
        refine fun a w hs => ⟨⟨i + 1, p3, c3, B3⟩, ⟨hlt, by dsimp only; rw [restK_succ hx, if_pos hre, ints_snoc]; simpa using hsl3⟩, by show _ - (i + 1) < _ - i; omega, ?_⟩
        exact St.pickG (FE := [_, _, _, _, _, _]) (G := [] ++ B3) (O' := [_, _, _, _]) hs ⟨congrArg (fun z => some (Value.slice p3 z c3)) (by show _ = (restK s (k : Int) (i + 1)).length; rw [restK_succ hx, if_pos hre, List.length_append]; rfl), rfl, rfl, rfl, rfl, rfl, rfl, rfl, rfl, rfl, rfl, rfl, rfl, trivial⟩ [2, 3, 4, 5] (by decide) (rfl)
      · have hre : restB s (k : Int) x = false := ne_rest (by rw [hge1, hge2]; exact h12)
        refine okl_nil ?_
        change OkC Try.prog _ _ _ _ _ _ _
        refine okc_weak (l' := [(0, _), (1, _), (2, _), (4, _), (5, _), (6, _), (7, _), (8, _), (9, _), (11, _), (21, _), (28, _), (29, _), (30, _), (31, _), (42, _)]) ⟨rfl, rfl, rfl, rfl, rfl, rfl, rfl, rfl, rfl, rfl, rfl, rfl, rfl, rfl, rfl, rfl, trivial⟩ ?_
        refine okc_cond_f rfl ?_
        refine okc_skip ?_
        change OkC Try.prog _ _ _ _ _ _ _
        refine okc_weak (l' := [(0, _), (1, _), (2, _), (4, _), (5, _), (6, _), (7, _), (8, _), (9, _), (11, _), (21, _), (28, _), (29, _), (30, _), (31, _), (42, _)]) ⟨rfl, rfl, rfl, rfl, rfl, rfl, rfl, rfl, rfl, rfl, rfl, rfl, rfl, rfl, rfl, rfl, trivial⟩ ?_
        refine okc_region ?_
        refine s_add rfl rfl rfl rfl rfl rfl rfl (by omega) ?_
        refine s_move rfl rfl rfl rfl rfl rfl ?_
        refine okl_nil ?_
        refine fun a w hs => ⟨⟨i + 1, q, c, B⟩, ⟨hlt, by dsimp only; rw [restK_succ hx, if_neg (by simp [hre])]; exact hsl⟩, by show _ - (i + 1) < _ - i; omega, ?_⟩
        exact St.pickG (FE := [_, _, _, _, _]) (G := [] ++ B) (O' := [_, _, _, _]) hs ⟨congrArg (fun z => some (Value.slice q z c)) (by show _ = (restK s (k : Int) (i + 1)).length; rw [restK_succ hx, if_neg (by simp [hre])]), rfl, rfl, rfl, rfl, rfl, rfl, rfl, rfl, rfl, rfl, rfl, rfl, trivial⟩ [1, 2, 3, 4] (by decide) (rfl)
    · have hge : ¬ i < s.reads.length := by simpa using h10
      obtain rfl : i = s.reads.length := by omega
      have hfin : restK s (k : Int) s.reads.length = restS s (k : Int) := by rw [restK_all, restS, if_pos (show erS s (k : Int) = 0 from hb)]
      refine okl_nil ?_
      change OkC Try.prog _ _ _ _ _ _ _
      refine okc_weak (l' := [(0, _), (1, _), (2, _), (4, _), (5, _), (6, _), (7, _), (8, _), (9, _), (21, _), (28, _), (29, _), (30, _), (31, _)]) ⟨rfl, rfl, rfl, rfl, rfl, rfl, rfl, rfl, rfl, rfl, rfl, rfl, rfl, rfl, trivial⟩ ?_
      refine okc_seq ?_
      refine okc_cond_f rfl ?_
      refine okc_exit ?_
      change OkC Try.prog _ _ _ _ _ _ _
      refine okc_weak (l' := [(0, _), (1, _), (2, _), (4, _), (5, _), (6, _), (7, _), (8, _), (9, _), (21, _), (28, _), (29, _), (30, _), (31, _)]) ⟨rfl, rfl, rfl, rfl, rfl, rfl, rfl, rfl, rfl, rfl, rfl, rfl, rfl, rfl, trivial⟩ ?_
      refine okc_seq ?_
      refine okc_region ?_
      refine s_move rfl rfl rfl rfl rfl rfl ?_
      refine s_assign rfl rfl rfl rfl rfl rfl ?_
      refine s_assign rfl rfl rfl rfl rfl rfl ?_
      refine okl_nil ?_
      change OkC Try.prog _ _ _ _ _ _ _
      refine okc_weak (l' := [(0, _), (1, _), (2, _), (4, _), (5, _), (6, _), (7, _), (8, _), (9, _), (21, _), (28, _), (29, _), (30, _), (31, _)]) ⟨rfl, rfl, rfl, rfl, rfl, rfl, rfl, rfl, rfl, rfl, rfl, rfl, rfl, rfl, trivial⟩ ?_
      refine okc_ret fun a w hs => ?_
      exact ret_postS hs (run_results2 hs rfl (rv_tmp rfl) (rv_tmp rfl)) ⟨q, c, B⟩ (by rw [hfin]) (by rw [← hfin]; exact hsl) (sub_drop 4 rfl)

theorem Rests_fn (s : Sp) (M : Args) (hin : s.In M) (hgr : s.book.length ≤ 30 ∧ s.reads.length ≤ 30) (w : Int) : Cn Try.prog 44 [spV s, .int .i64 w] M (fun g : SlG => .tuple #[.slice g.p (restS s w).length g.c, .int .i64 (erS s w)]) (fun g => g.B) (fun g => Sl g.B 3 1 g.p (restS s w).length g.c (ints (restS s w))) := by
  by_cases hb : erS s w = 0
  · obtain ⟨hv, h0, h1, _⟩ := er_ok hb
    obtain ⟨k, rfl⟩ : ∃ k : Nat, w = k := ⟨w.toNat, by omega⟩
    have h := Rests_ok s M hin hgr k hv (ok_of_valid hv) h1 hb
    rw [hb]; exact h
  · intro w0 hM
    refine (Rests_no s M hin w hb w0 hM).mono ?_
    rintro e w' ⟨v, he, hbl, _, hv, _⟩
    rw [restS, if_neg hb]
    exact ⟨v, he, hbl, SlG.nil, hv, Sl.nil 3 1, res_nil w0 w'⟩

end Go.Proofs.Ytdpnadknaacinaa
end

section
namespace Go.Proofs.Ytdpnadknaacinaa
open Go.Sx Go.Proofs.Ytdpnadknaacinaa.Ty
set_option linter.unusedVariables false
set_option linter.unusedSimpArgs false
set_option maxHeartbeats 2000000

theorem rRests_fn (s : Sp) (M : Args) (hin : s.In M) (hgr : s.book.length ≤ 30 ∧ s.reads.length ≤ 30) (w : Int) : Cn Try.prog 45 [spV s, .int .i64 w] M (fun g : SlG => .tuple #[.slice g.p (restS s w).length g.c, .int .i64 (erS s w)]) (fun g => g.B) (fun g => Sl g.B 3 1 g.p (restS s w).length g.c (ints (restS s w))) := by
  obtain ⟨bR, oR, cR, jR, hR⟩ := hin.reads
  refine fn_intro (N := 49) Try.func45 rfl rfl rfl fun w0 => ?_
  refine okc_seq ?_
  refine okc_region ?_
  refine s_boxA rfl rfl rfl rfl rfl rfl (fun b1 => ?_)
  refine s_assign rfl rfl rfl rfl rfl rfl ?_
  refine s_assign rfl rfl rfl rfl rfl rfl ?_
  refine okl_nil ?_
  change OkC Try.prog _ _ _ _ _ _ _
  refine okc_weak (l' := [(0, _), (1, _), (2, _), (4, _), (5, _)]) ⟨rfl, rfl, rfl, rfl, rfl, trivial⟩ ?_
  refine okc_seq ?_
  refine okc_region ?_
  refine s_loadW 0 rfl rfl rfl rfl rfl rfl rfl rfl rfl rfl ?_
  refine s_move rfl rfl rfl rfl rfl rfl ?_
  refine s_callv rfl rfl rfl rfl rfl rfl rfl c23 (rGives_fn s M hin w) covers_all ?_
  refine s_move rfl rfl rfl rfl rfl rfl ?_
  refine s_extract rfl rfl rfl rfl rfl rfl rfl ?_
  refine s_extract rfl rfl rfl rfl rfl rfl rfl ?_
  refine s_alloc rfl rfl rfl rfl rfl rfl (fun b2 => ?_)
  refine k_storeW 0 rfl rfl rfl rfl rfl rfl rfl rfl rfl rfl rfl rfl ?_
  refine s_assign rfl rfl rfl rfl rfl rfl ?_
  refine okl_nil ?_
  change OkC Try.prog _ _ _ _ _ _ _
  refine okc_weak (l' := [(0, _), (1, _), (2, _), (4, _), (5, _), (6, _), (7, _)]) ⟨rfl, rfl, rfl, rfl, rfl, rfl, rfl, trivial⟩ ?_
  refine okc_seq ?_
  refine okc_seq ?_
  refine okc_region ?_
  refine s_move rfl rfl rfl rfl rfl rfl ?_
  refine s_cmpS rfl rfl rfl rfl rfl rfl rfl rfl (fun h3 => ?_) (fun h3 => ?_)
  · have hb : ¬ erS s w = 0 := by simpa using h3
    refine okl_nil ?_
    change OkC Try.prog _ _ _ _ _ _ _
    refine okc_weak (l' := [(0, _), (1, _), (2, _), (4, _), (5, _), (6, _), (7, _), (20, _)]) ⟨rfl, rfl, rfl, rfl, rfl, rfl, rfl, rfl, trivial⟩ ?_
    refine okc_cond_t rfl ?_
    refine okc_seq ?_
    refine okc_region ?_
    refine s_move rfl rfl rfl rfl rfl rfl ?_
    refine s_assign rfl rfl rfl rfl rfl rfl ?_
    refine s_assign rfl rfl rfl rfl rfl rfl ?_
    refine okl_nil ?_
    change OkC Try.prog _ _ _ _ _ _ _
    refine okc_weak (l' := [(0, _), (1, _), (2, _), (4, _), (5, _), (6, _), (7, _), (20, _)]) ⟨rfl, rfl, rfl, rfl, rfl, rfl, rfl, rfl, trivial⟩ ?_
    refine okc_ret fun a w hs => ?_
    exact ret_postS hs (run_results2 hs rfl (rv_tmp rfl) (rv_tmp rfl)) SlG.nil (by rw [restS, if_neg hb]; rfl) (by rw [restS, if_neg hb]; exact Sl.nil 3 1) (List.nil_sublist _)
  · have hb : erS s w = 0 := by simpa using h3
    obtain ⟨hv, h0w, h1w, hcan⟩ := er_ok hb
    obtain ⟨k, rfl⟩ : ∃ k : Nat, w = k := ⟨w.toNat, by omega⟩
    refine okl_nil ?_
    change OkC Try.prog _ _ _ _ _ _ _
    refine okc_weak (l' := [(0, _), (1, _), (2, _), (4, _), (5, _), (6, _), (7, _), (20, _)]) ⟨rfl, rfl, rfl, rfl, rfl, rfl, rfl, rfl, trivial⟩ ?_
    refine okc_cond_f rfl ?_
    refine okc_skip ?_
    change OkC Try.prog _ _ _ _ _ _ _
    refine okc_weak (l' := [(0, _), (1, _), (2, _), (4, _), (5, _), (6, _), (7, _), (20, _)]) ⟨rfl, rfl, rfl, rfl, rfl, rfl, rfl, rfl, trivial⟩ ?_
    refine okc_seq ?_
    refine okc_region ?_
    refine s_assign rfl rfl rfl rfl rfl rfl ?_
    refine okl_nil ?_
    change OkC Try.prog _ _ _ _ _ _ _
    refine okc_weak (l' := [(0, _), (1, _), (2, _), (4, _), (5, _), (6, _), (7, _), (8, _), (20, _)]) ⟨rfl, rfl, rfl, rfl, rfl, rfl, rfl, rfl, rfl, trivial⟩ ?_
    refine okc_seq ?_
    refine okc_seq ?_
    refine okc_region ?_
    refine s_field rfl rfl rfl rfl rfl rfl rfl rfl ?_
    refine s_load1 1 rfl rfl rfl rfl rfl rfl rfl rfl rfl ?_
    refine s_len rfl rfl rfl rfl rfl rfl rfl ?_
    refine s_move rfl rfl rfl rfl rfl rfl ?_
    refine okl_nil ?_
    change OkC Try.prog _ _ _ _ _ _ _
    refine okc_weak (l' := [(0, _), (1, _), (2, _), (4, _), (5, _), (6, _), (7, _), (8, _), (20, _), (23, _), (24, _), (25, _)]) ⟨rfl, rfl, rfl, rfl, rfl, rfl, rfl, rfl, rfl, rfl, rfl, rfl, trivial⟩ ?_
    refine okc_block ?_
    refine okc_loopH (γ := Ig) [(0, _), (1, _), (2, _), (4, _), (5, _), (6, _), (7, _), (20, _), (23, _), (24, _)] ⟨rfl, rfl, rfl, rfl, rfl, rfl, rfl, rfl, rfl, rfl, trivial⟩ [0, 1] [] (by decide) [_, _] [] _ rfl (fun g => [(8, .slice g.q (restK s (k : Int) g.i).length g.c), (25, .int .i64 (g.i : Int))]) (fun g => []) (fun g => g.B) (fun g => g.i ≤ s.reads.length ∧ Sl g.B 3 1 g.q (restK s (k : Int) g.i).length g.c (ints (restK s (k : Int) g.i))) (fun g => s.reads.length - g.i) ⟨0, none, 0, []⟩ ⟨Nat.zero_le _, Sl.nil 3 1⟩ ⟨rfl, rfl, trivial⟩ rfl rfl ?_
    rintro ⟨i, q, c, B⟩ ⟨hi, hsl⟩
    dsimp only at hi hsl ⊢
    change OkC Try.prog _ _ _ _ _ _ _
    refine okc_seq ?_
    refine okc_region ?_
    refine s_cmpS rfl rfl rfl rfl rfl rfl rfl rfl (fun h4 => ?_) (fun h4 => ?_)
    · have hlt : i < s.reads.length := by simpa using h4
      obtain ⟨x, hx⟩ : ∃ x, s.reads[i]? = some x := ⟨s.reads[i], by simp [hlt]⟩
      obtain ⟨hpR, hjR, hatR⟩ := hR (by intro e; simp [e] at hlt)
      have hcell := hatR i x hx
      have hrk := restK_len s (k : Int) i
      refine okl_nil ?_
      change OkC Try.prog _ _ _ _ _ _ _
      refine okc_weak (l' := [(0, _), (1, _), (2, _), (4, _), (5, _), (6, _), (7, _), (8, _), (20, _), (23, _), (24, _), (25, _), (26, _)]) ⟨rfl, rfl, rfl, rfl, rfl, rfl, rfl, rfl, rfl, rfl, rfl, rfl, rfl, trivial⟩ ?_
      refine okc_seq ?_
      refine okc_cond_t rfl ?_
      refine okc_skip ?_
      change OkC Try.prog _ _ _ _ _ _ _
      refine okc_weak (l' := [(0, _), (1, _), (2, _), (4, _), (5, _), (6, _), (7, _), (8, _), (20, _), (23, _), (24, _), (25, _), (26, _)]) ⟨rfl, rfl, rfl, rfl, rfl, rfl, rfl, rfl, rfl, rfl, rfl, rfl, rfl, trivial⟩ ?_
      refine okc_seq ?_
      refine okc_block ?_
      refine okc_seq ?_
      refine okc_region ?_
      refine s_indexP i hpR rfl rfl rfl rfl rfl rfl rfl rfl rfl rfl (by omega) rfl ?_
      refine s_loadAP jR rfl rfl rfl rfl rfl rfl rfl hjR rfl (by assumption) rfl ?_
      refine s_alloc rfl rfl rfl rfl rfl rfl (fun b5 => ?_)
      refine k_storeW 0 rfl rfl rfl rfl rfl rfl rfl rfl rfl rfl rfl rfl ?_
      refine okl_nil ?_
      change OkC Try.prog _ _ _ _ _ _ _
      refine okc_weak (l' := [(0, _), (1, _), (2, _), (4, _), (5, _), (6, _), (7, _), (8, _), (10, _), (20, _), (23, _), (24, _), (25, _), (26, _)]) ⟨rfl, rfl, rfl, rfl, rfl, rfl, rfl, rfl, rfl, rfl, rfl, rfl, rfl, rfl, trivial⟩ ?_
      refine okc_seq ?_
      refine okc_region ?_
      refine s_loadW 2 rfl rfl rfl rfl rfl rfl rfl rfl rfl rfl ?_
      refine s_field rfl rfl rfl rfl rfl rfl rfl rfl ?_
      refine s_load1 0 rfl rfl rfl rfl rfl rfl rfl rfl rfl ?_
      refine s_slice1 rfl rfl rfl rfl rfl rfl rfl rfl rfl rfl (fun b6 => ?_)
      refine okl_rE rfl rfl rfl rfl (op_call rfl rfl rfl c94 (rWithout_fn s ((b6, [.int .i64 x.number]) :: M) (hin.cons _) hgr [x.number] (some ⟨b6, 0, none⟩) 1 (ints_one b6 x.number M)) (covers_own 0 rfl covers_all)) (fun gg hgg => ?_)
      refine s_move rfl rfl rfl rfl rfl rfl ?_
      have hgv := rGives_fn (twS (wtS s [x.number]) gg) (argsOf (gg.B1 ++ gg.B2)) (tw_in (by show s.book.length ≤ _; omega) (by have := wt_len s [x.number]; omega) hgg) (k : Int)
      rw [show gE (twS (wtS s [x.number]) gg) (k : Int) = gE (wtS s [x.number]) (k : Int) from rfl, show erS (twS (wtS s [x.number]) gg) (k : Int) = erS (wtS s [x.number]) (k : Int) from rfl] at hgv
      refine s_callv rfl rfl rfl rfl rfl rfl rfl c23 hgv (covers_grp fun y hy => List.mem_append_right _ hy) ?_
      refine okl_sub (O' := [_, _, _, _] ++ ([] ++ B)) (List.sublist_append_left _ (gg.B1 ++ gg.B2)) ?_
      have hge1 : gE (wtS s [x.number]) (k : Int) = gE (wtS s [x.number]) (k : Int) := rfl
      have hge2 : gE s (k : Int) = gE s (k : Int) := rfl
      refine s_move rfl rfl rfl rfl rfl rfl ?_
      refine s_extract rfl rfl rfl rfl rfl rfl rfl ?_
      refine s_extract rfl rfl rfl rfl rfl rfl rfl ?_
      refine s_alloc rfl rfl rfl rfl rfl rfl (fun b7 => ?_)
      refine k_storeW 0 rfl rfl rfl rfl rfl rfl rfl rfl rfl rfl rfl rfl ?_
      refine s_assign rfl rfl rfl rfl rfl rfl ?_
      refine okl_nil ?_
      change OkC Try.prog _ _ _ _ _ _ _
      refine okc_weak (l' := [(0, _), (1, _), (2, _), (4, _), (5, _), (6, _), (7, _), (8, _), (10, _), (11, _), (20, _), (23, _), (24, _), (25, _), (26, _)]) ⟨rfl, rfl, rfl, rfl, rfl, rfl, rfl, rfl, rfl, rfl, rfl, rfl, rfl, rfl, rfl, trivial⟩ ?_
      refine okc_seq ?_
      refine okc_region ?_
      refine s_loadW 0 rfl rfl rfl rfl rfl rfl rfl rfl rfl rfl ?_
      refine s_loadW 3 rfl rfl rfl rfl rfl rfl rfl rfl rfl rfl ?_
      refine s_b rfl rfl rfl rfl (op_neqA rfl rfl rfl g23 (eq23 9998 _ _ _ _)) (fun h8 => ?_) (fun h8 => ?_)
      · have hre : restB s (k : Int) x = true := eq_rest (by rw [hge1, hge2]; exact h8)
        refine okl_nil ?_
        change OkC Try.prog _ _ _ _ _ _ _
        refine okc_weak (l' := [(0, _), (1, _), (2, _), (4, _), (5, _), (6, _), (7, _), (8, _), (10, _), (11, _), (20, _), (23, _), (24, _), (25, _), (26, _), (41, _)]) ⟨rfl, rfl, rfl, rfl, rfl, rfl, rfl, rfl, rfl, rfl, rfl, rfl, rfl, rfl, rfl, rfl, trivial⟩ ?_
        refine okc_cond_t rfl ?_
        refine okc_region ?_
        refine s_move rfl rfl rfl rfl rfl rfl ?_
        refine s_field rfl rfl rfl rfl rfl rfl rfl rfl ?_
        refine s_load1 2 rfl rfl rfl rfl rfl rfl rfl rfl rfl ?_
        refine s_slice1 rfl rfl rfl rfl rfl rfl rfl rfl rfl rfl (fun b9 => ?_)
        refine okl_xmT [_, _, _, _, _, _] [] B rfl rfl rfl rfl (k_append1 0 hsl by3 rfl rfl rfl rfl rfl rfl rfl rfl rfl rfl rfl (by omega)) rfl (fun v B3 hv => ?_)
        obtain ⟨p3, c3, rfl, hsl3⟩ := hv
        refine s_assign rfl rfl rfl rfl rfl rfl ?_
        refine okl_nil ?_
        change OkC Try.prog _ _ _ _ _ _ _
        refine okc_weak (l' := [(0, _), (1, _), (2, _), (4, _), (5, _), (6, _), (7, _), (8, _), (10, _), (11, _), (20, _), (23, _), (24, _), (25, _), (26, _), (41, _)]) ⟨rfl, rfl, rfl, rfl, rfl, rfl, rfl, rfl, rfl, rfl, rfl, rfl, rfl, rfl, rfl, rfl, trivial⟩ ?_
        refine okc_region ?_
        refine s_add rfl rfl rfl rfl rfl rfl rfl (by omega) ?_
        refine s_move rfl rfl rfl rfl rfl rfl ?_
        refine okl_nil ?_
        refine fun a w hs => ⟨⟨i + 1, p3, c3, B3⟩, ⟨hlt, by dsimp only; rw [restK_succ hx, if_pos hre, ints_snoc]; simpa using hsl3⟩, by show _ - (i + 1) < _ - i; omega, ?_⟩
        exact St.pickG (FE := [_, _, _, _, _, _]) (G := [] ++ B3) (O' := [_, _]) hs ⟨congrArg (fun z => some (Value.slice p3 z c3)) (by show _ = (restK s (k : Int) (i + 1)).length; rw [restK_succ hx, if_pos hre, List.length_append]; rfl), rfl, rfl, rfl, rfl, rfl, rfl, rfl, rfl, rfl, rfl, rfl, trivial⟩ [4, 5] (by decide) (rfl)
      · have hre : restB s (k : Int) x = false := ne_rest (by rw [hge1, hge2]; exact h8)
        refine okl_nil ?_
        change OkC Try.prog _ _ _ _ _ _ _
        refine okc_weak (l' := [(0, _), (1, _), (2, _), (4, _), (5, _), (6, _), (7, _), (8, _), (10, _), (11, _), (20, _), (23, _), (24, _), (25, _), (26, _), (41, _)]) ⟨rfl, rfl, rfl, rfl, rfl, rfl, rfl, rfl, rfl, rfl, rfl, rfl, rfl, rfl, rfl, rfl, trivial⟩ ?_
        refine okc_cond_f rfl ?_
        refine okc_skip ?_
        change OkC Try.prog _ _ _ _ _ _ _
        refine okc_weak (l' := [(0, _), (1, _), (2, _), (4, _), (5, _), (6, _), (7, _), (8, _), (10, _), (11, _), (20, _), (23, _), (24, _), (25, _), (26, _), (41, _)]) ⟨rfl, rfl, rfl, rfl, rfl, rfl, rfl, rfl, rfl, rfl, rfl, rfl, rfl, rfl, rfl, rfl, trivial⟩ ?_
        refine okc_region ?_
        refine s_add rfl rfl rfl rfl rfl rfl rfl (by omega) ?_
        refine s_move rfl rfl rfl rfl rfl rfl ?_
        refine okl_nil ?_
        refine fun a w hs => ⟨⟨i + 1, q, c, B⟩, ⟨hlt, by dsimp only; rw [restK_succ hx, if_neg (by simp [hre])]; exact hsl⟩, by show _ - (i + 1) < _ - i; omega, ?_⟩
        exact St.pickG (FE := [_, _, _, _, _]) (G := [] ++ B) (O' := [_, _]) hs ⟨congrArg (fun z => some (Value.slice q z c)) (by show _ = (restK s (k : Int) (i + 1)).length; rw [restK_succ hx, if_neg (by simp [hre])]), rfl, rfl, rfl, rfl, rfl, rfl, rfl, rfl, rfl, rfl, rfl, trivial⟩ [3, 4] (by decide) (rfl)
    · have hge : ¬ i < s.reads.length := by simpa using h4
      obtain rfl : i = s.reads.length := by omega
      have hfin : restK s (k : Int) s.reads.length = restS s (k : Int) := by rw [restK_all, restS, if_pos (show erS s (k : Int) = 0 from hb)]
      refine okl_nil ?_
      change OkC Try.prog _ _ _ _ _ _ _
      refine okc_weak (l' := [(0, _), (1, _), (2, _), (4, _), (5, _), (6, _), (7, _), (8, _), (20, _), (23, _), (24, _), (25, _), (26, _)]) ⟨rfl, rfl, rfl, rfl, rfl, rfl, rfl, rfl, rfl, rfl, rfl, rfl, rfl, trivial⟩ ?_
      refine okc_seq ?_
      refine okc_cond_f rfl ?_
      refine okc_exit ?_
      change OkC Try.prog _ _ _ _ _ _ _
      refine okc_weak (l' := [(0, _), (1, _), (2, _), (4, _), (5, _), (6, _), (7, _), (8, _), (20, _), (23, _), (24, _), (25, _), (26, _)]) ⟨rfl, rfl, rfl, rfl, rfl, rfl, rfl, rfl, rfl, rfl, rfl, rfl, rfl, trivial⟩ ?_
      refine okc_seq ?_
      refine okc_region ?_
      refine s_move rfl rfl rfl rfl rfl rfl ?_
      refine s_assign rfl rfl rfl rfl rfl rfl ?_
      refine s_assign rfl rfl rfl rfl rfl rfl ?_
      refine okl_nil ?_
      change OkC Try.prog _ _ _ _ _ _ _
      refine okc_weak (l' := [(0, _), (1, _), (2, _), (4, _), (5, _), (6, _), (7, _), (8, _), (20, _), (23, _), (24, _), (25, _), (26, _)]) ⟨rfl, rfl, rfl, rfl, rfl, rfl, rfl, rfl, rfl, rfl, rfl, rfl, rfl, trivial⟩ ?_
      refine okc_ret fun a w hs => ?_
      exact ret_postS hs (run_results2 hs rfl (rv_tmp rfl) (rv_tmp rfl)) ⟨q, c, B⟩ (by rw [hfin, hb]) (by rw [← hfin]; exact hsl) (sub_drop 2 rfl)
end Go.Proofs.Ytdpnadknaacinaa
end

section
namespace Go.Proofs.Ytdpnadknaacinaa
open Go.Sx Go.Proofs.Ytdpnadknaacinaa.Ty
set_option linter.unusedVariables false
set_option linter.unusedSimpArgs false
set_option maxHeartbeats 2000000


def numAt (s : Sp) (i : Nat) : Int := ((s.reads[i]?).map (·.number)).getD 0
theorem numAt_eq {s : Sp} {i : Nat} {x : Rd} (h : s.reads[i]? = some x) : numAt s i = x.number := by simp [numAt, h]
/-- The first list of so many readings more, from one on, without which there is a truth. -/
def strF (s : Sp) : Nat → Nat → List Int → Option (List Int)
  | 0, _, l => if canS (wtS s l) then some l else none
  | m + 1, fr, l => (List.range' fr (s.reads.length - fr)).findSome? fun i => strF s m (i + 1) (l ++ [numAt s i])
theorem strF_some {s : Sp} {m fr i : Nat} {l l' : List Int} (hi : fr ≤ i) (hl : i < s.reads.length) (hn : ∀ j, fr ≤ j → j < i → strF s m (j + 1) (l ++ [numAt s j]) = none) (h : strF s m (i + 1) (l ++ [numAt s i]) = some l') : strF s (m + 1) fr l = some l' := by
  obtain ⟨d, rfl⟩ : ∃ d, i = fr + d := ⟨i - fr, by omega⟩
  simp only [strF]
  clear hi
  induction d generalizing fr with
  | zero =>
    obtain ⟨n, hn'⟩ : ∃ n, s.reads.length - fr = n + 1 := ⟨s.reads.length - fr - 1, by omega⟩
    rw [hn', List.range'_succ, List.findSome?_cons]
    simp only [Nat.add_zero] at h
    rw [h]
  | succ d ih =>
    obtain ⟨n, hn'⟩ : ∃ n, s.reads.length - fr = n + 1 := ⟨s.reads.length - fr - 1, by omega⟩
    rw [hn', List.range'_succ, List.findSome?_cons, hn fr (Nat.le_refl _) (by omega)]
    have := ih (fr := fr + 1) (by omega) (fun j h1 h2 => hn j (by omega) (by omega)) (by rw [show fr + 1 + d = fr + (d + 1) by omega]; exact h)
    rw [show s.reads.length - (fr + 1) = n by omega] at this
    exact this
theorem strF_none {s : Sp} {m fr : Nat} {l : List Int} (hn : ∀ j, fr ≤ j → j < s.reads.length → strF s m (j + 1) (l ++ [numAt s j]) = none) : strF s (m + 1) fr l = none := by
  simp only [strF]
  rw [List.findSome?_eq_none_iff]
  intro i hi
  rw [List.mem_range'_1] at hi
  exact hn i hi.1 (by omega)
theorem IntsIn.mono {M M' : Args} {p : Option Addr} {L : List Int} (h : IntsIn M p L) (hM : ∀ x ∈ M, x ∈ M') : IntsIn M' p L := by
  obtain ⟨h1, b, off, cs, j, h2⟩ := h
  refine ⟨h1, ?_⟩
  by_cases hn : L = []
  · exact ⟨0, 0, [], 0, fun hne => absurd hn hne⟩
  · obtain ⟨g1, g2, g3⟩ := h2 hn
    obtain ⟨i, hi⟩ := List.mem_iff_getElem?.1 (hM _ (List.mem_of_getElem? g2))
    exact ⟨b, off, cs, i, fun _ => ⟨g1, hi, g3⟩⟩
theorem perm_tail {α : Type} (E B : List α) : (E ++ ([] ++ B)).Perm (E ++ (B ++ [])) := by simp
theorem ints_take (l : List Int) (n : Int) : (ints (l ++ [n])).take (l.length * 1) = ints l := by
  rw [ints_snoc, Nat.mul_one, List.take_append_of_le_length (by simp [ints]), List.take_of_length_le (by simp [ints])]
/-- What the closure is to find. -/
structure Cap (s : Sp) (M : Args) (many : Nat) (bl bm bw bc jm jw jc : Nat) : Prop where
  m : M[jm]? = some (bm, [.int .i64 (many : Int)])
  w : M[jw]? = some (bw, spC s)
  c : M[jc]? = some (bc, [.func (.func 119) #[] #[.pointer (some ⟨bl, 0, none⟩), .pointer (some ⟨bm, 0, none⟩), .pointer (some ⟨bw, 0, none⟩), .pointer (some ⟨bc, 0, none⟩)]])
def ChC (s : Sp) (M : Args) (bl bm bw bc m fr : Nat) (l : List Int) (q : Option Addr) (c : Nat) (B : Blks) : Prop :=
  CnF Try.prog 119 [.int .i64 (fr : Int), .pointer (some ⟨bl, 0, none⟩), .pointer (some ⟨bm, 0, none⟩), .pointer (some ⟨bw, 0, none⟩), .pointer (some ⟨bc, 0, none⟩)] M [] ((bl, [.slice q l.length c], 35) :: B)
    (fun g : SlG => .bool (strF s m fr l).isSome) (fun g => (bl, [.slice g.p ((strF s m fr l).getD l).length g.c], 35) :: g.B) (fun g => Sl g.B 3 1 g.p ((strF s m fr l).getD l).length g.c (ints ((strF s m fr l).getD l)))


theorem valid_len {s : Sp} (hv : validB s = true) : s.book.length ≤ 30 ∧ s.reads.length ≤ 30 := by
  simp only [validB, readsB, bookB, Bool.and_eq_true, decide_eq_true_eq] at hv
  omega

theorem choose0 (s : Sp) (M : Args) (hin : s.In M) (hv : validB s = true) (many : Nat) (hmany : many ≤ 2) (bl bm bw bc jm jw jc : Nat) (hcap : Cap s M many bl bm bw bc jm jw jc)  (fr : Nat) (l : List Int) (q : Option Addr) (c : Nat) (B : Blks) (hfr : fr ≤ s.reads.length) (hm : l.length + 0 = many) (hsl : Sl B 3 1 q l.length c (ints l)) : ChC s M bl bm bw bc (0) fr l q c B := by
  have hs0 := ok_of_valid hv
  obtain ⟨hjm, hjw, hjc⟩ := hcap
  have hgr : s.book.length ≤ 30 ∧ s.reads.length ≤ 30 := valid_len hv
  obtain ⟨bR, oR, cR, jR, hR⟩ := hin.reads
  refine fn_introF (n := 44) Try.func119 rfl rfl rfl fun w0 => ?_
  refine okc_seq ?_
  refine okc_region ?_
  refine s_assign rfl rfl rfl rfl rfl rfl ?_
  refine okl_nil ?_
  change OkC Try.prog _ _ _ _ _ _ _
  refine okc_weak (l' := [(0, _), (1, _), (2, _), (3, _), (4, _), (6, _)]) ⟨rfl, rfl, rfl, rfl, rfl, rfl, trivial⟩ ?_
  refine okc_seq ?_
  refine okc_seq ?_
  refine okc_region ?_
  refine s_load1 0 rfl rfl rfl rfl rfl rfl rfl rfl rfl ?_
  refine s_len rfl rfl rfl rfl rfl rfl rfl ?_
  refine s_loadA1 jm rfl rfl rfl rfl rfl rfl rfl hjm rfl ?_
  refine s_cmpS rfl rfl rfl rfl rfl rfl rfl rfl (fun h1 => ?_) (fun h1 => ?_)
  · refine okl_nil ?_
    change OkC Try.prog _ _ _ _ _ _ _
    refine okc_weak (l' := [(0, _), (1, _), (2, _), (3, _), (4, _), (6, _), (11, _)]) ⟨rfl, rfl, rfl, rfl, rfl, rfl, rfl, trivial⟩ ?_
    refine okc_cond_t rfl ?_
    refine okc_seq ?_
    refine okc_region ?_
    refine s_loadAP jw rfl rfl rfl rfl rfl rfl rfl hjw rfl rfl rfl ?_
    refine s_load1 0 rfl rfl rfl rfl rfl rfl rfl rfl rfl ?_
    have hni : IntsIn (argsOf B ++ M) q l := (ints_in hsl (fun x hx => hx) (by omega)).mono (fun x hx => List.mem_append_left _ hx)
    refine okl_rE rfl rfl rfl rfl (op_call rfl rfl rfl c93 (without_fn s (argsOf B ++ M) (hin.mono (fun x hx => List.mem_append_right _ hx)) hgr l q c hni) (covers_two (covers_grp fun x hx => List.mem_cons_of_mem _ hx) covers_all)) (fun gg hgg => ?_)
    have hcn : Cn Try.prog 73 [spV (twS (wtS s l) gg)] (argsOf (gg.B1 ++ gg.B2)) (fun _ : Unit => .bool (canS (wtS s l))) (fun _ => []) (fun _ => True) := can_fn (twS (wtS s l) gg) (argsOf (gg.B1 ++ gg.B2)) (tw_in (by show s.book.length ≤ _; omega) (by have := wt_len s l; omega) hgg) (ok_of_valid (by exact valid_wt hv))
    refine s_callv rfl rfl rfl rfl rfl rfl rfl c73 hcn (covers_grp fun y hy => List.mem_append_right _ hy) ?_
    refine s_assign rfl rfl rfl rfl rfl rfl ?_
    refine okl_nil ?_
    change OkC Try.prog _ _ _ _ _ _ _
    refine okc_weak (l' := [(0, _), (1, _), (2, _), (3, _), (4, _), (6, _), (11, _)]) ⟨rfl, rfl, rfl, rfl, rfl, rfl, rfl, trivial⟩ ?_
    refine okc_ret fun a w hs => ?_
    exact ret_postF hs (run_results1 hs rfl (rv_tmp rfl)) ⟨q, c, B⟩ (by simp only [strF]; cases canS (wtS s l) <;> rfl) (by simp only [strF]; cases canS (wtS s l) <;> exact hsl) (by simp only [strF]; cases canS (wtS s l) <;> exact List.sublist_append_left _ _)
  · exact absurd h1 (by simp; omega) --closed
theorem chooseS (s : Sp) (M : Args) (hin : s.In M) (hv : validB s = true) (many : Nat) (hmany : many ≤ 2) (bl bm bw bc jm jw jc : Nat) (hcap : Cap s M many bl bm bw bc jm jw jc) (m : Nat) (ih : ∀ (fr : Nat) (l : List Int) (q : Option Addr) (c : Nat) (B : Blks), fr ≤ s.reads.length → l.length + m = many → Sl B 3 1 q l.length c (ints l) → ChC s M bl bm bw bc m fr l q c B) (fr : Nat) (l : List Int) (q : Option Addr) (c : Nat) (B : Blks) (hfr : fr ≤ s.reads.length) (hm : l.length + (m + 1) = many) (hsl : Sl B 3 1 q l.length c (ints l)) : ChC s M bl bm bw bc ((m + 1)) fr l q c B := by
  have hs0 := ok_of_valid hv
  obtain ⟨hjm, hjw, hjc⟩ := hcap
  have hgr : s.book.length ≤ 30 ∧ s.reads.length ≤ 30 := valid_len hv
  obtain ⟨bR, oR, cR, jR, hR⟩ := hin.reads
  refine fn_introF (n := 44) Try.func119 rfl rfl rfl fun w0 => ?_
  refine okc_seq ?_
  refine okc_region ?_
  refine s_assign rfl rfl rfl rfl rfl rfl ?_
  refine okl_nil ?_
  change OkC Try.prog _ _ _ _ _ _ _
  refine okc_weak (l' := [(0, _), (1, _), (2, _), (3, _), (4, _), (6, _)]) ⟨rfl, rfl, rfl, rfl, rfl, rfl, trivial⟩ ?_
  refine okc_seq ?_
  refine okc_seq ?_
  refine okc_region ?_
  refine s_load1 0 rfl rfl rfl rfl rfl rfl rfl rfl rfl ?_
  refine s_len rfl rfl rfl rfl rfl rfl rfl ?_
  refine s_loadA1 jm rfl rfl rfl rfl rfl rfl rfl hjm rfl ?_
  refine s_cmpS rfl rfl rfl rfl rfl rfl rfl rfl (fun h2 => ?_) (fun h2 => ?_)
  · exact absurd h2 (by simp; omega) --closed
  · refine okl_nil ?_
    change OkC Try.prog _ _ _ _ _ _ _
    refine okc_weak (l' := [(0, _), (1, _), (2, _), (3, _), (4, _), (6, _), (11, _)]) ⟨rfl, rfl, rfl, rfl, rfl, rfl, rfl, trivial⟩ ?_
    refine okc_cond_f rfl ?_
    refine okc_skip ?_
    change OkC Try.prog _ _ _ _ _ _ _
    refine okc_weak (l' := [(0, _), (1, _), (2, _), (3, _), (4, _), (6, _), (11, _)]) ⟨rfl, rfl, rfl, rfl, rfl, rfl, rfl, trivial⟩ ?_
    refine okc_seq ?_
    refine okc_seq ?_
    refine okc_region ?_
    refine s_move rfl rfl rfl rfl rfl rfl ?_
    refine s_assign rfl rfl rfl rfl rfl rfl ?_
    refine okl_nil ?_
    change OkC Try.prog _ _ _ _ _ _ _
    refine okc_weak (l' := [(0, _), (1, _), (2, _), (3, _), (4, _), (6, _), (7, _), (11, _)]) ⟨rfl, rfl, rfl, rfl, rfl, rfl, rfl, rfl, trivial⟩ ?_
    refine okc_block ?_
    refine okc_loopH (γ := Ig) [(0, _), (1, _), (2, _), (3, _), (4, _), (6, _), (11, _)] ⟨rfl, rfl, rfl, rfl, rfl, rfl, rfl, trivial⟩ [] [0] (by decide) [_] [] _ rfl (fun g => [(7, .int .i64 (g.i : Int))]) (fun g => [(bl, [.slice g.q l.length g.c], 35)]) (fun g => g.B) (fun g => fr ≤ g.i ∧ g.i ≤ s.reads.length ∧ Sl g.B 3 1 g.q l.length g.c (ints l) ∧ ∀ j, fr ≤ j → j < g.i → strF s m (j + 1) (l ++ [numAt s j]) = none) (fun g => s.reads.length - g.i) ⟨fr, q, c, B⟩ ⟨Nat.le_refl _, hfr, hsl, fun j h1 h2 => by (have h3 : j < fr := h2; omega)⟩ ⟨rfl, trivial⟩ rfl rfl ?_
    rintro ⟨i, q, c, B⟩ ⟨hfi, hil, hsl, hnone⟩
    dsimp only at hfi hil hsl hnone ⊢
    change OkC Try.prog _ _ _ _ _ _ _
    refine okc_seq ?_
    refine okc_seq ?_
    refine okc_region ?_
    refine s_move rfl rfl rfl rfl rfl rfl ?_
    refine s_field rfl rfl rfl rfl rfl rfl rfl rfl ?_
    refine s_field rfl rfl rfl rfl rfl rfl rfl rfl ?_
    refine s_loadA1 jw rfl rfl rfl rfl rfl rfl rfl hjw rfl ?_
    refine s_len rfl rfl rfl rfl rfl rfl rfl ?_
    refine s_cmpS rfl rfl rfl rfl rfl rfl rfl rfl (fun h3 => ?_) (fun h3 => ?_)
    · have hlt : i < s.reads.length := by simpa using h3
      obtain ⟨x, hx⟩ : ∃ x, s.reads[i]? = some x := ⟨s.reads[i], by simp [hlt]⟩
      obtain ⟨hpR, hjR, hatR⟩ := hR (by intro e; simp [e] at hlt)
      have hcell := hatR i x hx
      have hnum : cR[oR + i * 5 + 0]? = some (.int .i64 x.number) := sub_at hcell 0 (by decide)
      have hnx := numAt_eq hx
      refine okl_nil ?_
      change OkC Try.prog _ _ _ _ _ _ _
      refine okc_weak (l' := [(0, _), (1, _), (2, _), (3, _), (4, _), (6, _), (7, _), (11, _), (22, _)]) ⟨rfl, rfl, rfl, rfl, rfl, rfl, rfl, rfl, rfl, trivial⟩ ?_
      refine okc_cond_t rfl ?_
      refine okc_skip ?_
      change OkC Try.prog _ _ _ _ _ _ _
      refine okc_weak (l' := [(0, _), (1, _), (2, _), (3, _), (4, _), (6, _), (7, _), (11, _), (22, _)]) ⟨rfl, rfl, rfl, rfl, rfl, rfl, rfl, rfl, rfl, trivial⟩ ?_
      refine okc_seq ?_
      refine okc_block ?_
      refine okc_seq ?_
      refine okc_drawx [25, 26, 27, 28, 29, 30, 31, 32, 33, 34] [9] [⟨some 25, [], [], fun _ v B => v = .slice q l.length c ∧ B = []⟩, ⟨some 26, [], [], fun _ v B => v = .pointer (some ⟨bw, 0 + 0, none⟩) ∧ B = []⟩, ⟨some 27, [1], [], fun _ v B => v = .pointer (some ⟨bw, 0 + 0 + 8, none⟩) ∧ B = []⟩, ⟨some 28, [2], [], fun _ v B => v = .slice s.rp s.reads.length s.rc ∧ B = []⟩, ⟨some 29, [], [], fun _ v B => v = .int .i64 (i : Int) ∧ B = []⟩, ⟨some 30, [3, 4], [], fun _ v B => v = .pointer (some ⟨bR, oR + i * 5, none⟩) ∧ B = []⟩, ⟨some 31, [5], [], fun _ v B => v = .pointer (some ⟨bR, oR + i * 5 + 0, none⟩) ∧ B = []⟩, ⟨some 32, [6], [], fun _ v B => v = .int .i64 x.number ∧ B = []⟩, ⟨some 33, [7], [], fun _ v B => ∃ b, v = .slice (some ⟨b, 0, none⟩) 1 1 ∧ B = [(b, [.int .i64 x.number], 3)] ∧ True⟩, ⟨some 34, [0, 8], B, fun _ v B => ∃ p c, v = .slice p (l.length + 1) c ∧ Sl B 3 1 p (l.length + 1) c (ints l ++ [.int .i64 x.number])⟩] 10 7 _ rfl rfl rfl rfl rfl rfl rfl (perm_tail [_] B) ⟨?_, ?_, ?_, ?_, ?_, ?_, ?_, ?_, ?_, ?_, trivial⟩ (fun ρ hρ => ?_) rfl
      · refine obl_x rfl rfl rfl rfl (fun ρ hρ => ?_)
        exact .inl ⟨rfl, opx_v (fun F => k_load1 0 rfl rfl rfl rfl rfl)⟩
      · refine obl_x rfl rfl rfl rfl (fun ρ hρ => ?_)
        exact .inl ⟨rfl, opx_v (fun F => k_field rfl rfl rfl rfl)⟩
      · refine obl_x rfl rfl rfl rfl (fun ρ hρ => ?_)
        have h1 := hρ 1 (by simp) _ rfl
        change GoodX Try.prog _ _ _ _ ((26, (ρ 1).1) :: _) _ (((ρ 1).2 ++ []) ++ _) _ _
        generalize ρ 1 = q1 at h1 ⊢
        obtain ⟨v1, B1⟩ := q1
        obtain ⟨rfl, rfl⟩ := h1
        exact .inl ⟨rfl, opx_v (fun F => k_field rfl rfl rfl rfl)⟩
      · refine obl_x rfl rfl rfl rfl (fun ρ hρ => ?_)
        have h2 := hρ 2 (by simp) _ rfl
        change GoodX Try.prog _ _ _ _ ((27, (ρ 2).1) :: _) _ (((ρ 2).2 ++ []) ++ _) _ _
        generalize ρ 2 = q2 at h2 ⊢
        obtain ⟨v2, B2⟩ := q2
        obtain ⟨rfl, rfl⟩ := h2
        exact .inl ⟨rfl, opx_v (fun F => k_loadA1 jw rfl rfl hjw rfl rfl)⟩
      · refine obl_x rfl rfl rfl rfl (fun ρ hρ => ?_)
        exact .inl ⟨rfl, opx_v (fun F => op_move rfl rfl)⟩
      · refine obl_x rfl rfl rfl rfl (fun ρ hρ => ?_)
        have h3 := hρ 3 (by simp) _ rfl
        have h4 := hρ 4 (by simp) _ rfl
        change GoodX Try.prog _ _ _ _ ((28, (ρ 3).1) :: (29, (ρ 4).1) :: _) _ (((ρ 3).2 ++ ((ρ 4).2 ++ [])) ++ _) _ _
        generalize ρ 3 = q3 at h3 ⊢
        obtain ⟨v3, B3⟩ := q3
        obtain ⟨rfl, rfl⟩ := h3
        generalize ρ 4 = q4 at h4 ⊢
        obtain ⟨v4, B4⟩ := q4
        obtain ⟨rfl, rfl⟩ := h4
        exact .inl ⟨rfl, opx_v (fun F => k_indexS (j := i) rfl (congrArg (fun z => some (Value.slice z s.reads.length s.rc)) hpR) rfl rfl rfl rfl (by omega) rfl)⟩
      · refine obl_x rfl rfl rfl rfl (fun ρ hρ => ?_)
        have h5 := hρ 5 (by simp) _ rfl
        change GoodX Try.prog _ _ _ _ ((30, (ρ 5).1) :: _) _ (((ρ 5).2 ++ []) ++ _) _ _
        generalize ρ 5 = q5 at h5 ⊢
        obtain ⟨v5, B5⟩ := q5
        obtain ⟨rfl, rfl⟩ := h5
        exact .inl ⟨rfl, opx_v (fun F => k_field rfl rfl rfl rfl)⟩
      · refine obl_x rfl rfl rfl rfl (fun ρ hρ => ?_)
        have h6 := hρ 6 (by simp) _ rfl
        change GoodX Try.prog _ _ _ _ ((31, (ρ 6).1) :: _) _ (((ρ 6).2 ++ []) ++ _) _ _
        generalize ρ 6 = q6 at h6 ⊢
        obtain ⟨v6, B6⟩ := q6
        obtain ⟨rfl, rfl⟩ := h6
        exact .inl ⟨rfl, opx_v (fun F => k_loadA1 jR rfl rfl hjR rfl hnum)⟩
      · refine obl_x rfl rfl rfl rfl (fun ρ hρ => ?_)
        have h7 := hρ 7 (by simp) _ rfl
        change GoodX Try.prog _ _ _ _ ((32, (ρ 7).1) :: _) _ (((ρ 7).2 ++ []) ++ _) _ _
        generalize ρ 7 = q7 at h7 ⊢
        obtain ⟨v7, B7⟩ := q7
        obtain ⟨rfl, rfl⟩ := h7
        exact .inl ⟨rfl, opx_r (fun F => k_slice1 rfl rfl rfl rfl rfl rfl)⟩
      · refine obl_x rfl rfl rfl rfl (fun ρ hρ => ?_)
        have h0 := hρ 0 (by simp) _ rfl
        have h8 := hρ 8 (by simp) _ rfl
        change GoodX Try.prog _ _ _ _ ((25, (ρ 0).1) :: (33, (ρ 8).1) :: _) _ (((ρ 0).2 ++ ((ρ 8).2 ++ [])) ++ _) _ _
        generalize ρ 0 = q0 at h0 ⊢
        obtain ⟨v0, B0⟩ := q0
        obtain ⟨rfl, rfl⟩ := h0
        generalize ρ 8 = q8 at h8 ⊢
        obtain ⟨v8, B8⟩ := q8
        obtain ⟨b88, rfl, rfl, _⟩ := h8
        exact .inl ⟨rfl, k_append1 0 hsl by3 rfl rfl rfl rfl rfl rfl rfl rfl rfl rfl rfl (by omega)⟩
      have h0 := hρ 0 (by decide) _ rfl
      have h1 := hρ 1 (by decide) _ rfl
      have h2 := hρ 2 (by decide) _ rfl
      have h3 := hρ 3 (by decide) _ rfl
      have h4 := hρ 4 (by decide) _ rfl
      have h5 := hρ 5 (by decide) _ rfl
      have h6 := hρ 6 (by decide) _ rfl
      have h7 := hρ 7 (by decide) _ rfl
      have h8 := hρ 8 (by decide) _ rfl
      have h9 := hρ 9 (by decide) _ rfl
      change Go.Sx.OkL Try.prog _ _ _ _ _ ((34, (ρ 9).1) :: _) (_ ++ ((ρ 0).2 ++ ((ρ 1).2 ++ ((ρ 2).2 ++ ((ρ 3).2 ++ ((ρ 4).2 ++ ((ρ 5).2 ++ ((ρ 6).2 ++ ((ρ 7).2 ++ ((ρ 8).2 ++ ((ρ 9).2 ++ []))))))))))) _
      generalize ρ 0 = q0 at *
      obtain ⟨v0, B0⟩ := q0
      obtain ⟨rfl, rfl⟩ := h0
      generalize ρ 1 = q1 at *
      obtain ⟨v1, B1⟩ := q1
      obtain ⟨rfl, rfl⟩ := h1
      generalize ρ 2 = q2 at *
      obtain ⟨v2, B2⟩ := q2
      obtain ⟨rfl, rfl⟩ := h2
      generalize ρ 3 = q3 at *
      obtain ⟨v3, B3⟩ := q3
      obtain ⟨rfl, rfl⟩ := h3
      generalize ρ 4 = q4 at *
      obtain ⟨v4, B4⟩ := q4
      obtain ⟨rfl, rfl⟩ := h4
      generalize ρ 5 = q5 at *
      obtain ⟨v5, B5⟩ := q5
      obtain ⟨rfl, rfl⟩ := h5
      generalize ρ 6 = q6 at *
      obtain ⟨v6, B6⟩ := q6
      obtain ⟨rfl, rfl⟩ := h6
      generalize ρ 7 = q7 at *
      obtain ⟨v7, B7⟩ := q7
      obtain ⟨rfl, rfl⟩ := h7
      generalize ρ 8 = q8 at *
      obtain ⟨v8, B8⟩ := q8
      obtain ⟨b88, rfl, rfl, _⟩ := h8
      generalize ρ 9 = q9 at *
      obtain ⟨v9, B9⟩ := q9
      obtain ⟨p9, c9, rfl, hsl9⟩ := h9
      refine okl_sub (O' := [_] ++ ([] ++ B9)) (List.Sublist.append (List.Sublist.refl _) (by dsimp only; simp only [List.nil_append, List.append_nil, List.cons_append]; exact .cons _ (List.Sublist.refl _))) ?_
      refine k_storeW 0 rfl rfl rfl rfl rfl rfl rfl rfl rfl rfl rfl rfl ?_
      refine okl_nil ?_
      change OkC Try.prog _ _ _ _ _ _ _
      refine okc_weak (l' := [(0, _), (1, _), (2, _), (3, _), (4, _), (6, _), (7, _), (11, _), (22, _)]) ⟨rfl, rfl, rfl, rfl, rfl, rfl, rfl, rfl, rfl, trivial⟩ ?_
      refine okc_seq ?_
      refine okc_seq ?_
      refine okc_region ?_
      refine s_loadA1 jc rfl rfl rfl rfl rfl rfl rfl hjc rfl ?_
      refine s_move rfl rfl rfl rfl rfl rfl ?_
      refine s_add rfl rfl rfl rfl rfl rfl rfl (by omega) ?_
      have hsl10 : Sl B9 3 1 p9 (l ++ [x.number]).length c9 (ints (l ++ [x.number])) := by rw [ints_snoc, List.length_append]; exact hsl9
      have hih := ih (i + 1) (l ++ [x.number]) p9 c9 B9 hlt (by rw [List.length_append]; simp; omega) hsl10
      have hlen1 : (l ++ [x.number]).length = l.length + 1 := by simp
      unfold ChC at hih
      rw [hlen1] at hih
      refine okl_xm0 [] ((bl, [.slice p9 (l.length + 1) c9], 35) :: B9) rfl rfl rfl rfl (opx_callF rfl rfl rfl c119 hih covers_all (fun b es c h => by cases h)) rfl (fun v B10 hv10 => ?_)
      obtain ⟨g, rfl, hg, rfl⟩ := hv10
      rcases hfound : strF s m (i + 1) (l ++ [x.number]) with _ | lf
      · rw [hfound] at hg
        have hshr : Sl g.B 3 1 g.p l.length g.c (ints l) := by have h := hg; simp only [Option.getD_none, hlen1] at h; have h2 := h.shrink; rw [ints_take] at h2; exact h2
        simp only [hfound, Option.isSome_none, Option.isSome_some, Option.getD_none, Option.getD_some, hlen1]
        refine okl_nil ?_
        change OkC Try.prog _ _ _ _ _ _ _
        refine okc_weak (l' := [(0, _), (1, _), (2, _), (3, _), (4, _), (6, _), (7, _), (11, _), (22, _), (38, _)]) ⟨rfl, rfl, rfl, rfl, rfl, rfl, rfl, rfl, rfl, rfl, trivial⟩ ?_
        refine okc_cond_f rfl ?_
        refine okc_skip ?_
        change OkC Try.prog _ _ _ _ _ _ _
        refine okc_weak (l' := [(0, _), (1, _), (2, _), (3, _), (4, _), (6, _), (7, _), (11, _), (22, _), (38, _)]) ⟨rfl, rfl, rfl, rfl, rfl, rfl, rfl, rfl, rfl, rfl, trivial⟩ ?_
        refine okc_region ?_
        refine s_load1 0 rfl rfl rfl rfl rfl rfl rfl rfl rfl ?_
        refine s_load1 0 rfl rfl rfl rfl rfl rfl rfl rfl rfl ?_
        refine s_len rfl rfl rfl rfl rfl rfl rfl ?_
        refine s_sub rfl rfl rfl rfl rfl rfl rfl (by omega) ?_
        refine okl_v rfl rfl rfl rfl (op_sliceHi (i := l.length) rfl rfl rfl (sl_un (sl_of rfl)) (siz_of rfl) (by simp) (by have := hshr.2; rcases this with ⟨_, h1, h2, _⟩ | ⟨_, _, _, _, h3, _⟩; omega; exact h3)) ?_
        refine k_storeW 0 rfl rfl rfl rfl rfl rfl rfl rfl rfl rfl rfl rfl ?_
        refine okl_nil ?_
        change OkC Try.prog _ _ _ _ _ _ _
        refine okc_weak (l' := [(0, _), (1, _), (2, _), (3, _), (4, _), (6, _), (7, _), (11, _), (22, _), (38, _)]) ⟨rfl, rfl, rfl, rfl, rfl, rfl, rfl, rfl, rfl, rfl, trivial⟩ ?_
        refine okc_region ?_
        refine s_move rfl rfl rfl rfl rfl rfl ?_
        refine s_add rfl rfl rfl rfl rfl rfl rfl (by omega) ?_
        refine s_assign rfl rfl rfl rfl rfl rfl ?_
        refine okl_nil ?_
        refine fun a w hs => ⟨⟨i + 1, g.p, g.c, g.B⟩, ⟨by show fr ≤ i + 1; omega, by show i + 1 ≤ _; omega, hshr, fun j h1 h2 => by rcases Nat.lt_or_ge j i with h3 | h3; exact hnone j h1 h3; (obtain rfl : j = i := by (have h4 : j < i + 1 := h2; omega)); rw [hnx]; exact hfound⟩, by show _ - (i + 1) < _ - i; omega, ?_⟩
        exact St.pickG (FE := [_]) (G := [] ++ g.B) (O' := [_]) hs ⟨rfl, rfl, rfl, rfl, rfl, rfl, rfl, rfl, trivial⟩ [0] (by decide) (by dsimp only; rfl)
      · rw [hfound] at hg
        have hres : strF s (m + 1) fr l = some lf := strF_some hfi hlt hnone (by rw [hnx]; exact hfound)
        simp only [hfound, Option.isSome_none, Option.isSome_some, Option.getD_none, Option.getD_some, hlen1]
        refine okl_nil ?_
        change OkC Try.prog _ _ _ _ _ _ _
        refine okc_weak (l' := [(0, _), (1, _), (2, _), (3, _), (4, _), (6, _), (7, _), (11, _), (22, _), (38, _)]) ⟨rfl, rfl, rfl, rfl, rfl, rfl, rfl, rfl, rfl, rfl, trivial⟩ ?_
        refine okc_cond_t rfl ?_
        refine okc_seq ?_
        refine okc_region ?_
        refine s_assign rfl rfl rfl rfl rfl rfl ?_
        refine okl_nil ?_
        change OkC Try.prog _ _ _ _ _ _ _
        refine okc_weak (l' := [(0, _), (1, _), (2, _), (3, _), (4, _), (6, _), (7, _), (11, _), (22, _), (38, _)]) ⟨rfl, rfl, rfl, rfl, rfl, rfl, rfl, rfl, rfl, rfl, trivial⟩ ?_
        refine okc_ret fun a w hs => ?_
        exact ret_postF hs (run_results1 hs rfl (rv_tmp rfl)) g (by rw [hres]; rfl) (by rw [hres]; exact hg) (by rw [hres]; exact List.Sublist.refl _)
    · have hge : ¬ i < s.reads.length := by simpa using h3
      have hres : strF s (m + 1) fr l = none := strF_none (fun j h1 h2 => hnone j h1 (by omega))
      refine okl_nil ?_
      change OkC Try.prog _ _ _ _ _ _ _
      refine okc_weak (l' := [(0, _), (1, _), (2, _), (3, _), (4, _), (6, _), (7, _), (11, _), (22, _)]) ⟨rfl, rfl, rfl, rfl, rfl, rfl, rfl, rfl, rfl, trivial⟩ ?_
      refine okc_cond_f rfl ?_
      refine okc_exit ?_
      change OkC Try.prog _ _ _ _ _ _ _
      refine okc_weak (l' := [(0, _), (1, _), (2, _), (3, _), (4, _), (6, _), (7, _), (11, _), (22, _)]) ⟨rfl, rfl, rfl, rfl, rfl, rfl, rfl, rfl, rfl, trivial⟩ ?_
      refine okc_seq ?_
      refine okc_region ?_
      refine s_assign rfl rfl rfl rfl rfl rfl ?_
      refine okl_nil ?_
      change OkC Try.prog _ _ _ _ _ _ _
      refine okc_weak (l' := [(0, _), (1, _), (2, _), (3, _), (4, _), (6, _), (7, _), (11, _), (22, _)]) ⟨rfl, rfl, rfl, rfl, rfl, rfl, rfl, rfl, rfl, trivial⟩ ?_
      refine okc_ret fun a w hs => ?_
      exact ret_postF hs (run_results1 hs rfl (rv_tmp rfl)) ⟨q, c, B⟩ (by rw [hres]; rfl) (by rw [hres]; exact hsl) (by rw [hres]; exact List.Sublist.refl _)

theorem choose_fn (s : Sp) (M : Args) (hin : s.In M) (hv : validB s = true) (many : Nat) (hmany : many ≤ 2) (bl bm bw bc jm jw jc : Nat) (hcap : Cap s M many bl bm bw bc jm jw jc) : ∀ (m fr : Nat) (l : List Int) (q : Option Addr) (c : Nat) (B : Blks), fr ≤ s.reads.length → l.length + m = many → Sl B 3 1 q l.length c (ints l) → ChC s M bl bm bw bc m fr l q c B
  | 0 => fun fr l q c B h1 h2 h3 => choose0 s M hin hv many hmany bl bm bw bc jm jw jc hcap fr l q c B h1 h2 h3
  | m + 1 => fun fr l q c B h1 h2 h3 => chooseS s M hin hv many hmany bl bm bw bc jm jw jc hcap m (choose_fn s M hin hv many hmany bl bm bw bc jm jw jc hcap m) fr l q c B h1 h2 h3

end Go.Proofs.Ytdpnadknaacinaa
end
