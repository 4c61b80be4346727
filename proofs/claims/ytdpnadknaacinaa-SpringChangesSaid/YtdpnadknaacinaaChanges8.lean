/-
  Texts that the proof uses, part 8.
  Conditions: none.
-/
import Derived.Test.YtdpnadknaacinaaChanges7

set_option linter.unusedVariables false
set_option linter.unusedSimpArgs false

section
namespace Go.Proofs.Ytdpnadknaacinaa
open Go.Sx Go.Proofs.Ytdpnadknaacinaa.Ty
set_option linter.unusedVariables false
set_option linter.unusedSimpArgs false
set_option maxHeartbeats 2000000


theorem zero4 : ∀ w, (zeroValue 4).run Try.prog w = .ok (.bool false) w := by
  have h : (Try.prog.info? 4).bind (·.zero) = some (.bool false) := by kernel_rfl
  intro w
  cases hi : Try.prog.info? 4 with
  | none => rw [hi] at h; cases h
  | some i =>
    rw [hi] at h
    simp only [Option.bind_some] at h
    simp [zeroValue, typeInfo, hi, h]
theorem op_mapGetB {N : Cx} {w0 : World} {l : Env} {O : Blks} {A : Args} {o : Oper} {m k : Operand} {b cl : Nat} {own : Bool} {es : Array MapEntry} {key : Int} {ks : List Int}
    (hop : o.op = .lookup 176 m k false) (hm : ev l m = some (.map (some b))) (hk : ev l k = some (.int .i64 key)) (hmp : N.maps = [(b, es, cl, own)]) (hI : MapI es ks (.bool true)) : OpV Try.prog N w0 l O A o (pv (.bool (decide (key ∈ ks)))) := by
  have h := op_mapGet (P := Try.prog) (w0 := w0) (O := O) (A := A) (zs := []) hop hm hk Try.underlying176 int3 zero4 hmp hI
  by_cases hin : key ∈ ks
  · rw [if_pos hin] at h; simpa [hin] using h
  · rw [if_neg hin] at h; simpa [hin] using h
theorem cxG_maps {n : Nat} {I : Blks} {mp : List (Nat × Array MapEntry × Nat)} : ∀ b es c, (b, es, c) ∈ mp → ∃ own, (b, es, c, own) ∈ (cxG n I mp).maps :=
  fun b es c h => ⟨false, List.mem_map.2 ⟨_, h, rfl⟩⟩
theorem CnG.mono {σ : Type} {P : Program} {f : Nat} {args : List Value} {M M' : Args} {mp : List (Nat × Array MapEntry × Nat)} {I : Blks} {val : σ → Value} {out blks : σ → Blks} {ok : σ → Prop} (h : CnG P f args M mp I val out blks ok) (hM : ∀ x ∈ M, x ∈ M') : CnG P f args M' mp I val out blks ok :=
  fun w h1 h2 h3 h4 => h w (fun b cs hb => h1 b cs (hM _ hb)) h2 h3 h4
/-- What a test of readings owes. -/
def TestG (gf : Nat) (first cap : Array Value) (M : Args) (mp : List (Nat × Array MapEntry × Nat)) (L : List Rd) (p : Rd → Bool) : Prop :=
  ∀ x ∈ L, CnG Try.prog gf (first.toList ++ ([rdV x] ++ cap.toList)) M mp [] (fun _ : Unit => .bool (p x)) (fun _ => []) (fun _ => []) (fun _ => True)
def Idx (p : Rd → Bool) (L : List Rd) (i : Int) : Prop :=
  (i = -1 ∧ ∀ x ∈ L, p x = false) ∨ ∃ (k : Nat) (x : Rd), i = (k : Int) ∧ L[k]? = some x ∧ p x = true ∧ ∀ (j : Nat) (y : Rd), j < k → L[j]? = some y → p y = false

theorem kept_fn (x : Rd) (M : Args) (b5 bm cl j5 : Nat) (es : Array MapEntry) (ks : List Int) (hj5 : M[j5]? = some (b5, [.map (some bm)])) (hI : MapI es ks (.bool true)) : CnG Try.prog 118 [rdV x, .pointer (some ⟨b5, 0, none⟩)] M [(bm, es, cl)] [] (fun _ : Unit => .bool (!decide (x.number ∈ ks))) (fun _ => []) (fun _ => []) (fun _ => True) := by
  refine fn_introG (n := 9) Try.func118 rfl rfl rfl fun w0 => ?_
  refine okc_seq ?_
  refine okc_region ?_
  refine s_boxA rfl rfl rfl rfl rfl rfl (fun b1 => ?_)
  refine s_assign rfl rfl rfl rfl rfl rfl ?_
  refine okl_nil ?_
  change OkC Try.prog _ _ _ _ _ _ _
  refine okc_weak (l' := [(0, _), (1, _), (2, _), (3, _)]) ⟨rfl, rfl, rfl, rfl, trivial⟩ ?_
  refine okc_seq ?_
  refine okc_region ?_
  refine s_loadA1 j5 rfl rfl rfl rfl rfl rfl rfl hj5 rfl ?_
  refine s_field rfl rfl rfl rfl rfl rfl rfl rfl ?_
  refine s_load1 0 rfl rfl rfl rfl rfl rfl rfl rfl rfl ?_
  refine okl_v rfl rfl rfl rfl (op_mapGetB rfl rfl rfl rfl hI) ?_
  refine s_not rfl rfl rfl rfl rfl rfl ?_
  refine s_assign rfl rfl rfl rfl rfl rfl ?_
  refine okl_nil ?_
  change OkC Try.prog _ _ _ _ _ _ _
  refine okc_weak (l' := [(0, _), (1, _), (2, _), (3, _)]) ⟨rfl, rfl, rfl, rfl, trivial⟩ ?_
  refine okc_ret fun a w hs => ?_
  exact ret_postG hs (run_results1 hs rfl (rv_tmp rfl)) () rfl trivial rfl (by simp) (by simp [nums])
theorem indexFunc_fn (M : Args) (mp : List (Nat × Array MapEntry × Nat)) (L : List Rd) (hl : L.length ≤ 1000) (gf : Nat) (first cap : Array Value) (hc : callable Try.prog gf) (p : Rd → Bool) (hp : TestG gf first cap M mp L p) (q : Option Addr) (c : Nat) (hin : RdsIn M q L) : CnG Try.prog 124 [.slice q L.length c, .func (.func gf) first cap] M mp [] (fun i : Int => .int .i64 i) (fun i => []) (fun i => []) (fun i => Idx p L i) := by
  obtain ⟨bL, oL, cL, jL, hL⟩ := hin
  refine fn_introG (n := 19) Try.func124 rfl rfl rfl fun w0 => ?_
  refine okc_seq ?_
  refine okc_region ?_
  refine s_assign rfl rfl rfl rfl rfl rfl ?_
  refine okl_nil ?_
  change OkC Try.prog _ _ _ _ _ _ _
  refine okc_weak (l' := [(0, _), (1, _), (4, _)]) ⟨rfl, rfl, rfl, trivial⟩ ?_
  refine okc_seq ?_
  refine okc_seq ?_
  refine okc_region ?_
  refine s_move rfl rfl rfl rfl rfl rfl ?_
  refine s_len rfl rfl rfl rfl rfl rfl rfl ?_
  refine s_move rfl rfl rfl rfl rfl rfl ?_
  refine okl_nil ?_
  change OkC Try.prog _ _ _ _ _ _ _
  refine okc_weak (l' := [(0, _), (1, _), (4, _), (7, _), (8, _)]) ⟨rfl, rfl, rfl, rfl, rfl, trivial⟩ ?_
  refine okc_block ?_
  refine okc_loopF (γ := Nat) [(0, _), (1, _), (4, _), (7, _)] ⟨rfl, rfl, rfl, rfl, trivial⟩ [] [] (by decide) _ rfl (fun k => [(8, .int .i64 k)]) (fun k => []) (fun k => k ≤ L.length ∧ ∀ (j : Nat) (y : Rd), j < k → L[j]? = some y → p y = false) (fun k => L.length - k) 0 ⟨Nat.zero_le _, fun j y h => absurd h (Nat.not_lt_zero j)⟩ ⟨rfl, trivial⟩ rfl ?_
  rintro k ⟨hk, hall⟩
  change OkC Try.prog _ _ _ _ _ _ _
  refine okc_seq ?_
  refine okc_region ?_
  refine s_cmpS rfl rfl rfl rfl rfl rfl rfl rfl (fun h2 => ?_) (fun h2 => ?_)
  · have hlt : k < L.length := by simpa using h2
    obtain ⟨x, hx⟩ : ∃ x, L[k]? = some x := ⟨L[k], by simp [hlt]⟩
    obtain ⟨hpL, hjL, hatL⟩ := hL (by intro e; simp [e] at hx)
    have hcell := hatL k x hx
    refine okl_nil ?_
    change OkC Try.prog _ _ _ _ _ _ _
    refine okc_weak (l' := [(0, _), (1, _), (4, _), (7, _), (8, _), (9, _)]) ⟨rfl, rfl, rfl, rfl, rfl, rfl, trivial⟩ ?_
    refine okc_seq ?_
    refine okc_cond_t rfl ?_
    refine okc_skip ?_
    change OkC Try.prog _ _ _ _ _ _ _
    refine okc_weak (l' := [(0, _), (1, _), (4, _), (7, _), (8, _), (9, _)]) ⟨rfl, rfl, rfl, rfl, rfl, rfl, trivial⟩ ?_
    refine okc_seq ?_
    refine okc_block ?_
    refine okc_seq ?_
    refine okc_region ?_
    refine s_move rfl rfl rfl rfl rfl rfl ?_
    refine s_assign rfl rfl rfl rfl rfl rfl ?_
    refine okl_nil ?_
    change OkC Try.prog _ _ _ _ _ _ _
    refine okc_weak (l' := [(0, _), (1, _), (4, _), (5, _), (7, _), (8, _), (9, _)]) ⟨rfl, rfl, rfl, rfl, rfl, rfl, rfl, trivial⟩ ?_
    refine okc_seq ?_
    refine okc_region ?_
    refine s_move rfl rfl rfl rfl rfl rfl ?_
    refine s_move rfl rfl rfl rfl rfl rfl ?_
    refine s_move rfl rfl rfl rfl rfl rfl ?_
    refine s_indexP k hpL rfl rfl rfl rfl rfl rfl rfl rfl rfl rfl (by omega) rfl ?_
    refine s_loadAP jL rfl rfl rfl rfl rfl rfl rfl hjL rfl (by assumption) rfl ?_
    refine okl_callGb rfl rfl rfl rfl rfl rfl rfl hc (hp x (List.mem_of_getElem? hx)) covers_all cxG_maps (fun h3 => ?_) (fun h3 => ?_)
    · have hpx : p x = true := h3
      refine okl_nil ?_
      change OkC Try.prog _ _ _ _ _ _ _
      refine okc_weak (l' := [(0, _), (1, _), (4, _), (5, _), (7, _), (8, _), (9, _), (16, _)]) ⟨rfl, rfl, rfl, rfl, rfl, rfl, rfl, rfl, trivial⟩ ?_
      refine okc_cond_t rfl ?_
      refine okc_seq ?_
      refine okc_region ?_
      refine s_move rfl rfl rfl rfl rfl rfl ?_
      refine s_assign rfl rfl rfl rfl rfl rfl ?_
      refine okl_nil ?_
      change OkC Try.prog _ _ _ _ _ _ _
      refine okc_weak (l' := [(0, _), (1, _), (4, _), (5, _), (7, _), (8, _), (9, _), (16, _)]) ⟨rfl, rfl, rfl, rfl, rfl, rfl, rfl, rfl, trivial⟩ ?_
      refine okc_ret fun a w hs => ?_
      exact ret_postG hs (run_results1 hs rfl (rv_tmp rfl)) (k : Int) rfl (.inr ⟨k, x, rfl, hx, hpx, hall⟩) rfl (by simp) (by simp [nums])
    · have hpx : p x = false := h3
      refine okl_nil ?_
      change OkC Try.prog _ _ _ _ _ _ _
      refine okc_weak (l' := [(0, _), (1, _), (4, _), (5, _), (7, _), (8, _), (9, _), (16, _)]) ⟨rfl, rfl, rfl, rfl, rfl, rfl, rfl, rfl, trivial⟩ ?_
      refine okc_cond_f rfl ?_
      refine okc_skip ?_
      change OkC Try.prog _ _ _ _ _ _ _
      refine okc_weak (l' := [(0, _), (1, _), (4, _), (5, _), (7, _), (8, _), (9, _), (16, _)]) ⟨rfl, rfl, rfl, rfl, rfl, rfl, rfl, rfl, trivial⟩ ?_
      refine okc_region ?_
      refine s_add rfl rfl rfl rfl rfl rfl rfl (by omega) ?_
      refine s_move rfl rfl rfl rfl rfl rfl ?_
      refine okl_nil ?_
      refine fun a w hs => ⟨k + 1, ⟨hlt, fun j y h hy => by rcases Nat.lt_or_ge j k with h2 | h2; exact hall j y h2 hy; (obtain rfl : j = k := by omega); rw [hx] at hy; cases hy; exact hpx⟩, by omega, ?_⟩
      exact hs.weak ⟨rfl, rfl, rfl, rfl, rfl, trivial⟩ [] (by decide) (rfl)
  · have hge : ¬ k < L.length := by simpa using h2
    refine okl_nil ?_
    change OkC Try.prog _ _ _ _ _ _ _
    refine okc_weak (l' := [(0, _), (1, _), (4, _), (7, _), (8, _), (9, _)]) ⟨rfl, rfl, rfl, rfl, rfl, rfl, trivial⟩ ?_
    refine okc_seq ?_
    refine okc_cond_f rfl ?_
    refine okc_exit ?_
    change OkC Try.prog _ _ _ _ _ _ _
    refine okc_weak (l' := [(0, _), (1, _), (4, _), (7, _), (8, _), (9, _)]) ⟨rfl, rfl, rfl, rfl, rfl, rfl, trivial⟩ ?_
    refine okc_seq ?_
    refine okc_region ?_
    refine s_assign rfl rfl rfl rfl rfl rfl ?_
    refine okl_nil ?_
    change OkC Try.prog _ _ _ _ _ _ _
    refine okc_weak (l' := [(0, _), (1, _), (4, _), (7, _), (8, _), (9, _)]) ⟨rfl, rfl, rfl, rfl, rfl, rfl, trivial⟩ ?_
    refine okc_ret fun a w hs => ?_
    exact ret_postG hs (run_results1 hs rfl (rv_tmp rfl)) (-1) rfl (.inl ⟨rfl, fun x hx => by obtain ⟨j, hj⟩ := List.mem_iff_getElem?.1 hx; exact hall j x (by rcases Nat.lt_or_ge j L.length with h | h; omega; (rw [List.getElem?_eq_none h] at hj; cases hj)) hj⟩) rfl (by simp) (by simp [nums])
end Go.Proofs.Ytdpnadknaacinaa
end

section
namespace Go.Proofs.Ytdpnadknaacinaa
open Go.Sx Go.Proofs.Ytdpnadknaacinaa.Ty
set_option linter.unusedVariables false
set_option linter.unusedSimpArgs false
set_option maxHeartbeats 2000000


def fl (p : Rd → Bool) (L : List Rd) (k : Nat) : List Rd := (L.take k).filter fun x => !p x
theorem fl_succ {p : Rd → Bool} {L : List Rd} {k : Nat} {x : Rd} (hx : L[k]? = some x) : fl p L (k + 1) = if p x then fl p L k else fl p L k ++ [x] := by
  unfold fl
  rw [List.take_add_one, hx, List.filter_append]
  cases h : p x <;> simp [h]
theorem fl_len (p : Rd → Bool) (L : List Rd) (k : Nat) : (fl p L k).length ≤ k := Nat.le_trans (List.length_filter_le _ _) (by simp; omega)
theorem fl_all {p : Rd → Bool} {L : List Rd} {k : Nat} (h : L.length ≤ k) : fl p L k = L.filter fun x => !p x := by unfold fl; rw [List.take_of_length_le h]
theorem setL_at {g vs : List Value} {off : Nat} (h : off + vs.length ≤ g.length) (j : Nat) : (setL g off vs)[j]? = if off ≤ j ∧ j < off + vs.length then vs[j - off]? else g[j]? := by
  rw [setL_eq vs off g h]
  have e1 : (g.take off).length = off := by simp; omega
  split
  · rename_i hj
    rw [List.getElem?_append_left (by simp [e1]; omega), List.getElem?_append_right (by omega), e1]
  · rename_i hj
    rcases Nat.lt_or_ge j off with h1 | h1
    · rw [List.getElem?_append_left (by simp; omega), List.getElem?_append_left (by omega), List.getElem?_take, if_pos h1]
    · rw [List.getElem?_append_right (by simp; omega), List.getElem?_drop]
      congr 1
      simp; omega
theorem sub_set_same {g vs : List Value} {i : Nat} (hl : vs.length = 5) (h : i * 5 + 5 ≤ g.length) : sub (setL g (i * 5) vs) (i * 5) 5 = vs := by
  apply List.ext_getElem?
  intro j
  unfold sub
  rw [List.getElem?_take]
  split
  · rw [List.getElem?_drop, setL_at (by omega), if_pos (by omega)]
    congr 1; omega
  · rw [List.getElem?_eq_none (by omega)]
theorem sub_set_other {g vs : List Value} {off r : Nat} (h : off + vs.length ≤ g.length) (hr : r * 5 + 5 ≤ off ∨ off + vs.length ≤ r * 5) : sub (setL g off vs) (r * 5) 5 = sub g (r * 5) 5 := by
  apply List.ext_getElem?
  intro j
  unfold sub
  rw [List.getElem?_take, List.getElem?_take]
  split
  · rw [List.getElem?_drop, List.getElem?_drop, setL_at h, if_neg (by omega)]
  · rfl
structure DInv (p : Rd → Bool) (L : List Rd) (cs g : List Value) (k : Nat) : Prop where
  len : g.length = cs.length
  done : ∀ (r : Nat) (x : Rd), (fl p L k)[r]? = some x → sub g (r * 5) 5 = rdL x
  left : ∀ (r : Nat) (x : Rd), k ≤ r → L[r]? = some x → sub g (r * 5) 5 = rdL x
theorem DInv.skip {p : Rd → Bool} {L : List Rd} {cs g : List Value} {k : Nat} {x : Rd} (h : DInv p L cs g k) (hx : L[k]? = some x) (hp : p x = true) : DInv p L cs g (k + 1) :=
  ⟨h.len, fun r y hy => by rw [fl_succ hx, if_pos hp] at hy; exact h.done r y hy, fun r y hr hy => h.left r y (by omega) hy⟩
theorem DInv.keep {p : Rd → Bool} {L : List Rd} {cs g : List Value} {k : Nat} {x : Rd} (h : DInv p L cs g k) (hcs : L.length * 5 ≤ cs.length) (hx : L[k]? = some x) (hp : p x = false) : DInv p L cs (setL g ((fl p L k).length * 5) (rdL x)) (k + 1) := by
  have hk : k < L.length := by rcases Nat.lt_or_ge k L.length with h1 | h1; exact h1; rw [List.getElem?_eq_none h1] at hx; cases hx
  have hl := fl_len p L k
  have hg := h.len
  have h5 : (rdL x).length = 5 := rfl
  refine ⟨by rw [length_setL]; exact h.len, fun r y hy => ?_, fun r y hr hy => ?_⟩
  · rw [fl_succ hx, if_neg (by simp [hp])] at hy
    rcases Nat.lt_or_ge r (fl p L k).length with h1 | h1
    · rw [List.getElem?_append_left h1] at hy
      rw [sub_set_other (by omega) (by omega)]; exact h.done r y hy
    · rw [List.getElem?_append_right h1] at hy
      have : r = (fl p L k).length := by
        rcases Nat.lt_or_ge (r - (fl p L k).length) 1 with h3 | h3
        · omega
        · rw [List.getElem?_eq_none (by simpa using h3)] at hy; cases hy
      subst this
      simp at hy
      subst hy
      exact sub_set_same rfl (by omega)
  · rw [sub_set_other (by omega) (by omega)]; exact h.left r y (by omega) hy
theorem rows_take {g : List Value} {F : List Rd} (h : ∀ (r : Nat) (x : Rd), F[r]? = some x → sub g (r * 5) 5 = rdL x) (hl : F.length * 5 ≤ g.length) : g.take (F.length * 5) = rdsC F := by
  apply List.ext_getElem?
  intro j
  rcases Nat.lt_or_ge j (F.length * 5) with hj | hj
  · have hi : j / 5 < F.length := by omega
    obtain ⟨x, hx⟩ : ∃ x, F[j / 5]? = some x := ⟨F[j / 5], by simp [hi]⟩
    have h1 := h _ x hx
    have h2 := rows_at (f := rdL) (m := 5) (fun _ => rfl) hx
    have e : j = j / 5 * 5 + j % 5 := by omega
    have h3 := sub_at h1 (j % 5) (by omega)
    have h4 := sub_at h2 (j % 5) (by omega)
    rw [← e] at h3 h4
    rw [List.getElem?_take, if_pos hj, h3]; exact h4.symm
  · rw [List.getElem?_eq_none (by simp; omega), List.getElem?_eq_none (by rw [rdsC_len]; exact hj)]
theorem fl_first {p : Rd → Bool} {L : List Rd} {k : Nat} {x : Rd} (hx : L[k]? = some x) (hp : p x = true) (hall : ∀ (j : Nat) (y : Rd), j < k → L[j]? = some y → p y = false) : fl p L (k + 1) = L.take k := by
  rw [fl_succ hx, if_pos hp]
  unfold fl
  rw [List.filter_eq_self]
  intro y hy
  obtain ⟨j, hj⟩ := List.mem_iff_getElem?.1 hy
  rw [List.getElem?_take] at hj
  split at hj
  · rename_i h1; simp [hall j y h1 hj]
  · cases hj
theorem zer69 : zeroB Try.prog 69 = some [.int .i64 0, .int .i64 0, .int .i64 0, .int .i64 0, .int .i64 0] := zer_of rfl

theorem deleteFunc_fn (M : Args) (mp : List (Nat × Array MapEntry × Nat)) (L : List Rd) (hl : L.length ≤ 1000) (gf : Nat) (first cap : Array Value) (hc : callable Try.prog gf) (p : Rd → Bool) (hp : TestG gf first cap M mp L p) (b c : Nat) (cs : List Value) (hsl : Sl [(b, cs, 69)] 69 5 (some ⟨b, 0, none⟩) L.length c (rdsC L)) : CnG Try.prog 117 [.slice (some ⟨b, 0, none⟩) L.length c, .func (.func gf) first cap] M mp [(b, cs, 69)] (fun g : List Value => .slice (some ⟨b, 0, none⟩) (L.filter fun x => !p x).length c) (fun g => [(b, g, 69)]) (fun g => []) (fun g => Sl [(b, g, 69)] 69 5 (some ⟨b, 0, none⟩) (L.filter fun x => !p x).length c (rdsC (L.filter fun x => !p x))) := by
  obtain ⟨hcm, hcl, hlc, htk⟩ : c ≤ maxLen ∧ cs.length = c * 5 ∧ L.length ≤ c ∧ cs.take (L.length * 5) = rdsC L := by rcases hsl.2 with ⟨h, _⟩ | ⟨g, cs', h1, h2, h3, h4, h5, h6⟩; cases h; (cases h1; cases h2; exact ⟨h4, h5, h3, h6⟩)
  have hcs : L.length * 5 ≤ cs.length := by omega
  have hrows : ∀ (r : Nat) (x : Rd), L[r]? = some x → sub cs (r * 5) 5 = rdL x := fun r x hr => by rw [sub_take (n := L.length) (by rcases Nat.lt_or_ge r L.length with h1 | h1; exact h1; rw [List.getElem?_eq_none h1] at hr; cases hr), htk]; exact rows_at (f := rdL) (m := 5) (fun _ => rfl) hr
  have hin : RdsIn ((b, cs) :: M) (some ⟨b, 0, none⟩) L := ⟨b, 0, cs, 0, fun _ => ⟨rfl, rfl, fun k x hx => by rw [Nat.zero_add]; exact hrows k x hx⟩⟩
  refine fn_introG (n := 42) Try.func117 rfl rfl rfl fun w0 => ?_
  refine okc_seq ?_
  refine okc_region ?_
  refine s_assign rfl rfl rfl rfl rfl rfl ?_
  refine okl_nil ?_
  change OkC Try.prog _ _ _ _ _ _ _
  refine okc_weak (l' := [(0, _), (1, _), (4, _)]) ⟨rfl, rfl, rfl, trivial⟩ ?_
  refine okc_seq ?_
  refine okc_region ?_
  refine s_move rfl rfl rfl rfl rfl rfl ?_
  refine s_move rfl rfl rfl rfl rfl rfl ?_
  refine okl_x (c := []) (keep := [(b, cs, 69)]) [] rfl rfl rfl rfl (opx_call rfl rfl rfl c124 (indexFunc_fn ((b, cs) :: M) mp L hl gf first cap hc p (fun x hx => CnG.mono (hp x hx) (fun y hy => List.mem_cons_of_mem _ hy)) (some ⟨b, 0, none⟩) c hin) (covers_own 0 rfl covers_all) cxG_maps) (by simp) (fun v B hv => ?_)
  obtain ⟨i, rfl, hi, rfl⟩ := hv
  refine s_assign rfl rfl rfl rfl rfl rfl ?_
  refine okl_nil ?_
  change OkC Try.prog _ _ _ _ _ _ _
  refine okc_weak (l' := [(0, _), (1, _), (4, _), (5, _)]) ⟨rfl, rfl, rfl, rfl, trivial⟩ ?_
  refine okc_seq ?_
  refine okc_seq ?_
  refine okc_region ?_
  refine s_move rfl rfl rfl rfl rfl rfl ?_
  refine s_cmpS rfl rfl rfl rfl rfl rfl rfl rfl (fun h1 => ?_) (fun h1 => ?_)
  · have hi1 : i = -1 := by simpa using h1
    have hall : ∀ x ∈ L, p x = false := by rcases hi with ⟨_, h1⟩ | ⟨k, x, h1, _⟩; exact h1; omega
    have hfe : (L.filter fun x => !p x) = L := List.filter_eq_self.2 (fun x hx => by simp [hall x hx])
    refine okl_nil ?_
    change OkC Try.prog _ _ _ _ _ _ _
    refine okc_weak (l' := [(0, _), (1, _), (4, _), (5, _), (12, _)]) ⟨rfl, rfl, rfl, rfl, rfl, trivial⟩ ?_
    refine okc_cond_t rfl ?_
    refine okc_seq ?_
    refine okc_region ?_
    refine s_move rfl rfl rfl rfl rfl rfl ?_
    refine s_assign rfl rfl rfl rfl rfl rfl ?_
    refine okl_nil ?_
    change OkC Try.prog _ _ _ _ _ _ _
    refine okc_weak (l' := [(0, _), (1, _), (4, _), (5, _), (12, _)]) ⟨rfl, rfl, rfl, rfl, rfl, trivial⟩ ?_
    refine okc_ret fun a w hs => ?_
    exact ret_postG hs (run_results1 hs rfl (rv_tmp rfl)) cs (by rw [hfe]) (by rw [hfe]; exact hsl) rfl (by simp) (by simp [nums])
  · have hi1 : ¬ i = -1 := by simpa using h1
    obtain ⟨k0, x0, hik, hx0, hpx0, hall⟩ : ∃ (k : Nat) (x : Rd), i = (k : Int) ∧ L[k]? = some x ∧ p x = true ∧ ∀ (j : Nat) (y : Rd), j < k → L[j]? = some y → p y = false := by rcases hi with ⟨h1, _⟩ | h1; exact absurd h1 hi1; exact h1
    have hk0 : k0 + 1 ≤ L.length := by rcases Nat.lt_or_ge k0 L.length with h1 | h1; exact h1; rw [List.getElem?_eq_none h1] at hx0; cases hx0
    have hf0 := fl_first hx0 hpx0 hall
    obtain rfl : i = ((fl p L (k0 + 1)).length : Int) := by rw [hf0, hik]; simp; omega
    have hI0 : DInv p L cs cs (k0 + 1) := ⟨rfl, fun r x hr => hrows r x (by rw [hf0, List.getElem?_take] at hr; split at hr; exact hr; cases hr), fun r x _ hr => hrows r x hr⟩
    refine okl_nil ?_
    change OkC Try.prog _ _ _ _ _ _ _
    refine okc_weak (l' := [(0, _), (1, _), (4, _), (5, _), (12, _)]) ⟨rfl, rfl, rfl, rfl, rfl, trivial⟩ ?_
    refine okc_cond_f rfl ?_
    refine okc_skip ?_
    change OkC Try.prog _ _ _ _ _ _ _
    refine okc_weak (l' := [(0, _), (1, _), (4, _), (5, _), (12, _)]) ⟨rfl, rfl, rfl, rfl, rfl, trivial⟩ ?_
    refine okc_seq ?_
    refine okc_seq ?_
    refine okc_region ?_
    refine s_move rfl rfl rfl rfl rfl rfl ?_
    refine s_add rfl rfl rfl rfl rfl rfl rfl (by omega) ?_
    refine s_assign rfl rfl rfl rfl rfl rfl ?_
    refine okl_nil ?_
    change OkC Try.prog _ _ _ _ _ _ _
    refine okc_weak (l' := [(0, _), (1, _), (4, _), (5, _), (6, _), (12, _)]) ⟨rfl, rfl, rfl, rfl, rfl, rfl, trivial⟩ ?_
    refine okc_block ?_
    refine okc_loopF (γ := Nat × List Value) [(0, _), (1, _), (4, _), (12, _)] ⟨rfl, rfl, rfl, rfl, trivial⟩ [] [0] (by decide) _ rfl (fun g => [(5, .int .i64 ((fl p L g.1).length : Int)), (6, .int .i64 (g.1 : Int))]) (fun g => [(b, g.2, 69)]) (fun g => g.1 ≤ L.length ∧ DInv p L cs g.2 g.1) (fun g => L.length - g.1) (k0 + 1, cs) ⟨hk0, hI0⟩ ⟨rfl, congrArg (fun z => some (Value.int .i64 z)) (by show _ = ((k0 + 1 : Nat) : Int); rw [hf0]; simp; omega), trivial⟩ rfl ?_
    rintro ⟨k, g⟩ ⟨hk, hI⟩
    dsimp only at hk hI ⊢
    change OkC Try.prog _ _ _ _ _ _ _
    refine okc_seq ?_
    refine okc_seq ?_
    refine okc_region ?_
    refine s_move rfl rfl rfl rfl rfl rfl ?_
    refine s_move rfl rfl rfl rfl rfl rfl ?_
    refine s_len rfl rfl rfl rfl rfl rfl rfl ?_
    refine s_cmpS rfl rfl rfl rfl rfl rfl rfl rfl (fun h2 => ?_) (fun h2 => ?_)
    · have hlt : k < L.length := by simpa using h2
      obtain ⟨x, hx⟩ : ∃ x, L[k]? = some x := ⟨L[k], by simp [hlt]⟩
      have hcell : sub g (0 + k * 5) 5 = rdL x := by rw [Nat.zero_add]; exact hI.left k x (Nat.le_refl _) hx
      have hfl := fl_len p L k
      refine okl_nil ?_
      change OkC Try.prog _ _ _ _ _ _ _
      refine okc_weak (l' := [(0, _), (1, _), (4, _), (5, _), (6, _), (12, _), (19, _)]) ⟨rfl, rfl, rfl, rfl, rfl, rfl, rfl, trivial⟩ ?_
      refine okc_cond_t rfl ?_
      refine okc_skip ?_
      change OkC Try.prog _ _ _ _ _ _ _
      refine okc_weak (l' := [(0, _), (1, _), (4, _), (5, _), (6, _), (12, _), (19, _)]) ⟨rfl, rfl, rfl, rfl, rfl, rfl, rfl, trivial⟩ ?_
      refine okc_seq ?_
      refine okc_block ?_
      refine okc_seq ?_
      refine okc_region ?_
      refine s_move rfl rfl rfl rfl rfl rfl ?_
      refine s_move rfl rfl rfl rfl rfl rfl ?_
      refine s_indexS k rfl rfl rfl rfl rfl rfl rfl rfl rfl rfl (by omega) rfl ?_
      refine s_loadP 0 rfl rfl rfl rfl rfl rfl rfl rfl rfl (by assumption) rfl ?_
      refine s_alloc rfl rfl rfl rfl rfl rfl (fun b3 => ?_)
      refine k_storeW 0 rfl rfl rfl rfl rfl rfl rfl rfl rfl rfl rfl rfl ?_
      refine okl_nil ?_
      change OkC Try.prog _ _ _ _ _ _ _
      refine okc_weak (l' := [(0, _), (1, _), (4, _), (5, _), (6, _), (7, _), (12, _), (19, _)]) ⟨rfl, rfl, rfl, rfl, rfl, rfl, rfl, rfl, trivial⟩ ?_
      refine okc_seq ?_
      refine okc_region ?_
      refine s_move rfl rfl rfl rfl rfl rfl ?_
      refine s_loadW 0 rfl rfl rfl rfl rfl rfl rfl rfl rfl rfl ?_
      refine okl_callGb rfl rfl rfl rfl rfl rfl rfl hc (hp x (List.mem_of_getElem? hx)) covers_all cxG_maps (fun h4 => ?_) (fun h4 => ?_)
      · have hpx : p x = true := h4
        refine s_not rfl rfl rfl rfl rfl rfl ?_
        refine okl_nil ?_
        change OkC Try.prog _ _ _ _ _ _ _
        refine okc_weak (l' := [(0, _), (1, _), (4, _), (5, _), (6, _), (7, _), (12, _), (19, _), (29, _)]) ⟨rfl, rfl, rfl, rfl, rfl, rfl, rfl, rfl, rfl, trivial⟩ ?_
        refine okc_cond_f rfl ?_
        refine okc_skip ?_
        change OkC Try.prog _ _ _ _ _ _ _
        refine okc_weak (l' := [(0, _), (1, _), (4, _), (5, _), (6, _), (7, _), (12, _), (19, _), (29, _)]) ⟨rfl, rfl, rfl, rfl, rfl, rfl, rfl, rfl, rfl, trivial⟩ ?_
        refine okc_region ?_
        refine s_move rfl rfl rfl rfl rfl rfl ?_
        refine s_add rfl rfl rfl rfl rfl rfl rfl (by omega) ?_
        refine s_assign rfl rfl rfl rfl rfl rfl ?_
        refine okl_nil ?_
        refine fun a w hs => ⟨(k + 1, g), ⟨by show k + 1 ≤ _; omega, hI.skip hx hpx⟩, by show _ - (k + 1) < _ - k; omega, ?_⟩
        exact hs.weak ⟨congrArg (fun z => some (Value.int .i64 z)) (by show _ = (((fl p L (k + 1)).length : Nat) : Int); rw [fl_succ hx, if_pos hpx]), rfl, rfl, rfl, rfl, rfl, trivial⟩ [1] (by decide) (rfl)
      · have hpx : p x = false := h4
        refine s_not rfl rfl rfl rfl rfl rfl ?_
        refine okl_nil ?_
        change OkC Try.prog _ _ _ _ _ _ _
        refine okc_weak (l' := [(0, _), (1, _), (4, _), (5, _), (6, _), (7, _), (12, _), (19, _), (29, _)]) ⟨rfl, rfl, rfl, rfl, rfl, rfl, rfl, rfl, rfl, trivial⟩ ?_
        refine okc_cond_t rfl ?_
        refine okc_seq ?_
        refine okc_region ?_
        refine s_move rfl rfl rfl rfl rfl rfl ?_
        refine s_move rfl rfl rfl rfl rfl rfl ?_
        refine s_loadW 0 rfl rfl rfl rfl rfl rfl rfl rfl rfl rfl ?_
        refine s_indexS (fl p L k).length rfl rfl rfl rfl rfl rfl rfl rfl rfl rfl (by omega) rfl ?_
        refine k_store 1 rfl rfl rfl rfl rfl rfl rfl rfl rfl rfl (Nat.ble_eq_true_of_le (by have := hI.len; have := fl_len p L k; show 0 + (fl p L k).length * 5 + 5 ≤ g.length; omega)) rfl ?_
        simp only [Nat.zero_add]
        refine okl_nil ?_
        change OkC Try.prog _ _ _ _ _ _ _
        refine okc_weak (l' := [(0, _), (1, _), (4, _), (5, _), (6, _), (7, _), (12, _), (19, _), (29, _)]) ⟨rfl, rfl, rfl, rfl, rfl, rfl, rfl, rfl, rfl, trivial⟩ ?_
        refine okc_region ?_
        refine s_move rfl rfl rfl rfl rfl rfl ?_
        refine s_add rfl rfl rfl rfl rfl rfl rfl (by omega) ?_
        refine s_assign rfl rfl rfl rfl rfl rfl ?_
        refine okl_nil ?_
        change OkC Try.prog _ _ _ _ _ _ _
        refine okc_weak (l' := [(0, _), (1, _), (4, _), (5, _), (6, _), (7, _), (12, _), (19, _), (29, _)]) ⟨rfl, rfl, rfl, rfl, rfl, rfl, rfl, rfl, rfl, trivial⟩ ?_
        refine okc_region ?_
        refine s_move rfl rfl rfl rfl rfl rfl ?_
        refine s_add rfl rfl rfl rfl rfl rfl rfl (by omega) ?_
        refine s_assign rfl rfl rfl rfl rfl rfl ?_
        refine okl_nil ?_
        refine fun a w hs => ⟨(k + 1, setL g ((fl p L k).length * 5) (rdL x)), ⟨by show k + 1 ≤ _; omega, hI.keep hcs hx hpx⟩, by show _ - (k + 1) < _ - k; omega, ?_⟩
        exact hs.weak ⟨congrArg (fun z => some (Value.int .i64 z)) (by show _ = (((fl p L (k + 1)).length : Nat) : Int); rw [fl_succ hx, if_neg (by simp [hpx])]; simp), rfl, rfl, rfl, rfl, rfl, trivial⟩ [1] (by decide) (rfl)
    · have hge : ¬ k < L.length := by simpa using h2
      have hfl := fl_len p L k
      have hflL : (fl p L k).length ≤ L.length := Nat.le_trans hfl hk
      refine okl_nil ?_
      change OkC Try.prog _ _ _ _ _ _ _
      refine okc_weak (l' := [(0, _), (1, _), (4, _), (5, _), (6, _), (12, _), (19, _)]) ⟨rfl, rfl, rfl, rfl, rfl, rfl, rfl, trivial⟩ ?_
      refine okc_cond_f rfl ?_
      refine okc_exit ?_
      change OkC Try.prog _ _ _ _ _ _ _
      refine okc_weak (l' := [(0, _), (1, _), (4, _), (5, _), (6, _), (12, _), (19, _)]) ⟨rfl, rfl, rfl, rfl, rfl, rfl, rfl, trivial⟩ ?_
      refine okc_seq ?_
      refine okc_region ?_
      refine s_move rfl rfl rfl rfl rfl rfl ?_
      refine s_move rfl rfl rfl rfl rfl rfl ?_
      refine okl_v rfl rfl rfl rfl (op_sliceLo rfl rfl rfl (sl_un (sl_of rfl)) (siz_of rfl) rfl (by omega)) ?_
      obtain ⟨m, hm⟩ : ∃ m, L.length - (fl p L k).length = m := ⟨_, rfl⟩
      rw [hm]
      cases m with
      | zero =>
        refine okl_clear0 rfl rfl rfl rfl rfl (sl_un (sl_of rfl)) ?_
        have hfin : ∀ (r : Nat) (x : Rd), (fl p L k)[r]? = some x → sub g (r * 5) 5 = rdL x := hI.done
        have hgl : g.length = cs.length := hI.len
        refine okl_nil ?_
        change OkC Try.prog _ _ _ _ _ _ _
        refine okc_weak (l' := [(0, _), (1, _), (4, _), (5, _), (6, _), (12, _), (19, _)]) ⟨rfl, rfl, rfl, rfl, rfl, rfl, rfl, trivial⟩ ?_
        refine okc_seq ?_
        refine okc_region ?_
        refine s_move rfl rfl rfl rfl rfl rfl ?_
        refine s_move rfl rfl rfl rfl rfl rfl ?_
        refine okl_v rfl rfl rfl rfl (op_sliceHi rfl rfl rfl (sl_un (sl_of rfl)) (siz_of rfl) rfl (by omega)) ?_
        refine s_assign rfl rfl rfl rfl rfl rfl ?_
        refine okl_nil ?_
        change OkC Try.prog _ _ _ _ _ _ _
        refine okc_weak (l' := [(0, _), (1, _), (4, _), (5, _), (6, _), (12, _), (19, _)]) ⟨rfl, rfl, rfl, rfl, rfl, rfl, rfl, trivial⟩ ?_
        refine okc_ret fun a w hs => ?_
        exact ret_postG hs (run_results1 hs rfl (rv_tmp rfl)) g (by rw [← fl_all (p := p) (k := k) (by omega)]) (by rw [← fl_all (p := p) (k := k) (by omega)]; refine ⟨rdsC_len _, .inr ⟨b, _, rfl, rfl, by omega, hcm, by rw [hgl]; exact hcl, rows_take hfin (by rw [hgl]; omega)⟩⟩) rfl (by simp) (by simp [nums])
      | succ m =>
        rw [cutA_at (by omega)]
        refine okl_clear (zs := [.int .i64 0, .int .i64 0, .int .i64 0, .int .i64 0, .int .i64 0]) (j := 0) rfl rfl rfl rfl rfl (sl_un (sl_of rfl)) zer69 (siz_of rfl) rfl (by decide) rfl rfl (by have := hI.len; omega) ?_
        have hzl : (zerosL [.int .i64 0, .int .i64 0, .int .i64 0, .int .i64 0, .int .i64 0] (m + 1)).length = (m + 1) * 5 := zerosL_len _ _
        have hfin : ∀ (r : Nat) (x : Rd), (fl p L k)[r]? = some x → sub (setL g ((fl p L k).length * 5) (zerosL [.int .i64 0, .int .i64 0, .int .i64 0, .int .i64 0, .int .i64 0] (m + 1))) (r * 5) 5 = rdL x := by
          intro r x hr
          have hrl : r < (fl p L k).length := by rcases Nat.lt_or_ge r (fl p L k).length with h1 | h1; exact h1; rw [List.getElem?_eq_none h1] at hr; cases hr
          rw [sub_set_other (by have := hI.len; omega) (by omega)]; exact hI.done r x hr
        have hgl : (setL g ((fl p L k).length * 5) (zerosL [.int .i64 0, .int .i64 0, .int .i64 0, .int .i64 0, .int .i64 0] (m + 1))).length = cs.length := by rw [length_setL]; exact hI.len
        refine okl_nil ?_
        change OkC Try.prog _ _ _ _ _ _ _
        refine okc_weak (l' := [(0, _), (1, _), (4, _), (5, _), (6, _), (12, _), (19, _)]) ⟨rfl, rfl, rfl, rfl, rfl, rfl, rfl, trivial⟩ ?_
        refine okc_seq ?_
        refine okc_region ?_
        refine s_move rfl rfl rfl rfl rfl rfl ?_
        refine s_move rfl rfl rfl rfl rfl rfl ?_
        refine okl_v rfl rfl rfl rfl (op_sliceHi rfl rfl rfl (sl_un (sl_of rfl)) (siz_of rfl) rfl (by omega)) ?_
        refine s_assign rfl rfl rfl rfl rfl rfl ?_
        refine okl_nil ?_
        change OkC Try.prog _ _ _ _ _ _ _
        refine okc_weak (l' := [(0, _), (1, _), (4, _), (5, _), (6, _), (12, _), (19, _)]) ⟨rfl, rfl, rfl, rfl, rfl, rfl, rfl, trivial⟩ ?_
        refine okc_ret fun a w hs => ?_
        exact ret_postG hs (run_results1 hs rfl (rv_tmp rfl)) (setL g ((fl p L k).length * 5) (zerosL [.int .i64 0, .int .i64 0, .int .i64 0, .int .i64 0, .int .i64 0] (m + 1))) (by rw [← fl_all (p := p) (k := k) (by omega)]) (by rw [← fl_all (p := p) (k := k) (by omega)]; refine ⟨rdsC_len _, .inr ⟨b, _, rfl, rfl, by omega, hcm, by rw [hgl]; exact hcl, rows_take hfin (by rw [hgl]; omega)⟩⟩) rfl (by simp) (by simp [nums])
end Go.Proofs.Ytdpnadknaacinaa
end

section
namespace Go.Proofs.Ytdpnadknaacinaa
open Go.Sx Go.Proofs.Ytdpnadknaacinaa.Ty
set_option linter.unusedVariables false
set_option linter.unusedSimpArgs false
set_option maxHeartbeats 2000000


/-- The spring without the readings of these numbers. -/
def wtS (s : Sp) (nums : List Int) : Sp := { s with reads := s.reads.filter fun x => decide (x.number ∉ nums) }
theorem insK_nodup {ks : List Int} {k : Int} (h : ks.Nodup) : (insK ks k).Nodup := by
  unfold insK; split
  · exact h
  · rename_i hn
    rw [List.nodup_append]
    exact ⟨h, by simp, fun a ha b hb e => by simp at hb; subst hb; subst e; exact hn ha⟩
theorem mem_insK {ks : List Int} {k n : Int} : n ∈ insK ks k ↔ n ∈ ks ∨ n = k := by
  unfold insK; split
  · rename_i h; exact ⟨.inl, fun h2 => by rcases h2 with h2 | h2; exact h2; subst h2; exact h⟩
  · simp
/-- Keys that are there: of the first k readings, less the first j numbers. -/
def KeyI (s : Sp) (ns : List Int) (k j : Nat) (ks : List Int) : Prop := ks.Nodup ∧ ∀ n, n ∈ ks ↔ (∃ x ∈ s.reads.take k, x.number = n) ∧ n ∉ ns.take j
theorem KeyI.zero (s : Sp) (ns : List Int) : KeyI s ns 0 0 [] := ⟨List.nodup_nil, fun n => by simp⟩
theorem KeyI.put {s : Sp} {ns ks : List Int} {k : Nat} {x : Rd} (h : KeyI s ns k 0 ks) (hx : s.reads[k]? = some x) : KeyI s ns (k + 1) 0 (insK ks x.number) := by
  refine ⟨insK_nodup h.1, fun n => ?_⟩
  rw [mem_insK, h.2 n, List.take_add_one, hx]
  simp only [List.take_zero, List.not_mem_nil, not_false_eq_true, and_true, Option.toList_some, List.mem_append, List.mem_singleton]
  constructor
  · rintro (⟨y, hy, rfl⟩ | rfl)
    · exact ⟨y, .inl hy, rfl⟩
    · exact ⟨x, .inr rfl, rfl⟩
  · rintro ⟨y, hy | rfl, rfl⟩
    · exact .inl ⟨y, hy, rfl⟩
    · exact .inr rfl
theorem KeyI.del {s : Sp} {ns ks : List Int} {k j : Nat} {m : Int} (h : KeyI s ns k j ks) (hm : ns[j]? = some m) : KeyI s ns k (j + 1) (ks.erase m) := by
  refine ⟨h.1.erase m, fun n => ?_⟩
  rw [h.1.mem_erase_iff, h.2 n, List.take_add_one, hm]
  simp only [Option.toList_some, List.mem_append, List.mem_singleton, not_or]
  constructor
  · rintro ⟨h1, h2, h3⟩; exact ⟨h2, h3, h1⟩
  · rintro ⟨h2, h3, h1⟩; exact ⟨h1, h2, h3⟩
theorem KeyI.filter {s : Sp} {ns ks : List Int} (h : KeyI s ns s.reads.length ns.length ks) : (s.reads.filter fun x => !(!decide (x.number ∈ ks))) = (wtS s ns).reads := by
  unfold wtS
  refine List.filter_congr fun x hx => ?_
  have h1 := h.2 x.number
  rw [List.take_length, List.take_length] at h1
  simp only [Bool.not_not, decide_eq_decide]
  rw [h1]
  exact ⟨fun h => h.2, fun h2 => ⟨⟨x, hx, rfl⟩, h2⟩⟩
theorem okl_xmT {N : Cx} {w0 : World} {l : Env} {O : Blks} {A : Args} {o : Oper} {ops : Array Oper} {Q : Exit → Act → World → Prop} {is : List Nat} {i d : Nat} {φ : Value → Blks → Prop} (E B1 B : Blks) (ho : ops[i]? = some o) (hg : wantsB ops l o = some true) (hd : o.dst = some d) (hN : Nat.blt d N.n = true)
    (h : OpX Try.prog N w0 l B (E ++ B1) A o φ) (hO : O = E ++ (B1 ++ B)) (rest : ∀ v B', φ v B' → Go.Sx.OkL Try.prog N w0 ops Q is ((d, v) :: l) (E ++ (B1 ++ B')) A) : Go.Sx.OkL Try.prog N w0 ops Q (i :: is) l O A :=
  okl_xm (E ++ B1) B [] ho hg hd hN (by simpa using h) (by simpa using hO) (fun v B' hφ => by simpa using rest v B' hφ)
theorem deleteFunc_nil (M : Args) (mp : List (Nat × Array MapEntry × Nat)) (gf : Nat) (first cap : Array Value) (hc : callable Try.prog gf) (p : Rd → Bool) : CnG Try.prog 117 [.slice none 0 0, .func (.func gf) first cap] M mp [] (fun _ : Unit => .slice none 0 0) (fun _ => []) (fun _ => []) (fun _ => True) := by
  refine fn_introG (n := 42) Try.func117 rfl rfl rfl fun w0 => ?_
  refine okc_seq ?_
  refine okc_region ?_
  refine s_assign rfl rfl rfl rfl rfl rfl ?_
  refine okl_nil ?_
  change OkC Try.prog _ _ _ _ _ _ _
  refine okc_weak (l' := [(0, _), (1, _), (4, _)]) ⟨rfl, rfl, rfl, trivial⟩ ?_
  refine okc_seq ?_
  refine okc_region ?_
  refine s_move rfl rfl rfl rfl rfl rfl ?_
  refine s_move rfl rfl rfl rfl rfl rfl ?_
  refine okl_x (c := []) (keep := []) [] rfl rfl rfl rfl (opx_call rfl rfl rfl c124 (indexFunc_fn [] [] [] (by simp) gf first cap hc p (fun x hx => by cases hx) none 0 ⟨0, 0, [], 0, fun h => absurd rfl h⟩) covers_nil (fun b es c h => by cases h)) (by simp) (fun v B hv => ?_)
  obtain ⟨i, rfl, hi, rfl⟩ := hv
  have hi1 : i = -1 := by rcases hi with ⟨h1, _⟩ | ⟨k, x, _, h2, _⟩; exact h1; simp at h2
  refine s_assign rfl rfl rfl rfl rfl rfl ?_
  refine okl_nil ?_
  change OkC Try.prog _ _ _ _ _ _ _
  refine okc_weak (l' := [(0, _), (1, _), (4, _), (5, _)]) ⟨rfl, rfl, rfl, rfl, trivial⟩ ?_
  refine okc_seq ?_
  refine okc_seq ?_
  refine okc_region ?_
  refine s_move rfl rfl rfl rfl rfl rfl ?_
  refine s_cmpS rfl rfl rfl rfl rfl rfl rfl rfl (fun h1 => ?_) (fun h1 => ?_)
  · refine okl_nil ?_
    change OkC Try.prog _ _ _ _ _ _ _
    refine okc_weak (l' := [(0, _), (1, _), (4, _), (5, _), (12, _)]) ⟨rfl, rfl, rfl, rfl, rfl, trivial⟩ ?_
    refine okc_cond_t rfl ?_
    refine okc_seq ?_
    refine okc_region ?_
    refine s_move rfl rfl rfl rfl rfl rfl ?_
    refine s_assign rfl rfl rfl rfl rfl rfl ?_
    refine okl_nil ?_
    change OkC Try.prog _ _ _ _ _ _ _
    refine okc_weak (l' := [(0, _), (1, _), (4, _), (5, _), (12, _)]) ⟨rfl, rfl, rfl, rfl, rfl, trivial⟩ ?_
    refine okc_ret fun a w hs => ?_
    exact ret_postG hs (run_results1 hs rfl (rv_tmp rfl)) () rfl trivial rfl (by simp) (by simp [nums])
  · exact absurd hi1 (by simpa using h1) --closed
/-- Whatever lies there. -/
theorem opx_delete {N : Cx} {w0 : World} {l : Env} {B keep : Blks} {A : Args} {o : Oper} {xs : Array Operand} {ts : Array TypeId} {x : Operand} {q : Option Addr} {c : Nat} (M : Args) (mp : List (Nat × Array MapEntry × Nat)) (L : List Rd) (hl : L.length ≤ 1000) (gf : Nat) (first cap : Array Value) (hc : callable Try.prog gf) (p : Rd → Bool) (hp : TestG gf first cap M mp L p)
    (hsl : Sl B 69 5 q L.length c (rdsC L)) (hop : o.op = .call { callee := .value x, args := xs, argTypes := ts }) (hf : ev l x = some (.func (.func 117) #[] #[])) (hx : evAll l xs.toList = some [.slice q L.length c, .func (.func gf) first cap])
    (hM : covers keep A M) (hmp : ∀ b es c, (b, es, c) ∈ mp → ∃ own, (b, es, c, own) ∈ N.maps) :
    OpX Try.prog N w0 l B keep A o (fun v B' => v = .slice q (L.filter fun x => !p x).length c ∧ Sl B' 69 5 q (L.filter fun x => !p x).length c (rdsC (L.filter fun x => !p x))) := by
  have hsl0 := hsl
  rcases hsl.2 with ⟨rfl, hn, rfl, rfl⟩ | ⟨g, cs, rfl, rfl, _⟩
  · have hL : L = [] := List.length_eq_zero_iff.1 hn
    subst hL
    refine (opx_call (cap := #[]) hop hf hx c117 (deleteFunc_nil M mp gf first cap hc p) hM hmp).mono ?_
    rintro v B ⟨_, rfl, _, rfl⟩
    exact ⟨rfl, Sl.nil 69 5⟩
  · refine (opx_call (cap := #[]) hop hf hx c117 (deleteFunc_fn M mp L hl gf first cap hc p hp g c cs hsl0) hM hmp).mono ?_
    rintro v B ⟨g', rfl, hok, rfl⟩
    exact ⟨rfl, by simpa using hok⟩

theorem without_fn (s : Sp) (M : Args) (hin : s.In M) (hgr : s.book.length ≤ 30 ∧ s.reads.length ≤ 30) (ns : List Int) (pn : Option Addr) (cn : Nat) (hns : IntsIn M pn ns) : Cn Try.prog 93 [spV s, .slice pn ns.length cn] M (fun g : Rn2 => spV (twS (wtS s ns) g)) (fun g => g.B1 ++ g.B2) (TwOk (wtS s ns)) := by
  have hnl := hns.len
  obtain ⟨bN, oN, cN, jN, hN⟩ := hns.row
  obtain ⟨bR, oR, cR, jR, hR⟩ := hin.reads
  refine fn_intro (N := 43) Try.func93 rfl rfl rfl fun w0 => ?_
  refine okc_seq ?_
  refine okc_region ?_
  refine s_boxA rfl rfl rfl rfl rfl rfl (fun b2 => ?_)
  refine s_alloc rfl rfl rfl rfl rfl rfl (fun b3 => ?_)
  refine okl_nil ?_
  change OkC Try.prog _ _ _ _ _ _ _
  refine okc_weak (l' := [(0, _), (1, _), (2, _), (4, _)]) ⟨rfl, rfl, rfl, rfl, trivial⟩ ?_
  refine okc_seq ?_
  refine okc_region ?_
  refine okl_makeMap rfl rfl rfl rfl rfl rfl (fun bm => ?_)
  refine s_alloc rfl rfl rfl rfl rfl rfl (fun b4 => ?_)
  refine k_storeW 0 rfl rfl rfl rfl rfl rfl rfl rfl rfl rfl rfl rfl ?_
  refine okl_nil ?_
  change OkC Try.prog _ _ _ _ _ _ _
  refine okc_weak (l' := [(0, _), (1, _), (2, _), (4, _), (5, _)]) ⟨rfl, rfl, rfl, rfl, rfl, trivial⟩ ?_
  refine okc_seq ?_
  refine okc_seq ?_
  refine okc_region ?_
  refine s_field rfl rfl rfl rfl rfl rfl rfl rfl ?_
  refine s_field rfl rfl rfl rfl rfl rfl rfl rfl ?_
  refine s_load1 2 rfl rfl rfl rfl rfl rfl rfl rfl rfl ?_
  refine s_len rfl rfl rfl rfl rfl rfl rfl ?_
  refine s_move rfl rfl rfl rfl rfl rfl ?_
  refine okl_nil ?_
  change OkC Try.prog _ _ _ _ _ _ _
  refine okc_weak (l' := [(0, _), (1, _), (2, _), (4, _), (5, _), (14, _), (15, _), (16, _)]) ⟨rfl, rfl, rfl, rfl, rfl, rfl, rfl, rfl, trivial⟩ ?_
  refine okc_block ?_
  refine okc_loopM (γ := Nat × List Int × Array MapEntry × Nat) [(0, _), (1, _), (2, _), (4, _), (5, _), (14, _), (15, _)] ⟨rfl, rfl, rfl, rfl, rfl, rfl, rfl, trivial⟩ [0, 1, 2] [] (by decide) _ rfl (fun g => [(16, .int .i64 (g.1 : Int))]) (fun g => []) (fun g => [(bm, g.2.2.1, g.2.2.2, true)]) (fun g => g.1 ≤ s.reads.length ∧ KeyI s ns g.1 0 g.2.1 ∧ MapI g.2.2.1 g.2.1 (.bool true)) (fun g => s.reads.length - g.1) (0, [], #[], 0) ⟨Nat.zero_le _, KeyI.zero s ns, MapI.nil _⟩ ⟨rfl, trivial⟩ rfl rfl ?_
  rintro ⟨k, ks, es, cl⟩ ⟨hk, hK, hI⟩
  dsimp only at hk hK hI ⊢
  change OkC Try.prog _ _ _ _ _ _ _
  refine okc_seq ?_
  refine okc_region ?_
  refine s_cmpS rfl rfl rfl rfl rfl rfl rfl rfl (fun h5 => ?_) (fun h5 => ?_)
  · have hlt : k < s.reads.length := by simpa using h5
    obtain ⟨x, hx⟩ : ∃ x, s.reads[k]? = some x := ⟨s.reads[k], by simp [hlt]⟩
    obtain ⟨hpR, hjR, hatR⟩ := hR (by intro e; simp [e] at hlt)
    have hcell := hatR k x hx
    refine okl_nil ?_
    change OkC Try.prog _ _ _ _ _ _ _
    refine okc_weak (l' := [(0, _), (1, _), (2, _), (4, _), (5, _), (14, _), (15, _), (16, _), (17, _)]) ⟨rfl, rfl, rfl, rfl, rfl, rfl, rfl, rfl, rfl, trivial⟩ ?_
    refine okc_seq ?_
    refine okc_cond_t rfl ?_
    refine okc_skip ?_
    change OkC Try.prog _ _ _ _ _ _ _
    refine okc_weak (l' := [(0, _), (1, _), (2, _), (4, _), (5, _), (14, _), (15, _), (16, _), (17, _)]) ⟨rfl, rfl, rfl, rfl, rfl, rfl, rfl, rfl, rfl, trivial⟩ ?_
    refine okc_seq ?_
    refine okc_block ?_
    refine okc_seq ?_
    refine okc_region ?_
    refine s_indexP k hpR rfl rfl rfl rfl rfl rfl rfl rfl rfl rfl (by omega) rfl ?_
    refine s_loadAP jR rfl rfl rfl rfl rfl rfl rfl hjR rfl (by assumption) rfl ?_
    refine s_alloc rfl rfl rfl rfl rfl rfl (fun b6 => ?_)
    refine k_storeW 0 rfl rfl rfl rfl rfl rfl rfl rfl rfl rfl rfl rfl ?_
    refine okl_nil ?_
    change OkC Try.prog _ _ _ _ _ _ _
    refine okc_weak (l' := [(0, _), (1, _), (2, _), (4, _), (5, _), (7, _), (14, _), (15, _), (16, _), (17, _)]) ⟨rfl, rfl, rfl, rfl, rfl, rfl, rfl, rfl, rfl, rfl, trivial⟩ ?_
    refine okc_region ?_
    refine s_load1 1 rfl rfl rfl rfl rfl rfl rfl rfl rfl ?_
    refine s_field rfl rfl rfl rfl rfl rfl rfl rfl ?_
    refine s_load1 0 rfl rfl rfl rfl rfl rfl rfl rfl rfl ?_
    refine okl_mapPut rfl rfl rfl rfl rfl rfl rfl Try.underlying176 int3 rfl hI (fun es2 cl2 hI2 => ?_)
    refine okl_nil ?_
    change OkC Try.prog _ _ _ _ _ _ _
    refine okc_weak (l' := [(0, _), (1, _), (2, _), (4, _), (5, _), (7, _), (14, _), (15, _), (16, _), (17, _)]) ⟨rfl, rfl, rfl, rfl, rfl, rfl, rfl, rfl, rfl, rfl, trivial⟩ ?_
    refine okc_region ?_
    refine s_add rfl rfl rfl rfl rfl rfl rfl (by omega) ?_
    refine s_move rfl rfl rfl rfl rfl rfl ?_
    refine okl_nil ?_
    refine fun a w hs => ⟨(k + 1, insK ks x.number, es2, cl2), ⟨by show k + 1 ≤ _; omega, hK.put hx, hI2⟩, by show _ - (k + 1) < _ - k; omega, ?_⟩
    exact hs.weak ⟨rfl, rfl, rfl, rfl, rfl, rfl, rfl, rfl, trivial⟩ [1, 2, 3] (by decide) (rfl)
  · have hge : ¬ k < s.reads.length := by simpa using h5
    obtain rfl : k = s.reads.length := by omega
    refine okl_nil ?_
    change OkC Try.prog _ _ _ _ _ _ _
    refine okc_weak (l' := [(0, _), (1, _), (2, _), (4, _), (5, _), (14, _), (15, _), (16, _), (17, _)]) ⟨rfl, rfl, rfl, rfl, rfl, rfl, rfl, rfl, rfl, trivial⟩ ?_
    refine okc_seq ?_
    refine okc_cond_f rfl ?_
    refine okc_exit ?_
    change OkC Try.prog _ _ _ _ _ _ _
    refine okc_weak (l' := [(0, _), (1, _), (2, _), (4, _), (5, _), (14, _), (15, _), (16, _), (17, _)]) ⟨rfl, rfl, rfl, rfl, rfl, rfl, rfl, rfl, rfl, trivial⟩ ?_
    refine okc_seq ?_
    refine okc_seq ?_
    refine okc_region ?_
    refine s_move rfl rfl rfl rfl rfl rfl ?_
    refine s_len rfl rfl rfl rfl rfl rfl rfl ?_
    refine s_move rfl rfl rfl rfl rfl rfl ?_
    refine okl_nil ?_
    change OkC Try.prog _ _ _ _ _ _ _
    refine okc_weak (l' := [(0, _), (1, _), (2, _), (4, _), (5, _), (14, _), (15, _), (16, _), (17, _), (24, _), (25, _), (26, _)]) ⟨rfl, rfl, rfl, rfl, rfl, rfl, rfl, rfl, rfl, rfl, rfl, rfl, trivial⟩ ?_
    refine okc_block ?_
    refine okc_loopM (γ := Nat × List Int × Array MapEntry × Nat) [(0, _), (1, _), (2, _), (4, _), (5, _), (14, _), (15, _), (16, _), (17, _), (24, _), (25, _)] ⟨rfl, rfl, rfl, rfl, rfl, rfl, rfl, rfl, rfl, rfl, rfl, trivial⟩ [0, 1, 2] [] (by decide) _ rfl (fun g => [(26, .int .i64 (g.1 : Int))]) (fun g => []) (fun g => [(bm, g.2.2.1, g.2.2.2, true)]) (fun g => g.1 ≤ ns.length ∧ KeyI s ns s.reads.length g.1 g.2.1 ∧ MapI g.2.2.1 g.2.1 (.bool true)) (fun g => ns.length - g.1) (0, ks, es, cl) ⟨Nat.zero_le _, hK, hI⟩ ⟨rfl, trivial⟩ rfl rfl ?_
    rintro ⟨j, ks, es, cl⟩ ⟨hj, hK, hI⟩
    dsimp only at hj hK hI ⊢
    change OkC Try.prog _ _ _ _ _ _ _
    refine okc_seq ?_
    refine okc_region ?_
    refine s_cmpS rfl rfl rfl rfl rfl rfl rfl rfl (fun h7 => ?_) (fun h7 => ?_)
    · have hlt : j < ns.length := by simpa using h7
      obtain ⟨m, hm⟩ : ∃ m, ns[j]? = some m := ⟨ns[j], by simp [hlt]⟩
      obtain ⟨hpN, hjN, hatN⟩ := hN (by intro e; simp [e] at hlt)
      have hcell := hatN j m hm
      refine okl_nil ?_
      change OkC Try.prog _ _ _ _ _ _ _
      refine okc_weak (l' := [(0, _), (1, _), (2, _), (4, _), (5, _), (14, _), (15, _), (16, _), (17, _), (24, _), (25, _), (26, _), (27, _)]) ⟨rfl, rfl, rfl, rfl, rfl, rfl, rfl, rfl, rfl, rfl, rfl, rfl, rfl, trivial⟩ ?_
      refine okc_seq ?_
      refine okc_cond_t rfl ?_
      refine okc_skip ?_
      change OkC Try.prog _ _ _ _ _ _ _
      refine okc_weak (l' := [(0, _), (1, _), (2, _), (4, _), (5, _), (14, _), (15, _), (16, _), (17, _), (24, _), (25, _), (26, _), (27, _)]) ⟨rfl, rfl, rfl, rfl, rfl, rfl, rfl, rfl, rfl, rfl, rfl, rfl, rfl, trivial⟩ ?_
      refine okc_seq ?_
      refine okc_block ?_
      refine okc_seq ?_
      refine okc_region ?_
      refine s_indexP j hpN rfl rfl rfl rfl rfl rfl rfl rfl rfl rfl (by omega) rfl ?_
      refine s_loadA1 jN rfl rfl rfl rfl rfl rfl rfl hjN (by assumption) ?_
      refine s_assign rfl rfl rfl rfl rfl rfl ?_
      refine okl_nil ?_
      change OkC Try.prog _ _ _ _ _ _ _
      refine okc_weak (l' := [(0, _), (1, _), (2, _), (4, _), (5, _), (9, _), (14, _), (15, _), (16, _), (17, _), (24, _), (25, _), (26, _), (27, _)]) ⟨rfl, rfl, rfl, rfl, rfl, rfl, rfl, rfl, rfl, rfl, rfl, rfl, rfl, rfl, trivial⟩ ?_
      refine okc_region ?_
      refine s_load1 0 rfl rfl rfl rfl rfl rfl rfl rfl rfl ?_
      refine s_move rfl rfl rfl rfl rfl rfl ?_
      refine okl_mapDel rfl rfl rfl rfl rfl rfl Try.underlying176 int3 rfl hI (fun es2 cl2 hI2 => ?_)
      refine okl_nil ?_
      change OkC Try.prog _ _ _ _ _ _ _
      refine okc_weak (l' := [(0, _), (1, _), (2, _), (4, _), (5, _), (9, _), (14, _), (15, _), (16, _), (17, _), (24, _), (25, _), (26, _), (27, _)]) ⟨rfl, rfl, rfl, rfl, rfl, rfl, rfl, rfl, rfl, rfl, rfl, rfl, rfl, rfl, trivial⟩ ?_
      refine okc_region ?_
      refine s_add rfl rfl rfl rfl rfl rfl rfl (by omega) ?_
      refine s_move rfl rfl rfl rfl rfl rfl ?_
      refine okl_nil ?_
      refine fun a w hs => ⟨(j + 1, ks.erase m, es2, cl2), ⟨by show j + 1 ≤ _; omega, hK.del hm, hI2⟩, by show _ - (j + 1) < _ - j; omega, ?_⟩
      exact hs.weak ⟨rfl, rfl, rfl, rfl, rfl, rfl, rfl, rfl, rfl, rfl, rfl, rfl, trivial⟩ [0, 1, 2] (by decide) (rfl)
    · have hge : ¬ j < ns.length := by simpa using h7
      obtain rfl : j = ns.length := by omega
      refine okl_nil ?_
      change OkC Try.prog _ _ _ _ _ _ _
      refine okc_weak (l' := [(0, _), (1, _), (2, _), (4, _), (5, _), (14, _), (15, _), (16, _), (17, _), (24, _), (25, _), (26, _), (27, _)]) ⟨rfl, rfl, rfl, rfl, rfl, rfl, rfl, rfl, rfl, rfl, rfl, rfl, rfl, trivial⟩ ?_
      refine okc_seq ?_
      refine okc_cond_f rfl ?_
      refine okc_exit ?_
      change OkC Try.prog _ _ _ _ _ _ _
      refine okc_weak (l' := [(0, _), (1, _), (2, _), (4, _), (5, _), (14, _), (15, _), (16, _), (17, _), (24, _), (25, _), (26, _), (27, _)]) ⟨rfl, rfl, rfl, rfl, rfl, rfl, rfl, rfl, rfl, rfl, rfl, rfl, rfl, trivial⟩ ?_
      refine okc_seq ?_
      refine okc_region ?_
      refine s_field rfl rfl rfl rfl rfl rfl rfl rfl ?_
      refine s_loadW 2 rfl rfl rfl rfl rfl rfl rfl rfl rfl rfl ?_
      refine okl_rE rfl rfl rfl rfl (op_call rfl rfl rfl c97 (copied_fn s M hin hgr) covers_all) (fun g hg => ?_)
      obtain ⟨p1, k1, B1, p2, k2, B2⟩ := g
      obtain ⟨hg1, hg2⟩ := hg
      dsimp only at hg1 hg2
      refine s_alloc rfl rfl rfl rfl rfl rfl (fun b8 => ?_)
      refine k_storeW 0 rfl rfl rfl rfl rfl rfl rfl rfl rfl rfl rfl rfl ?_
      refine okl_nil ?_
      change OkC Try.prog _ _ _ _ _ _ _
      refine okc_weak (l' := [(0, _), (1, _), (2, _), (4, _), (5, _), (10, _), (14, _), (15, _), (16, _), (17, _), (24, _), (25, _), (26, _), (27, _)]) ⟨rfl, rfl, rfl, rfl, rfl, rfl, rfl, rfl, rfl, rfl, rfl, rfl, rfl, rfl, trivial⟩ ?_
      refine okc_seq ?_
      refine okc_region ?_
      refine s_field rfl rfl rfl rfl rfl rfl rfl rfl ?_
      refine s_load1 0 rfl rfl rfl rfl rfl rfl rfl rfl rfl ?_
      refine okl_v rfl rfl rfl rfl (op_makeFunc rfl rfl) ?_
      have hfe := hK.filter
      obtain ⟨j5, hj5⟩ : ∃ j5 : Nat, j5 = 0 := ⟨0, rfl⟩
      refine okl_xmT [_, _, _, _] B1 B2 rfl rfl rfl rfl (opx_delete [(b4, [.map (some bm)])] [(bm, es, cl)] s.reads (by omega) 118 #[] #[.pointer (some ⟨b4, 0, none⟩)] c118 (fun x => !decide (x.number ∈ ks)) (fun x _ => kept_fn x _ b4 bm cl 0 es ks rfl hI) hg2 rfl rfl rfl (covers_own 1 rfl covers_nil) (fun b es c h => by cases List.mem_singleton.1 h; exact ⟨true, List.mem_singleton.2 rfl⟩)) rfl (fun v B3 hv => ?_)
      obtain ⟨rfl, hsl⟩ := hv
      rw [hfe] at hsl ⊢
      refine s_field rfl rfl rfl rfl rfl rfl rfl rfl ?_
      refine k_store 0 rfl rfl rfl rfl rfl rfl rfl rfl rfl rfl rfl rfl ?_
      refine okl_nil ?_
      change OkC Try.prog _ _ _ _ _ _ _
      refine okc_weak (l' := [(0, _), (1, _), (2, _), (4, _), (5, _), (10, _), (14, _), (15, _), (16, _), (17, _), (24, _), (25, _), (26, _), (27, _)]) ⟨rfl, rfl, rfl, rfl, rfl, rfl, rfl, rfl, rfl, rfl, rfl, rfl, rfl, rfl, trivial⟩ ?_
      refine okc_seq ?_
      refine okc_region ?_
      refine s_loadW 0 rfl rfl rfl rfl rfl rfl rfl rfl rfl rfl ?_
      refine s_build rfl rfl rfl rfl rfl rfl rfl rfl rfl ?_
      refine k_storeW 2 rfl rfl rfl rfl rfl rfl rfl rfl rfl rfl rfl rfl ?_
      refine okl_nil ?_
      change OkC Try.prog _ _ _ _ _ _ _
      refine okc_weak (l' := [(0, _), (1, _), (2, _), (4, _), (5, _), (10, _), (14, _), (15, _), (16, _), (17, _), (24, _), (25, _), (26, _), (27, _)]) ⟨rfl, rfl, rfl, rfl, rfl, rfl, rfl, rfl, rfl, rfl, rfl, rfl, rfl, rfl, trivial⟩ ?_
      refine okc_ret fun a w hs => ?_
      exact ret_postS hs (run_results1 hs rfl (k_ragg 2 rfl rfl rfl rfl rfl)) ⟨p1, k1, B1, p2, k2, B3⟩ rfl ⟨hg1, hsl⟩ (sub_drop 4 rfl)
end Go.Proofs.Ytdpnadknaacinaa
end

section
namespace Go.Proofs.Ytdpnadknaacinaa
open Go.Sx Go.Proofs.Ytdpnadknaacinaa.Ty
set_option linter.unusedVariables false
set_option linter.unusedSimpArgs false
set_option maxHeartbeats 2000000


def FW (s : Sp) (ns : List Int) (k : Nat) : List Rd := (s.reads.take k).filter fun x => decide (x.number ∉ ns)
theorem FW_succ {s : Sp} {ns : List Int} {k : Nat} {x : Rd} (hx : s.reads[k]? = some x) : FW s ns (k + 1) = if x.number ∈ ns then FW s ns k else FW s ns k ++ [x] := by
  unfold FW
  rw [List.take_add_one, hx, List.filter_append]
  by_cases h : x.number ∈ ns <;> simp [h]
theorem FW_len (s : Sp) (ns : List Int) (k : Nat) : (FW s ns k).length ≤ k := Nat.le_trans (List.length_filter_le _ _) (by simp; omega)
theorem rdsC_snoc (L : List Rd) (x : Rd) : rdsC (L ++ [x]) = rdsC L ++ rdL x := by simp [rdsC]
structure Wg where
  k : Nat
  q : Option Addr
  c : Nat
  B : Blks

theorem rWithout_fn (s : Sp) (M : Args) (hin : s.In M) (hgr : s.book.length ≤ 30 ∧ s.reads.length ≤ 30) (ns : List Int) (pn : Option Addr) (cn : Nat) (hns : IntsIn M pn ns) : Cn Try.prog 94 [spV s, .slice pn ns.length cn] M (fun g : Rn2 => spV (twS (wtS s ns) g)) (fun g => g.B1 ++ g.B2) (TwOk (wtS s ns)) := by
  have hnl := hns.len
  obtain ⟨bN, oN, cN, jN, hN⟩ := hns.row
  obtain ⟨bR, oR, cR, jR, hR⟩ := hin.reads
  refine fn_intro (N := 45) Try.func94 rfl rfl rfl fun w0 => ?_
  refine okc_seq ?_
  refine okc_region ?_
  refine s_boxA rfl rfl rfl rfl rfl rfl (fun b1 => ?_)
  refine s_alloc rfl rfl rfl rfl rfl rfl (fun b2 => ?_)
  refine okl_nil ?_
  change OkC Try.prog _ _ _ _ _ _ _
  refine okc_weak (l' := [(0, _), (1, _), (2, _), (4, _)]) ⟨rfl, rfl, rfl, rfl, trivial⟩ ?_
  refine okc_seq ?_
  refine okc_region ?_
  refine s_loadW 1 rfl rfl rfl rfl rfl rfl rfl rfl rfl rfl ?_
  refine okl_rE rfl rfl rfl rfl (op_call rfl rfl rfl c17 (twin_fn s M hin hgr) covers_all) (fun g hg => ?_)
  obtain ⟨p1, k1, B1, p2, k2, B2⟩ := g
  obtain ⟨hg1, hg2⟩ := hg
  dsimp only at hg1 hg2
  refine s_alloc rfl rfl rfl rfl rfl rfl (fun b3 => ?_)
  refine k_storeW 0 rfl rfl rfl rfl rfl rfl rfl rfl rfl rfl rfl rfl ?_
  refine okl_nil ?_
  change OkC Try.prog _ _ _ _ _ _ _
  refine okc_weak (l' := [(0, _), (1, _), (2, _), (4, _), (5, _)]) ⟨rfl, rfl, rfl, rfl, rfl, trivial⟩ ?_
  refine okc_seq ?_
  refine okc_region ?_
  refine s_field rfl rfl rfl rfl rfl rfl rfl rfl ?_
  refine k_store 0 rfl rfl rfl rfl rfl rfl rfl rfl rfl rfl rfl rfl ?_
  refine okl_nil ?_
  change OkC Try.prog _ _ _ _ _ _ _
  refine okc_weak (l' := [(0, _), (1, _), (2, _), (4, _), (5, _)]) ⟨rfl, rfl, rfl, rfl, rfl, trivial⟩ ?_
  refine okc_seq ?_
  refine okc_seq ?_
  refine okc_region ?_
  refine s_field rfl rfl rfl rfl rfl rfl rfl rfl ?_
  refine s_load1 2 rfl rfl rfl rfl rfl rfl rfl rfl rfl ?_
  refine s_len rfl rfl rfl rfl rfl rfl rfl ?_
  refine s_move rfl rfl rfl rfl rfl rfl ?_
  refine okl_nil ?_
  change OkC Try.prog _ _ _ _ _ _ _
  refine okc_weak (l' := [(0, _), (1, _), (2, _), (4, _), (5, _), (15, _), (16, _), (17, _)]) ⟨rfl, rfl, rfl, rfl, rfl, rfl, rfl, rfl, trivial⟩ ?_
  refine okc_block ?_
  refine okc_sub (O' := [_, _, _] ++ (B1 ++ [])) (List.Sublist.append (List.Sublist.refl _) (List.Sublist.append (List.Sublist.refl _) (List.nil_sublist _))) ?_
  refine okc_loopH (γ := Wg) [(0, _), (1, _), (2, _), (4, _), (5, _), (15, _), (16, _)] ⟨rfl, rfl, rfl, rfl, rfl, rfl, rfl, trivial⟩ [1, 2] [0] (by decide) [_, _, _] B1 _ rfl (fun g => [(17, .int .i64 (g.k : Int))]) (fun g => [(b3, [.int .i64 s.weeks, .int .i64 s.most, .int .i64 s.fall, .int .i64 s.slo, .int .i64 s.shi, .int .i64 s.wlo, .int .i64 s.whi, .slice p1 s.book.length k1, .slice g.q (FW s ns g.k).length g.c], 27)]) (fun g => g.B) (fun g => g.k ≤ s.reads.length ∧ Sl g.B 69 5 g.q (FW s ns g.k).length g.c (rdsC (FW s ns g.k))) (fun g => s.reads.length - g.k) ⟨0, none, 0, []⟩ ⟨Nat.zero_le _, Sl.nil 69 5⟩ ⟨rfl, trivial⟩ rfl rfl ?_
  rintro ⟨k, q, c, B⟩ ⟨hk, hsl⟩
  dsimp only at hk hsl ⊢
  change OkC Try.prog _ _ _ _ _ _ _
  refine okc_seq ?_
  refine okc_region ?_
  refine s_cmpS rfl rfl rfl rfl rfl rfl rfl rfl (fun h4 => ?_) (fun h4 => ?_)
  · have hlt : k < s.reads.length := by simpa using h4
    obtain ⟨x, hx⟩ : ∃ x, s.reads[k]? = some x := ⟨s.reads[k], by simp [hlt]⟩
    obtain ⟨hpR, hjR, hatR⟩ := hR (by intro e; simp [e] at hlt)
    have hcell := hatR k x hx
    have hfw := FW_len s ns k
    refine okl_nil ?_
    change OkC Try.prog _ _ _ _ _ _ _
    refine okc_weak (l' := [(0, _), (1, _), (2, _), (4, _), (5, _), (15, _), (16, _), (17, _), (18, _)]) ⟨rfl, rfl, rfl, rfl, rfl, rfl, rfl, rfl, rfl, trivial⟩ ?_
    refine okc_seq ?_
    refine okc_cond_t rfl ?_
    refine okc_skip ?_
    change OkC Try.prog _ _ _ _ _ _ _
    refine okc_weak (l' := [(0, _), (1, _), (2, _), (4, _), (5, _), (15, _), (16, _), (17, _), (18, _)]) ⟨rfl, rfl, rfl, rfl, rfl, rfl, rfl, rfl, rfl, trivial⟩ ?_
    refine okc_seq ?_
    refine okc_block ?_
    refine okc_seq ?_
    refine okc_region ?_
    refine s_indexP k hpR rfl rfl rfl rfl rfl rfl rfl rfl rfl rfl (by omega) rfl ?_
    refine s_loadAP jR rfl rfl rfl rfl rfl rfl rfl hjR rfl (by assumption) rfl ?_
    refine s_alloc rfl rfl rfl rfl rfl rfl (fun b5 => ?_)
    refine k_storeW 0 rfl rfl rfl rfl rfl rfl rfl rfl rfl rfl rfl rfl ?_
    refine okl_nil ?_
    change OkC Try.prog _ _ _ _ _ _ _
    refine okc_weak (l' := [(0, _), (1, _), (2, _), (4, _), (5, _), (7, _), (15, _), (16, _), (17, _), (18, _)]) ⟨rfl, rfl, rfl, rfl, rfl, rfl, rfl, rfl, rfl, rfl, trivial⟩ ?_
    refine okc_seq ?_
    refine okc_region ?_
    refine s_assign rfl rfl rfl rfl rfl rfl ?_
    refine okl_nil ?_
    change OkC Try.prog _ _ _ _ _ _ _
    refine okc_weak (l' := [(0, _), (1, _), (2, _), (4, _), (5, _), (7, _), (8, _), (15, _), (16, _), (17, _), (18, _)]) ⟨rfl, rfl, rfl, rfl, rfl, rfl, rfl, rfl, rfl, rfl, rfl, trivial⟩ ?_
    refine okc_seq ?_
    refine okc_seq ?_
    refine okc_region ?_
    refine s_move rfl rfl rfl rfl rfl rfl ?_
    refine s_len rfl rfl rfl rfl rfl rfl rfl ?_
    refine s_move rfl rfl rfl rfl rfl rfl ?_
    refine okl_nil ?_
    change OkC Try.prog _ _ _ _ _ _ _
    refine okc_weak (l' := [(0, _), (1, _), (2, _), (4, _), (5, _), (7, _), (8, _), (15, _), (16, _), (17, _), (18, _), (21, _), (22, _), (23, _)]) ⟨rfl, rfl, rfl, rfl, rfl, rfl, rfl, rfl, rfl, rfl, rfl, rfl, rfl, rfl, trivial⟩ ?_
    refine okc_block ?_
    refine okc_loopH (γ := Nat × Bool) [(0, _), (1, _), (2, _), (4, _), (5, _), (7, _), (15, _), (16, _), (17, _), (18, _), (21, _), (22, _)] ⟨rfl, rfl, rfl, rfl, rfl, rfl, rfl, rfl, rfl, rfl, rfl, rfl, trivial⟩ [0, 1, 2, 3] [] (by decide) [_, _, _, _] B1 _ rfl (fun g => [(8, .bool g.2), (23, .int .i64 (g.1 : Int))]) (fun g => []) (fun g => B) (fun g => g.1 ≤ ns.length ∧ g.2 = decide (x.number ∈ ns.take g.1)) (fun g => ns.length - g.1) (0, false) ⟨Nat.zero_le _, by simp⟩ ⟨rfl, rfl, trivial⟩ rfl rfl ?_
    rintro ⟨j, b⟩ ⟨hj, hb⟩
    dsimp only at hj hb ⊢
    change OkC Try.prog _ _ _ _ _ _ _
    cases b
    · refine okc_seq ?_
      refine okc_region ?_
      refine s_cmpS rfl rfl rfl rfl rfl rfl rfl rfl (fun h6 => ?_) (fun h6 => ?_)
      · have hlt2 : j < ns.length := by simpa using h6
        obtain ⟨m, hm⟩ : ∃ m, ns[j]? = some m := ⟨ns[j], by simp [hlt2]⟩
        obtain ⟨hpN, hjN, hatN⟩ := hN (by intro e; simp [e] at hlt2)
        have hcell2 := hatN j m hm
        refine okl_nil ?_
        change OkC Try.prog _ _ _ _ _ _ _
        refine okc_weak (l' := [(0, _), (1, _), (2, _), (4, _), (5, _), (7, _), (8, _), (15, _), (16, _), (17, _), (18, _), (21, _), (22, _), (23, _), (24, _)]) ⟨rfl, rfl, rfl, rfl, rfl, rfl, rfl, rfl, rfl, rfl, rfl, rfl, rfl, rfl, rfl, trivial⟩ ?_
        refine okc_seq ?_
        refine okc_cond_t rfl ?_
        refine okc_skip ?_
        change OkC Try.prog _ _ _ _ _ _ _
        refine okc_weak (l' := [(0, _), (1, _), (2, _), (4, _), (5, _), (7, _), (8, _), (15, _), (16, _), (17, _), (18, _), (21, _), (22, _), (23, _), (24, _)]) ⟨rfl, rfl, rfl, rfl, rfl, rfl, rfl, rfl, rfl, rfl, rfl, rfl, rfl, rfl, rfl, trivial⟩ ?_
        refine okc_seq ?_
        refine okc_block ?_
        refine okc_seq ?_
        refine okc_region ?_
        refine s_indexP j hpN rfl rfl rfl rfl rfl rfl rfl rfl rfl rfl (by omega) rfl ?_
        refine s_loadA1 jN rfl rfl rfl rfl rfl rfl rfl hjN (by assumption) ?_
        refine s_assign rfl rfl rfl rfl rfl rfl ?_
        refine okl_nil ?_
        change OkC Try.prog _ _ _ _ _ _ _
        refine okc_weak (l' := [(0, _), (1, _), (2, _), (4, _), (5, _), (7, _), (8, _), (10, _), (15, _), (16, _), (17, _), (18, _), (21, _), (22, _), (23, _), (24, _)]) ⟨rfl, rfl, rfl, rfl, rfl, rfl, rfl, rfl, rfl, rfl, rfl, rfl, rfl, rfl, rfl, rfl, trivial⟩ ?_
        refine okc_region ?_
        refine s_move rfl rfl rfl rfl rfl rfl ?_
        refine s_move rfl rfl rfl rfl rfl rfl ?_
        refine s_move rfl rfl rfl rfl rfl rfl ?_
        refine s_field rfl rfl rfl rfl rfl rfl rfl rfl ?_
        refine s_load1 0 rfl rfl rfl rfl rfl rfl rfl rfl rfl ?_
        refine s_cmpS rfl rfl rfl rfl rfl rfl rfl rfl (fun h7 => ?_) (fun h7 => ?_)
        · have hme : m = x.number := by simpa using h7
          refine s_pick_f rfl rfl rfl rfl rfl rfl rfl ?_
          refine s_assign rfl rfl rfl rfl rfl rfl ?_
          refine okl_nil ?_
          change OkC Try.prog _ _ _ _ _ _ _
          refine okc_weak (l' := [(0, _), (1, _), (2, _), (4, _), (5, _), (7, _), (8, _), (10, _), (15, _), (16, _), (17, _), (18, _), (21, _), (22, _), (23, _), (24, _)]) ⟨rfl, rfl, rfl, rfl, rfl, rfl, rfl, rfl, rfl, rfl, rfl, rfl, rfl, rfl, rfl, rfl, trivial⟩ ?_
          refine okc_region ?_
          refine s_add rfl rfl rfl rfl rfl rfl rfl (by omega) ?_
          refine s_move rfl rfl rfl rfl rfl rfl ?_
          refine okl_nil ?_
          refine fun a w hs => ⟨(j + 1, true), ⟨by show j + 1 ≤ _; omega, by show _ = decide _; rw [List.take_add_one, hm]; clear hN hR hsl; simp_all <;> (try omega) <;> (try (exact fun h => hme h.symm))⟩, by show _ - (j + 1) < _ - j; omega, ?_⟩
          exact St.pickG (FE := [_, _, _, _]) (G := B1 ++ B) (O' := [_, _, _, _]) hs ⟨rfl, rfl, rfl, rfl, rfl, rfl, rfl, rfl, rfl, rfl, rfl, rfl, rfl, rfl, trivial⟩ [0, 1, 2, 3] (by decide) (rfl)
        · have hme : ¬ m = x.number := by simpa using h7
          refine s_pick_f rfl rfl rfl rfl rfl rfl rfl ?_
          refine s_assign rfl rfl rfl rfl rfl rfl ?_
          refine okl_nil ?_
          change OkC Try.prog _ _ _ _ _ _ _
          refine okc_weak (l' := [(0, _), (1, _), (2, _), (4, _), (5, _), (7, _), (8, _), (10, _), (15, _), (16, _), (17, _), (18, _), (21, _), (22, _), (23, _), (24, _)]) ⟨rfl, rfl, rfl, rfl, rfl, rfl, rfl, rfl, rfl, rfl, rfl, rfl, rfl, rfl, rfl, rfl, trivial⟩ ?_
          refine okc_region ?_
          refine s_add rfl rfl rfl rfl rfl rfl rfl (by omega) ?_
          refine s_move rfl rfl rfl rfl rfl rfl ?_
          refine okl_nil ?_
          refine fun a w hs => ⟨(j + 1, false), ⟨by show j + 1 ≤ _; omega, by show _ = decide _; rw [List.take_add_one, hm]; clear hN hR hsl; simp_all <;> (try omega) <;> (try (exact fun h => hme h.symm))⟩, by show _ - (j + 1) < _ - j; omega, ?_⟩
          exact St.pickG (FE := [_, _, _, _]) (G := B1 ++ B) (O' := [_, _, _, _]) hs ⟨rfl, rfl, rfl, rfl, rfl, rfl, rfl, rfl, rfl, rfl, rfl, rfl, rfl, rfl, trivial⟩ [0, 1, 2, 3] (by decide) (rfl)
      · have hge2 : ¬ j < ns.length := by simpa using h6
        obtain rfl : j = ns.length := by omega
        rw [List.take_length] at hb
        refine okl_nil ?_
        change OkC Try.prog _ _ _ _ _ _ _
        refine okc_weak (l' := [(0, _), (1, _), (2, _), (4, _), (5, _), (7, _), (8, _), (15, _), (16, _), (17, _), (18, _), (21, _), (22, _), (23, _), (24, _)]) ⟨rfl, rfl, rfl, rfl, rfl, rfl, rfl, rfl, rfl, rfl, rfl, rfl, rfl, rfl, rfl, trivial⟩ ?_
        refine okc_seq ?_
        refine okc_cond_f rfl ?_
        refine okc_exit ?_
        change OkC Try.prog _ _ _ _ _ _ _
        refine okc_weak (l' := [(0, _), (1, _), (2, _), (4, _), (5, _), (7, _), (8, _), (15, _), (16, _), (17, _), (18, _), (21, _), (22, _), (23, _), (24, _)]) ⟨rfl, rfl, rfl, rfl, rfl, rfl, rfl, rfl, rfl, rfl, rfl, rfl, rfl, rfl, rfl, trivial⟩ ?_
        refine okc_seq ?_
        refine okc_region ?_
        refine s_move rfl rfl rfl rfl rfl rfl ?_
        refine s_not rfl rfl rfl rfl rfl rfl ?_
        refine okl_nil ?_
        change OkC Try.prog _ _ _ _ _ _ _
        refine okc_weak (l' := [(0, _), (1, _), (2, _), (4, _), (5, _), (7, _), (8, _), (15, _), (16, _), (17, _), (18, _), (21, _), (22, _), (23, _), (24, _), (36, _)]) ⟨rfl, rfl, rfl, rfl, rfl, rfl, rfl, rfl, rfl, rfl, rfl, rfl, rfl, rfl, rfl, rfl, trivial⟩ ?_
        refine okc_cond_t rfl ?_
        refine okc_region ?_
        refine s_field rfl rfl rfl rfl rfl rfl rfl rfl ?_
        refine s_load1 1 rfl rfl rfl rfl rfl rfl rfl rfl rfl ?_
        refine s_loadW 0 rfl rfl rfl rfl rfl rfl rfl rfl rfl rfl ?_
        refine s_slice1N rfl rfl rfl rfl rfl rfl rfl rfl rfl rfl rfl rfl rfl (fun b8 => ?_)
        refine okl_xmT [_, _, _, _, _] B1 B rfl rfl rfl rfl (k_append1 0 hsl by69 rfl rfl rfl rfl rfl rfl rfl rfl rfl rfl rfl (by omega)) rfl (fun v B3 hv => ?_)
        obtain ⟨p3, c3, rfl, hsl3⟩ := hv
        refine s_field rfl rfl rfl rfl rfl rfl rfl rfl ?_
        refine k_store 2 rfl rfl rfl rfl rfl rfl rfl rfl rfl rfl rfl rfl ?_
        refine okl_nil ?_
        change OkC Try.prog _ _ _ _ _ _ _
        refine okc_weak (l' := [(0, _), (1, _), (2, _), (4, _), (5, _), (7, _), (8, _), (15, _), (16, _), (17, _), (18, _), (21, _), (22, _), (23, _), (24, _), (36, _)]) ⟨rfl, rfl, rfl, rfl, rfl, rfl, rfl, rfl, rfl, rfl, rfl, rfl, rfl, rfl, rfl, rfl, trivial⟩ ?_
        refine okc_region ?_
        refine s_add rfl rfl rfl rfl rfl rfl rfl (by omega) ?_
        refine s_move rfl rfl rfl rfl rfl rfl ?_
        refine okl_nil ?_
        refine fun a w hs => ⟨⟨k + 1, p3, c3, B3⟩, ⟨hlt, by dsimp only; rw [FW_succ hx, if_neg (by simpa using hb.symm), rdsC_snoc]; simpa using hsl3⟩, by show _ - (k + 1) < _ - k; omega, ?_⟩
        exact St.pickG (FE := [_, _, _, _, _]) (G := B1 ++ B3) (O' := [_, _, _]) hs ⟨rfl, rfl, rfl, rfl, rfl, rfl, rfl, rfl, trivial⟩ [2, 3, 4] (by decide) (by dsimp only; rw [FW_succ hx, if_neg (by simpa using hb.symm), List.length_append]; rfl)
    · refine okc_seq ?_
      refine okc_region ?_
      refine s_cmpS rfl rfl rfl rfl rfl rfl rfl rfl (fun h9 => ?_) (fun h9 => ?_)
      · have hlt2 : j < ns.length := by simpa using h9
        obtain ⟨m, hm⟩ : ∃ m, ns[j]? = some m := ⟨ns[j], by simp [hlt2]⟩
        obtain ⟨hpN, hjN, hatN⟩ := hN (by intro e; simp [e] at hlt2)
        have hcell2 := hatN j m hm
        refine okl_nil ?_
        change OkC Try.prog _ _ _ _ _ _ _
        refine okc_weak (l' := [(0, _), (1, _), (2, _), (4, _), (5, _), (7, _), (8, _), (15, _), (16, _), (17, _), (18, _), (21, _), (22, _), (23, _), (24, _)]) ⟨rfl, rfl, rfl, rfl, rfl, rfl, rfl, rfl, rfl, rfl, rfl, rfl, rfl, rfl, rfl, trivial⟩ ?_
        refine okc_seq ?_
        refine okc_cond_t rfl ?_
        refine okc_skip ?_
        change OkC Try.prog _ _ _ _ _ _ _
        refine okc_weak (l' := [(0, _), (1, _), (2, _), (4, _), (5, _), (7, _), (8, _), (15, _), (16, _), (17, _), (18, _), (21, _), (22, _), (23, _), (24, _)]) ⟨rfl, rfl, rfl, rfl, rfl, rfl, rfl, rfl, rfl, rfl, rfl, rfl, rfl, rfl, rfl, trivial⟩ ?_
        refine okc_seq ?_
        refine okc_block ?_
        refine okc_seq ?_
        refine okc_region ?_
        refine s_indexP j hpN rfl rfl rfl rfl rfl rfl rfl rfl rfl rfl (by omega) rfl ?_
        refine s_loadA1 jN rfl rfl rfl rfl rfl rfl rfl hjN (by assumption) ?_
        refine s_assign rfl rfl rfl rfl rfl rfl ?_
        refine okl_nil ?_
        change OkC Try.prog _ _ _ _ _ _ _
        refine okc_weak (l' := [(0, _), (1, _), (2, _), (4, _), (5, _), (7, _), (8, _), (10, _), (15, _), (16, _), (17, _), (18, _), (21, _), (22, _), (23, _), (24, _)]) ⟨rfl, rfl, rfl, rfl, rfl, rfl, rfl, rfl, rfl, rfl, rfl, rfl, rfl, rfl, rfl, rfl, trivial⟩ ?_
        refine okc_region ?_
        refine s_move rfl rfl rfl rfl rfl rfl ?_
        refine s_move rfl rfl rfl rfl rfl rfl ?_
        refine okl_skip rfl rfl rfl rfl ?_
        refine okl_skip rfl rfl rfl rfl ?_
        refine okl_skip rfl rfl rfl rfl ?_
        refine okl_skip rfl rfl rfl rfl ?_
        refine s_pick_t rfl rfl rfl rfl rfl rfl rfl ?_
        refine s_assign rfl rfl rfl rfl rfl rfl ?_
        refine okl_nil ?_
        change OkC Try.prog _ _ _ _ _ _ _
        refine okc_weak (l' := [(0, _), (1, _), (2, _), (4, _), (5, _), (7, _), (8, _), (10, _), (15, _), (16, _), (17, _), (18, _), (21, _), (22, _), (23, _), (24, _)]) ⟨rfl, rfl, rfl, rfl, rfl, rfl, rfl, rfl, rfl, rfl, rfl, rfl, rfl, rfl, rfl, rfl, trivial⟩ ?_
        refine okc_region ?_
        refine s_add rfl rfl rfl rfl rfl rfl rfl (by omega) ?_
        refine s_move rfl rfl rfl rfl rfl rfl ?_
        refine okl_nil ?_
        refine fun a w hs => ⟨(j + 1, true), ⟨by show j + 1 ≤ _; omega, by show _ = decide _; rw [List.take_add_one, hm]; clear hN hR hsl; simp_all <;> (try omega) <;> (try (exact fun h => hme h.symm))⟩, by show _ - (j + 1) < _ - j; omega, ?_⟩
        exact St.pickG (FE := [_, _, _, _]) (G := B1 ++ B) (O' := [_, _, _, _]) hs ⟨rfl, rfl, rfl, rfl, rfl, rfl, rfl, rfl, rfl, rfl, rfl, rfl, rfl, rfl, trivial⟩ [0, 1, 2, 3] (by decide) (rfl)
      · have hge2 : ¬ j < ns.length := by simpa using h9
        obtain rfl : j = ns.length := by omega
        rw [List.take_length] at hb
        refine okl_nil ?_
        change OkC Try.prog _ _ _ _ _ _ _
        refine okc_weak (l' := [(0, _), (1, _), (2, _), (4, _), (5, _), (7, _), (8, _), (15, _), (16, _), (17, _), (18, _), (21, _), (22, _), (23, _), (24, _)]) ⟨rfl, rfl, rfl, rfl, rfl, rfl, rfl, rfl, rfl, rfl, rfl, rfl, rfl, rfl, rfl, trivial⟩ ?_
        refine okc_seq ?_
        refine okc_cond_f rfl ?_
        refine okc_exit ?_
        change OkC Try.prog _ _ _ _ _ _ _
        refine okc_weak (l' := [(0, _), (1, _), (2, _), (4, _), (5, _), (7, _), (8, _), (15, _), (16, _), (17, _), (18, _), (21, _), (22, _), (23, _), (24, _)]) ⟨rfl, rfl, rfl, rfl, rfl, rfl, rfl, rfl, rfl, rfl, rfl, rfl, rfl, rfl, rfl, trivial⟩ ?_
        refine okc_seq ?_
        refine okc_region ?_
        refine s_move rfl rfl rfl rfl rfl rfl ?_
        refine s_not rfl rfl rfl rfl rfl rfl ?_
        refine okl_nil ?_
        change OkC Try.prog _ _ _ _ _ _ _
        refine okc_weak (l' := [(0, _), (1, _), (2, _), (4, _), (5, _), (7, _), (8, _), (15, _), (16, _), (17, _), (18, _), (21, _), (22, _), (23, _), (24, _), (36, _)]) ⟨rfl, rfl, rfl, rfl, rfl, rfl, rfl, rfl, rfl, rfl, rfl, rfl, rfl, rfl, rfl, rfl, trivial⟩ ?_
        refine okc_cond_f rfl ?_
        refine okc_skip ?_
        change OkC Try.prog _ _ _ _ _ _ _
        refine okc_weak (l' := [(0, _), (1, _), (2, _), (4, _), (5, _), (7, _), (8, _), (15, _), (16, _), (17, _), (18, _), (21, _), (22, _), (23, _), (24, _), (36, _)]) ⟨rfl, rfl, rfl, rfl, rfl, rfl, rfl, rfl, rfl, rfl, rfl, rfl, rfl, rfl, rfl, rfl, trivial⟩ ?_
        refine okc_region ?_
        refine s_add rfl rfl rfl rfl rfl rfl rfl (by omega) ?_
        refine s_move rfl rfl rfl rfl rfl rfl ?_
        refine okl_nil ?_
        refine fun a w hs => ⟨⟨k + 1, q, c, B⟩, ⟨hlt, by dsimp only; rw [FW_succ hx, if_pos (by simpa using hb.symm)]; exact hsl⟩, by show _ - (k + 1) < _ - k; omega, ?_⟩
        exact St.pickG (FE := [_, _, _, _]) (G := B1 ++ B) (O' := [_, _, _]) hs ⟨rfl, rfl, rfl, rfl, rfl, rfl, rfl, rfl, trivial⟩ [1, 2, 3] (by decide) (by dsimp only; rw [FW_succ hx, if_pos (by simpa using hb.symm)]; rfl)
  · have hge : ¬ k < s.reads.length := by simpa using h4
    obtain rfl : k = s.reads.length := by omega
    have hfin : FW s ns s.reads.length = (wtS s ns).reads := by unfold FW wtS; rw [List.take_length]
    refine okl_nil ?_
    change OkC Try.prog _ _ _ _ _ _ _
    refine okc_weak (l' := [(0, _), (1, _), (2, _), (4, _), (5, _), (15, _), (16, _), (17, _), (18, _)]) ⟨rfl, rfl, rfl, rfl, rfl, rfl, rfl, rfl, rfl, trivial⟩ ?_
    refine okc_seq ?_
    refine okc_cond_f rfl ?_
    refine okc_exit ?_
    change OkC Try.prog _ _ _ _ _ _ _
    refine okc_weak (l' := [(0, _), (1, _), (2, _), (4, _), (5, _), (15, _), (16, _), (17, _), (18, _)]) ⟨rfl, rfl, rfl, rfl, rfl, rfl, rfl, rfl, rfl, trivial⟩ ?_
    refine okc_seq ?_
    refine okc_region ?_
    refine s_loadW 0 rfl rfl rfl rfl rfl rfl rfl rfl rfl rfl ?_
    refine k_storeW 1 rfl rfl rfl rfl rfl rfl rfl rfl rfl rfl rfl rfl ?_
    refine okl_nil ?_
    change OkC Try.prog _ _ _ _ _ _ _
    refine okc_weak (l' := [(0, _), (1, _), (2, _), (4, _), (5, _), (15, _), (16, _), (17, _), (18, _)]) ⟨rfl, rfl, rfl, rfl, rfl, rfl, rfl, rfl, rfl, trivial⟩ ?_
    refine okc_ret fun a w hs => ?_
    rw [hfin] at hsl
    exact ret_postS hs (run_results1 hs rfl (k_ragg 1 rfl rfl rfl rfl rfl)) ⟨p1, k1, B1, q, c, B⟩ (by show Value.agg _ = Value.agg _; rw [hfin]; rfl) ⟨hg1, hsl⟩ (sub_drop 3 rfl)
end Go.Proofs.Ytdpnadknaacinaa
end

section
namespace Go.Proofs.Ytdpnadknaacinaa
open Go.Sx Go.Proofs.Ytdpnadknaacinaa.Ty
set_option linter.unusedVariables false
set_option linter.unusedSimpArgs false
set_option maxHeartbeats 2000000


theorem perm_nil {α : Type} (O : List α) : O.Perm (O ++ []) := by simp
/-! Fewer readings leave more. -/
def Wide (f f' : Bd) : Prop := ∀ j, (f' j).1 ≤ (f j).1 ∧ (f j).2 ≤ (f' j).2
theorem Wide.fwd {fall : Int} {f f' : Bd} (h : Wide f f') : ∀ k, Wide (fwdN fall k f) (fwdN fall k f')
  | 0 => h
  | k + 1 => fun j => by
    have ih := Wide.fwd (fall := fall) h k
    have h1 := ih j; have h2 := ih (k + 1); have h3 := ih k
    simp only [fwdN, up]
    split <;> (try dsimp only) <;> omega
theorem Wide.bwd {fall : Int} {n : Nat} {f f' : Bd} (h : Wide f f') : ∀ k, Wide (bwdN fall n k f) (bwdN fall n k f')
  | 0 => h
  | k + 1 => fun j => by
    have ih := Wide.bwd (fall := fall) (n := n) h k
    have h1 := ih j; have h2 := ih (n - 2 - k); have h3 := ih (n - 2 - k + 1)
    simp only [bwdN, up]
    split <;> (try dsimp only) <;> omega
theorem wide_pre (s : Sp) (ns : List Int) (r : Int) : Wide (preS s r) (preS (wtS s ns) r) := by
  intro j
  have sub : ∀ x ∈ (wtS s ns).reads, x ∈ s.reads := fun x hx => (List.mem_filter.1 hx).1
  constructor
  · show ((wtS s ns).reads.foldl (addR s) _ j).1 ≤ _
    rw [addR_lo]
    have h := (addR_lo (s := s) s.reads (s.book.foldl (addL r) (iniN s.most s.weeks.toNat)) j ((preS s r j).1)).1 (Int.le_refl _)
    exact ⟨h.1, fun x hx => h.2 x (sub x hx)⟩
  · show _ ≤ ((wtS s ns).reads.foldl (addR s) _ j).2
    rw [addR_hi]
    have h := (addR_hi (s := s) s.reads (s.book.foldl (addL r) (iniN s.most s.weeks.toNat)) j ((preS s r j).2)).1 (Int.le_refl _)
    exact ⟨h.1, fun x hx => h.2 x (sub x hx)⟩
theorem wide_leaves (s : Sp) (ns : List Int) (r : Int) : Wide (leavesS s r) (leavesS (wtS s ns) r) := ((wide_pre s ns r).fwd _).bwd _
theorem okN_wide {s : Sp} {f f' : Bd} (h : Wide f f') (hok : okN s f = true) : okN s f' = true := by
  rw [okN_all] at hok ⊢
  intro j hj
  have := hok j hj; have := h j; omega
theorem can_wt {s : Sp} {ns : List Int} (h : canS s = true) : canS (wtS s ns) = true := by
  unfold canS at h ⊢
  cases hr : rainsS s with
  | nil => rw [hr] at h; cases h
  | cons r L =>
    have hm : r ∈ rainsS s := by rw [hr]; simp
    have hm2 : r ∈ rainsS (wtS s ns) := by
      unfold rainsS rainsN at hm ⊢
      rw [List.mem_filter] at hm ⊢
      exact ⟨hm.1, okN_wide (wide_leaves s ns r) hm.2⟩
    cases hr2 : rainsS (wtS s ns) with
    | nil => rw [hr2] at hm2; cases hm2
    | cons x L => rfl
theorem rds_low {weeks : Int} : ∀ (L : List Rd) (a b : Int), a ≤ b → rdsB weeks b L = true → rdsB weeks a L = true
  | [], _, _, _, _ => rfl
  | x :: L, a, b, hab, h => by
    simp only [rdsB, Bool.and_eq_true, decide_eq_true_eq] at h ⊢
    exact ⟨⟨by omega, h.1.2⟩, h.2⟩
theorem rds_filter {weeks : Int} (p : Rd → Bool) : ∀ (L : List Rd) (bef : Int), rdsB weeks bef L = true → rdsB weeks bef (L.filter p) = true
  | [], _, _ => rfl
  | x :: L, bef, h => by
    simp only [rdsB, Bool.and_eq_true, decide_eq_true_eq] at h
    have ih := rds_filter p L x.number h.2
    rw [List.filter_cons]
    split
    · simp only [rdsB, Bool.and_eq_true, decide_eq_true_eq]; exact ⟨h.1, ih⟩
    · exact rds_low _ _ _ (by omega) ih
theorem valid_wt {s : Sp} {ns : List Int} (h : validB s = true) : validB (wtS s ns) = true := by
  simp only [validB, readsB, Bool.and_eq_true, decide_eq_true_eq] at h ⊢
  have hl : (wtS s ns).reads.length ≤ s.reads.length := List.length_filter_le _ _
  exact ⟨h.1, by omega, rds_filter _ _ _ h.2.2⟩
theorem er_wt {s : Sp} {w : Int} {ns : List Int} (h : erS s w = 0) : erS (wtS s ns) w = 0 := by
  obtain ⟨hv, h0, h1, hc⟩ := er_ok h
  exact er0 (valid_wt hv) (by show isWeekB s.weeks w = true; simp [isWeekB, inS]; omega) (can_wt hc)
/-- The readings on which a week rests. -/
def restB (s : Sp) (w : Int) (x : Rd) : Bool := decide (gE (wtS s [x.number]) w ≠ gE s w)
def restK (s : Sp) (w : Int) (i : Nat) : List Int := ((s.reads.take i).filter (restB s w)).map (·.number)
def restS (s : Sp) (w : Int) : List Int := if erS s w = 0 then (s.reads.filter (restB s w)).map (·.number) else []
theorem restK_succ {s : Sp} {w : Int} {i : Nat} {x : Rd} (hx : s.reads[i]? = some x) : restK s w (i + 1) = if restB s w x then restK s w i ++ [x.number] else restK s w i := by
  unfold restK
  rw [List.take_add_one, hx, List.filter_append]
  cases h : restB s w x <;> simp [h]
theorem restK_len (s : Sp) (w : Int) (i : Nat) : (restK s w i).length ≤ i := by
  unfold restK
  rw [List.length_map]
  exact Nat.le_trans (List.length_filter_le _ _) (by simp; omega)
theorem restK_all (s : Sp) (w : Int) : restK s w s.reads.length = (s.reads.filter (restB s w)).map (·.number) := by unfold restK; rw [List.take_length]
theorem tw_in {s : Sp} {g : Rn2} (hb : s.book.length ≤ 1000000000000) (hr : s.reads.length ≤ 1000000000000) (h : TwOk s g) : (twS s g).In (argsOf (g.B1 ++ g.B2)) := by
  obtain ⟨h1, h2⟩ := h
  refine ⟨?_, ?_, hb, hr⟩
  · by_cases hn : s.book = []
    · exact ⟨0, 0, [], 0, fun hne => absurd hn hne⟩
    · obtain ⟨b, cs, hp, hB, ht⟩ := sl_pos h1 (by rcases hb : s.book with _ | _; exact absurd hb hn; simp)
      obtain ⟨j, hj⟩ := argsOf_mem (B := g.B1 ++ g.B2) (b := b) (cs := cs) (T := 76) (by simp [hB])
      refine ⟨b, 0, cs, j, fun _ => ⟨hp, hj, fun k x hx => ?_⟩⟩
      have hk : k < s.book.length := by
        rcases Nat.lt_or_ge k s.book.length with h | h
        · exact h
        · have hx' : s.book[k]? = some x := hx
          rw [List.getElem?_eq_none h] at hx'; cases hx'
      rw [Nat.zero_add, sub_take hk, ht]
      exact rows_at (f := lnL) (fun _ => rfl) hx
  · by_cases hn : s.reads = []
    · exact ⟨0, 0, [], 0, fun hne => absurd hn hne⟩
    · obtain ⟨b, cs, hp, hB, ht⟩ := sl_pos h2 (by rcases hb : s.reads with _ | _; exact absurd hb hn; simp)
      obtain ⟨j, hj⟩ := argsOf_mem (B := g.B1 ++ g.B2) (b := b) (cs := cs) (T := 69) (by simp [hB])
      refine ⟨b, 0, cs, j, fun _ => ⟨hp, hj, fun k x hx => ?_⟩⟩
      have hk : k < s.reads.length := by
        rcases Nat.lt_or_ge k s.reads.length with h | h
        · exact h
        · have hx' : s.reads[k]? = some x := hx
          rw [List.getElem?_eq_none h] at hx'; cases hx'
      rw [Nat.zero_add, sub_take hk, ht]
      exact rows_at (f := rdL) (fun _ => rfl) hx
theorem ints_one (b : Nat) (n : Int) (M : Args) : IntsIn ((b, [.int .i64 n]) :: M) (some ⟨b, 0, none⟩) [n] :=
  ⟨by simp, b, 0, [.int .i64 n], 0, fun _ => ⟨rfl, rfl, fun i x hx => by
    cases i with
    | zero => simp at hx; subst hx; rfl
    | succ i => simp at hx⟩⟩
theorem wt_len (s : Sp) (ns : List Int) : (wtS s ns).reads.length ≤ s.reads.length := List.length_filter_le _ _
theorem gvS_tw (s : Sp) (g : Rn2) (k : Nat) : gvS (twS s g) k = gvS s k := rfl
theorem eq_rest {s : Sp} {w : Int} {x : Rd} (h : (!(decide ((gE (wtS s [x.number]) w).1 = (gE s w).1) && decide ((gE (wtS s [x.number]) w).2 = (gE s w).2))) = true) : restB s w x = true := by
  unfold restB
  rw [decide_eq_true_eq]
  intro e
  rw [e] at h; simp at h
theorem ne_rest {s : Sp} {w : Int} {x : Rd} (h : (!(decide ((gE (wtS s [x.number]) w).1 = (gE s w).1) && decide ((gE (wtS s [x.number]) w).2 = (gE s w).2))) = false) : restB s w x = false := by
  unfold restB
  rw [decide_eq_false_iff_not]
  intro e
  refine e ?_
  simp at h
  exact Prod.ext h.1 h.2
structure Ig where
  i : Nat
  q : Option Addr
  c : Nat
  B : Blks

theorem Rests_no (s : Sp) (M : Args) (hin : s.In M) (w : Int) (hb : ¬ beginS s (qw w) [1, 4] = 0) : Cn Try.prog 44 [spV s, .int .i64 w] M (fun _ : Unit => .tuple #[.slice none 0 0, .int .i64 (erS s w)]) (fun _ => []) (fun _ => True) := by
  refine fn_intro (N := 50) Try.func44 rfl rfl rfl fun w0 => ?_
  refine okc_seq ?_
  refine okc_region ?_
  refine s_boxA rfl rfl rfl rfl rfl rfl (fun b1 => ?_)
  refine s_assign rfl rfl rfl rfl rfl rfl ?_
  refine s_assign rfl rfl rfl rfl rfl rfl ?_
  refine okl_nil ?_
  change OkC Try.prog _ _ _ _ _ _ _
  refine okc_weak (l' := [(0, _), (1, _), (2, _), (4, _), (5, _)]) ⟨rfl, rfl, rfl, rfl, rfl, trivial⟩ ?_
  refine okc_seq ?_
  refine okc_region ?_
  refine s_loadW 0 rfl rfl rfl rfl rfl rfl rfl rfl rfl rfl ?_
  refine s_move rfl rfl rfl rfl rfl rfl ?_
  refine s_build rfl rfl rfl rfl rfl rfl rfl rfl rfl ?_
  refine s_slice2 rfl rfl rfl rfl rfl rfl rfl rfl rfl rfl rfl rfl (fun b2 => ?_)
  refine s_callv rfl rfl rfl rfl rfl rfl rfl c72 (begin_no (M := (b2, ints [1, 4]) :: M) (q := qw w) (more := [1, 4]) (hin.cons _) (moreAt b2 [1, 4] M (by decide) (by decide)) hb) (covers_own 0 rfl covers_all) ?_
  refine s_move rfl rfl rfl rfl rfl rfl ?_
  refine s_extract rfl rfl rfl rfl rfl rfl rfl ?_
  refine s_extract rfl rfl rfl rfl rfl rfl rfl ?_
  refine s_alloc rfl rfl rfl rfl rfl rfl (fun b3 => ?_)
  refine k_storeW 0 rfl rfl rfl rfl rfl rfl rfl rfl rfl rfl rfl rfl ?_
  refine s_assign rfl rfl rfl rfl rfl rfl ?_
  refine okl_nil ?_
  change OkC Try.prog _ _ _ _ _ _ _
  refine okc_weak (l' := [(0, _), (1, _), (2, _), (4, _), (5, _), (6, _), (7, _)]) ⟨rfl, rfl, rfl, rfl, rfl, rfl, rfl, trivial⟩ ?_
  refine okc_seq ?_
  refine okc_seq ?_
  refine okc_region ?_
  refine s_move rfl rfl rfl rfl rfl rfl ?_
  refine s_cmpS rfl rfl rfl rfl rfl rfl rfl rfl (fun h4 => ?_) (fun h4 => ?_)
  · refine okl_nil ?_
    change OkC Try.prog _ _ _ _ _ _ _
    refine okc_weak (l' := [(0, _), (1, _), (2, _), (4, _), (5, _), (6, _), (7, _), (21, _)]) ⟨rfl, rfl, rfl, rfl, rfl, rfl, rfl, rfl, trivial⟩ ?_
    refine okc_cond_t rfl ?_
    refine okc_seq ?_
    refine okc_region ?_
    refine s_move rfl rfl rfl rfl rfl rfl ?_
    refine s_assign rfl rfl rfl rfl rfl rfl ?_
    refine s_assign rfl rfl rfl rfl rfl rfl ?_
    refine okl_nil ?_
    change OkC Try.prog _ _ _ _ _ _ _
    refine okc_weak (l' := [(0, _), (1, _), (2, _), (4, _), (5, _), (6, _), (7, _), (21, _)]) ⟨rfl, rfl, rfl, rfl, rfl, rfl, rfl, rfl, trivial⟩ ?_
    refine okc_ret fun a w hs => ?_
    exact ret_v hs (run_results2 hs rfl (rv_tmp rfl) (rv_tmp rfl)) (rfl)
  · exact absurd h4 (by simp [hb]) --closed

theorem Rests_ok (s : Sp) (M : Args) (hin : s.In M) (hgr : s.book.length ≤ 30 ∧ s.reads.length ≤ 30) (k : Nat) (hv : validB s = true) (hs0 : OkS s) (hk : (k : Int) ≤ s.weeks - 1) (hb : beginS s (qw (k : Int)) [1, 4] = 0) : Cn Try.prog 44 [spV s, .int .i64 (k : Int)] M (fun g : SlG => .tuple #[.slice g.p (restS s (k : Int)).length g.c, .int .i64 0]) (fun g => g.B) (fun g => Sl g.B 3 1 g.p (restS s (k : Int)).length g.c (ints (restS s (k : Int)))) := by
  obtain ⟨bR, oR, cR, jR, hR⟩ := hin.reads
  refine fn_intro (N := 50) Try.func44 rfl rfl rfl fun w0 => ?_
  refine okc_seq ?_
  refine okc_region ?_
  refine s_boxA rfl rfl rfl rfl rfl rfl (fun b5 => ?_)
  refine s_assign rfl rfl rfl rfl rfl rfl ?_
  refine s_assign rfl rfl rfl rfl rfl rfl ?_
  refine okl_nil ?_
  change OkC Try.prog _ _ _ _ _ _ _
  refine okc_weak (l' := [(0, _), (1, _), (2, _), (4, _), (5, _)]) ⟨rfl, rfl, rfl, rfl, rfl, trivial⟩ ?_
  refine okc_seq ?_
  refine okc_region ?_
  refine s_loadW 0 rfl rfl rfl rfl rfl rfl rfl rfl rfl rfl ?_
  refine s_move rfl rfl rfl rfl rfl rfl ?_
  refine s_build rfl rfl rfl rfl rfl rfl rfl rfl rfl ?_
  refine s_slice2 rfl rfl rfl rfl rfl rfl rfl rfl rfl rfl rfl rfl (fun b6 => ?_)
  refine s_callv rfl rfl rfl rfl rfl rfl rfl c72 (begin_ok (M := (b6, ints [1, 4]) :: M) (q := qw k) (more := [1, 4]) (hin.cons _) (moreAt b6 [1, 4] M (by decide) (by decide)) hb) (covers_own 0 rfl covers_all) ?_
  refine s_move rfl rfl rfl rfl rfl rfl ?_
  refine s_extract rfl rfl rfl rfl rfl rfl rfl ?_
  refine s_extract rfl rfl rfl rfl rfl rfl rfl ?_
  refine s_alloc rfl rfl rfl rfl rfl rfl (fun b7 => ?_)
  refine k_storeW 0 rfl rfl rfl rfl rfl rfl rfl rfl rfl rfl rfl rfl ?_
  refine s_assign rfl rfl rfl rfl rfl rfl ?_
  refine okl_nil ?_
  change OkC Try.prog _ _ _ _ _ _ _
  refine okc_weak (l' := [(0, _), (1, _), (2, _), (4, _), (5, _), (6, _), (7, _)]) ⟨rfl, rfl, rfl, rfl, rfl, rfl, rfl, trivial⟩ ?_
  refine okc_seq ?_
  refine okc_seq ?_
  refine okc_region ?_
  refine s_move rfl rfl rfl rfl rfl rfl ?_
  refine s_cmpS rfl rfl rfl rfl rfl rfl rfl rfl (fun h8 => ?_) (fun h8 => ?_)
  · exact absurd h8 (by decide) --closed
  · refine okl_nil ?_
    change OkC Try.prog _ _ _ _ _ _ _
    refine okc_weak (l' := [(0, _), (1, _), (2, _), (4, _), (5, _), (6, _), (7, _), (21, _)]) ⟨rfl, rfl, rfl, rfl, rfl, rfl, rfl, rfl, trivial⟩ ?_
    refine okc_cond_f rfl ?_
    refine okc_skip ?_
    change OkC Try.prog _ _ _ _ _ _ _
    refine okc_weak (l' := [(0, _), (1, _), (2, _), (4, _), (5, _), (6, _), (7, _), (21, _)]) ⟨rfl, rfl, rfl, rfl, rfl, rfl, rfl, rfl, trivial⟩ ?_
    refine okc_seq ?_
    refine okc_region ?_
    refine s_assign rfl rfl rfl rfl rfl rfl ?_
    refine okl_nil ?_
    change OkC Try.prog _ _ _ _ _ _ _
    refine okc_weak (l' := [(0, _), (1, _), (2, _), (4, _), (5, _), (6, _), (7, _), (8, _), (21, _)]) ⟨rfl, rfl, rfl, rfl, rfl, rfl, rfl, rfl, rfl, trivial⟩ ?_
    refine okc_seq ?_
    refine okc_region ?_
    refine s_loadW 0 rfl rfl rfl rfl rfl rfl rfl rfl rfl rfl ?_
    refine s_move rfl rfl rfl rfl rfl rfl ?_
    refine s_callv rfl rfl rfl rfl rfl rfl rfl c77 (gives_fn s M hin hs0 k (by omega)) covers_all ?_
    refine s_alloc rfl rfl rfl rfl rfl rfl (fun b9 => ?_)
    refine k_storeW 0 rfl rfl rfl rfl rfl rfl rfl rfl rfl rfl rfl rfl ?_
    refine okl_nil ?_
    change OkC Try.prog _ _ _ _ _ _ _
    refine okc_weak (l' := [(0, _), (1, _), (2, _), (4, _), (5, _), (6, _), (7, _), (8, _), (9, _), (21, _)]) ⟨rfl, rfl, rfl, rfl, rfl, rfl, rfl, rfl, rfl, rfl, trivial⟩ ?_
    refine okc_seq ?_
    refine okc_seq ?_
    refine okc_region ?_
    refine s_field rfl rfl rfl rfl rfl rfl rfl rfl ?_
    refine s_field rfl rfl rfl rfl rfl rfl rfl rfl ?_
    refine s_load1 1 rfl rfl rfl rfl rfl rfl rfl rfl rfl ?_
    refine s_len rfl rfl rfl rfl rfl rfl rfl ?_
    refine s_move rfl rfl rfl rfl rfl rfl ?_
    refine okl_nil ?_
    change OkC Try.prog _ _ _ _ _ _ _
    refine okc_weak (l' := [(0, _), (1, _), (2, _), (4, _), (5, _), (6, _), (7, _), (8, _), (9, _), (21, _), (28, _), (29, _), (30, _)]) ⟨rfl, rfl, rfl, rfl, rfl, rfl, rfl, rfl, rfl, rfl, rfl, rfl, rfl, trivial⟩ ?_
    refine okc_block ?_
    refine okc_loopH (γ := Ig) [(0, _), (1, _), (2, _), (4, _), (5, _), (6, _), (7, _), (9, _), (21, _), (28, _), (29, _)] ⟨rfl, rfl, rfl, rfl, rfl, rfl, rfl, rfl, rfl, rfl, rfl, trivial⟩ [0, 1, 2, 3] [] (by decide) [_, _, _, _] [] _ rfl (fun g => [(8, .slice g.q (restK s (k : Int) g.i).length g.c), (30, .int .i64 (g.i : Int))]) (fun g => []) (fun g => g.B) (fun g => g.i ≤ s.reads.length ∧ Sl g.B 3 1 g.q (restK s (k : Int) g.i).length g.c (ints (restK s (k : Int) g.i))) (fun g => s.reads.length - g.i) ⟨0, none, 0, []⟩ ⟨Nat.zero_le _, Sl.nil 3 1⟩ ⟨rfl, rfl, trivial⟩ rfl rfl ?_
    rintro ⟨i, q, c, B⟩ ⟨hi, hsl⟩
    dsimp only at hi hsl ⊢
    change OkC Try.prog _ _ _ _ _ _ _
    refine okc_seq ?_
    refine okc_region ?_
    refine s_cmpS rfl rfl rfl rfl rfl rfl rfl rfl (fun h10 => ?_) (fun h10 => ?_)
    · have hlt : i < s.reads.length := by simpa using h10
      obtain ⟨x, hx⟩ : ∃ x, s.reads[i]? = some x := ⟨s.reads[i], by simp [hlt]⟩
      obtain ⟨hpR, hjR, hatR⟩ := hR (by intro e; simp [e] at hlt)
      have hcell := hatR i x hx
      have hrk := restK_len s (k : Int) i
      refine okl_nil ?_
      change OkC Try.prog _ _ _ _ _ _ _
      refine okc_weak (l' := [(0, _), (1, _), (2, _), (4, _), (5, _), (6, _), (7, _), (8, _), (9, _), (21, _), (28, _), (29, _), (30, _), (31, _)]) ⟨rfl, rfl, rfl, rfl, rfl, rfl, rfl, rfl, rfl, rfl, rfl, rfl, rfl, rfl, trivial⟩ ?_
      refine okc_seq ?_
      refine okc_cond_t rfl ?_
      refine okc_skip ?_
      change OkC Try.prog _ _ _ _ _ _ _
      refine okc_weak (l' := [(0, _), (1, _), (2, _), (4, _), (5, _), (6, _), (7, _), (8, _), (9, _), (21, _), (28, _), (29, _), (30, _), (31, _)]) ⟨rfl, rfl, rfl, rfl, rfl, rfl, rfl, rfl, rfl, rfl, rfl, rfl, rfl, rfl, trivial⟩ ?_
      refine okc_seq ?_
      refine okc_block ?_
      refine okc_seq ?_
      refine okc_region ?_
      refine s_indexP i hpR rfl rfl rfl rfl rfl rfl rfl rfl rfl rfl (by omega) rfl ?_
      refine s_loadAP jR rfl rfl rfl rfl rfl rfl rfl hjR rfl (by assumption) rfl ?_
      refine s_alloc rfl rfl rfl rfl rfl rfl (fun b11 => ?_)
      refine k_storeW 0 rfl rfl rfl rfl rfl rfl rfl rfl rfl rfl rfl rfl ?_
      refine okl_nil ?_
      change OkC Try.prog _ _ _ _ _ _ _
      refine okc_weak (l' := [(0, _), (1, _), (2, _), (4, _), (5, _), (6, _), (7, _), (8, _), (9, _), (11, _), (21, _), (28, _), (29, _), (30, _), (31, _)]) ⟨rfl, rfl, rfl, rfl, rfl, rfl, rfl, rfl, rfl, rfl, rfl, rfl, rfl, rfl, rfl, trivial⟩ ?_
      refine okc_seq ?_
      refine okc_drawx [34, 35, 36, 37, 38, 39, 40, 41] [6, 7] [⟨some 34, [], [], fun _ v B => v = spV s ∧ B = []⟩, ⟨some 35, [], [], fun _ v B => v = .pointer (some ⟨b11, 0 + 0, none⟩) ∧ B = []⟩, ⟨some 36, [1], [], fun _ v B => v = .int .i64 x.number ∧ B = []⟩, ⟨some 37, [2], [], fun _ v B => ∃ b, v = .slice (some ⟨b, 0, none⟩) 1 1 ∧ B = [(b, [.int .i64 x.number], 3)] ∧ True⟩, ⟨some 38, [0, 3], [], fun _ v B => ∃ g : Rn2, v = spV (twS (wtS s [x.number]) g) ∧ B = g.B1 ++ g.B2 ∧ TwOk (wtS s [x.number]) g⟩, ⟨some 39, [], [], fun _ v B => v = .int .i64 (k : Int) ∧ B = []⟩, ⟨some 40, [4, 5], [], fun _ v B => v = .agg #[.int .i64 (gvS (wtS s [x.number]) k).1, .int .i64 (gvS (wtS s [x.number]) k).2] ∧ B = []⟩, ⟨some 41, [], [], fun _ v B => v = .agg #[.int .i64 (gvS s k).1, .int .i64 (gvS s k).2] ∧ B = []⟩] 8 4 _ rfl rfl rfl rfl rfl rfl rfl (perm_nil _) ⟨?_, ?_, ?_, ?_, ?_, ?_, ?_, ?_, trivial⟩ (fun ρ hρ => ?_) rfl
      · refine obl_x rfl rfl rfl rfl (fun ρ hρ => ?_)
        exact .inl ⟨rfl, opx_v (fun F => k_loadW 2 rfl rfl rfl rfl rfl rfl)⟩
      · refine obl_x rfl rfl rfl rfl (fun ρ hρ => ?_)
        exact .inl ⟨rfl, opx_v (fun F => k_field rfl rfl rfl rfl)⟩
      · refine obl_x rfl rfl rfl rfl (fun ρ hρ => ?_)
        have h1 := hρ 1 (by simp) _ rfl
        change GoodX Try.prog _ _ _ _ ((35, (ρ 1).1) :: _) _ (((ρ 1).2 ++ []) ++ _) _ _
        generalize ρ 1 = q1 at h1 ⊢
        obtain ⟨v1, B1⟩ := q1
        obtain ⟨rfl, rfl⟩ := h1
        exact .inl ⟨rfl, opx_v (fun F => k_load1 0 rfl rfl rfl rfl rfl)⟩
      · refine obl_x rfl rfl rfl rfl (fun ρ hρ => ?_)
        have h2 := hρ 2 (by simp) _ rfl
        change GoodX Try.prog _ _ _ _ ((36, (ρ 2).1) :: _) _ (((ρ 2).2 ++ []) ++ _) _ _
        generalize ρ 2 = q2 at h2 ⊢
        obtain ⟨v2, B2⟩ := q2
        obtain ⟨rfl, rfl⟩ := h2
        exact .inl ⟨rfl, opx_r (fun F => k_slice1 rfl rfl rfl rfl rfl rfl)⟩
      · refine obl_x rfl rfl rfl rfl (fun ρ hρ => ?_)
        have h0 := hρ 0 (by simp) _ rfl
        have h3 := hρ 3 (by simp) _ rfl
        change GoodX Try.prog _ _ _ _ ((34, (ρ 0).1) :: (37, (ρ 3).1) :: _) _ (((ρ 0).2 ++ ((ρ 3).2 ++ [])) ++ _) _ _
        generalize ρ 0 = q0 at h0 ⊢
        obtain ⟨v0, B0⟩ := q0
        obtain ⟨rfl, rfl⟩ := h0
        generalize ρ 3 = q3 at h3 ⊢
        obtain ⟨v3, B3⟩ := q3
        obtain ⟨b83, rfl, rfl, _⟩ := h3
        exact .inl ⟨rfl, opx_r (fun F => op_call rfl rfl rfl c93 (without_fn s ((b83, [.int .i64 x.number]) :: M) (hin.cons _) hgr [x.number] (some ⟨b83, 0, none⟩) 1 (ints_one b83 x.number M)) (covers_own 0 rfl covers_all))⟩
      · refine obl_x rfl rfl rfl rfl (fun ρ hρ => ?_)
        exact .inl ⟨rfl, opx_v (fun F => op_move rfl rfl)⟩
      · refine obl_x rfl rfl rfl rfl (fun ρ hρ => ?_)
        have h4 := hρ 4 (by simp) _ rfl
        have h5 := hρ 5 (by simp) _ rfl
        change GoodX Try.prog _ _ _ _ ((38, (ρ 4).1) :: (39, (ρ 5).1) :: _) _ (((ρ 4).2 ++ ((ρ 5).2 ++ [])) ++ _) _ _
        generalize ρ 4 = q4 at h4 ⊢
        obtain ⟨v4, B4⟩ := q4
        obtain ⟨g4, rfl, rfl, hg4⟩ := h4
        generalize ρ 5 = q5 at h5 ⊢
        obtain ⟨v5, B5⟩ := q5
        obtain ⟨rfl, rfl⟩ := h5
        have hoks : OkS (wtS s [x.number]) := ok_of_valid (valid_wt hv)
        have hgv := gives_fn (twS (wtS s [x.number]) g4) (argsOf (g4.B1 ++ g4.B2)) (tw_in (by show s.book.length ≤ _; omega) (by have := wt_len s [x.number]; omega) hg4) (ok_of_valid (by exact valid_wt hv)) k (by show (k : Int) < s.weeks; omega)
        exact .inl ⟨rfl, opx_v (fun F => op_callv rfl rfl rfl c77 hgv (covers_grp fun y hy => List.mem_append_left _ (List.mem_append_left _ (List.mem_append_left _ hy))))⟩
      · refine obl_x rfl rfl rfl rfl (fun ρ hρ => ?_)
        exact .inl ⟨rfl, opx_v (fun F => k_loadW 1 rfl rfl rfl rfl rfl rfl)⟩
      have h0 := hρ 0 (by decide) _ rfl
      have h1 := hρ 1 (by decide) _ rfl
      have h2 := hρ 2 (by decide) _ rfl
      have h3 := hρ 3 (by decide) _ rfl
      have h4 := hρ 4 (by decide) _ rfl
      have h5 := hρ 5 (by decide) _ rfl
      have h6 := hρ 6 (by decide) _ rfl
      have h7 := hρ 7 (by decide) _ rfl
      change Go.Sx.OkL Try.prog _ _ _ _ _ ((40, (ρ 6).1) :: (41, (ρ 7).1) :: _) (_ ++ ((ρ 0).2 ++ ((ρ 1).2 ++ ((ρ 2).2 ++ ((ρ 3).2 ++ ((ρ 4).2 ++ ((ρ 5).2 ++ ((ρ 6).2 ++ ((ρ 7).2 ++ []))))))))) _
      generalize ρ 0 = q0 at *
      obtain ⟨v0, B0⟩ := q0
      obtain ⟨rfl, rfl⟩ := h0
      generalize ρ 1 = q1 at *
      obtain ⟨v1, B1⟩ := q1
      obtain ⟨rfl, rfl⟩ := h1
      generalize ρ 2 = q2 at *
      obtain ⟨v2, B2⟩ := q2
      obtain ⟨rfl, rfl⟩ := h2
      generalize ρ 3 = q3 at *
      obtain ⟨v3, B3⟩ := q3
      obtain ⟨b83, rfl, rfl, _⟩ := h3
      generalize ρ 4 = q4 at *
      obtain ⟨v4, B4⟩ := q4
      obtain ⟨g4, rfl, rfl, hg4⟩ := h4
      generalize ρ 5 = q5 at *
      obtain ⟨v5, B5⟩ := q5
      obtain ⟨rfl, rfl⟩ := h5
      generalize ρ 6 = q6 at *
      obtain ⟨v6, B6⟩ := q6
      obtain ⟨rfl, rfl⟩ := h6
      generalize ρ 7 = q7 at *
      obtain ⟨v7, B7⟩ := q7
      obtain ⟨rfl, rfl⟩ := h7
      refine okl_sub (List.sublist_append_left _ _) ?_
      have hge1 : gE (wtS s [x.number]) (k : Int) = gvS (wtS s [x.number]) k := gE_ok (er_wt hb)
      have hge2 : gE s (k : Int) = gvS s k := gE_ok hb
      refine s_b rfl rfl rfl rfl (op_neqA rfl rfl rfl g23 (eq23 9998 _ _ _ _)) (fun h12 => ?_) (fun h12 => ?_)
      · have hre : restB s (k : Int) x = true := eq_rest (by rw [hge1, hge2]; exact h12)
        refine okl_nil ?_
        change OkC Try.prog _ _ _ _ _ _ _
        refine okc_weak (l' := [(0, _), (1, _), (2, _), (4, _), (5, _), (6, _), (7, _), (8, _), (9, _), (11, _), (21, _), (28, _), (29, _), (30, _), (31, _), (42, _)]) ⟨rfl, rfl, rfl, rfl, rfl, rfl, rfl, rfl, rfl, rfl, rfl, rfl, rfl, rfl, rfl, rfl, trivial⟩ ?_
        refine okc_cond_t rfl ?_
        refine okc_region ?_
        refine s_move rfl rfl rfl rfl rfl rfl ?_
        refine s_field rfl rfl rfl rfl rfl rfl rfl rfl ?_
        refine s_load1 0 rfl rfl rfl rfl rfl rfl rfl rfl rfl ?_
        refine s_slice1 rfl rfl rfl rfl rfl rfl rfl rfl rfl rfl (fun b13 => ?_)
        refine okl_xmT [_, _, _, _, _, _] [] B rfl rfl rfl rfl (k_append1 0 hsl by3 rfl rfl rfl rfl rfl rfl rfl rfl rfl rfl rfl (by omega)) rfl (fun v B3 hv => ?_)
        obtain ⟨p3, c3, rfl, hsl3⟩ := hv
        refine s_assign rfl rfl rfl rfl rfl rfl ?_
        refine okl_nil ?_
        change OkC Try.prog _ _ _ _ _ _ _
        refine okc_weak (l' := [(0, _), (1, _), (2, _), (4, _), (5, _), (6, _), (7, _), (8, _), (9, _), (11, _), (21, _), (28, _), (29, _), (30, _), (31, _), (42, _)]) ⟨rfl, rfl, rfl, rfl, rfl, rfl, rfl, rfl, rfl, rfl, rfl, rfl, rfl, rfl, rfl, rfl, trivial⟩ ?_
        refine okc_region ?_
        refine s_add rfl rfl rfl rfl rfl rfl rfl (by omega) ?_
        refine s_move rfl rfl rfl rfl rfl rfl ?_
        refine okl_nil ?_
        refine fun a w hs => ⟨⟨i + 1, p3, c3, B3⟩, ⟨hlt, by dsimp only; rw [restK_succ hx, if_pos hre, ints_snoc]; simpa using hsl3⟩, by show _ - (i + 1) < _ - i; omega, ?_⟩
        exact St.pickG (FE := [_, _, _, _, _, _]) (G := [] ++ B3) (O' := [_, _, _, _]) hs ⟨congrArg (fun z => some (Value.slice p3 z c3)) (by show _ = (restK s (k : Int) (i + 1)).length; rw [restK_succ hx, if_pos hre, List.length_append]; rfl), rfl, rfl, rfl, rfl, rfl, rfl, rfl, rfl, rfl, rfl, rfl, rfl, trivial⟩ [2, 3, 4, 5] (by decide) (rfl)
      · have hre : restB s (k : Int) x = false := ne_rest (by rw [hge1, hge2]; exact h12)
        refine okl_nil ?_
        change OkC Try.prog _ _ _ _ _ _ _
        refine okc_weak (l' := [(0, _), (1, _), (2, _), (4, _), (5, _), (6, _), (7, _), (8, _), (9, _), (11, _), (21, _), (28, _), (29, _), (30, _), (31, _), (42, _)]) ⟨rfl, rfl, rfl, rfl, rfl, rfl, rfl, rfl, rfl, rfl, rfl, rfl, rfl, rfl, rfl, rfl, trivial⟩ ?_
        refine okc_cond_f rfl ?_
        refine okc_skip ?_
        change OkC Try.prog _ _ _ _ _ _ _
        refine okc_weak (l' := [(0, _), (1, _), (2, _), (4, _), (5, _), (6, _), (7, _), (8, _), (9, _), (11, _), (21, _), (28, _), (29, _), (30, _), (31, _), (42, _)]) ⟨rfl, rfl, rfl, rfl, rfl, rfl, rfl, rfl, rfl, rfl, rfl, rfl, rfl, rfl, rfl, rfl, trivial⟩ ?_
        refine okc_region ?_
        refine s_add rfl rfl rfl rfl rfl rfl rfl (by omega) ?_
        refine s_move rfl rfl rfl rfl rfl rfl ?_
        refine okl_nil ?_
        refine fun a w hs => ⟨⟨i + 1, q, c, B⟩, ⟨hlt, by dsimp only; rw [restK_succ hx, if_neg (by simp [hre])]; exact hsl⟩, by show _ - (i + 1) < _ - i; omega, ?_⟩
        exact St.pickG (FE := [_, _, _, _, _]) (G := [] ++ B) (O' := [_, _, _, _]) hs ⟨congrArg (fun z => some (Value.slice q z c)) (by show _ = (restK s (k : Int) (i + 1)).length; rw [restK_succ hx, if_neg (by simp [hre])]), rfl, rfl, rfl, rfl, rfl, rfl, rfl, rfl, rfl, rfl, rfl, rfl, trivial⟩ [1, 2, 3, 4] (by decide) (rfl)
    · have hge : ¬ i < s.reads.length := by simpa using h10
      obtain rfl : i = s.reads.length := by omega
      have hfin : restK s (k : Int) s.reads.length = restS s (k : Int) := by rw [restK_all, restS, if_pos (show erS s (k : Int) = 0 from hb)]
      refine okl_nil ?_
      change OkC Try.prog _ _ _ _ _ _ _
      refine okc_weak (l' := [(0, _), (1, _), (2, _), (4, _), (5, _), (6, _), (7, _), (8, _), (9, _), (21, _), (28, _), (29, _), (30, _), (31, _)]) ⟨rfl, rfl, rfl, rfl, rfl, rfl, rfl, rfl, rfl, rfl, rfl, rfl, rfl, rfl, trivial⟩ ?_
      refine okc_seq ?_
      refine okc_cond_f rfl ?_
      refine okc_exit ?_
      change OkC Try.prog _ _ _ _ _ _ _
      refine okc_weak (l' := [(0, _), (1, _), (2, _), (4, _), (5, _), (6, _), (7, _), (8, _), (9, _), (21, _), (28, _), (29, _), (30, _), (31, _)]) ⟨rfl, rfl, rfl, rfl, rfl, rfl, rfl, rfl, rfl, rfl, rfl, rfl, rfl, rfl, trivial⟩ ?_
      refine okc_seq ?_
      refine okc_region ?_
      refine s_move rfl rfl rfl rfl rfl rfl ?_
      refine s_assign rfl rfl rfl rfl rfl rfl ?_
      refine s_assign rfl rfl rfl rfl rfl rfl ?_
      refine okl_nil ?_
      change OkC Try.prog _ _ _ _ _ _ _
      refine okc_weak (l' := [(0, _), (1, _), (2, _), (4, _), (5, _), (6, _), (7, _), (8, _), (9, _), (21, _), (28, _), (29, _), (30, _), (31, _)]) ⟨rfl, rfl, rfl, rfl, rfl, rfl, rfl, rfl, rfl, rfl, rfl, rfl, rfl, rfl, trivial⟩ ?_
      refine okc_ret fun a w hs => ?_
      exact ret_postS hs (run_results2 hs rfl (rv_tmp rfl) (rv_tmp rfl)) ⟨q, c, B⟩ (by rw [hfin]) (by rw [← hfin]; exact hsl) (sub_drop 4 rfl)

theorem Rests_fn (s : Sp) (M : Args) (hin : s.In M) (hgr : s.book.length ≤ 30 ∧ s.reads.length ≤ 30) (w : Int) : Cn Try.prog 44 [spV s, .int .i64 w] M (fun g : SlG => .tuple #[.slice g.p (restS s w).length g.c, .int .i64 (erS s w)]) (fun g => g.B) (fun g => Sl g.B 3 1 g.p (restS s w).length g.c (ints (restS s w))) := by
  by_cases hb : erS s w = 0
  · obtain ⟨hv, h0, h1, _⟩ := er_ok hb
    obtain ⟨k, rfl⟩ : ∃ k : Nat, w = k := ⟨w.toNat, by omega⟩
    have h := Rests_ok s M hin hgr k hv (ok_of_valid hv) h1 hb
    rw [hb]; exact h
  · intro w0 hM
    refine (Rests_no s M hin w hb w0 hM).mono ?_
    rintro e w' ⟨v, he, hbl, _, hv, _⟩
    rw [restS, if_neg hb]
    exact ⟨v, he, hbl, SlG.nil, hv, Sl.nil 3 1, res_nil w0 w'⟩

end Go.Proofs.Ytdpnadknaacinaa
end

section
namespace Go.Proofs.Ytdpnadknaacinaa
open Go.Sx Go.Proofs.Ytdpnadknaacinaa.Ty
set_option linter.unusedVariables false
set_option linter.unusedSimpArgs false
set_option maxHeartbeats 2000000


def zS : Sp := ⟨0, 0, 0, 0, 0, 0, 0, none, 0, none, 0, [], []⟩
def zG : Rn2 := ⟨none, 0, [], none, 0, []⟩
theorem zOk : TwOk zS zG := ⟨Sl.nil 76 5, Sl.nil 69 5⟩
def wlS (s : Sp) (y : Ln) : Sp := { s with book := s.book ++ [y] }
theorem wlV (s : Sp) (y : Ln) (g : Rn2) : spV (twS (wlS s y) g) = .agg #[.int .i64 s.weeks, .int .i64 s.most, .int .i64 s.fall, .int .i64 s.slo, .int .i64 s.shi, .int .i64 s.wlo, .int .i64 s.whi, .slice g.p1 (s.book.length + 1) g.c1, .slice g.p2 s.reads.length g.c2] := by simp [spV, twS, wlS]
def wlE (s : Sp) (y : Ln) : Int := if validB s then (if s.book.length = 8 then 9 else if validB (wlS s y) then 0 else 13) else 10
def wlR (s : Sp) (y : Ln) : Sp := if wlE s y = 0 then wlS s y else zS
theorem lnsC_snoc (L : List Ln) (x : Ln) : lnsC (L ++ [x]) = lnsC L ++ lnL x := by simp [lnsC]
theorem wl_ok {s : Sp} {y : Ln} {B3 B2 : Blks} {p3 p2 : Option Addr} {c3 k2 : Nat} (h1 : Sl B3 76 5 p3 (s.book.length + 1) c3 (lnsC s.book ++ lnL y)) (h2 : Sl B2 69 5 p2 s.reads.length k2 (rdsC s.reads)) : TwOk (wlS s y) ⟨p3, c3, B3, p2, k2, B2⟩ := by
  refine ⟨?_, h2⟩
  show Sl B3 76 5 p3 (s.book ++ [y]).length c3 (lnsC (s.book ++ [y]))
  rw [lnsC_snoc, List.length_append]; exact h1
theorem wl_in {s : Sp} {y : Ln} {g : Rn2} (hgr : s.book.length ≤ 30 ∧ s.reads.length ≤ 30) (h : TwOk (wlS s y) g) : (twS (wlS s y) g).In (argsOf (g.B1 ++ g.B2)) :=
  tw_in (by show (s.book ++ [y]).length ≤ _; simp; omega) (by show s.reads.length ≤ _; omega) h

theorem Write_fn (s : Sp) (M : Args) (hin : s.In M) (hgr : s.book.length ≤ 30 ∧ s.reads.length ≤ 30) (y : Ln) : Cn Try.prog 50 [spV s, lnV y] M (fun g : Rn2 => .tuple #[spV (twS (wlR s y) g), .int .i64 (wlE s y)]) (fun g => g.B1 ++ g.B2) (TwOk (wlR s y)) := by
  refine fn_intro (N := 31) Try.func50 rfl rfl rfl fun w0 => ?_
  refine okc_seq ?_
  refine okc_region ?_
  refine s_boxA rfl rfl rfl rfl rfl rfl (fun b1 => ?_)
  refine s_boxA rfl rfl rfl rfl rfl rfl (fun b2 => ?_)
  refine s_alloc rfl rfl rfl rfl rfl rfl (fun b3 => ?_)
  refine s_assign rfl rfl rfl rfl rfl rfl ?_
  refine okl_nil ?_
  change OkC Try.prog _ _ _ _ _ _ _
  refine okc_weak (l' := [(0, _), (1, _), (2, _), (3, _), (4, _), (5, _)]) ⟨rfl, rfl, rfl, rfl, rfl, rfl, trivial⟩ ?_
  refine okc_seq ?_
  refine okc_seq ?_
  refine okc_region ?_
  refine s_loadW 2 rfl rfl rfl rfl rfl rfl rfl rfl rfl rfl ?_
  refine s_callv rfl rfl rfl rfl rfl rfl rfl c26 (Check_fn s M hin) covers_all ?_
  refine s_assign rfl rfl rfl rfl rfl rfl ?_
  refine okl_nil ?_
  change OkC Try.prog _ _ _ _ _ _ _
  refine okc_weak (l' := [(0, _), (1, _), (2, _), (3, _), (4, _), (5, _), (6, _)]) ⟨rfl, rfl, rfl, rfl, rfl, rfl, rfl, trivial⟩ ?_
  refine okc_seq ?_
  refine okc_region ?_
  refine s_move rfl rfl rfl rfl rfl rfl ?_
  refine s_cmpS rfl rfl rfl rfl rfl rfl rfl rfl (fun h4 => ?_) (fun h4 => ?_)
  · have hv : validB s = false := by have hq := h4; unfold ckS at hq; cases hvv : validB s <;> simp_all
    refine okl_nil ?_
    change OkC Try.prog _ _ _ _ _ _ _
    refine okc_weak (l' := [(0, _), (1, _), (2, _), (3, _), (4, _), (5, _), (6, _), (10, _)]) ⟨rfl, rfl, rfl, rfl, rfl, rfl, rfl, rfl, trivial⟩ ?_
    refine okc_cond_t rfl ?_
    refine okc_seq ?_
    refine okc_region ?_
    refine s_build rfl rfl rfl rfl rfl rfl rfl rfl rfl ?_
    refine s_move rfl rfl rfl rfl rfl rfl ?_
    refine k_storeW 0 rfl rfl rfl rfl rfl rfl rfl rfl rfl rfl rfl rfl ?_
    refine s_assign rfl rfl rfl rfl rfl rfl ?_
    refine okl_nil ?_
    change OkC Try.prog _ _ _ _ _ _ _
    refine okc_weak (l' := [(0, _), (1, _), (2, _), (3, _), (4, _), (5, _), (6, _), (10, _)]) ⟨rfl, rfl, rfl, rfl, rfl, rfl, rfl, rfl, trivial⟩ ?_
    refine okc_ret fun a w hs => ?_
    have he : wlE s y = 10 := by simp [wlE, hv]
    have hr : wlR s y = zS := by simp [wlR, he]
    have hk : ckS s = 10 := by simp [ckS, hv]
    exact ret_postS hs (run_results2 hs rfl (k_ragg 0 rfl rfl rfl rfl rfl) (rv_tmp rfl)) zG (by rw [hr, he]; rw [hk]; rfl) (by rw [hr]; exact zOk) (List.nil_sublist _)
  · have hv : validB s = true := by have hq := h4; unfold ckS at hq; cases hvv : validB s <;> simp_all
    refine okl_nil ?_
    change OkC Try.prog _ _ _ _ _ _ _
    refine okc_weak (l' := [(0, _), (1, _), (2, _), (3, _), (4, _), (5, _), (6, _), (10, _)]) ⟨rfl, rfl, rfl, rfl, rfl, rfl, rfl, rfl, trivial⟩ ?_
    refine okc_cond_f rfl ?_
    refine okc_skip ?_
    change OkC Try.prog _ _ _ _ _ _ _
    refine okc_weak (l' := [(0, _), (1, _), (2, _), (3, _), (4, _), (5, _), (6, _), (10, _)]) ⟨rfl, rfl, rfl, rfl, rfl, rfl, rfl, rfl, trivial⟩ ?_
    refine okc_seq ?_
    refine okc_seq ?_
    refine okc_region ?_
    refine s_field rfl rfl rfl rfl rfl rfl rfl rfl ?_
    refine s_load1 2 rfl rfl rfl rfl rfl rfl rfl rfl rfl ?_
    refine s_len rfl rfl rfl rfl rfl rfl rfl ?_
    refine s_cmpS rfl rfl rfl rfl rfl rfl rfl rfl (fun h5 => ?_) (fun h5 => ?_)
    · have h8 : s.book.length = 8 := by have hq := h5; simp at hq; omega
      refine okl_nil ?_
      change OkC Try.prog _ _ _ _ _ _ _
      refine okc_weak (l' := [(0, _), (1, _), (2, _), (3, _), (4, _), (5, _), (6, _), (10, _), (16, _)]) ⟨rfl, rfl, rfl, rfl, rfl, rfl, rfl, rfl, rfl, trivial⟩ ?_
      refine okc_cond_t rfl ?_
      refine okc_seq ?_
      refine okc_region ?_
      refine s_build rfl rfl rfl rfl rfl rfl rfl rfl rfl ?_
      refine k_storeW 0 rfl rfl rfl rfl rfl rfl rfl rfl rfl rfl rfl rfl ?_
      refine s_assign rfl rfl rfl rfl rfl rfl ?_
      refine okl_nil ?_
      change OkC Try.prog _ _ _ _ _ _ _
      refine okc_weak (l' := [(0, _), (1, _), (2, _), (3, _), (4, _), (5, _), (6, _), (10, _), (16, _)]) ⟨rfl, rfl, rfl, rfl, rfl, rfl, rfl, rfl, rfl, trivial⟩ ?_
      refine okc_ret fun a w hs => ?_
      have he : wlE s y = 9 := by simp [wlE, hv, h8]
      have hr : wlR s y = zS := by simp [wlR, he]
      exact ret_postS hs (run_results2 hs rfl (k_ragg 0 rfl rfl rfl rfl rfl) (rv_tmp rfl)) zG (by rw [hr, he]; rfl) (by rw [hr]; exact zOk) (List.nil_sublist _)
    · have h8 : ¬ s.book.length = 8 := by have hq := h5; simp at hq; omega
      refine okl_nil ?_
      change OkC Try.prog _ _ _ _ _ _ _
      refine okc_weak (l' := [(0, _), (1, _), (2, _), (3, _), (4, _), (5, _), (6, _), (10, _), (16, _)]) ⟨rfl, rfl, rfl, rfl, rfl, rfl, rfl, rfl, rfl, trivial⟩ ?_
      refine okc_cond_f rfl ?_
      refine okc_skip ?_
      change OkC Try.prog _ _ _ _ _ _ _
      refine okc_weak (l' := [(0, _), (1, _), (2, _), (3, _), (4, _), (5, _), (6, _), (10, _), (16, _)]) ⟨rfl, rfl, rfl, rfl, rfl, rfl, rfl, rfl, rfl, trivial⟩ ?_
      refine okc_seq ?_
      refine okc_region ?_
      refine s_loadW 2 rfl rfl rfl rfl rfl rfl rfl rfl rfl rfl ?_
      refine okl_rE rfl rfl rfl rfl (op_call rfl rfl rfl c97 (copied_fn s M hin hgr) covers_all) (fun g hg => ?_)
      obtain ⟨p1, k1, B1, p2, k2, B2⟩ := g
      obtain ⟨hg1, hg2⟩ := hg
      dsimp only at hg1 hg2
      refine k_storeW 2 rfl rfl rfl rfl rfl rfl rfl rfl rfl rfl rfl rfl ?_
      refine okl_nil ?_
      change OkC Try.prog _ _ _ _ _ _ _
      refine okc_weak (l' := [(0, _), (1, _), (2, _), (3, _), (4, _), (5, _), (6, _), (10, _), (16, _)]) ⟨rfl, rfl, rfl, rfl, rfl, rfl, rfl, rfl, rfl, trivial⟩ ?_
      refine okc_seq ?_
      refine okc_region ?_
      refine s_field rfl rfl rfl rfl rfl rfl rfl rfl ?_
      refine s_load1 2 rfl rfl rfl rfl rfl rfl rfl rfl rfl ?_
      refine s_loadW 1 rfl rfl rfl rfl rfl rfl rfl rfl rfl rfl ?_
      refine s_slice1N rfl rfl rfl rfl rfl rfl rfl rfl rfl rfl rfl rfl rfl (fun b6 => ?_)
      refine okl_xm [_, _, _, _] B1 B2 rfl rfl rfl rfl (k_append1 0 hg1 by76 rfl rfl rfl rfl rfl rfl rfl rfl rfl rfl rfl (by omega)) rfl (fun v B3 hv => ?_)
      obtain ⟨p3, c3, rfl, hsl3⟩ := hv
      have hok := wl_ok hsl3 hg2
      have hown := wl_in hgr hok
      refine s_field rfl rfl rfl rfl rfl rfl rfl rfl ?_
      refine k_store 3 rfl rfl rfl rfl rfl rfl rfl rfl rfl rfl rfl rfl ?_
      refine okl_nil ?_
      change OkC Try.prog _ _ _ _ _ _ _
      refine okc_weak (l' := [(0, _), (1, _), (2, _), (3, _), (4, _), (5, _), (6, _), (10, _), (16, _)]) ⟨rfl, rfl, rfl, rfl, rfl, rfl, rfl, rfl, rfl, trivial⟩ ?_
      refine okc_seq ?_
      refine okc_seq ?_
      refine okc_region ?_
      refine s_loadW 3 rfl rfl rfl rfl rfl rfl rfl rfl rfl rfl ?_
      have hck : Cn Try.prog 26 [.agg #[.int .i64 s.weeks, .int .i64 s.most, .int .i64 s.fall, .int .i64 s.slo, .int .i64 s.shi, .int .i64 s.wlo, .int .i64 s.whi, .slice p3 (s.book.length + 1) c3, .slice p2 s.reads.length k2]] (argsOf (B3 ++ B2)) (fun _ : Unit => .int .i64 (ckS (wlS s y))) (fun _ => []) (fun _ => True) := by have h := Check_fn (twS (wlS s y) ⟨p3, c3, B3, p2, k2, B2⟩) _ hown; rw [wlV] at h; exact h
      refine s_callv rfl rfl rfl rfl rfl rfl rfl c26 hck (covers_grp fun y hy => (List.mem_append_right [_, _, _, _] hy : y ∈ [_, _, _, _] ++ (B3 ++ B2))) ?_
      refine s_cmpS rfl rfl rfl rfl rfl rfl rfl rfl (fun h7 => ?_) (fun h7 => ?_)
      · have hv2 : validB (wlS s y) = false := by have hq := h7; unfold ckS at hq; cases hvv : validB (wlS s y) <;> simp_all
        refine okl_nil ?_
        change OkC Try.prog _ _ _ _ _ _ _
        refine okc_weak (l' := [(0, _), (1, _), (2, _), (3, _), (4, _), (5, _), (6, _), (10, _), (16, _), (28, _)]) ⟨rfl, rfl, rfl, rfl, rfl, rfl, rfl, rfl, rfl, rfl, trivial⟩ ?_
        refine okc_cond_t rfl ?_
        refine okc_seq ?_
        refine okc_region ?_
        refine s_build rfl rfl rfl rfl rfl rfl rfl rfl rfl ?_
        refine k_storeW 1 rfl rfl rfl rfl rfl rfl rfl rfl rfl rfl rfl rfl ?_
        refine s_assign rfl rfl rfl rfl rfl rfl ?_
        refine okl_nil ?_
        change OkC Try.prog _ _ _ _ _ _ _
        refine okc_weak (l' := [(0, _), (1, _), (2, _), (3, _), (4, _), (5, _), (6, _), (10, _), (16, _), (28, _)]) ⟨rfl, rfl, rfl, rfl, rfl, rfl, rfl, rfl, rfl, rfl, trivial⟩ ?_
        refine okc_ret fun a w hs => ?_
        have he : wlE s y = 13 := by simp [wlE, hv, h8, hv2]
        have hr : wlR s y = zS := by simp [wlR, he]
        exact ret_postS hs (run_results2 hs rfl (k_ragg 1 rfl rfl rfl rfl rfl) (rv_tmp rfl)) zG (by rw [hr, he]; rfl) (by rw [hr]; exact zOk) (List.nil_sublist _)
      · have hv2 : validB (wlS s y) = true := by have hq := h7; unfold ckS at hq; cases hvv : validB (wlS s y) <;> simp_all
        refine okl_nil ?_
        change OkC Try.prog _ _ _ _ _ _ _
        refine okc_weak (l' := [(0, _), (1, _), (2, _), (3, _), (4, _), (5, _), (6, _), (10, _), (16, _), (28, _)]) ⟨rfl, rfl, rfl, rfl, rfl, rfl, rfl, rfl, rfl, rfl, trivial⟩ ?_
        refine okc_cond_f rfl ?_
        refine okc_skip ?_
        change OkC Try.prog _ _ _ _ _ _ _
        refine okc_weak (l' := [(0, _), (1, _), (2, _), (3, _), (4, _), (5, _), (6, _), (10, _), (16, _), (28, _)]) ⟨rfl, rfl, rfl, rfl, rfl, rfl, rfl, rfl, rfl, rfl, trivial⟩ ?_
        refine okc_seq ?_
        refine okc_region ?_
        refine s_loadW 3 rfl rfl rfl rfl rfl rfl rfl rfl rfl rfl ?_
        refine k_storeW 1 rfl rfl rfl rfl rfl rfl rfl rfl rfl rfl rfl rfl ?_
        refine s_assign rfl rfl rfl rfl rfl rfl ?_
        refine okl_nil ?_
        change OkC Try.prog _ _ _ _ _ _ _
        refine okc_weak (l' := [(0, _), (1, _), (2, _), (3, _), (4, _), (5, _), (6, _), (10, _), (16, _), (28, _)]) ⟨rfl, rfl, rfl, rfl, rfl, rfl, rfl, rfl, rfl, rfl, trivial⟩ ?_
        refine okc_ret fun a w hs => ?_
        have he : wlE s y = 0 := by simp [wlE, hv, h8, hv2]
        have hr : wlR s y = wlS s y := by simp [wlR, he]
        exact ret_postS hs (run_results2 hs rfl (k_ragg 1 rfl rfl rfl rfl rfl) (rv_tmp rfl)) ⟨p3, c3, B3, p2, k2, B2⟩ (by rw [hr, he, wlV]; rfl) (by rw [hr]; exact hok) (sub_drop 4 rfl)
theorem rWrite_fn (s : Sp) (M : Args) (hin : s.In M) (hgr : s.book.length ≤ 30 ∧ s.reads.length ≤ 30) (y : Ln) : Cn Try.prog 51 [spV s, lnV y] M (fun g : Rn2 => .tuple #[spV (twS (wlR s y) g), .int .i64 (wlE s y)]) (fun g => g.B1 ++ g.B2) (TwOk (wlR s y)) := by
  refine fn_intro (N := 29) Try.func51 rfl rfl rfl fun w0 => ?_
  refine okc_seq ?_
  refine okc_region ?_
  refine s_boxA rfl rfl rfl rfl rfl rfl (fun b8 => ?_)
  refine s_boxA rfl rfl rfl rfl rfl rfl (fun b9 => ?_)
  refine s_alloc rfl rfl rfl rfl rfl rfl (fun b10 => ?_)
  refine s_assign rfl rfl rfl rfl rfl rfl ?_
  refine okl_nil ?_
  change OkC Try.prog _ _ _ _ _ _ _
  refine okc_weak (l' := [(0, _), (1, _), (2, _), (3, _), (4, _), (5, _)]) ⟨rfl, rfl, rfl, rfl, rfl, rfl, trivial⟩ ?_
  refine okc_seq ?_
  refine okc_seq ?_
  refine okc_region ?_
  refine s_loadW 2 rfl rfl rfl rfl rfl rfl rfl rfl rfl rfl ?_
  refine s_callb rfl rfl rfl rfl rfl rfl rfl c74 (rSpring_fn s M hin) covers_all (fun h11 => ?_) (fun h11 => ?_)
  · have hv : validB s = true := h11
    refine s_not rfl rfl rfl rfl rfl rfl ?_
    refine okl_nil ?_
    change OkC Try.prog _ _ _ _ _ _ _
    refine okc_weak (l' := [(0, _), (1, _), (2, _), (3, _), (4, _), (5, _), (9, _)]) ⟨rfl, rfl, rfl, rfl, rfl, rfl, rfl, trivial⟩ ?_
    refine okc_cond_f rfl ?_
    refine okc_skip ?_
    change OkC Try.prog _ _ _ _ _ _ _
    refine okc_weak (l' := [(0, _), (1, _), (2, _), (3, _), (4, _), (5, _), (9, _)]) ⟨rfl, rfl, rfl, rfl, rfl, rfl, rfl, trivial⟩ ?_
    refine okc_seq ?_
    refine okc_seq ?_
    refine okc_region ?_
    refine s_field rfl rfl rfl rfl rfl rfl rfl rfl ?_
    refine s_load1 2 rfl rfl rfl rfl rfl rfl rfl rfl rfl ?_
    refine s_len rfl rfl rfl rfl rfl rfl rfl ?_
    refine s_cmpS rfl rfl rfl rfl rfl rfl rfl rfl (fun h12 => ?_) (fun h12 => ?_)
    · have h8 : s.book.length = 8 := by have hq := h12; simp at hq; omega
      refine okl_nil ?_
      change OkC Try.prog _ _ _ _ _ _ _
      refine okc_weak (l' := [(0, _), (1, _), (2, _), (3, _), (4, _), (5, _), (9, _), (14, _)]) ⟨rfl, rfl, rfl, rfl, rfl, rfl, rfl, rfl, trivial⟩ ?_
      refine okc_cond_t rfl ?_
      refine okc_seq ?_
      refine okc_region ?_
      refine s_build rfl rfl rfl rfl rfl rfl rfl rfl rfl ?_
      refine k_storeW 0 rfl rfl rfl rfl rfl rfl rfl rfl rfl rfl rfl rfl ?_
      refine s_assign rfl rfl rfl rfl rfl rfl ?_
      refine okl_nil ?_
      change OkC Try.prog _ _ _ _ _ _ _
      refine okc_weak (l' := [(0, _), (1, _), (2, _), (3, _), (4, _), (5, _), (9, _), (14, _)]) ⟨rfl, rfl, rfl, rfl, rfl, rfl, rfl, rfl, trivial⟩ ?_
      refine okc_ret fun a w hs => ?_
      have he : wlE s y = 9 := by simp [wlE, hv, h8]
      have hr : wlR s y = zS := by simp [wlR, he]
      exact ret_postS hs (run_results2 hs rfl (k_ragg 0 rfl rfl rfl rfl rfl) (rv_tmp rfl)) zG (by rw [hr, he]; rfl) (by rw [hr]; exact zOk) (List.nil_sublist _)
    · have h8 : ¬ s.book.length = 8 := by have hq := h12; simp at hq; omega
      refine okl_nil ?_
      change OkC Try.prog _ _ _ _ _ _ _
      refine okc_weak (l' := [(0, _), (1, _), (2, _), (3, _), (4, _), (5, _), (9, _), (14, _)]) ⟨rfl, rfl, rfl, rfl, rfl, rfl, rfl, rfl, trivial⟩ ?_
      refine okc_cond_f rfl ?_
      refine okc_skip ?_
      change OkC Try.prog _ _ _ _ _ _ _
      refine okc_weak (l' := [(0, _), (1, _), (2, _), (3, _), (4, _), (5, _), (9, _), (14, _)]) ⟨rfl, rfl, rfl, rfl, rfl, rfl, rfl, rfl, trivial⟩ ?_
      refine okc_seq ?_
      refine okc_region ?_
      refine s_loadW 2 rfl rfl rfl rfl rfl rfl rfl rfl rfl rfl ?_
      refine okl_rE rfl rfl rfl rfl (op_call rfl rfl rfl c17 (twin_fn s M hin hgr) covers_all) (fun g hg => ?_)
      obtain ⟨p1, k1, B1, p2, k2, B2⟩ := g
      obtain ⟨hg1, hg2⟩ := hg
      dsimp only at hg1 hg2
      refine s_alloc rfl rfl rfl rfl rfl rfl (fun b13 => ?_)
      refine k_storeW 0 rfl rfl rfl rfl rfl rfl rfl rfl rfl rfl rfl rfl ?_
      refine okl_nil ?_
      change OkC Try.prog _ _ _ _ _ _ _
      refine okc_weak (l' := [(0, _), (1, _), (2, _), (3, _), (4, _), (5, _), (6, _), (9, _), (14, _)]) ⟨rfl, rfl, rfl, rfl, rfl, rfl, rfl, rfl, rfl, trivial⟩ ?_
      refine okc_seq ?_
      refine okc_region ?_
      refine s_field rfl rfl rfl rfl rfl rfl rfl rfl ?_
      refine s_load1 0 rfl rfl rfl rfl rfl rfl rfl rfl rfl ?_
      refine s_loadW 2 rfl rfl rfl rfl rfl rfl rfl rfl rfl rfl ?_
      refine s_slice1N rfl rfl rfl rfl rfl rfl rfl rfl rfl rfl rfl rfl rfl (fun b14 => ?_)
      refine okl_xm [_, _, _, _, _] B1 B2 rfl rfl rfl rfl (k_append1 0 hg1 by76 rfl rfl rfl rfl rfl rfl rfl rfl rfl rfl rfl (by omega)) rfl (fun v B3 hv => ?_)
      obtain ⟨p3, c3, rfl, hsl3⟩ := hv
      have hok := wl_ok hsl3 hg2
      have hown := wl_in hgr hok
      refine s_field rfl rfl rfl rfl rfl rfl rfl rfl ?_
      refine k_store 1 rfl rfl rfl rfl rfl rfl rfl rfl rfl rfl rfl rfl ?_
      refine okl_nil ?_
      change OkC Try.prog _ _ _ _ _ _ _
      refine okc_weak (l' := [(0, _), (1, _), (2, _), (3, _), (4, _), (5, _), (6, _), (9, _), (14, _)]) ⟨rfl, rfl, rfl, rfl, rfl, rfl, rfl, rfl, rfl, trivial⟩ ?_
      refine okc_seq ?_
      refine okc_seq ?_
      refine okc_region ?_
      refine s_loadW 1 rfl rfl rfl rfl rfl rfl rfl rfl rfl rfl ?_
      have hsp : Cn Try.prog 74 [.agg #[.int .i64 s.weeks, .int .i64 s.most, .int .i64 s.fall, .int .i64 s.slo, .int .i64 s.shi, .int .i64 s.wlo, .int .i64 s.whi, .slice p3 (s.book.length + 1) c3, .slice p2 s.reads.length k2]] (argsOf (B3 ++ B2)) (fun _ : Unit => .bool (validB (wlS s y))) (fun _ => []) (fun _ => True) := by have h := rSpring_fn (twS (wlS s y) ⟨p3, c3, B3, p2, k2, B2⟩) _ hown; rw [wlV] at h; exact h
      refine s_callb rfl rfl rfl rfl rfl rfl rfl c74 hsp (covers_grp fun y hy => (List.mem_append_right [_, _, _, _, _] hy : y ∈ [_, _, _, _, _] ++ (B3 ++ B2))) (fun hv2 => ?_) (fun hv2 => ?_)
      · refine s_not rfl rfl rfl rfl rfl rfl ?_
        refine okl_nil ?_
        change OkC Try.prog _ _ _ _ _ _ _
        refine okc_weak (l' := [(0, _), (1, _), (2, _), (3, _), (4, _), (5, _), (6, _), (9, _), (14, _), (26, _)]) ⟨rfl, rfl, rfl, rfl, rfl, rfl, rfl, rfl, rfl, rfl, trivial⟩ ?_
        refine okc_cond_f rfl ?_
        refine okc_skip ?_
        change OkC Try.prog _ _ _ _ _ _ _
        refine okc_weak (l' := [(0, _), (1, _), (2, _), (3, _), (4, _), (5, _), (6, _), (9, _), (14, _), (26, _)]) ⟨rfl, rfl, rfl, rfl, rfl, rfl, rfl, rfl, rfl, rfl, trivial⟩ ?_
        refine okc_seq ?_
        refine okc_region ?_
        refine s_loadW 1 rfl rfl rfl rfl rfl rfl rfl rfl rfl rfl ?_
        refine k_storeW 2 rfl rfl rfl rfl rfl rfl rfl rfl rfl rfl rfl rfl ?_
        refine s_assign rfl rfl rfl rfl rfl rfl ?_
        refine okl_nil ?_
        change OkC Try.prog _ _ _ _ _ _ _
        refine okc_weak (l' := [(0, _), (1, _), (2, _), (3, _), (4, _), (5, _), (6, _), (9, _), (14, _), (26, _)]) ⟨rfl, rfl, rfl, rfl, rfl, rfl, rfl, rfl, rfl, rfl, trivial⟩ ?_
        refine okc_ret fun a w hs => ?_
        have he : wlE s y = 0 := by simp [wlE, hv, h8, hv2]
        have hr : wlR s y = wlS s y := by simp [wlR, he]
        exact ret_postS hs (run_results2 hs rfl (k_ragg 2 rfl rfl rfl rfl rfl) (rv_tmp rfl)) ⟨p3, c3, B3, p2, k2, B2⟩ (by rw [hr, he, wlV]; rfl) (by rw [hr]; exact hok) (sub_drop 5 rfl)
      · refine s_not rfl rfl rfl rfl rfl rfl ?_
        refine okl_nil ?_
        change OkC Try.prog _ _ _ _ _ _ _
        refine okc_weak (l' := [(0, _), (1, _), (2, _), (3, _), (4, _), (5, _), (6, _), (9, _), (14, _), (26, _)]) ⟨rfl, rfl, rfl, rfl, rfl, rfl, rfl, rfl, rfl, rfl, trivial⟩ ?_
        refine okc_cond_t rfl ?_
        refine okc_seq ?_
        refine okc_region ?_
        refine s_build rfl rfl rfl rfl rfl rfl rfl rfl rfl ?_
        refine k_storeW 2 rfl rfl rfl rfl rfl rfl rfl rfl rfl rfl rfl rfl ?_
        refine s_assign rfl rfl rfl rfl rfl rfl ?_
        refine okl_nil ?_
        change OkC Try.prog _ _ _ _ _ _ _
        refine okc_weak (l' := [(0, _), (1, _), (2, _), (3, _), (4, _), (5, _), (6, _), (9, _), (14, _), (26, _)]) ⟨rfl, rfl, rfl, rfl, rfl, rfl, rfl, rfl, rfl, rfl, trivial⟩ ?_
        refine okc_ret fun a w hs => ?_
        have he : wlE s y = 13 := by simp [wlE, hv, h8, hv2]
        have hr : wlR s y = zS := by simp [wlR, he]
        exact ret_postS hs (run_results2 hs rfl (k_ragg 2 rfl rfl rfl rfl rfl) (rv_tmp rfl)) zG (by rw [hr, he]; rfl) (by rw [hr]; exact zOk) (List.nil_sublist _)
  · have hv : validB s = false := h11
    refine s_not rfl rfl rfl rfl rfl rfl ?_
    refine okl_nil ?_
    change OkC Try.prog _ _ _ _ _ _ _
    refine okc_weak (l' := [(0, _), (1, _), (2, _), (3, _), (4, _), (5, _), (9, _)]) ⟨rfl, rfl, rfl, rfl, rfl, rfl, rfl, trivial⟩ ?_
    refine okc_cond_t rfl ?_
    refine okc_seq ?_
    refine okc_region ?_
    refine s_build rfl rfl rfl rfl rfl rfl rfl rfl rfl ?_
    refine k_storeW 0 rfl rfl rfl rfl rfl rfl rfl rfl rfl rfl rfl rfl ?_
    refine s_assign rfl rfl rfl rfl rfl rfl ?_
    refine okl_nil ?_
    change OkC Try.prog _ _ _ _ _ _ _
    refine okc_weak (l' := [(0, _), (1, _), (2, _), (3, _), (4, _), (5, _), (9, _)]) ⟨rfl, rfl, rfl, rfl, rfl, rfl, rfl, trivial⟩ ?_
    refine okc_ret fun a w hs => ?_
    have he : wlE s y = 10 := by simp [wlE, hv]
    have hr : wlR s y = zS := by simp [wlR, he]
    exact ret_postS hs (run_results2 hs rfl (k_ragg 0 rfl rfl rfl rfl rfl) (rv_tmp rfl)) zG (by rw [hr, he]; rfl) (by rw [hr]; exact zOk) (List.nil_sublist _)
end Go.Proofs.Ytdpnadknaacinaa
end

section
namespace Go.Proofs.Ytdpnadknaacinaa
open Go.Sx Go.Proofs.Ytdpnadknaacinaa.Ty
set_option linter.unusedVariables false
set_option linter.unusedSimpArgs false
set_option maxHeartbeats 2000000


def numsS (s : Sp) : List Int := s.reads.map (·.number)
/-- Numbers that rise, all above the first, all among these. -/
def stOk (N : List Int) : Int → List Int → Bool
  | _, [] => true
  | b, n :: r => decide (b < n) && (decide (n ∈ N) && stOk N n r)
def stE (s : Sp) (ns : List Int) : Int := if validB s then (if stOk (numsS s) 0 ns then 0 else 12) else 10
def stR (s : Sp) (ns : List Int) : Sp := if stE s ns = 0 then wtS s ns else zS
theorem any_num (s : Sp) (n : Int) : s.reads.any (fun x => decide (x.number = n)) = decide (n ∈ numsS s) := by
  unfold numsS
  rw [Bool.eq_iff_iff, List.any_eq_true]
  simp [List.mem_map]
theorem idx_any {p : Rd → Bool} {L : List Rd} {i : Int} (h : Idx p L i) : decide (i ≥ 0) = L.any p := by
  rcases h with ⟨rfl, h⟩ | ⟨k, x, rfl, hx, hp, _⟩
  · symm
    rw [show decide ((-1 : Int) ≥ 0) = false from rfl, List.any_eq_false]
    intro x hx; simp [h x hx]
  · symm
    rw [show decide ((k : Int) ≥ 0) = true by simp, List.any_eq_true]
    exact ⟨x, List.mem_of_getElem? hx, hp⟩


theorem field114 (s : Sp) (w : World) : (Instr.field 114 (spV s) 0).run Try.prog w = .ok (spV s) w := by kernel_rfl
theorem op_fieldV {N : Cx} {w0 : World} {l : Env} {O : Blks} {A : Args} {o : Oper} {T k : Nat} {x : Operand} {v u : Value} (ho : o.op = .field T x k) (hx : ev l x = some v) (h : ∀ w, (Instr.field T v k).run Try.prog w = .ok u w) : OpV Try.prog N w0 l O A o (pv u) :=
  opv_run fun a w hs => by simp [execOp, ho, hs.eval hx, h w]

theorem num99_fn (x : Rd) (n : Int) (M : Args) (b5 j5 : Nat) (hj5 : M[j5]? = some (b5, [.int .i64 n])) : CnG Try.prog 99 [rdV x, .pointer (some ⟨b5, 0, none⟩)] M [] [] (fun _ : Unit => .bool (decide (x.number = n))) (fun _ => []) (fun _ => []) (fun _ => True) := by
  refine fn_introG (n := 8) Try.func99 rfl rfl rfl fun w0 => ?_
  refine okc_seq ?_
  refine okc_region ?_
  refine s_boxA rfl rfl rfl rfl rfl rfl (fun b1 => ?_)
  refine s_assign rfl rfl rfl rfl rfl rfl ?_
  refine okl_nil ?_
  change OkC Try.prog _ _ _ _ _ _ _
  refine okc_weak (l' := [(0, _), (1, _), (2, _), (3, _)]) ⟨rfl, rfl, rfl, rfl, trivial⟩ ?_
  refine okc_seq ?_
  refine okc_region ?_
  refine s_field rfl rfl rfl rfl rfl rfl rfl rfl ?_
  refine s_load1 0 rfl rfl rfl rfl rfl rfl rfl rfl rfl ?_
  refine s_loadA1 j5 rfl rfl rfl rfl rfl rfl rfl hj5 rfl ?_
  refine s_cmpS rfl rfl rfl rfl rfl rfl rfl rfl (fun h2 => ?_) (fun h2 => ?_)
  · refine s_assign rfl rfl rfl rfl rfl rfl ?_
    refine okl_nil ?_
    change OkC Try.prog _ _ _ _ _ _ _
    refine okc_weak (l' := [(0, _), (1, _), (2, _), (3, _)]) ⟨rfl, rfl, rfl, rfl, trivial⟩ ?_
    refine okc_ret fun a w hs => ?_
    exact ret_postG hs (run_results1 hs rfl (rv_tmp rfl)) () (by simp_all) trivial rfl (by simp) (by simp [nums])
  · refine s_assign rfl rfl rfl rfl rfl rfl ?_
    refine okl_nil ?_
    change OkC Try.prog _ _ _ _ _ _ _
    refine okc_weak (l' := [(0, _), (1, _), (2, _), (3, _)]) ⟨rfl, rfl, rfl, rfl, trivial⟩ ?_
    refine okc_ret fun a w hs => ?_
    exact ret_postG hs (run_results1 hs rfl (rv_tmp rfl)) () (by simp_all) trivial rfl (by simp) (by simp [nums])
theorem containsFunc_fn (M : Args) (L : List Rd) (hl : L.length ≤ 1000) (gf : Nat) (first cap : Array Value) (hc : callable Try.prog gf) (p : Rd → Bool) (hp : TestG gf first cap M [] L p) (q : Option Addr) (c : Nat) (hin : RdsIn M q L) : Cn Try.prog 100 [.slice q L.length c, .func (.func gf) first cap] M (fun _ : Unit => .bool (L.any p)) (fun _ => []) (fun _ => True) := by
  refine fn_intro (N := 9) Try.func100 rfl rfl rfl fun w0 => ?_
  refine okc_seq ?_
  refine okc_region ?_
  refine s_assign rfl rfl rfl rfl rfl rfl ?_
  refine okl_nil ?_
  change OkC Try.prog _ _ _ _ _ _ _
  refine okc_weak (l' := [(0, _), (1, _), (4, _)]) ⟨rfl, rfl, rfl, trivial⟩ ?_
  refine okc_seq ?_
  refine okc_region ?_
  refine s_move rfl rfl rfl rfl rfl rfl ?_
  refine s_move rfl rfl rfl rfl rfl rfl ?_
  refine okl_x (c := []) (keep := []) [] rfl rfl rfl rfl (opx_call rfl rfl rfl c124 (indexFunc_fn M [] L hl gf first cap hc p hp q c hin) covers_all (fun b es c h => by cases h)) (List.Perm.refl _) (fun v B hv => ?_)
  obtain ⟨i, rfl, hi, rfl⟩ := hv
  refine s_cmpS rfl rfl rfl rfl rfl rfl rfl rfl (fun h3 => ?_) (fun h3 => ?_)
  · refine s_assign rfl rfl rfl rfl rfl rfl ?_
    refine okl_nil ?_
    change OkC Try.prog _ _ _ _ _ _ _
    refine okc_weak (l' := [(0, _), (1, _), (4, _)]) ⟨rfl, rfl, rfl, trivial⟩ ?_
    refine okc_ret fun a w hs => ?_
    exact ret_v hs (run_results1 hs rfl (rv_tmp rfl)) (by rw [← idx_any hi]; simp_all)
  · refine s_assign rfl rfl rfl rfl rfl rfl ?_
    refine okl_nil ?_
    change OkC Try.prog _ _ _ _ _ _ _
    refine okc_weak (l' := [(0, _), (1, _), (4, _)]) ⟨rfl, rfl, rfl, trivial⟩ ?_
    refine okc_ret fun a w hs => ?_
    exact ret_v hs (run_results1 hs rfl (rv_tmp rfl)) (by rw [← idx_any hi]; simp_all)

theorem Strike_no (s : Sp) (M : Args) (hin : s.In M) (hgr : s.book.length ≤ 30 ∧ s.reads.length ≤ 30) (ns : List Int) (pn : Option Addr) (cn : Nat) (hns : IntsIn M pn ns) (hb : ¬ beginS s qz [] = 0) : Cn Try.prog 52 [spV s, .slice pn ns.length cn] M (fun _ : Unit => .tuple #[spV (twS zS zG), .int .i64 (beginS s qz [])]) (fun _ => []) (fun _ => True) := by
  refine fn_intro (N := 47) Try.func52 rfl rfl rfl fun w0 => ?_
  refine okc_seq ?_
  refine okc_region ?_
  refine s_boxA rfl rfl rfl rfl rfl rfl (fun b4 => ?_)
  refine s_alloc rfl rfl rfl rfl rfl rfl (fun b5 => ?_)
  refine s_assign rfl rfl rfl rfl rfl rfl ?_
  refine okl_nil ?_
  change OkC Try.prog _ _ _ _ _ _ _
  refine okc_weak (l' := [(0, _), (1, _), (2, _), (4, _), (5, _)]) ⟨rfl, rfl, rfl, rfl, rfl, trivial⟩ ?_
  refine okc_seq ?_
  refine okc_region ?_
  refine s_loadW 1 rfl rfl rfl rfl rfl rfl rfl rfl rfl rfl ?_
  refine s_build rfl rfl rfl rfl rfl rfl rfl rfl rfl ?_
  refine s_callv rfl rfl rfl rfl rfl rfl rfl c72 (begin_no (M := M) (q := qz) (more := []) hin (moreNil M) hb) covers_all ?_
  refine s_move rfl rfl rfl rfl rfl rfl ?_
  refine s_extract rfl rfl rfl rfl rfl rfl rfl ?_
  refine s_extract rfl rfl rfl rfl rfl rfl rfl ?_
  refine s_alloc rfl rfl rfl rfl rfl rfl (fun b6 => ?_)
  refine k_storeW 0 rfl rfl rfl rfl rfl rfl rfl rfl rfl rfl rfl rfl ?_
  refine s_assign rfl rfl rfl rfl rfl rfl ?_
  refine okl_nil ?_
  change OkC Try.prog _ _ _ _ _ _ _
  refine okc_weak (l' := [(0, _), (1, _), (2, _), (4, _), (5, _), (6, _), (7, _)]) ⟨rfl, rfl, rfl, rfl, rfl, rfl, rfl, trivial⟩ ?_
  refine okc_seq ?_
  refine okc_seq ?_
  refine okc_region ?_
  refine s_move rfl rfl rfl rfl rfl rfl ?_
  refine s_cmpS rfl rfl rfl rfl rfl rfl rfl rfl (fun h7 => ?_) (fun h7 => ?_)
  · refine okl_nil ?_
    change OkC Try.prog _ _ _ _ _ _ _
    refine okc_weak (l' := [(0, _), (1, _), (2, _), (4, _), (5, _), (6, _), (7, _), (19, _)]) ⟨rfl, rfl, rfl, rfl, rfl, rfl, rfl, rfl, trivial⟩ ?_
    refine okc_cond_t rfl ?_
    refine okc_seq ?_
    refine okc_region ?_
    refine s_build rfl rfl rfl rfl rfl rfl rfl rfl rfl ?_
    refine s_move rfl rfl rfl rfl rfl rfl ?_
    refine k_storeW 1 rfl rfl rfl rfl rfl rfl rfl rfl rfl rfl rfl rfl ?_
    refine s_assign rfl rfl rfl rfl rfl rfl ?_
    refine okl_nil ?_
    change OkC Try.prog _ _ _ _ _ _ _
    refine okc_weak (l' := [(0, _), (1, _), (2, _), (4, _), (5, _), (6, _), (7, _), (19, _)]) ⟨rfl, rfl, rfl, rfl, rfl, rfl, rfl, rfl, trivial⟩ ?_
    refine okc_ret fun a w hs => ?_
    exact ret_v hs (run_results2 hs rfl (k_ragg 1 rfl rfl rfl rfl rfl) (rv_tmp rfl)) (rfl)
  · exact absurd h7 (by simp [hb]) --closed

theorem Strike_ok (s : Sp) (M : Args) (hin : s.In M) (hgr : s.book.length ≤ 30 ∧ s.reads.length ≤ 30) (ns : List Int) (pn : Option Addr) (cn : Nat) (hns : IntsIn M pn ns) (hb : beginS s qz [] = 0) : Cn Try.prog 52 [spV s, .slice pn ns.length cn] M (fun g : Rn2 => .tuple #[spV (twS (stR s ns) g), .int .i64 (stE s ns)]) (fun g => g.B1 ++ g.B2) (TwOk (stR s ns)) := by
  have hv := begin_valid hb
  have hnl := hns.len
  have hns0 := hns
  obtain ⟨bN, oN, cN, jN, hN⟩ := hns0.row
  refine fn_intro (N := 47) Try.func52 rfl rfl rfl fun w0 => ?_
  refine okc_seq ?_
  refine okc_region ?_
  refine s_boxA rfl rfl rfl rfl rfl rfl (fun b8 => ?_)
  refine s_alloc rfl rfl rfl rfl rfl rfl (fun b9 => ?_)
  refine s_assign rfl rfl rfl rfl rfl rfl ?_
  refine okl_nil ?_
  change OkC Try.prog _ _ _ _ _ _ _
  refine okc_weak (l' := [(0, _), (1, _), (2, _), (4, _), (5, _)]) ⟨rfl, rfl, rfl, rfl, rfl, trivial⟩ ?_
  refine okc_seq ?_
  refine okc_region ?_
  refine s_loadW 1 rfl rfl rfl rfl rfl rfl rfl rfl rfl rfl ?_
  refine s_build rfl rfl rfl rfl rfl rfl rfl rfl rfl ?_
  refine s_callv rfl rfl rfl rfl rfl rfl rfl c72 (begin_ok (M := M) (q := qz) (more := []) hin (moreNil M) hb) covers_all ?_
  refine s_move rfl rfl rfl rfl rfl rfl ?_
  refine s_extract rfl rfl rfl rfl rfl rfl rfl ?_
  refine s_extract rfl rfl rfl rfl rfl rfl rfl ?_
  refine s_alloc rfl rfl rfl rfl rfl rfl (fun b10 => ?_)
  refine k_storeW 0 rfl rfl rfl rfl rfl rfl rfl rfl rfl rfl rfl rfl ?_
  refine s_assign rfl rfl rfl rfl rfl rfl ?_
  refine okl_nil ?_
  change OkC Try.prog _ _ _ _ _ _ _
  refine okc_weak (l' := [(0, _), (1, _), (2, _), (4, _), (5, _), (6, _), (7, _)]) ⟨rfl, rfl, rfl, rfl, rfl, rfl, rfl, trivial⟩ ?_
  refine okc_seq ?_
  refine okc_seq ?_
  refine okc_region ?_
  refine s_move rfl rfl rfl rfl rfl rfl ?_
  refine s_cmpS rfl rfl rfl rfl rfl rfl rfl rfl (fun h11 => ?_) (fun h11 => ?_)
  · exact absurd h11 (by decide) --closed
  · refine okl_nil ?_
    change OkC Try.prog _ _ _ _ _ _ _
    refine okc_weak (l' := [(0, _), (1, _), (2, _), (4, _), (5, _), (6, _), (7, _), (19, _)]) ⟨rfl, rfl, rfl, rfl, rfl, rfl, rfl, rfl, trivial⟩ ?_
    refine okc_cond_f rfl ?_
    refine okc_skip ?_
    change OkC Try.prog _ _ _ _ _ _ _
    refine okc_weak (l' := [(0, _), (1, _), (2, _), (4, _), (5, _), (6, _), (7, _), (19, _)]) ⟨rfl, rfl, rfl, rfl, rfl, rfl, rfl, rfl, trivial⟩ ?_
    refine okc_seq ?_
    refine okc_region ?_
    refine s_assign rfl rfl rfl rfl rfl rfl ?_
    refine okl_nil ?_
    change OkC Try.prog _ _ _ _ _ _ _
    refine okc_weak (l' := [(0, _), (1, _), (2, _), (4, _), (5, _), (6, _), (7, _), (8, _), (19, _)]) ⟨rfl, rfl, rfl, rfl, rfl, rfl, rfl, rfl, rfl, trivial⟩ ?_
    refine okc_seq ?_
    refine okc_seq ?_
    refine okc_region ?_
    refine s_move rfl rfl rfl rfl rfl rfl ?_
    refine s_len rfl rfl rfl rfl rfl rfl rfl ?_
    refine s_move rfl rfl rfl rfl rfl rfl ?_
    refine okl_nil ?_
    change OkC Try.prog _ _ _ _ _ _ _
    refine okc_weak (l' := [(0, _), (1, _), (2, _), (4, _), (5, _), (6, _), (7, _), (8, _), (19, _), (22, _), (23, _), (24, _)]) ⟨rfl, rfl, rfl, rfl, rfl, rfl, rfl, rfl, rfl, rfl, rfl, rfl, trivial⟩ ?_
    refine okc_block ?_
    refine okc_loopF (γ := Nat × Int) [(0, _), (1, _), (2, _), (4, _), (5, _), (6, _), (7, _), (19, _), (22, _), (23, _)] ⟨rfl, rfl, rfl, rfl, rfl, rfl, rfl, rfl, rfl, rfl, trivial⟩ [0, 1, 2] [] (by decide) _ rfl (fun g => [(8, .int .i64 g.2), (24, .int .i64 (g.1 : Int))]) (fun g => []) (fun g => g.1 ≤ ns.length ∧ stOk (numsS s) 0 ns = stOk (numsS s) g.2 (ns.drop g.1)) (fun g => ns.length - g.1) (0, 0) ⟨Nat.zero_le _, rfl⟩ ⟨rfl, rfl, trivial⟩ rfl ?_
    rintro ⟨k, b⟩ ⟨hk, hb2⟩
    dsimp only at hk hb2 ⊢
    change OkC Try.prog _ _ _ _ _ _ _
    refine okc_seq ?_
    refine okc_region ?_
    refine s_cmpS rfl rfl rfl rfl rfl rfl rfl rfl (fun h12 => ?_) (fun h12 => ?_)
    · have hlt : k < ns.length := by simpa using h12
      obtain ⟨n, hn⟩ : ∃ n, ns[k]? = some n := ⟨ns[k], by simp [hlt]⟩
      obtain ⟨hpN, hjN, hatN⟩ := hN (by intro e; simp [e] at hlt)
      have hcell := hatN k n hn
      have hdr : ns.drop k = n :: ns.drop (k + 1) := drop_at hn
      rw [hdr] at hb2
      simp only [stOk] at hb2
      refine okl_nil ?_
      change OkC Try.prog _ _ _ _ _ _ _
      refine okc_weak (l' := [(0, _), (1, _), (2, _), (4, _), (5, _), (6, _), (7, _), (8, _), (19, _), (22, _), (23, _), (24, _), (25, _)]) ⟨rfl, rfl, rfl, rfl, rfl, rfl, rfl, rfl, rfl, rfl, rfl, rfl, rfl, trivial⟩ ?_
      refine okc_seq ?_
      refine okc_cond_t rfl ?_
      refine okc_skip ?_
      change OkC Try.prog _ _ _ _ _ _ _
      refine okc_weak (l' := [(0, _), (1, _), (2, _), (4, _), (5, _), (6, _), (7, _), (8, _), (19, _), (22, _), (23, _), (24, _), (25, _)]) ⟨rfl, rfl, rfl, rfl, rfl, rfl, rfl, rfl, rfl, rfl, rfl, rfl, rfl, trivial⟩ ?_
      refine okc_seq ?_
      refine okc_block ?_
      refine okc_seq ?_
      refine okc_region ?_
      refine s_indexP k hpN rfl rfl rfl rfl rfl rfl rfl rfl rfl rfl (by omega) rfl ?_
      refine s_loadA1 jN rfl rfl rfl rfl rfl rfl rfl hjN (by assumption) ?_
      refine s_alloc rfl rfl rfl rfl rfl rfl (fun b13 => ?_)
      refine k_storeW 0 rfl rfl rfl rfl rfl rfl rfl rfl rfl rfl rfl rfl ?_
      refine okl_nil ?_
      change OkC Try.prog _ _ _ _ _ _ _
      refine okc_weak (l' := [(0, _), (1, _), (2, _), (4, _), (5, _), (6, _), (7, _), (8, _), (10, _), (19, _), (22, _), (23, _), (24, _), (25, _)]) ⟨rfl, rfl, rfl, rfl, rfl, rfl, rfl, rfl, rfl, rfl, rfl, rfl, rfl, rfl, trivial⟩ ?_
      refine okc_seq ?_
      refine okc_region ?_
      refine okl_v rfl rfl rfl rfl (op_makeFuncN rfl rfl) ?_
      refine s_assign rfl rfl rfl rfl rfl rfl ?_
      refine okl_nil ?_
      change OkC Try.prog _ _ _ _ _ _ _
      refine okc_weak (l' := [(0, _), (1, _), (2, _), (4, _), (5, _), (6, _), (7, _), (8, _), (10, _), (11, _), (19, _), (22, _), (23, _), (24, _), (25, _)]) ⟨rfl, rfl, rfl, rfl, rfl, rfl, rfl, rfl, rfl, rfl, rfl, rfl, rfl, rfl, rfl, trivial⟩ ?_
      refine okc_seq ?_
      refine okc_seq ?_
      refine okc_region ?_
      refine s_load1 0 rfl rfl rfl rfl rfl rfl rfl rfl rfl ?_
      refine s_move rfl rfl rfl rfl rfl rfl ?_
      refine s_cmpS rfl rfl rfl rfl rfl rfl rfl rfl (fun h14 => ?_) (fun h14 => ?_)
      · have hle : n ≤ b := by simpa using h14
        have hno : stOk (numsS s) 0 ns = false := by rw [hb2]; simp; omega
        refine s_move rfl rfl rfl rfl rfl rfl ?_
        refine okl_skip rfl rfl rfl rfl ?_
        refine okl_skip rfl rfl rfl rfl ?_
        refine okl_skip rfl rfl rfl rfl ?_
        refine okl_skip rfl rfl rfl rfl ?_
        refine okl_skip rfl rfl rfl rfl ?_
        refine okl_skip rfl rfl rfl rfl ?_
        refine s_pick_t rfl rfl rfl rfl rfl rfl rfl ?_
        refine okl_nil ?_
        change OkC Try.prog _ _ _ _ _ _ _
        refine okc_weak (l' := [(0, _), (1, _), (2, _), (4, _), (5, _), (6, _), (7, _), (8, _), (10, _), (11, _), (19, _), (22, _), (23, _), (24, _), (25, _), (39, _)]) ⟨rfl, rfl, rfl, rfl, rfl, rfl, rfl, rfl, rfl, rfl, rfl, rfl, rfl, rfl, rfl, rfl, trivial⟩ ?_
        refine okc_cond_t rfl ?_
        refine okc_seq ?_
        refine okc_region ?_
        refine s_build rfl rfl rfl rfl rfl rfl rfl rfl rfl ?_
        refine k_storeW 2 rfl rfl rfl rfl rfl rfl rfl rfl rfl rfl rfl rfl ?_
        refine s_assign rfl rfl rfl rfl rfl rfl ?_
        refine okl_nil ?_
        change OkC Try.prog _ _ _ _ _ _ _
        refine okc_weak (l' := [(0, _), (1, _), (2, _), (4, _), (5, _), (6, _), (7, _), (8, _), (10, _), (11, _), (19, _), (22, _), (23, _), (24, _), (25, _), (39, _)]) ⟨rfl, rfl, rfl, rfl, rfl, rfl, rfl, rfl, rfl, rfl, rfl, rfl, rfl, rfl, rfl, rfl, trivial⟩ ?_
        refine okc_ret fun a w hs => ?_
        have he : stE s ns = 12 := by simp [stE, hv, hno]
        have hr : stR s ns = zS := by simp [stR, he]
        exact ret_postS hs (run_results2 hs rfl (k_ragg 2 rfl rfl rfl rfl rfl) (rv_tmp rfl)) zG (by rw [hr, he]; rfl) (by rw [hr]; exact zOk) (List.nil_sublist _)
      · have hle : ¬ n ≤ b := by simpa using h14
        refine s_move rfl rfl rfl rfl rfl rfl ?_
        refine s_field rfl rfl rfl rfl rfl rfl rfl rfl ?_
        refine s_field rfl rfl rfl rfl rfl rfl rfl rfl ?_
        refine s_load1 1 rfl rfl rfl rfl rfl rfl rfl rfl rfl ?_
        refine s_move rfl rfl rfl rfl rfl rfl ?_
        have hcf := containsFunc_fn ((b13, [.int .i64 n]) :: M) s.reads (by omega) 99 #[] #[.pointer (some ⟨b13, 0, none⟩)] c99 (fun x => decide (x.number = n)) (fun x _ => num99_fn x n _ b13 0 rfl) s.rp s.rc (hin.cons _).reads
        rw [any_num] at hcf
        refine s_callb rfl rfl rfl rfl rfl rfl rfl c100 hcf (covers_own 0 rfl covers_all) (fun hcn => ?_) (fun hcn => ?_)
        · have hmem : n ∈ numsS s := by simpa using hcn
          refine s_not rfl rfl rfl rfl rfl rfl ?_
          refine s_pick_f rfl rfl rfl rfl rfl rfl rfl ?_
          refine okl_nil ?_
          change OkC Try.prog _ _ _ _ _ _ _
          refine okc_weak (l' := [(0, _), (1, _), (2, _), (4, _), (5, _), (6, _), (7, _), (8, _), (10, _), (11, _), (19, _), (22, _), (23, _), (24, _), (25, _), (39, _)]) ⟨rfl, rfl, rfl, rfl, rfl, rfl, rfl, rfl, rfl, rfl, rfl, rfl, rfl, rfl, rfl, rfl, trivial⟩ ?_
          refine okc_cond_f rfl ?_
          refine okc_skip ?_
          change OkC Try.prog _ _ _ _ _ _ _
          refine okc_weak (l' := [(0, _), (1, _), (2, _), (4, _), (5, _), (6, _), (7, _), (8, _), (10, _), (11, _), (19, _), (22, _), (23, _), (24, _), (25, _), (39, _)]) ⟨rfl, rfl, rfl, rfl, rfl, rfl, rfl, rfl, rfl, rfl, rfl, rfl, rfl, rfl, rfl, rfl, trivial⟩ ?_
          refine okc_region ?_
          refine s_load1 0 rfl rfl rfl rfl rfl rfl rfl rfl rfl ?_
          refine s_assign rfl rfl rfl rfl rfl rfl ?_
          refine okl_nil ?_
          change OkC Try.prog _ _ _ _ _ _ _
          refine okc_weak (l' := [(0, _), (1, _), (2, _), (4, _), (5, _), (6, _), (7, _), (8, _), (10, _), (11, _), (19, _), (22, _), (23, _), (24, _), (25, _), (39, _)]) ⟨rfl, rfl, rfl, rfl, rfl, rfl, rfl, rfl, rfl, rfl, rfl, rfl, rfl, rfl, rfl, rfl, trivial⟩ ?_
          refine okc_region ?_
          refine s_add rfl rfl rfl rfl rfl rfl rfl (by omega) ?_
          refine s_move rfl rfl rfl rfl rfl rfl ?_
          refine okl_nil ?_
          refine fun a w hs => ⟨(k + 1, n), ⟨hlt, by rw [hb2]; simp [hmem]; omega⟩, by show _ - (k + 1) < _ - k; omega, ?_⟩
          exact hs.weak ⟨rfl, rfl, rfl, rfl, rfl, rfl, rfl, rfl, rfl, rfl, rfl, rfl, trivial⟩ [1, 2, 3] (by decide) (rfl)
        · have hmem : ¬ n ∈ numsS s := by simpa using hcn
          have hno : stOk (numsS s) 0 ns = false := by rw [hb2]; simp [hmem]
          refine s_not rfl rfl rfl rfl rfl rfl ?_
          refine s_pick_f rfl rfl rfl rfl rfl rfl rfl ?_
          refine okl_nil ?_
          change OkC Try.prog _ _ _ _ _ _ _
          refine okc_weak (l' := [(0, _), (1, _), (2, _), (4, _), (5, _), (6, _), (7, _), (8, _), (10, _), (11, _), (19, _), (22, _), (23, _), (24, _), (25, _), (39, _)]) ⟨rfl, rfl, rfl, rfl, rfl, rfl, rfl, rfl, rfl, rfl, rfl, rfl, rfl, rfl, rfl, rfl, trivial⟩ ?_
          refine okc_cond_t rfl ?_
          refine okc_seq ?_
          refine okc_region ?_
          refine s_build rfl rfl rfl rfl rfl rfl rfl rfl rfl ?_
          refine k_storeW 2 rfl rfl rfl rfl rfl rfl rfl rfl rfl rfl rfl rfl ?_
          refine s_assign rfl rfl rfl rfl rfl rfl ?_
          refine okl_nil ?_
          change OkC Try.prog _ _ _ _ _ _ _
          refine okc_weak (l' := [(0, _), (1, _), (2, _), (4, _), (5, _), (6, _), (7, _), (8, _), (10, _), (11, _), (19, _), (22, _), (23, _), (24, _), (25, _), (39, _)]) ⟨rfl, rfl, rfl, rfl, rfl, rfl, rfl, rfl, rfl, rfl, rfl, rfl, rfl, rfl, rfl, rfl, trivial⟩ ?_
          refine okc_ret fun a w hs => ?_
          have he : stE s ns = 12 := by simp [stE, hv, hno]
          have hr : stR s ns = zS := by simp [stR, he]
          exact ret_postS hs (run_results2 hs rfl (k_ragg 2 rfl rfl rfl rfl rfl) (rv_tmp rfl)) zG (by rw [hr, he]; rfl) (by rw [hr]; exact zOk) (List.nil_sublist _)
    · have hge : ¬ k < ns.length := by simpa using h12
      have hok : stOk (numsS s) 0 ns = true := by rw [hb2, List.drop_eq_nil_of_le (by omega)]; rfl
      refine okl_nil ?_
      change OkC Try.prog _ _ _ _ _ _ _
      refine okc_weak (l' := [(0, _), (1, _), (2, _), (4, _), (5, _), (6, _), (7, _), (8, _), (19, _), (22, _), (23, _), (24, _), (25, _)]) ⟨rfl, rfl, rfl, rfl, rfl, rfl, rfl, rfl, rfl, rfl, rfl, rfl, rfl, trivial⟩ ?_
      refine okc_seq ?_
      refine okc_cond_f rfl ?_
      refine okc_exit ?_
      change OkC Try.prog _ _ _ _ _ _ _
      refine okc_weak (l' := [(0, _), (1, _), (2, _), (4, _), (5, _), (6, _), (7, _), (8, _), (19, _), (22, _), (23, _), (24, _), (25, _)]) ⟨rfl, rfl, rfl, rfl, rfl, rfl, rfl, rfl, rfl, rfl, rfl, rfl, rfl, trivial⟩ ?_
      refine okc_seq ?_
      refine okc_region ?_
      refine s_loadW 0 rfl rfl rfl rfl rfl rfl rfl rfl rfl rfl ?_
      refine s_move rfl rfl rfl rfl rfl rfl ?_
      refine okl_rE rfl rfl rfl rfl (op_call rfl rfl rfl c93 (without_fn s M hin hgr ns pn cn hns) covers_all) (fun g hg => ?_)
      refine okl_v rfl rfl rfl rfl (op_fieldV rfl rfl (fun w => field114 (twS (wtS s ns) g) w)) ?_
      refine k_storeW 1 rfl rfl rfl rfl rfl rfl rfl rfl rfl rfl rfl rfl ?_
      refine s_assign rfl rfl rfl rfl rfl rfl ?_
      refine okl_nil ?_
      change OkC Try.prog _ _ _ _ _ _ _
      refine okc_weak (l' := [(0, _), (1, _), (2, _), (4, _), (5, _), (6, _), (7, _), (8, _), (19, _), (22, _), (23, _), (24, _), (25, _)]) ⟨rfl, rfl, rfl, rfl, rfl, rfl, rfl, rfl, rfl, rfl, rfl, rfl, rfl, trivial⟩ ?_
      refine okc_ret fun a w hs => ?_
      have he : stE s ns = 0 := by simp [stE, hv, hok]
      have hr : stR s ns = wtS s ns := by simp [stR, he]
      exact ret_postS hs (run_results2 hs rfl (k_ragg 1 rfl rfl rfl rfl rfl) (rv_tmp rfl)) g (by rw [hr, he]) (by rw [hr]; exact hg) (sub_drop 3 rfl)

theorem Strike_fn (s : Sp) (M : Args) (hin : s.In M) (hgr : s.book.length ≤ 30 ∧ s.reads.length ≤ 30) (ns : List Int) (pn : Option Addr) (cn : Nat) (hns : IntsIn M pn ns) : Cn Try.prog 52 [spV s, .slice pn ns.length cn] M (fun g : Rn2 => .tuple #[spV (twS (stR s ns) g), .int .i64 (stE s ns)]) (fun g => g.B1 ++ g.B2) (TwOk (stR s ns)) := by
  by_cases hb : beginS s qz [] = 0
  · exact Strike_ok s M hin hgr ns pn cn hns hb
  · have hv : validB s = false := by
      cases hv : validB s with
      | false => rfl
      | true => exact absurd (by rw [begin_nil, ckS, if_pos hv]) hb
    have he : stE s ns = 10 := by simp [stE, hv]
    have hr : stR s ns = zS := by simp [stR, he]
    have hbe : beginS s qz [] = 10 := by rw [begin_nil]; simp [ckS, hv]
    have h := Strike_no s M hin hgr ns pn cn hns hb
    rw [hbe] at h
    intro w hM
    refine (h w hM).mono ?_
    rintro e w' ⟨v, rfl, hbl, _, rfl, _⟩
    exact ⟨_, rfl, hbl, zG, by rw [hr, he], by rw [hr]; exact zOk, (fun b cs T h => by cases h), List.nodup_nil⟩

end Go.Proofs.Ytdpnadknaacinaa
end
