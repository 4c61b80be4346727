/-
  SpringChanges: for every spring, reading, line and list of numbers the law returns true, and what came in reads as it did.
  Conditions: none.
-/
import Derived.Test.YtdpnadknaacinaaChanges9
import Derived.Carry

set_option linter.unusedVariables false
set_option linter.unusedSimpArgs false

section
namespace Go.Proofs.Ytdpnadknaacinaa
open Go.Sx Go.Proofs.Ytdpnadknaacinaa.Ty
set_option linter.unusedVariables false
set_option linter.unusedSimpArgs false
set_option maxHeartbeats 2000000


theorem ints_flat6 (l : List Int) : flat (ints l) = true := by
  unfold flat ints; rw [List.all_eq_true]; intro v hv
  obtain ⟨x, _, rfl⟩ := List.mem_map.1 hv
  rfl
theorem ints_lies {M : Args} {keep : Blks} {p : Option Addr} {L : List Int} (h : IntsIn M p L) : (L.length = 0 ∧ ints L = []) ∨ (0 < L.length ∧ ∃ bx ox, p = some ⟨bx, ox, none⟩ ∧ Lies keep M bx ox (ints L)) := by
  obtain ⟨b, off, cs, j, h⟩ := h.row
  rcases Nat.eq_zero_or_pos L.length with h0 | h0
  · have : L = [] := List.length_eq_zero_iff.1 h0
    subst this; exact .inl ⟨rfl, rfl⟩
  · obtain ⟨h1, h2, h3⟩ := h (by intro e; subst e; simp at h0)
    refine .inr ⟨h0, b, off, h1, Lies.arg (List.mem_of_getElem? h2) fun i v hv => ?_⟩
    simp only [ints, List.getElem?_map] at hv
    obtain ⟨x, hx, rfl⟩ := Option.map_eq_some_iff.1 hv
    simpa using h3 i x hx
theorem fill_step {n k : Nat} {v : Value} {cs zs : List Value} {r : List (Nat × Value)} (hv : v.cells = cs.toArray) (hl : cs.length = n) (hz : k * n + n ≤ zs.length) : Instr.fill (fun i => some (i * n, n)) zs.toArray ((k, v) :: r) = Instr.fill (fun i => some (i * n, n)) (setL zs (k * n) cs).toArray r := by
  have hc : ¬ ((v.cells.size ≠ n || k * n + v.cells.size > zs.toArray.size) = true) := by
    simp [hv, hl]; omega
  have hfold : v.cells.zipIdx.foldl (fun (c : Array Value) (p : Value × Nat) => c.setIfInBounds (k * n + p.2) p.1) zs.toArray = (setL zs (k * n) cs).toArray := by
    have := foldl_setL v.cells.toList 0 (k * n) zs
    rw [← Array.foldl_toList]
    simp only [hv, Array.toList_zipIdx, Nat.add_zero] at this ⊢
    rw [this]
  simp only [Instr.fill]
  rw [if_neg hc]
  simp only [hfold]
theorem three_cells {n : Nat} {a b c zs : List Value} (ha : a.length = n) (hb : b.length = n) (hc : c.length = n) (hz : zs.length = 3 * n) : setL (setL (setL zs (0 * n) a) (1 * n) b) (2 * n) c = a ++ (b ++ c) := by
  rw [setL_eq a _ _ (by omega), setL_eq b _ _ (by simp; omega), setL_eq c _ _ (by simp; omega)]
  simp only [Nat.zero_mul, List.take_zero, List.nil_append, Nat.zero_add, Nat.one_mul]
  rw [show (a ++ zs.drop a.length).take n = a by rw [← ha]; simp]
  rw [show (a ++ zs.drop a.length).drop (n + b.length) = zs.drop (n + n) by rw [List.drop_append, List.drop_of_length_le (by omega)]; simp; congr 1; omega]
  rw [show (a ++ b ++ zs.drop (n + n)).take (2 * n) = a ++ b by rw [List.take_append_of_le_length (by simp; omega), List.take_of_length_le (by simp; omega)]]
  rw [show (a ++ b ++ zs.drop (n + n)).drop (2 * n + c.length) = [] by rw [List.drop_eq_nil_iff]; simp; omega]
  simp
section
variable {N : Cx} {w0 : World} {l : Env} {O : Blks} {A : Args} {o : Oper} {ops : Array Oper} {Q : Exit → Act → World → Prop} {is : List Nat} {i d : Nat}
theorem k_slice3N {T e n : Nat} {x y z : Operand} {a b c zs : List Value} (ho : o.op = .buildSlice T 3 #[(0, x), (1, y), (2, z)]) (hx : ev l x = some (.agg a.toArray)) (hy : ev l y = some (.agg b.toArray)) (hz : ev l z = some (.agg c.toArray)) (hT : nth slL T = some (some e)) (hm : nth sizL e = some (some n)) (ha : a.length = n) (hb : b.length = n) (hc : c.length = n) (hzz : lookT zerL e = some zs) (hzl : zs.length = n) (h0 : Nat.blt 0 n = true) (h24 : Nat.ble n 1000 = true) :
    OpV Try.prog N w0 l O A o (Res (fun b' => .slice (some ⟨b', 0, none⟩) 3 3) (fun b' => [(b', a ++ (b ++ c), e)]) (fun _ => True)) :=
  opv_new fun ac w hs => by
    obtain ⟨i, z', hi, hzz, hisz, hzc⟩ := info_of_siz (siz_of hm) (zer_of hzz)
    have h0' : 0 < n := by simpa [Nat.blt_eq] using h0
    have h24' : n ≤ 1000 := Nat.le_of_ble_eq_true h24
    have hle : ¬ (16777216 < 3 * n) := by omega
    have hne : ¬ 3 * n = 0 := by omega
    have hn0 : ¬ n = 0 := by omega
    have hr : (zeroValue e).run Try.prog w = .ok z' w := by simp [zeroValue, typeInfo, hi, hzz]
    have hfill : ∀ zz : Array Value, zz.size = 3 * n → Instr.fill (fun i => some (i * n, n)) zz [(0, .agg a.toArray), (1, .agg b.toArray), (2, .agg c.toArray)] = some (a ++ (b ++ c)).toArray := fun zz hz => by
      have e0 : zz = zz.toList.toArray := by simp
      have hl3 : zz.toList.length = 3 * n := by simpa using hz
      rw [e0, fill_step (cs := a) rfl ha (by omega), fill_step (cs := b) rfl hb (by rw [length_setL]; omega), fill_step (cs := c) rfl hc (by rw [length_setL, length_setL]; omega), three_cells ha hb hc hl3]
      rfl
    simp [execOp, ho, hs.eval hx, hs.eval hy, hs.eval hz, Instr.buildSlice, run_underlying (sl_un (sl_of hT)), Go.Sx.run_sizeOf (siz_of hm), newRow, hr, hne, hn0, hle, hfill]
theorem s_slice3N {T e n : Nat} {x y z : Operand} {a b c zs : List Value} (h0 : ops[i]? = some o) (hg : wantsB ops l o = some true) (hd : o.dst = some d) (hN : Nat.blt d N.n = true) (ho : o.op = .buildSlice T 3 #[(0, x), (1, y), (2, z)]) (hx : ev l x = some (.agg a.toArray)) (hy : ev l y = some (.agg b.toArray)) (hz : ev l z = some (.agg c.toArray)) (hT : nth slL T = some (some e)) (hm : nth sizL e = some (some n)) (ha : a.length = n) (hb : b.length = n) (hc : c.length = n) (hzz : lookT zerL e = some zs) (hzl : zs.length = n) (h0' : Nat.blt 0 n = true) (h24 : Nat.ble n 1000 = true)
    (rest : ∀ b', OkL Try.prog N w0 ops Q is ((d, .slice (some ⟨b', 0, none⟩) 3 3) :: l) ((b', a ++ (b ++ c), e) :: O) A) : OkL Try.prog N w0 ops Q (i :: is) l O A :=
  okl_new h0 hg hd hN (k_slice3N ho hx hy hz hT hm ha hb hc hzz hzl h0' h24) rest
theorem okl_xb {φ : Value → Blks → Prop} (B R : Blks) (ho : ops[i]? = some o) (hg : wantsB ops l o = some true) (hd : o.dst = some d) (hN : Nat.blt d N.n = true)
    (h : OpX Try.prog N w0 l B R A o φ) (hO : O = B ++ R) (rest : ∀ v B', φ v B' → OkL Try.prog N w0 ops Q is ((d, v) :: l) (R ++ B') A) : OkL Try.prog N w0 ops Q (i :: is) l O A :=
  okl_xm [] B R ho hg hd hN h hO fun v B' hφ => okl_perm (show (([] : Blks) ++ (B' ++ R)).Perm (R ++ B') from List.perm_append_comm (l₁ := B') (l₂ := R)) (rest v B' hφ)
end

end Go.Proofs.Ytdpnadknaacinaa
end

section
namespace Go.Proofs.Ytdpnadknaacinaa
open Go.Sx Go.Proofs.Ytdpnadknaacinaa.Ty
set_option linter.unusedVariables false
set_option linter.unusedSimpArgs false
set_option maxHeartbeats 2000000


theorem adE_tw (s : Sp) (g : Rn2) (x : Rd) : adE (twS s g) x = adE s x := rfl
theorem adR_tw (s : Sp) (g h : Rn2) (x : Rd) : twS (adR (twS s g) x) h = twS (adR s x) h := by
  unfold adR; rw [adE_tw]; split <;> rfl
theorem adR_ok (s : Sp) (g : Rn2) (x : Rd) : TwOk (adR (twS s g) x) = TwOk (adR s x) := by
  unfold adR; rw [adE_tw]; split <;> rfl


theorem wlE_tw (s : Sp) (g : Rn2) (y : Ln) : wlE (twS s g) y = wlE s y := rfl
theorem wlR_tw (s : Sp) (g h : Rn2) (y : Ln) : twS (wlR (twS s g) y) h = twS (wlR s y) h := by
  unfold wlR; rw [wlE_tw]; split <;> rfl
theorem wlR_ok (s : Sp) (g : Rn2) (y : Ln) : TwOk (wlR (twS s g) y) = TwOk (wlR s y) := by
  unfold wlR; rw [wlE_tw]; split <;> rfl


theorem stE_tw (s : Sp) (g : Rn2) (ns : List Int) : stE (twS s g) ns = stE s ns := rfl
theorem stR_tw (s : Sp) (g h : Rn2) (ns : List Int) : twS (stR (twS s g) ns) h = twS (stR s ns) h := by
  unfold stR; rw [stE_tw]; split <;> rfl
theorem stR_ok (s : Sp) (g : Rn2) (ns : List Int) : TwOk (stR (twS s g) ns) = TwOk (stR s ns) := by
  unfold stR; rw [stE_tw]; split <;> rfl


def tS (s : Sp) (x : Rd) (y : Ln) (ns : List Int) : Nat → Sp
  | 0 => adR s x
  | 1 => wlR s y
  | _ => stR s ns
def tG (a c l : Rn2) : Nat → Rn2
  | 0 => a
  | 1 => c
  | _ => l
theorem t_len {s : Sp} (hgr : s.book.length ≤ 30 ∧ s.reads.length ≤ 30) (x : Rd) (y : Ln) (ns : List Int) (k : Nat) : (tS s x y ns k).book.length ≤ 1000 ∧ (tS s x y ns k).reads.length ≤ 1000 := by
  match k with
  | 0 =>
    show (adR s x).book.length ≤ 1000 ∧ (adR s x).reads.length ≤ 1000
    unfold adR; split
    · simp [adS, insL]; omega
    · simp [zS]
  | 1 =>
    show (wlR s y).book.length ≤ 1000 ∧ (wlR s y).reads.length ≤ 1000
    unfold wlR; split
    · simp [wlS]; omega
    · simp [zS]
  | k + 2 =>
    show (stR s ns).book.length ≤ 1000 ∧ (stR s ns).reads.length ≤ 1000
    unfold stR; split
    · unfold wtS
      exact ⟨by show s.book.length ≤ _; omega, Nat.le_trans (List.length_filter_le _ _) (by omega)⟩
    · simp [zS]
theorem lit_sub (s : Sp) (x : Rd) (y : Ln) (ns : List Int) (a c l : Rn2) (k : Nat) (hk : k < 3) : sub (spC (twS (adR s x) a) ++ (spC (twS (wlR s y) c) ++ spC (twS (stR s ns) l))) (0 + k * 9) 9 = spC (twS (tS s x y ns k) (tG a c l k)) := by
  match k, hk with
  | 0, _ => rfl
  | 1, _ => rfl
  | 2, _ => rfl
/-- A list's block, whatever it holds. -/
def Dl (B : Blks) (e : TypeId) (p : Option Addr) (n : Nat) : Prop := n = 0 ∨ ∃ b cs, p = some ⟨b, 0, none⟩ ∧ B = [(b, cs, e)] ∧ n * 5 ≤ cs.length
theorem sl_dl {B : Blks} {e : TypeId} {p : Option Addr} {n c : Nat} {xs : List Value} (h : Sl B e 5 p n c xs) : Dl B e p n := by
  obtain ⟨_, ⟨_, h, _⟩ | ⟨b, cs, h1, h2, h3, _, h4, _⟩⟩ := h
  · exact .inl h
  · exact .inr ⟨b, cs, h1, h2, by omega⟩
def bls (Z : Nat → Blks × Blks) : Blks := ((Z 0).1 ++ (Z 0).2) ++ (((Z 1).1 ++ (Z 1).2) ++ ((Z 2).1 ++ (Z 2).2))
def rst (Z : Nat → Blks × Blks) : Nat → Blks
  | 0 => ((Z 1).1 ++ (Z 1).2) ++ ((Z 2).1 ++ (Z 2).2)
  | 1 => ((Z 0).1 ++ (Z 0).2) ++ ((Z 2).1 ++ (Z 2).2)
  | _ => ((Z 0).1 ++ (Z 0).2) ++ ((Z 1).1 ++ (Z 1).2)
def upd (Z : Nat → Blks × Blks) (k : Nat) (v : Blks × Blks) : Nat → Blks × Blks := fun j => if j = k then v else Z j
def ini (a c l : Rn2) : Nat → Blks × Blks
  | 0 => (a.B1, a.B2)
  | 1 => (c.B1, c.B2)
  | _ => (l.B1, l.B2)
theorem bls_perm (Z : Nat → Blks × Blks) (k : Nat) (hk : k < 3) : (bls Z).Perm ((Z k).1 ++ ((Z k).2 ++ rst Z k)) := by
  match k, hk with
  | 0, _ => simp [bls, rst]
  | 1, _ =>
    rw [← List.append_assoc]
    exact List.perm_append_comm_assoc _ _ _
  | 2, _ =>
    show (((Z 0).1 ++ (Z 0).2) ++ (((Z 1).1 ++ (Z 1).2) ++ ((Z 2).1 ++ (Z 2).2))).Perm ((Z 2).1 ++ ((Z 2).2 ++ (((Z 0).1 ++ (Z 0).2) ++ ((Z 1).1 ++ (Z 1).2))))
    rw [← List.append_assoc, ← List.append_assoc (Z 2).1]
    exact List.perm_append_comm
theorem bls_back (Z : Nat → Blks × Blks) (k : Nat) (hk : k < 3) (B C : Blks) : (C ++ (B ++ rst Z k)).Perm (bls (upd Z k (B, C))) := by
  have h := bls_perm (upd Z k (B, C)) k hk
  have h1 : (upd Z k (B, C)) k = (B, C) := by simp [upd]
  have h2 : rst (upd Z k (B, C)) k = rst Z k := by
    match k, hk with
    | 0, _ => rfl
    | 1, _ => rfl
    | 2, _ => rfl
  rw [h1, h2] at h
  exact (List.perm_append_comm_assoc C B _).trans h.symm
theorem pm_in (E G : Blks) {A B : Blks} (h : A.Perm B) : (E ++ (G ++ A)).Perm (E ++ (G ++ B)) := (h.append_left G).append_left E
theorem pm_out (E G : Blks) (x : Nat × List Value × TypeId) (R : Blks) : (E ++ (G ++ ([x] ++ R))).Perm (x :: (E ++ (G ++ R))) := by
  have := List.perm_middle (a := x) (l₁ := E ++ G) (l₂ := R)
  simpa [List.append_assoc] using this
theorem sub_law (E g m a b c d l n : Blks) : (E ++ ((g ++ m) ++ (a ++ (c ++ l)))).Sublist ((((((((E ++ g) ++ m) ++ a) ++ b) ++ c) ++ d) ++ l) ++ n) := by
  simp only [List.append_assoc]
  refine (List.Sublist.refl E).append ((List.Sublist.refl g).append ((List.Sublist.refl m).append ((List.Sublist.refl a).append ?_)))
  exact ((List.Sublist.refl c).append ((List.sublist_append_left l n).trans (List.sublist_append_right d _))).trans (List.sublist_append_right b _)
theorem same2 {r : Sp} {g g' : Rn2} (hl : r.book.length ≤ 1000 ∧ r.reads.length ≤ 1000) (h : TwOk r g) (h' : TwOk r g') : Cn Try.prog 29 [spV (twS r g), spV (twS r g')] (argsOf (g.B1 ++ g.B2) ++ argsOf (g'.B1 ++ g'.B2)) (fun _ : Unit => .bool true) (fun _ => []) (fun _ => True) :=
  same_fn (twS r g') _ g ((tw_in (by omega) (by omega) h').mono (by simp +contextual)) (show (twS r g).In _ from (tw_in (by omega) (by omega) h).mono (by simp +contextual))


theorem IntsIn.mono6 {M M' : Args} {p : Option Addr} {L : List Int} (h : IntsIn M p L) (hM : ∀ x ∈ M, x ∈ M') : IntsIn M' p L := by
  obtain ⟨h1, b, off, cs, j, h2⟩ := h
  refine ⟨h1, ?_⟩
  by_cases hn : L = []
  · exact ⟨0, 0, [], 0, fun hne => absurd hn hne⟩
  · obtain ⟨g1, g2, g3⟩ := h2 hn
    obtain ⟨i, hi⟩ := List.mem_iff_getElem?.1 (hM _ (List.mem_of_getElem? g2))
    exact ⟨b, off, cs, i, fun _ => ⟨g1, hi, g3⟩⟩


theorem ini6_ok {s : Sp} {x : Rd} {y : Ln} {ns : List Int} {a c l : Rn2} (ha : TwOk (adR s x) a) (hc : TwOk (wlR s y) c) (hl : TwOk (stR s ns) l) : ∀ k, k < 3 → Dl (ini a c l k).1 76 (tG a c l k).p1 (tS s x y ns k).book.length ∧ Dl (ini a c l k).2 69 (tG a c l k).p2 (tS s x y ns k).reads.length := by
  intro k hk
  match k, hk with
  | 0, _ => exact ⟨sl_dl ha.1, sl_dl ha.2⟩
  | 1, _ => exact ⟨sl_dl hc.1, sl_dl hc.2⟩
  | 2, _ => exact ⟨sl_dl hl.1, sl_dl hl.2⟩
theorem upd_ok {Z : Nat → Blks × Blks} {a c l : Rn2} {t : Nat → Sp} {k : Nat} {B D : Blks} (h : ∀ k, k < 3 → Dl (Z k).1 76 (tG a c l k).p1 (t k).book.length ∧ Dl (Z k).2 69 (tG a c l k).p2 (t k).reads.length) (hk : Dl B 76 (tG a c l k).p1 (t k).book.length ∧ Dl D 69 (tG a c l k).p2 (t k).reads.length) :
    ∀ j, j < 3 → Dl (upd Z k (B, D) j).1 76 (tG a c l j).p1 (t j).book.length ∧ Dl (upd Z k (B, D) j).2 69 (tG a c l j).p2 (t j).reads.length := by
  intro j hj
  unfold upd
  split
  · subst_vars; exact hk
  · exact h j hj

theorem changes_fn (s : Sp) (M : Args) (hin : s.In M) (hgf : greatB s = false) (hgr : s.book.length ≤ 30 ∧ s.reads.length ≤ 30) (hrc : s.reads.length ≤ s.rc) (x : Rd) (y : Ln) (ns : List Int) (pn : Option Addr) (cn : Nat) (hns : IntsIn M pn ns) (hnl : ns.length ≤ 30) : Cn Try.prog 6 [spV s, rdV x, lnV y, .slice pn ns.length cn] M (fun _ : Unit => .bool true) (fun _ => []) (fun _ => True) := by
  refine fn_intro (N := 149) Try.func6 rfl rfl rfl fun w0 => ?_
  refine okc_seq ?_
  refine okc_region ?_
  refine s_boxA rfl rfl rfl rfl rfl rfl (fun b1 => ?_)
  refine s_boxA rfl rfl rfl rfl rfl rfl (fun b2 => ?_)
  refine s_boxA rfl rfl rfl rfl rfl rfl (fun b3 => ?_)
  refine s_assign rfl rfl rfl rfl rfl rfl ?_
  refine okl_nil ?_
  change OkC Try.prog _ _ _ _ _ _ _
  refine okc_weak (l' := [(0, _), (1, _), (2, _), (3, _), (4, _), (5, _), (6, _), (8, _)]) ⟨rfl, rfl, rfl, rfl, rfl, rfl, rfl, rfl, trivial⟩ ?_
  refine okc_seq ?_
  refine okc_seq ?_
  refine okc_region ?_
  refine s_loadW 2 rfl rfl rfl rfl rfl rfl rfl rfl rfl rfl ?_
  refine s_callb rfl rfl rfl rfl rfl rfl rfl c16 (great_fn s) covers_nil (fun h4 => ?_) (fun h4 => ?_)
  · exact absurd h4 (by simp [hgf]) --closed
  · refine s_move rfl rfl rfl rfl rfl rfl ?_
    refine s_move rfl rfl rfl rfl rfl rfl ?_
    refine s_len rfl rfl rfl rfl rfl rfl rfl ?_
    refine s_cmpS rfl rfl rfl rfl rfl rfl rfl rfl (fun h5 => ?_) (fun h5 => ?_)
    · exact absurd h5 (by simp; omega) --closed
    · refine s_pick_f rfl rfl rfl rfl rfl rfl rfl ?_
      refine okl_nil ?_
      change OkC Try.prog _ _ _ _ _ _ _
      refine okc_weak (l' := [(0, _), (1, _), (2, _), (3, _), (4, _), (5, _), (6, _), (8, _), (34, _)]) ⟨rfl, rfl, rfl, rfl, rfl, rfl, rfl, rfl, rfl, trivial⟩ ?_
      refine okc_cond_f rfl ?_
      refine okc_skip ?_
      change OkC Try.prog _ _ _ _ _ _ _
      refine okc_weak (l' := [(0, _), (1, _), (2, _), (3, _), (4, _), (5, _), (6, _), (8, _), (34, _)]) ⟨rfl, rfl, rfl, rfl, rfl, rfl, rfl, rfl, rfl, trivial⟩ ?_
      refine okc_seq ?_
      refine okc_region ?_
      refine s_loadW 2 rfl rfl rfl rfl rfl rfl rfl rfl rfl rfl ?_
      refine okl_rE rfl rfl rfl rfl (op_call rfl rfl rfl c17 (twin_fn s M hin hgr) covers_all) (fun g hg => ?_)
      have hown := twin_in hin hg
      have hAdd : Cn Try.prog 48 [spV (twS s g), rdV x] (argsOf (g.B1 ++ g.B2)) (fun h : Rn2 => .tuple #[spV (twS (adR s x) h), .int .i64 (adE s x)]) (fun h => h.B1 ++ h.B2) (TwOk (adR s x)) := by have h := Add_fn (twS s g) _ hown hgr x; simp only [adE_tw, adR_tw, adR_ok] at h; exact h
      have hWrite : Cn Try.prog 50 [spV (twS s g), lnV y] (argsOf (g.B1 ++ g.B2)) (fun h : Rn2 => .tuple #[spV (twS (wlR s y) h), .int .i64 (wlE s y)]) (fun h => h.B1 ++ h.B2) (TwOk (wlR s y)) := by have h := Write_fn (twS s g) _ hown hgr y; simp only [wlE_tw, wlR_tw, wlR_ok] at h; exact h
      refine s_slice0 rfl rfl rfl rfl rfl rfl rfl (fun b6 => ?_)
      refine s_move rfl rfl rfl rfl rfl rfl ?_
      refine okl_xb (φ := fun v B => ∃ p c, v = .slice p ns.length c ∧ Sl B 3 1 p ns.length c (ints ns)) [(b6, [], 3)] ([_, _, _] ++ (g.B1 ++ g.B2)) rfl rfl rfl rfl ((k_append (Sl.lit (n := 0) (cs := []) rfl (by decide)) by3 rfl rfl rfl rfl rfl rfl rfl rfl (ints_lies hns) (by simp [ints]) (ints_flat6 _) (by omega)).mono (by rintro v B ⟨p, c, rfl, h⟩; exact ⟨p, c, by rw [Nat.zero_add], by rw [Nat.zero_add] at h; exact h⟩)) rfl (fun v Bm hv => ?_)
      obtain ⟨pm, cm, rfl, hslm⟩ := hv
      have hmine : IntsIn (argsOf ((g.B1 ++ g.B2) ++ Bm)) pm ns := ints_in hslm (by simp +contextual) (by omega)
      have hStr : Cn Try.prog 52 [spV (twS s g), .slice pm ns.length cm] (argsOf ((g.B1 ++ g.B2) ++ Bm)) (fun h : Rn2 => .tuple #[spV (twS (stR s ns) h), .int .i64 (stE s ns)]) (fun h => h.B1 ++ h.B2) (TwOk (stR s ns)) := by have h := Strike_fn (twS s g) (argsOf ((g.B1 ++ g.B2) ++ Bm)) (hown.mono (by intro b hb; obtain ⟨b, cs⟩ := b; obtain ⟨T, h⟩ := mem_argsOf.1 hb; exact mem_argsOf.2 ⟨T, List.mem_append_left _ h⟩)) hgr ns pm cm hmine; simp only [stE_tw, stR_tw, stR_ok] at h; exact h
      refine s_alloc rfl rfl rfl rfl rfl rfl (fun b7 => ?_)
      refine k_storeW 0 rfl rfl rfl rfl rfl rfl rfl rfl rfl rfl rfl rfl ?_
      refine s_assign rfl rfl rfl rfl rfl rfl ?_
      refine okl_nil ?_
      change OkC Try.prog _ _ _ _ _ _ _
      refine okc_weak (l' := [(0, _), (1, _), (2, _), (3, _), (4, _), (5, _), (6, _), (8, _), (9, _), (10, _), (34, _)]) ⟨rfl, rfl, rfl, rfl, rfl, rfl, rfl, rfl, rfl, rfl, rfl, trivial⟩ ?_
      refine okc_seq ?_
      refine okc_region ?_
      refine s_loadW 0 rfl rfl rfl rfl rfl rfl rfl rfl rfl rfl ?_
      refine s_loadW 2 rfl rfl rfl rfl rfl rfl rfl rfl rfl rfl ?_
      refine okl_rE rfl rfl rfl rfl (op_call rfl rfl rfl c48 (hAdd) (covers_grp fun x hx => by simp only [List.mem_append, List.mem_cons, List.append_assoc] at hx ⊢; rcases hx with hx | hx <;> simp [hx])) (fun ga hga => ?_)
      refine s_move rfl rfl rfl rfl rfl rfl ?_
      refine s_extract rfl rfl rfl rfl rfl rfl rfl ?_
      refine s_extract rfl rfl rfl rfl rfl rfl rfl ?_
      refine s_alloc rfl rfl rfl rfl rfl rfl (fun b8 => ?_)
      refine k_storeW 0 rfl rfl rfl rfl rfl rfl rfl rfl rfl rfl rfl rfl ?_
      refine s_assign rfl rfl rfl rfl rfl rfl ?_
      refine okl_nil ?_
      change OkC Try.prog _ _ _ _ _ _ _
      refine okc_weak (l' := [(0, _), (1, _), (2, _), (3, _), (4, _), (5, _), (6, _), (8, _), (9, _), (10, _), (11, _), (12, _), (34, _)]) ⟨rfl, rfl, rfl, rfl, rfl, rfl, rfl, rfl, rfl, rfl, rfl, rfl, rfl, trivial⟩ ?_
      refine okc_seq ?_
      refine okc_region ?_
      refine s_loadW 4 rfl rfl rfl rfl rfl rfl rfl rfl rfl rfl ?_
      refine s_loadW 3 rfl rfl rfl rfl rfl rfl rfl rfl rfl rfl ?_
      refine okl_rE rfl rfl rfl rfl (op_call rfl rfl rfl c49 (rAdd_fn s M hin hgr hrc x) covers_all) (fun gb hgb => ?_)
      refine s_move rfl rfl rfl rfl rfl rfl ?_
      refine s_extract rfl rfl rfl rfl rfl rfl rfl ?_
      refine s_extract rfl rfl rfl rfl rfl rfl rfl ?_
      refine s_alloc rfl rfl rfl rfl rfl rfl (fun b9 => ?_)
      refine k_storeW 0 rfl rfl rfl rfl rfl rfl rfl rfl rfl rfl rfl rfl ?_
      refine s_assign rfl rfl rfl rfl rfl rfl ?_
      refine okl_nil ?_
      change OkC Try.prog _ _ _ _ _ _ _
      refine okc_weak (l' := [(0, _), (1, _), (2, _), (3, _), (4, _), (5, _), (6, _), (8, _), (9, _), (10, _), (11, _), (12, _), (13, _), (14, _), (34, _)]) ⟨rfl, rfl, rfl, rfl, rfl, rfl, rfl, rfl, rfl, rfl, rfl, rfl, rfl, rfl, rfl, trivial⟩ ?_
      refine okc_seq ?_
      refine okc_region ?_
      refine s_loadW 2 rfl rfl rfl rfl rfl rfl rfl rfl rfl rfl ?_
      refine s_loadW 3 rfl rfl rfl rfl rfl rfl rfl rfl rfl rfl ?_
      refine okl_rE rfl rfl rfl rfl (op_call rfl rfl rfl c50 (hWrite) (covers_grp fun x hx => by simp only [List.mem_append, List.mem_cons, List.append_assoc] at hx ⊢; rcases hx with hx | hx <;> simp [hx])) (fun gc hgc => ?_)
      refine s_move rfl rfl rfl rfl rfl rfl ?_
      refine s_extract rfl rfl rfl rfl rfl rfl rfl ?_
      refine s_extract rfl rfl rfl rfl rfl rfl rfl ?_
      refine s_alloc rfl rfl rfl rfl rfl rfl (fun b10 => ?_)
      refine k_storeW 0 rfl rfl rfl rfl rfl rfl rfl rfl rfl rfl rfl rfl ?_
      refine s_assign rfl rfl rfl rfl rfl rfl ?_
      refine okl_nil ?_
      change OkC Try.prog _ _ _ _ _ _ _
      refine okc_weak (l' := [(0, _), (1, _), (2, _), (3, _), (4, _), (5, _), (6, _), (8, _), (9, _), (10, _), (11, _), (12, _), (13, _), (14, _), (15, _), (16, _), (34, _)]) ⟨rfl, rfl, rfl, rfl, rfl, rfl, rfl, rfl, rfl, rfl, rfl, rfl, rfl, rfl, rfl, rfl, rfl, trivial⟩ ?_
      refine okc_seq ?_
      refine okc_region ?_
      refine s_loadW 6 rfl rfl rfl rfl rfl rfl rfl rfl rfl rfl ?_
      refine s_loadW 4 rfl rfl rfl rfl rfl rfl rfl rfl rfl rfl ?_
      refine okl_rE rfl rfl rfl rfl (op_call rfl rfl rfl c51 (rWrite_fn s M hin hgr y) covers_all) (fun gd hgd => ?_)
      refine s_move rfl rfl rfl rfl rfl rfl ?_
      refine s_extract rfl rfl rfl rfl rfl rfl rfl ?_
      refine s_extract rfl rfl rfl rfl rfl rfl rfl ?_
      refine s_alloc rfl rfl rfl rfl rfl rfl (fun b11 => ?_)
      refine k_storeW 0 rfl rfl rfl rfl rfl rfl rfl rfl rfl rfl rfl rfl ?_
      refine s_assign rfl rfl rfl rfl rfl rfl ?_
      refine okl_nil ?_
      change OkC Try.prog _ _ _ _ _ _ _
      refine okc_weak (l' := [(0, _), (1, _), (2, _), (3, _), (4, _), (5, _), (6, _), (8, _), (9, _), (10, _), (11, _), (12, _), (13, _), (14, _), (15, _), (16, _), (17, _), (18, _), (34, _)]) ⟨rfl, rfl, rfl, rfl, rfl, rfl, rfl, rfl, rfl, rfl, rfl, rfl, rfl, rfl, rfl, rfl, rfl, rfl, rfl, trivial⟩ ?_
      refine okc_seq ?_
      refine okc_region ?_
      refine s_loadW 4 rfl rfl rfl rfl rfl rfl rfl rfl rfl rfl ?_
      refine s_move rfl rfl rfl rfl rfl rfl ?_
      refine okl_rE rfl rfl rfl rfl (op_call rfl rfl rfl c52 (hStr) (covers_grp fun x hx => by simp only [List.mem_append, List.mem_cons, List.append_assoc] at hx ⊢; rcases hx with hx | hx | hx <;> simp [hx])) (fun gl hgl => ?_)
      refine s_move rfl rfl rfl rfl rfl rfl ?_
      refine s_extract rfl rfl rfl rfl rfl rfl rfl ?_
      refine s_extract rfl rfl rfl rfl rfl rfl rfl ?_
      refine s_alloc rfl rfl rfl rfl rfl rfl (fun b12 => ?_)
      refine k_storeW 0 rfl rfl rfl rfl rfl rfl rfl rfl rfl rfl rfl rfl ?_
      refine s_assign rfl rfl rfl rfl rfl rfl ?_
      refine okl_nil ?_
      change OkC Try.prog _ _ _ _ _ _ _
      refine okc_weak (l' := [(0, _), (1, _), (2, _), (3, _), (4, _), (5, _), (6, _), (8, _), (9, _), (10, _), (11, _), (12, _), (13, _), (14, _), (15, _), (16, _), (17, _), (18, _), (19, _), (20, _), (34, _)]) ⟨rfl, rfl, rfl, rfl, rfl, rfl, rfl, rfl, rfl, rfl, rfl, rfl, rfl, rfl, rfl, rfl, rfl, rfl, rfl, rfl, rfl, trivial⟩ ?_
      refine okc_seq ?_
      refine okc_region ?_
      refine s_loadW 8 rfl rfl rfl rfl rfl rfl rfl rfl rfl rfl ?_
      refine s_move rfl rfl rfl rfl rfl rfl ?_
      refine okl_rE rfl rfl rfl rfl (op_call rfl rfl rfl c53 (rStrike_fn s M hin hgr ns pn cn hns) covers_all) (fun gn hgn => ?_)
      refine s_move rfl rfl rfl rfl rfl rfl ?_
      refine s_extract rfl rfl rfl rfl rfl rfl rfl ?_
      refine s_extract rfl rfl rfl rfl rfl rfl rfl ?_
      refine s_alloc rfl rfl rfl rfl rfl rfl (fun b13 => ?_)
      refine k_storeW 0 rfl rfl rfl rfl rfl rfl rfl rfl rfl rfl rfl rfl ?_
      refine s_assign rfl rfl rfl rfl rfl rfl ?_
      refine okl_nil ?_
      change OkC Try.prog _ _ _ _ _ _ _
      refine okc_weak (l' := [(0, _), (1, _), (2, _), (3, _), (4, _), (5, _), (6, _), (8, _), (9, _), (10, _), (11, _), (12, _), (13, _), (14, _), (15, _), (16, _), (17, _), (18, _), (19, _), (20, _), (21, _), (22, _), (34, _)]) ⟨rfl, rfl, rfl, rfl, rfl, rfl, rfl, rfl, rfl, rfl, rfl, rfl, rfl, rfl, rfl, rfl, rfl, rfl, rfl, rfl, rfl, rfl, rfl, trivial⟩ ?_
      refine okc_seq ?_
      refine okc_region ?_
      refine s_loadW 5 rfl rfl rfl rfl rfl rfl rfl rfl rfl rfl ?_
      refine s_loadW 4 rfl rfl rfl rfl rfl rfl rfl rfl rfl rfl ?_
      refine s_callv rfl rfl rfl rfl rfl rfl rfl c29 (same2 (t_len hgr x y ns 0) hga hgb) (covers_two (covers_grp fun x hx => by simp only [List.mem_append, List.mem_cons, List.append_assoc] at hx ⊢; rcases hx with hx | hx <;> simp [hx]) (covers_grp fun x hx => by simp only [List.mem_append, List.mem_cons, List.append_assoc] at hx ⊢; rcases hx with hx | hx <;> simp [hx])) ?_
      refine s_move rfl rfl rfl rfl rfl rfl ?_
      refine s_move rfl rfl rfl rfl rfl rfl ?_
      refine s_move rfl rfl rfl rfl rfl rfl ?_
      refine s_cmpS rfl rfl rfl rfl rfl rfl rfl rfl (fun h14 => ?_) (fun h14 => ?_)
      · refine s_pick_t rfl rfl rfl rfl rfl rfl rfl ?_
        refine s_move rfl rfl rfl rfl rfl rfl ?_
        refine s_loadW 3 rfl rfl rfl rfl rfl rfl rfl rfl rfl rfl ?_
        refine s_loadW 2 rfl rfl rfl rfl rfl rfl rfl rfl rfl rfl ?_
        refine s_callv rfl rfl rfl rfl rfl rfl rfl c29 (same2 (t_len hgr x y ns 1) hgc hgd) (covers_two (covers_grp fun x hx => by simp only [List.mem_append, List.mem_cons, List.append_assoc] at hx ⊢; rcases hx with hx | hx <;> simp [hx]) (covers_grp fun x hx => by simp only [List.mem_append, List.mem_cons, List.append_assoc] at hx ⊢; rcases hx with hx | hx <;> simp [hx])) ?_
        refine s_pick_t rfl rfl rfl rfl rfl rfl rfl ?_
        refine s_move rfl rfl rfl rfl rfl rfl ?_
        refine s_move rfl rfl rfl rfl rfl rfl ?_
        refine s_move rfl rfl rfl rfl rfl rfl ?_
        refine s_cmpS rfl rfl rfl rfl rfl rfl rfl rfl (fun h15 => ?_) (fun h15 => ?_)
        · refine s_pick_t rfl rfl rfl rfl rfl rfl rfl ?_
          refine s_move rfl rfl rfl rfl rfl rfl ?_
          refine s_loadW 1 rfl rfl rfl rfl rfl rfl rfl rfl rfl rfl ?_
          refine s_loadW 0 rfl rfl rfl rfl rfl rfl rfl rfl rfl rfl ?_
          refine s_callv rfl rfl rfl rfl rfl rfl rfl c29 (same2 (t_len hgr x y ns 2) hgl hgn) (covers_two (covers_grp fun x hx => by simp only [List.mem_append, List.mem_cons, List.append_assoc] at hx ⊢; rcases hx with hx | hx <;> simp [hx]) (covers_grp fun x hx => by simp only [List.mem_append, List.mem_cons, List.append_assoc] at hx ⊢; rcases hx with hx | hx <;> simp [hx])) ?_
          refine s_pick_t rfl rfl rfl rfl rfl rfl rfl ?_
          refine s_move rfl rfl rfl rfl rfl rfl ?_
          refine s_move rfl rfl rfl rfl rfl rfl ?_
          refine s_move rfl rfl rfl rfl rfl rfl ?_
          refine s_cmpS rfl rfl rfl rfl rfl rfl rfl rfl (fun h16 => ?_) (fun h16 => ?_)
          · refine s_pick_t rfl rfl rfl rfl rfl rfl rfl ?_
            refine s_assign rfl rfl rfl rfl rfl rfl ?_
            refine okl_nil ?_
            change OkC Try.prog _ _ _ _ _ _ _
            refine okc_weak (l' := [(0, _), (1, _), (2, _), (3, _), (4, _), (5, _), (6, _), (8, _), (9, _), (10, _), (11, _), (12, _), (13, _), (14, _), (15, _), (16, _), (17, _), (18, _), (19, _), (20, _), (21, _), (22, _), (23, _), (34, _)]) ⟨rfl, rfl, rfl, rfl, rfl, rfl, rfl, rfl, rfl, rfl, rfl, rfl, rfl, rfl, rfl, rfl, rfl, rfl, rfl, rfl, rfl, rfl, rfl, rfl, trivial⟩ ?_
            refine okc_seq ?_
            refine okc_seq ?_
            refine okc_region ?_
            refine s_loadW 5 rfl rfl rfl rfl rfl rfl rfl rfl rfl rfl ?_
            refine s_loadW 3 rfl rfl rfl rfl rfl rfl rfl rfl rfl rfl ?_
            refine s_loadW 1 rfl rfl rfl rfl rfl rfl rfl rfl rfl rfl ?_
            refine s_slice3N rfl rfl rfl rfl rfl rfl rfl rfl rfl rfl rfl rfl rfl rfl rfl rfl rfl (fun b17 => ?_)
            refine s_len rfl rfl rfl rfl rfl rfl rfl ?_
            refine okl_sub (sub_law [_, _, _, _, _, _, _, _, _, _, _] _ _ _ _ _ _ _ _) ?_
            refine s_move rfl rfl rfl rfl rfl rfl ?_
            refine okl_nil ?_
            change OkC Try.prog _ _ _ _ _ _ _
            refine okc_weak (l' := [(0, _), (1, _), (2, _), (3, _), (4, _), (5, _), (6, _), (8, _), (9, _), (10, _), (11, _), (12, _), (13, _), (14, _), (15, _), (16, _), (17, _), (18, _), (19, _), (20, _), (21, _), (22, _), (23, _), (34, _), (107, _), (108, _), (109, _)]) ⟨rfl, rfl, rfl, rfl, rfl, rfl, rfl, rfl, rfl, rfl, rfl, rfl, rfl, rfl, rfl, rfl, rfl, rfl, rfl, rfl, rfl, rfl, rfl, rfl, rfl, rfl, rfl, trivial⟩ ?_
            refine okc_block ?_
            refine okc_loopH (γ := Nat × (Nat → Blks × Blks)) [(0, _), (1, _), (2, _), (3, _), (4, _), (5, _), (6, _), (8, _), (9, _), (10, _), (11, _), (12, _), (13, _), (14, _), (15, _), (16, _), (17, _), (18, _), (19, _), (20, _), (21, _), (22, _), (23, _), (34, _), (107, _), (108, _)] ⟨rfl, rfl, rfl, rfl, rfl, rfl, rfl, rfl, rfl, rfl, rfl, rfl, rfl, rfl, rfl, rfl, rfl, rfl, rfl, rfl, rfl, rfl, rfl, rfl, rfl, rfl, trivial⟩ [0, 1, 2, 3, 4, 5, 6, 7, 8, 9, 10] [] (by decide) [_, _, _, _, _, _, _, _, _, _, _] ((g.B1 ++ g.B2) ++ Bm) _ rfl (fun z => [(109, .int .i64 (z.1 : Int))]) (fun z => []) (fun z => bls z.2) (fun z => z.1 ≤ 3 ∧ ∀ k, k < 3 → Dl (z.2 k).1 76 (tG ga gc gl k).p1 (tS s x y ns k).book.length ∧ Dl (z.2 k).2 69 (tG ga gc gl k).p2 (tS s x y ns k).reads.length) (fun z => 3 - z.1) (0, ini ga gc gl) ⟨Nat.zero_le _, ini6_ok hga hgc hgl⟩ ⟨rfl, trivial⟩ rfl rfl ?_
            rintro ⟨k, Z⟩ ⟨hk, hZ⟩
            dsimp only at hk hZ ⊢
            change OkC Try.prog _ _ _ _ _ _ _
            refine okc_seq ?_
            refine okc_region ?_
            refine s_cmpS rfl rfl rfl rfl rfl rfl rfl rfl (fun h18 => ?_) (fun h18 => ?_)
            · have hlt : k < 3 := by have hq := h18; simp at hq; omega
              have hsub := lit_sub s x y ns ga gc gl k hlt
              obtain ⟨hD1, hD2⟩ := hZ k hlt
              have hl := t_len hgr x y ns k
              have hpm := bls_perm Z k hlt
              generalize htS : tS s x y ns k = r at hsub hD1 hD2 hl
              generalize htG : tG ga gc gl k = q at hsub hD1 hD2
              obtain ⟨p1, c1, U1, p2, c2, U2⟩ := q
              generalize hz : Z k = zk at hD1 hD2 hpm
              obtain ⟨X1, X2⟩ := zk
              dsimp only at hD1 hD2 hpm
              replace hsub : sub _ (0 + k * 9) 9 = [.int .i64 r.weeks, .int .i64 r.most, .int .i64 r.fall, .int .i64 r.slo, .int .i64 r.shi, .int .i64 r.wlo, .int .i64 r.whi, .slice p1 r.book.length c1, .slice p2 r.reads.length c2] := hsub
              refine okl_nil ?_
              change OkC Try.prog _ _ _ _ _ _ _
              refine okc_weak (l' := [(0, _), (1, _), (2, _), (3, _), (4, _), (5, _), (6, _), (8, _), (9, _), (10, _), (11, _), (12, _), (13, _), (14, _), (15, _), (16, _), (17, _), (18, _), (19, _), (20, _), (21, _), (22, _), (23, _), (34, _), (107, _), (108, _), (109, _), (110, _)]) ⟨rfl, rfl, rfl, rfl, rfl, rfl, rfl, rfl, rfl, rfl, rfl, rfl, rfl, rfl, rfl, rfl, rfl, rfl, rfl, rfl, rfl, rfl, rfl, rfl, rfl, rfl, rfl, rfl, trivial⟩ ?_
              refine okc_seq ?_
              refine okc_cond_t rfl ?_
              refine okc_skip ?_
              change OkC Try.prog _ _ _ _ _ _ _
              refine okc_weak (l' := [(0, _), (1, _), (2, _), (3, _), (4, _), (5, _), (6, _), (8, _), (9, _), (10, _), (11, _), (12, _), (13, _), (14, _), (15, _), (16, _), (17, _), (18, _), (19, _), (20, _), (21, _), (22, _), (23, _), (34, _), (107, _), (108, _), (109, _), (110, _)]) ⟨rfl, rfl, rfl, rfl, rfl, rfl, rfl, rfl, rfl, rfl, rfl, rfl, rfl, rfl, rfl, rfl, rfl, rfl, rfl, rfl, rfl, rfl, rfl, rfl, rfl, rfl, rfl, rfl, trivial⟩ ?_
              refine okc_seq ?_
              refine okc_block ?_
              refine okc_seq ?_
              refine okc_region ?_
              refine s_indexS k rfl rfl rfl rfl rfl rfl rfl rfl rfl rfl (by omega) rfl ?_
              refine s_loadP 0 rfl rfl rfl rfl rfl rfl rfl rfl rfl (by assumption) rfl ?_
              refine s_alloc rfl rfl rfl rfl rfl rfl (fun b19 => ?_)
              refine k_storeW 0 rfl rfl rfl rfl rfl rfl rfl rfl rfl rfl rfl rfl ?_
              refine okl_nil ?_
              change OkC Try.prog _ _ _ _ _ _ _
              refine okc_weak (l' := [(0, _), (1, _), (2, _), (3, _), (4, _), (5, _), (6, _), (8, _), (9, _), (10, _), (11, _), (12, _), (13, _), (14, _), (15, _), (16, _), (17, _), (18, _), (19, _), (20, _), (21, _), (22, _), (23, _), (25, _), (34, _), (107, _), (108, _), (109, _), (110, _)]) ⟨rfl, rfl, rfl, rfl, rfl, rfl, rfl, rfl, rfl, rfl, rfl, rfl, rfl, rfl, rfl, rfl, rfl, rfl, rfl, rfl, rfl, rfl, rfl, rfl, rfl, rfl, rfl, rfl, rfl, trivial⟩ ?_
              refine okc_seq ?_
              refine okc_seq ?_
              refine okc_region ?_
              refine s_field rfl rfl rfl rfl rfl rfl rfl rfl ?_
              refine s_load1 0 rfl rfl rfl rfl rfl rfl rfl rfl rfl ?_
              refine s_len rfl rfl rfl rfl rfl rfl rfl ?_
              refine okl_perm (pm_in [_, _, _, _, _, _, _, _, _, _, _, _] ((g.B1 ++ g.B2) ++ Bm) hpm) ?_
              refine s_move rfl rfl rfl rfl rfl rfl ?_
              refine okl_nil ?_
              change OkC Try.prog _ _ _ _ _ _ _
              refine okc_weak (l' := [(0, _), (1, _), (2, _), (3, _), (4, _), (5, _), (6, _), (8, _), (9, _), (10, _), (11, _), (12, _), (13, _), (14, _), (15, _), (16, _), (17, _), (18, _), (19, _), (20, _), (21, _), (22, _), (23, _), (25, _), (34, _), (107, _), (108, _), (109, _), (110, _), (115, _), (116, _)]) ⟨rfl, rfl, rfl, rfl, rfl, rfl, rfl, rfl, rfl, rfl, rfl, rfl, rfl, rfl, rfl, rfl, rfl, rfl, rfl, rfl, rfl, rfl, rfl, rfl, rfl, rfl, rfl, rfl, rfl, rfl, rfl, trivial⟩ ?_
              refine okc_block ?_
              refine okc_loopH (γ := Nat × Blks) [(0, _), (1, _), (2, _), (3, _), (4, _), (5, _), (6, _), (8, _), (9, _), (10, _), (11, _), (12, _), (13, _), (14, _), (15, _), (16, _), (17, _), (18, _), (19, _), (20, _), (21, _), (22, _), (23, _), (25, _), (34, _), (107, _), (108, _), (109, _), (110, _), (115, _)] ⟨rfl, rfl, rfl, rfl, rfl, rfl, rfl, rfl, rfl, rfl, rfl, rfl, rfl, rfl, rfl, rfl, rfl, rfl, rfl, rfl, rfl, rfl, rfl, rfl, rfl, rfl, rfl, rfl, rfl, rfl, trivial⟩ [0, 1, 2, 3, 4, 5, 6, 7, 8, 9, 10, 11] [] (by decide) [_, _, _, _, _, _, _, _, _, _, _, _] ((g.B1 ++ g.B2) ++ Bm) _ rfl (fun z => [(116, .int .i64 (z.1 : Int))]) (fun z => []) (fun z => z.2 ++ (X2 ++ rst Z k)) (fun z => z.1 ≤ r.book.length ∧ Dl z.2 76 p1 r.book.length) (fun z => r.book.length - z.1) (0, X1) ⟨Nat.zero_le _, hD1⟩ ⟨rfl, trivial⟩ rfl rfl ?_
              rintro ⟨i, B⟩ ⟨hi, hB⟩
              dsimp only at hi hB ⊢
              change OkC Try.prog _ _ _ _ _ _ _
              refine okc_seq ?_
              refine okc_region ?_
              refine s_cmpS rfl rfl rfl rfl rfl rfl rfl rfl (fun h20 => ?_) (fun h20 => ?_)
              · have hlt2 : i < r.book.length := by simpa [twS] using h20
                refine okl_nil ?_
                change OkC Try.prog _ _ _ _ _ _ _
                refine okc_weak (l' := [(0, _), (1, _), (2, _), (3, _), (4, _), (5, _), (6, _), (8, _), (9, _), (10, _), (11, _), (12, _), (13, _), (14, _), (15, _), (16, _), (17, _), (18, _), (19, _), (20, _), (21, _), (22, _), (23, _), (25, _), (34, _), (107, _), (108, _), (109, _), (110, _), (115, _), (116, _), (117, _)]) ⟨rfl, rfl, rfl, rfl, rfl, rfl, rfl, rfl, rfl, rfl, rfl, rfl, rfl, rfl, rfl, rfl, rfl, rfl, rfl, rfl, rfl, rfl, rfl, rfl, rfl, rfl, rfl, rfl, rfl, rfl, rfl, rfl, trivial⟩ ?_
                refine okc_seq ?_
                refine okc_cond_t rfl ?_
                refine okc_skip ?_
                change OkC Try.prog _ _ _ _ _ _ _
                refine okc_weak (l' := [(0, _), (1, _), (2, _), (3, _), (4, _), (5, _), (6, _), (8, _), (9, _), (10, _), (11, _), (12, _), (13, _), (14, _), (15, _), (16, _), (17, _), (18, _), (19, _), (20, _), (21, _), (22, _), (23, _), (25, _), (34, _), (107, _), (108, _), (109, _), (110, _), (115, _), (116, _), (117, _)]) ⟨rfl, rfl, rfl, rfl, rfl, rfl, rfl, rfl, rfl, rfl, rfl, rfl, rfl, rfl, rfl, rfl, rfl, rfl, rfl, rfl, rfl, rfl, rfl, rfl, rfl, rfl, rfl, rfl, rfl, rfl, rfl, rfl, trivial⟩ ?_
                refine okc_seq ?_
                refine okc_block ?_
                refine okc_seq ?_
                refine okc_region ?_
                refine s_move rfl rfl rfl rfl rfl rfl ?_
                refine s_assign rfl rfl rfl rfl rfl rfl ?_
                refine okl_nil ?_
                change OkC Try.prog _ _ _ _ _ _ _
                refine okc_weak (l' := [(0, _), (1, _), (2, _), (3, _), (4, _), (5, _), (6, _), (8, _), (9, _), (10, _), (11, _), (12, _), (13, _), (14, _), (15, _), (16, _), (17, _), (18, _), (19, _), (20, _), (21, _), (22, _), (23, _), (25, _), (26, _), (34, _), (107, _), (108, _), (109, _), (110, _), (115, _), (116, _), (117, _)]) ⟨rfl, rfl, rfl, rfl, rfl, rfl, rfl, rfl, rfl, rfl, rfl, rfl, rfl, rfl, rfl, rfl, rfl, rfl, rfl, rfl, rfl, rfl, rfl, rfl, rfl, rfl, rfl, rfl, rfl, rfl, rfl, rfl, rfl, trivial⟩ ?_
                refine okc_region ?_
                refine s_field rfl rfl rfl rfl rfl rfl rfl rfl ?_
                rcases hB with h0 | ⟨bq, cq, hp, hBq, hlq⟩
                · omega
                subst hp
                subst hBq
                refine okl_perm (pm_out [_, _, _, _, _, _, _, _, _, _, _, _] ((g.B1 ++ g.B2) ++ Bm) _ _) ?_
                refine s_load1 1 rfl rfl rfl rfl rfl rfl rfl rfl rfl ?_
                refine s_move rfl rfl rfl rfl rfl rfl ?_
                refine s_indexS i rfl rfl rfl rfl rfl rfl rfl rfl rfl rfl (by omega) rfl ?_
                refine s_field rfl rfl rfl rfl rfl rfl rfl rfl ?_
                refine k_store 0 rfl rfl rfl rfl rfl rfl rfl rfl rfl rfl (Nat.ble_eq_true_of_le (by show _ ≤ cq.length; omega)) rfl ?_
                refine okl_perm (pm_out [_, _, _, _, _, _, _, _, _, _, _, _] ((g.B1 ++ g.B2) ++ Bm) _ _).symm ?_
                refine okl_nil ?_
                change OkC Try.prog _ _ _ _ _ _ _
                refine okc_weak (l' := [(0, _), (1, _), (2, _), (3, _), (4, _), (5, _), (6, _), (8, _), (9, _), (10, _), (11, _), (12, _), (13, _), (14, _), (15, _), (16, _), (17, _), (18, _), (19, _), (20, _), (21, _), (22, _), (23, _), (25, _), (26, _), (34, _), (107, _), (108, _), (109, _), (110, _), (115, _), (116, _), (117, _)]) ⟨rfl, rfl, rfl, rfl, rfl, rfl, rfl, rfl, rfl, rfl, rfl, rfl, rfl, rfl, rfl, rfl, rfl, rfl, rfl, rfl, rfl, rfl, rfl, rfl, rfl, rfl, rfl, rfl, rfl, rfl, rfl, rfl, rfl, trivial⟩ ?_
                refine okc_region ?_
                refine s_add rfl rfl rfl rfl rfl rfl rfl (by omega) ?_
                refine s_move rfl rfl rfl rfl rfl rfl ?_
                refine okl_nil ?_
                refine fun a w hs => ⟨(i + 1, [(bq, setL cq (0 + i * 5 + 2) [.int .i64 (-7)], 76)]), ⟨hlt2, .inr ⟨bq, _, rfl, rfl, by rw [length_setL]; exact hlq⟩⟩, by show _ - (i + 1) < _ - i; omega, ?_⟩
                exact St.pickG (FE := [_, _, _, _, _, _, _, _, _, _, _, _]) (G := ((g.B1 ++ g.B2) ++ Bm) ++ ([(bq, setL cq (0 + i * 5 + 2) [.int .i64 (-7)], 76)] ++ (X2 ++ rst Z k))) (O' := [_, _, _, _, _, _, _, _, _, _, _, _]) hs ⟨rfl, rfl, rfl, rfl, rfl, rfl, rfl, rfl, rfl, rfl, rfl, rfl, rfl, rfl, rfl, rfl, rfl, rfl, rfl, rfl, rfl, rfl, rfl, rfl, rfl, rfl, rfl, rfl, rfl, rfl, rfl, trivial⟩ [0, 1, 2, 3, 4, 5, 6, 7, 8, 9, 10, 11] (by decide) (rfl)
              · refine okl_nil ?_
                change OkC Try.prog _ _ _ _ _ _ _
                refine okc_weak (l' := [(0, _), (1, _), (2, _), (3, _), (4, _), (5, _), (6, _), (8, _), (9, _), (10, _), (11, _), (12, _), (13, _), (14, _), (15, _), (16, _), (17, _), (18, _), (19, _), (20, _), (21, _), (22, _), (23, _), (25, _), (34, _), (107, _), (108, _), (109, _), (110, _), (115, _), (116, _), (117, _)]) ⟨rfl, rfl, rfl, rfl, rfl, rfl, rfl, rfl, rfl, rfl, rfl, rfl, rfl, rfl, rfl, rfl, rfl, rfl, rfl, rfl, rfl, rfl, rfl, rfl, rfl, rfl, rfl, rfl, rfl, rfl, rfl, rfl, trivial⟩ ?_
                refine okc_seq ?_
                refine okc_cond_f rfl ?_
                refine okc_exit ?_
                change OkC Try.prog _ _ _ _ _ _ _
                refine okc_weak (l' := [(0, _), (1, _), (2, _), (3, _), (4, _), (5, _), (6, _), (8, _), (9, _), (10, _), (11, _), (12, _), (13, _), (14, _), (15, _), (16, _), (17, _), (18, _), (19, _), (20, _), (21, _), (22, _), (23, _), (25, _), (34, _), (107, _), (108, _), (109, _), (110, _), (115, _), (116, _), (117, _)]) ⟨rfl, rfl, rfl, rfl, rfl, rfl, rfl, rfl, rfl, rfl, rfl, rfl, rfl, rfl, rfl, rfl, rfl, rfl, rfl, rfl, rfl, rfl, rfl, rfl, rfl, rfl, rfl, rfl, rfl, rfl, rfl, rfl, trivial⟩ ?_
                refine okc_seq ?_
                refine okc_region ?_
                refine s_field rfl rfl rfl rfl rfl rfl rfl rfl ?_
                refine s_load1 0 rfl rfl rfl rfl rfl rfl rfl rfl rfl ?_
                refine s_len rfl rfl rfl rfl rfl rfl rfl ?_
                refine okl_perm (pm_in [_, _, _, _, _, _, _, _, _, _, _, _] ((g.B1 ++ g.B2) ++ Bm) (List.perm_append_comm_assoc B X2 _)) ?_
                refine s_move rfl rfl rfl rfl rfl rfl ?_
                refine okl_nil ?_
                change OkC Try.prog _ _ _ _ _ _ _
                refine okc_weak (l' := [(0, _), (1, _), (2, _), (3, _), (4, _), (5, _), (6, _), (8, _), (9, _), (10, _), (11, _), (12, _), (13, _), (14, _), (15, _), (16, _), (17, _), (18, _), (19, _), (20, _), (21, _), (22, _), (23, _), (25, _), (34, _), (107, _), (108, _), (109, _), (110, _), (115, _), (116, _), (117, _), (127, _), (128, _)]) ⟨rfl, rfl, rfl, rfl, rfl, rfl, rfl, rfl, rfl, rfl, rfl, rfl, rfl, rfl, rfl, rfl, rfl, rfl, rfl, rfl, rfl, rfl, rfl, rfl, rfl, rfl, rfl, rfl, rfl, rfl, rfl, rfl, rfl, rfl, trivial⟩ ?_
                refine okc_block ?_
                refine okc_loopH (γ := Nat × Blks) [(0, _), (1, _), (2, _), (3, _), (4, _), (5, _), (6, _), (8, _), (9, _), (10, _), (11, _), (12, _), (13, _), (14, _), (15, _), (16, _), (17, _), (18, _), (19, _), (20, _), (21, _), (22, _), (23, _), (25, _), (34, _), (107, _), (108, _), (109, _), (110, _), (115, _), (116, _), (117, _), (127, _)] ⟨rfl, rfl, rfl, rfl, rfl, rfl, rfl, rfl, rfl, rfl, rfl, rfl, rfl, rfl, rfl, rfl, rfl, rfl, rfl, rfl, rfl, rfl, rfl, rfl, rfl, rfl, rfl, rfl, rfl, rfl, rfl, rfl, rfl, trivial⟩ [0, 1, 2, 3, 4, 5, 6, 7, 8, 9, 10, 11] [] (by decide) [_, _, _, _, _, _, _, _, _, _, _, _] ((g.B1 ++ g.B2) ++ Bm) _ rfl (fun z => [(128, .int .i64 (z.1 : Int))]) (fun z => []) (fun z => z.2 ++ (B ++ rst Z k)) (fun z => z.1 ≤ r.reads.length ∧ Dl z.2 69 p2 r.reads.length) (fun z => r.reads.length - z.1) (0, X2) ⟨Nat.zero_le _, hD2⟩ ⟨rfl, trivial⟩ rfl rfl ?_
                rintro ⟨j, D⟩ ⟨hj, hD⟩
                dsimp only at hj hD ⊢
                change OkC Try.prog _ _ _ _ _ _ _
                refine okc_seq ?_
                refine okc_region ?_
                refine s_cmpS rfl rfl rfl rfl rfl rfl rfl rfl (fun h21 => ?_) (fun h21 => ?_)
                · have hlt3 : j < r.reads.length := by simpa [twS] using h21
                  refine okl_nil ?_
                  change OkC Try.prog _ _ _ _ _ _ _
                  refine okc_weak (l' := [(0, _), (1, _), (2, _), (3, _), (4, _), (5, _), (6, _), (8, _), (9, _), (10, _), (11, _), (12, _), (13, _), (14, _), (15, _), (16, _), (17, _), (18, _), (19, _), (20, _), (21, _), (22, _), (23, _), (25, _), (34, _), (107, _), (108, _), (109, _), (110, _), (115, _), (116, _), (117, _), (127, _), (128, _), (129, _)]) ⟨rfl, rfl, rfl, rfl, rfl, rfl, rfl, rfl, rfl, rfl, rfl, rfl, rfl, rfl, rfl, rfl, rfl, rfl, rfl, rfl, rfl, rfl, rfl, rfl, rfl, rfl, rfl, rfl, rfl, rfl, rfl, rfl, rfl, rfl, rfl, trivial⟩ ?_
                  refine okc_seq ?_
                  refine okc_cond_t rfl ?_
                  refine okc_skip ?_
                  change OkC Try.prog _ _ _ _ _ _ _
                  refine okc_weak (l' := [(0, _), (1, _), (2, _), (3, _), (4, _), (5, _), (6, _), (8, _), (9, _), (10, _), (11, _), (12, _), (13, _), (14, _), (15, _), (16, _), (17, _), (18, _), (19, _), (20, _), (21, _), (22, _), (23, _), (25, _), (34, _), (107, _), (108, _), (109, _), (110, _), (115, _), (116, _), (117, _), (127, _), (128, _), (129, _)]) ⟨rfl, rfl, rfl, rfl, rfl, rfl, rfl, rfl, rfl, rfl, rfl, rfl, rfl, rfl, rfl, rfl, rfl, rfl, rfl, rfl, rfl, rfl, rfl, rfl, rfl, rfl, rfl, rfl, rfl, rfl, rfl, rfl, rfl, rfl, rfl, trivial⟩ ?_
                  refine okc_seq ?_
                  refine okc_block ?_
                  refine okc_seq ?_
                  refine okc_region ?_
                  refine s_move rfl rfl rfl rfl rfl rfl ?_
                  refine s_assign rfl rfl rfl rfl rfl rfl ?_
                  refine okl_nil ?_
                  change OkC Try.prog _ _ _ _ _ _ _
                  refine okc_weak (l' := [(0, _), (1, _), (2, _), (3, _), (4, _), (5, _), (6, _), (8, _), (9, _), (10, _), (11, _), (12, _), (13, _), (14, _), (15, _), (16, _), (17, _), (18, _), (19, _), (20, _), (21, _), (22, _), (23, _), (25, _), (27, _), (34, _), (107, _), (108, _), (109, _), (110, _), (115, _), (116, _), (117, _), (127, _), (128, _), (129, _)]) ⟨rfl, rfl, rfl, rfl, rfl, rfl, rfl, rfl, rfl, rfl, rfl, rfl, rfl, rfl, rfl, rfl, rfl, rfl, rfl, rfl, rfl, rfl, rfl, rfl, rfl, rfl, rfl, rfl, rfl, rfl, rfl, rfl, rfl, rfl, rfl, rfl, trivial⟩ ?_
                  refine okc_region ?_
                  refine s_field rfl rfl rfl rfl rfl rfl rfl rfl ?_
                  rcases hD with h0 | ⟨bu, cu, hp, hBq, hlq⟩
                  · omega
                  subst hp
                  subst hBq
                  refine okl_perm (pm_out [_, _, _, _, _, _, _, _, _, _, _, _] ((g.B1 ++ g.B2) ++ Bm) _ _) ?_
                  refine s_load1 1 rfl rfl rfl rfl rfl rfl rfl rfl rfl ?_
                  refine s_move rfl rfl rfl rfl rfl rfl ?_
                  refine s_indexS j rfl rfl rfl rfl rfl rfl rfl rfl rfl rfl (by omega) rfl ?_
                  refine s_field rfl rfl rfl rfl rfl rfl rfl rfl ?_
                  refine k_store 0 rfl rfl rfl rfl rfl rfl rfl rfl rfl rfl (Nat.ble_eq_true_of_le (by show _ ≤ cu.length; omega)) rfl ?_
                  refine okl_perm (pm_out [_, _, _, _, _, _, _, _, _, _, _, _] ((g.B1 ++ g.B2) ++ Bm) _ _).symm ?_
                  refine okl_nil ?_
                  change OkC Try.prog _ _ _ _ _ _ _
                  refine okc_weak (l' := [(0, _), (1, _), (2, _), (3, _), (4, _), (5, _), (6, _), (8, _), (9, _), (10, _), (11, _), (12, _), (13, _), (14, _), (15, _), (16, _), (17, _), (18, _), (19, _), (20, _), (21, _), (22, _), (23, _), (25, _), (27, _), (34, _), (107, _), (108, _), (109, _), (110, _), (115, _), (116, _), (117, _), (127, _), (128, _), (129, _)]) ⟨rfl, rfl, rfl, rfl, rfl, rfl, rfl, rfl, rfl, rfl, rfl, rfl, rfl, rfl, rfl, rfl, rfl, rfl, rfl, rfl, rfl, rfl, rfl, rfl, rfl, rfl, rfl, rfl, rfl, rfl, rfl, rfl, rfl, rfl, rfl, rfl, trivial⟩ ?_
                  refine okc_region ?_
                  refine s_add rfl rfl rfl rfl rfl rfl rfl (by omega) ?_
                  refine s_move rfl rfl rfl rfl rfl rfl ?_
                  refine okl_nil ?_
                  refine fun a w hs => ⟨(j + 1, [(bu, setL cu (0 + j * 5 + 0) [.int .i64 (-7)], 69)]), ⟨hlt3, .inr ⟨bu, _, rfl, rfl, by rw [length_setL]; exact hlq⟩⟩, by show _ - (j + 1) < _ - j; omega, ?_⟩
                  exact St.pickG (FE := [_, _, _, _, _, _, _, _, _, _, _, _]) (G := ((g.B1 ++ g.B2) ++ Bm) ++ ([(bu, setL cu (0 + j * 5 + 0) [.int .i64 (-7)], 69)] ++ (B ++ rst Z k))) (O' := [_, _, _, _, _, _, _, _, _, _, _, _]) hs ⟨rfl, rfl, rfl, rfl, rfl, rfl, rfl, rfl, rfl, rfl, rfl, rfl, rfl, rfl, rfl, rfl, rfl, rfl, rfl, rfl, rfl, rfl, rfl, rfl, rfl, rfl, rfl, rfl, rfl, rfl, rfl, rfl, rfl, rfl, trivial⟩ [0, 1, 2, 3, 4, 5, 6, 7, 8, 9, 10, 11] (by decide) (rfl)
                · refine okl_nil ?_
                  change OkC Try.prog _ _ _ _ _ _ _
                  refine okc_weak (l' := [(0, _), (1, _), (2, _), (3, _), (4, _), (5, _), (6, _), (8, _), (9, _), (10, _), (11, _), (12, _), (13, _), (14, _), (15, _), (16, _), (17, _), (18, _), (19, _), (20, _), (21, _), (22, _), (23, _), (25, _), (34, _), (107, _), (108, _), (109, _), (110, _), (115, _), (116, _), (117, _), (127, _), (128, _), (129, _)]) ⟨rfl, rfl, rfl, rfl, rfl, rfl, rfl, rfl, rfl, rfl, rfl, rfl, rfl, rfl, rfl, rfl, rfl, rfl, rfl, rfl, rfl, rfl, rfl, rfl, rfl, rfl, rfl, rfl, rfl, rfl, rfl, rfl, rfl, rfl, rfl, trivial⟩ ?_
                  refine okc_seq ?_
                  refine okc_cond_f rfl ?_
                  refine okc_exit ?_
                  change OkC Try.prog _ _ _ _ _ _ _
                  refine okc_weak (l' := [(0, _), (1, _), (2, _), (3, _), (4, _), (5, _), (6, _), (8, _), (9, _), (10, _), (11, _), (12, _), (13, _), (14, _), (15, _), (16, _), (17, _), (18, _), (19, _), (20, _), (21, _), (22, _), (23, _), (25, _), (34, _), (107, _), (108, _), (109, _), (110, _), (115, _), (116, _), (117, _), (127, _), (128, _), (129, _)]) ⟨rfl, rfl, rfl, rfl, rfl, rfl, rfl, rfl, rfl, rfl, rfl, rfl, rfl, rfl, rfl, rfl, rfl, rfl, rfl, rfl, rfl, rfl, rfl, rfl, rfl, rfl, rfl, rfl, rfl, rfl, rfl, rfl, rfl, rfl, rfl, trivial⟩ ?_
                  refine okc_region ?_
                  refine s_add rfl rfl rfl rfl rfl rfl rfl (by omega) ?_
                  refine okl_perm (pm_in [_, _, _, _, _, _, _, _, _, _, _, _] _ (bls_back Z k hlt B D)) ?_
                  refine s_move rfl rfl rfl rfl rfl rfl ?_
                  refine okl_nil ?_
                  refine fun a w hs => ⟨(k + 1, upd Z k (B, D)), ⟨hlt, upd_ok hZ (by rw [htG, htS]; exact ⟨hB, hD⟩)⟩, by show 3 - (k + 1) < 3 - k; omega, ?_⟩
                  exact St.pickG (FE := [_, _, _, _, _, _, _, _, _, _, _, _]) (G := ((g.B1 ++ g.B2) ++ Bm) ++ bls (upd Z k (B, D))) (O' := [_, _, _, _, _, _, _, _, _, _, _]) hs ⟨rfl, rfl, rfl, rfl, rfl, rfl, rfl, rfl, rfl, rfl, rfl, rfl, rfl, rfl, rfl, rfl, rfl, rfl, rfl, rfl, rfl, rfl, rfl, rfl, rfl, rfl, rfl, trivial⟩ [1, 2, 3, 4, 5, 6, 7, 8, 9, 10, 11] (by decide) (rfl)
            · refine okl_nil ?_
              change OkC Try.prog _ _ _ _ _ _ _
              refine okc_weak (l' := [(0, _), (1, _), (2, _), (3, _), (4, _), (5, _), (6, _), (8, _), (9, _), (10, _), (11, _), (12, _), (13, _), (14, _), (15, _), (16, _), (17, _), (18, _), (19, _), (20, _), (21, _), (22, _), (23, _), (34, _), (107, _), (108, _), (109, _), (110, _)]) ⟨rfl, rfl, rfl, rfl, rfl, rfl, rfl, rfl, rfl, rfl, rfl, rfl, rfl, rfl, rfl, rfl, rfl, rfl, rfl, rfl, rfl, rfl, rfl, rfl, rfl, rfl, rfl, rfl, trivial⟩ ?_
              refine okc_seq ?_
              refine okc_cond_f rfl ?_
              refine okc_exit ?_
              change OkC Try.prog _ _ _ _ _ _ _
              refine okc_weak (l' := [(0, _), (1, _), (2, _), (3, _), (4, _), (5, _), (6, _), (8, _), (9, _), (10, _), (11, _), (12, _), (13, _), (14, _), (15, _), (16, _), (17, _), (18, _), (19, _), (20, _), (21, _), (22, _), (23, _), (34, _), (107, _), (108, _), (109, _), (110, _)]) ⟨rfl, rfl, rfl, rfl, rfl, rfl, rfl, rfl, rfl, rfl, rfl, rfl, rfl, rfl, rfl, rfl, rfl, rfl, rfl, rfl, rfl, rfl, rfl, rfl, rfl, rfl, rfl, rfl, trivial⟩ ?_
              refine okc_seq ?_
              refine okc_region ?_
              refine s_move rfl rfl rfl rfl rfl rfl ?_
              refine s_move rfl rfl rfl rfl rfl rfl ?_
              refine s_loadW 7 rfl rfl rfl rfl rfl rfl rfl rfl rfl rfl ?_
              refine s_loadW 10 rfl rfl rfl rfl rfl rfl rfl rfl rfl rfl ?_
              refine s_callv rfl rfl rfl rfl rfl rfl rfl c29 (same_fn s (argsOf (g.B1 ++ g.B2) ++ M) g (hin.mono (by simp +contextual)) (hown.mono (by simp +contextual))) (covers_two (covers_grp fun x hx => by simp only [List.mem_append, List.mem_cons, List.append_assoc] at hx ⊢; rcases hx with hx | hx <;> simp [hx]) covers_all) ?_
              refine s_pick_t rfl rfl rfl rfl rfl rfl rfl ?_
              refine s_move rfl rfl rfl rfl rfl rfl ?_
              refine s_move rfl rfl rfl rfl rfl rfl ?_
              refine s_move rfl rfl rfl rfl rfl rfl ?_
              refine s_callb rfl rfl rfl rfl rfl rfl rfl c28 (sameInts_fn (argsOf ((g.B1 ++ g.B2) ++ Bm) ++ M) ns ns pm pn cm cn (hmine.mono6 (by simp +contextual)) (hns.mono6 (by simp +contextual))) (covers_two (covers_grp fun x hx => by simp only [List.mem_append, List.mem_cons, List.append_assoc] at hx ⊢; rcases hx with hx | hx | hx <;> simp [hx]) covers_all) (fun hc => ?_) (fun hc => ?_)
              · refine s_pick_t rfl rfl rfl rfl rfl rfl rfl ?_
                refine s_assign rfl rfl rfl rfl rfl rfl ?_
                refine okl_nil ?_
                change OkC Try.prog _ _ _ _ _ _ _
                refine okc_weak (l' := [(0, _), (1, _), (2, _), (3, _), (4, _), (5, _), (6, _), (8, _), (9, _), (10, _), (11, _), (12, _), (13, _), (14, _), (15, _), (16, _), (17, _), (18, _), (19, _), (20, _), (21, _), (22, _), (23, _), (34, _), (107, _), (108, _), (109, _), (110, _)]) ⟨rfl, rfl, rfl, rfl, rfl, rfl, rfl, rfl, rfl, rfl, rfl, rfl, rfl, rfl, rfl, rfl, rfl, rfl, rfl, rfl, rfl, rfl, rfl, rfl, rfl, rfl, rfl, rfl, trivial⟩ ?_
                refine okc_ret fun a w hs => ?_
                exact ret_v hs (run_results1 hs rfl (rv_tmp rfl)) (rfl)
              · exact absurd hc (by simp)
          · exact absurd h16 (by simp) --closed
        · exact absurd h15 (by simp) --closed
      · exact absurd h14 (by simp) --closed

end Go.Proofs.Ytdpnadknaacinaa
end

section
namespace Go.Proofs.Ytdpnadknaacinaa
open Go.Sx Go.Proofs.Ytdpnadknaacinaa.Ty
set_option linter.unusedVariables false
set_option linter.unusedSimpArgs false
set_option maxHeartbeats 2000000

theorem changes_great (s : Sp) (hg : greatB s = true) (x : Rd) (y : Ln) (pn : Option Addr) (n cn : Nat) : Cn Try.prog 6 [spV s, rdV x, lnV y, .slice pn n cn] [] (fun _ : Unit => .bool true) (fun _ => []) (fun _ => True) := by
  refine fn_intro (N := 149) Try.func6 rfl rfl rfl fun w0 => ?_
  refine okc_seq ?_
  refine okc_region ?_
  refine s_boxA rfl rfl rfl rfl rfl rfl (fun b1 => ?_)
  refine s_boxA rfl rfl rfl rfl rfl rfl (fun b2 => ?_)
  refine s_boxA rfl rfl rfl rfl rfl rfl (fun b3 => ?_)
  refine s_assign rfl rfl rfl rfl rfl rfl ?_
  refine okl_nil ?_
  change OkC Try.prog _ _ _ _ _ _ _
  refine okc_weak (l' := [(0, _), (1, _), (2, _), (3, _), (4, _), (5, _), (6, _), (8, _)]) ⟨rfl, rfl, rfl, rfl, rfl, rfl, rfl, rfl, trivial⟩ ?_
  refine okc_seq ?_
  refine okc_seq ?_
  refine okc_region ?_
  refine s_loadW 2 rfl rfl rfl rfl rfl rfl rfl rfl rfl rfl ?_
  refine s_callb rfl rfl rfl rfl rfl rfl rfl c16 (great_fn s) covers_nil (fun h4 => ?_) (fun h4 => ?_)
  · refine s_move rfl rfl rfl rfl rfl rfl ?_
    refine okl_skip rfl rfl rfl rfl ?_
    refine okl_skip rfl rfl rfl rfl ?_
    refine okl_skip rfl rfl rfl rfl ?_
    refine s_pick_t rfl rfl rfl rfl rfl rfl rfl ?_
    refine okl_nil ?_
    change OkC Try.prog _ _ _ _ _ _ _
    refine okc_weak (l' := [(0, _), (1, _), (2, _), (3, _), (4, _), (5, _), (6, _), (8, _), (34, _)]) ⟨rfl, rfl, rfl, rfl, rfl, rfl, rfl, rfl, rfl, trivial⟩ ?_
    refine okc_cond_t rfl ?_
    refine okc_seq ?_
    refine okc_region ?_
    refine s_assign rfl rfl rfl rfl rfl rfl ?_
    refine okl_nil ?_
    change OkC Try.prog _ _ _ _ _ _ _
    refine okc_weak (l' := [(0, _), (1, _), (2, _), (3, _), (4, _), (5, _), (6, _), (8, _), (34, _)]) ⟨rfl, rfl, rfl, rfl, rfl, rfl, rfl, rfl, rfl, trivial⟩ ?_
    refine okc_ret fun a w hs => ?_
    exact ret_v hs (run_results1 hs rfl (rv_tmp rfl)) (rfl)
  · exact absurd h4 (by simp [hg]) --closed

theorem changes_long (s : Sp) (hg : greatB s = false) (x : Rd) (y : Ln) (pn : Option Addr) (n cn : Nat) (hn : 30 < n) : Cn Try.prog 6 [spV s, rdV x, lnV y, .slice pn n cn] [] (fun _ : Unit => .bool true) (fun _ => []) (fun _ => True) := by
  refine fn_intro (N := 149) Try.func6 rfl rfl rfl fun w0 => ?_
  refine okc_seq ?_
  refine okc_region ?_
  refine s_boxA rfl rfl rfl rfl rfl rfl (fun b5 => ?_)
  refine s_boxA rfl rfl rfl rfl rfl rfl (fun b6 => ?_)
  refine s_boxA rfl rfl rfl rfl rfl rfl (fun b7 => ?_)
  refine s_assign rfl rfl rfl rfl rfl rfl ?_
  refine okl_nil ?_
  change OkC Try.prog _ _ _ _ _ _ _
  refine okc_weak (l' := [(0, _), (1, _), (2, _), (3, _), (4, _), (5, _), (6, _), (8, _)]) ⟨rfl, rfl, rfl, rfl, rfl, rfl, rfl, rfl, trivial⟩ ?_
  refine okc_seq ?_
  refine okc_seq ?_
  refine okc_region ?_
  refine s_loadW 2 rfl rfl rfl rfl rfl rfl rfl rfl rfl rfl ?_
  refine s_callb rfl rfl rfl rfl rfl rfl rfl c16 (great_fn s) covers_nil (fun h8 => ?_) (fun h8 => ?_)
  · exact absurd h8 (by simp [hg]) --closed
  · refine s_move rfl rfl rfl rfl rfl rfl ?_
    refine s_move rfl rfl rfl rfl rfl rfl ?_
    refine s_len rfl rfl rfl rfl rfl rfl rfl ?_
    refine s_cmpS rfl rfl rfl rfl rfl rfl rfl rfl (fun h9 => ?_) (fun h9 => ?_)
    · refine s_pick_f rfl rfl rfl rfl rfl rfl rfl ?_
      refine okl_nil ?_
      change OkC Try.prog _ _ _ _ _ _ _
      refine okc_weak (l' := [(0, _), (1, _), (2, _), (3, _), (4, _), (5, _), (6, _), (8, _), (34, _)]) ⟨rfl, rfl, rfl, rfl, rfl, rfl, rfl, rfl, rfl, trivial⟩ ?_
      refine okc_cond_t rfl ?_
      refine okc_seq ?_
      refine okc_region ?_
      refine s_assign rfl rfl rfl rfl rfl rfl ?_
      refine okl_nil ?_
      change OkC Try.prog _ _ _ _ _ _ _
      refine okc_weak (l' := [(0, _), (1, _), (2, _), (3, _), (4, _), (5, _), (6, _), (8, _), (34, _)]) ⟨rfl, rfl, rfl, rfl, rfl, rfl, rfl, rfl, rfl, trivial⟩ ?_
      refine okc_ret fun a w hs => ?_
      exact ret_v hs (run_results1 hs rfl (rv_tmp rfl)) (rfl)
    · exact absurd h9 (by simp; omega) --closed

open Go.ChangeShapes Go.WideShapes Go.ChangeAt Go.RowKit
set_option maxRecDepth 100000 in
theorem open_reading6 {H : Type} {enc : TypeId × Value → H} {w : World} {base : Nat} {spare : Nat → Bool} {held : Bool} {v : Value} {d : DataW H} {ps : List MemPlace} (hv : Value.okWide Try.prog w .any base 69 v) (h : DataW.Trod enc Try.prog w 0 spare held 69 v d ps) : ∃ x : Rd, v = rdV x := by
  obtain ⟨cs, rfl, hcs⟩ := okWide_struct Try.underlying69 hv
  obtain ⟨fuel, h⟩ := h
  have h' : DataW.trod enc Try.prog w 0 spare held fuel 69 cs.toList = some (d, ps) := h
  obtain ⟨r, hr⟩ := rd_reading h'
  refine ⟨r, ?_⟩
  show Value.agg cs = Value.agg _
  congr 1
  apply Array.ext'
  rw [hr]
theorem changes_any (s : Sp) (M : Args) (W : World) (hc : Came W M s) (hrc : s.reads.length ≤ s.rc) (x : Rd) (y : Ln) (ns : List Int) (pn : Option Addr) (cn : Nat) (M2 : Args) (hM2 : ∀ b cs, (b, cs) ∈ M2 → reads W b cs) (hns : ns.length ≤ 1000000000 → IntsIn M2 pn ns) :
    Calls Try.prog 6 #[spV s, rdV x, lnV y, .slice pn ns.length cn] W fun e w' => e = .returned (.bool true) ∧ Below W.heap.size W w' := by
  cases hg : greatB s with
  | true => exact law_end (changes_great s hg x y pn _ cn) (fun b cs h => by cases h)
  | false =>
    have hgr : s.book.length ≤ 30 ∧ s.reads.length ≤ 30 := by simp [greatB] at hg; omega
    by_cases hl : ns.length ≤ 30
    · exact law_end (changes_fn s (M ++ M2) ((hc.2 (by omega) (by omega)).mono (fun z hz => List.mem_append_left _ hz)) hg hgr hrc x y ns pn cn ((hns (by omega)).mono6 (fun z hz => List.mem_append_right _ hz)) hl) (fun b cs h => (List.mem_append.1 h).elim (hc.1 b cs) (hM2 b cs))
    · exact law_end (changes_long s hg x y pn _ cn (by omega)) (fun b cs h => by cases h)


set_option maxRecDepth 100000 in
theorem changes_lifted (os : Os) (started : os.Started) (H : Type) (enc : TypeId × Value → H) :
    ReturnsInHanded {} Try.checked os 6 .any (Rows.springChangesSpec.pre6 enc Try.prog Try.f6 Rows.springChangesRow.domain false) (Rows.springChangesSpec.post enc Try.prog Try.f6 false true false false) := by
  refine returnsInHanded_of_change (C := Try.checked) Try.own started (by kernel_rfl) Try.func6
    (ChangeSpec.witness6 (enc := enc) (C := Try.checked) false ⟨#[], #[.agg #[.int .i64 0, .int .i64 0, .int .i64 0, .int .i64 0, .int .i64 0, .int .i64 0, .int .i64 0, .slice none 0 0, .slice none 0 0], .agg #[.int .i64 0, .int .i64 0, .int .i64 0, .int .i64 0, .int .i64 0], .agg #[.int .i64 0, .int .i64 0, .int .i64 0, .int .i64 0, .int .i64 0], .slice none 0 0], []⟩ 8 (by kernel_rfl) (by kernel_rfl) (by kernel_rfl) (by kernel_rfl)) ?_
  intro W base args ds gs before hval0 hW hcnd _
  have hval : ∀ (j : Nat) t v, Try.f6.params[j]? = some t → args[j]? = some v → Value.okWide Try.prog W .any base t v := hval0
  have hW' := hW
  obtain ⟨p, q, hA0, hV, rfl, hfz, hnd⟩ := hW
  have hA : DataW.TrodAll enc Try.prog W 0 (fun _ => true) true Try.f6.params.toList args.toList ds p := hA0
  rw [Try.params6] at hA hval
  obtain ⟨v0, v1, v2, v3, d0, d1, d2, d3, p0, p1, p2, p3, rfl, rfl, rfl, h0, h1, h2, h3⟩ := trodAll_four hA
  obtain ⟨rfl, rfl⟩ := trodVars_none hV
  obtain ⟨s, M, rfl, hcame⟩ := open_spring (hval 0 27 v0 rfl rfl) h0
  obtain ⟨x, rfl⟩ := open_reading6 (hval 1 69 v1 rfl rfl) h1
  obtain ⟨y, rfl⟩ := open_line (hval 2 76 v2 rfl rfl) h2
  obtain ⟨ns, pn, cn, M2, rfl, hM2, hns⟩ := open_numbers (hval 3 35 v3 rfl rfl) h3
  have hcap := (spring_caps h0).2
  clear hA0 hval0
  simp only [List.append_nil] at hW'
  refine (changes_any s M W hcame hcap x y ns pn cn M2 hM2 hns).mono fun e W' ⟨he, hb⟩ => ?_
  subst he
  have hlt : ∀ y ∈ p0, y.block < W.heap.size := fun y hy => by simpa using hW'.lt y (by simp [hy])
  have hlt1 : ∀ y ∈ p1, y.block < W.heap.size := fun y hy => by simpa using hW'.lt y (by simp [hy])
  have hlt2 : ∀ y ∈ p2, y.block < W.heap.size := fun y hy => by simpa using hW'.lt y (by simp [hy])
  have hlt3 : ∀ y ∈ p3, y.block < W.heap.size := fun y hy => by simpa using hW'.lt y (by simp [hy])
  refine ⟨_, rfl, _, _, _, [], p0 ++ (p1 ++ (p2 ++ p3)), [], hW', ?_, ?_, ?_, hb.frame _, fun h => by cases h⟩
  · exact trodAll_mk1 (shut_bool Try.underlying4 true)
  · exact trodAll_mk4 (Below.trod Try.laidOut (by kernel_rfl) (of_decide_eq_true (by kernel_rfl)) h0 hb hlt) (Below.trod Try.laidOut (by kernel_rfl) (of_decide_eq_true (by kernel_rfl)) h1 hb hlt1) (Below.trod Try.laidOut (by kernel_rfl) (of_decide_eq_true (by kernel_rfl)) h2 hb hlt2) (Below.trod Try.laidOut (by kernel_rfl) (of_decide_eq_true (by kernel_rfl)) h3 hb hlt3)
  · rfl

theorem springChanges_holds : Rows.SpringChangesSaid :=
  OpenClaim.holds_of_wide 6 Try.f6 rfl rfl rfl rfl rfl rfl rfl ⟨rfl, rfl, rfl, rfl, rfl⟩ rfl rfl rfl rfl rfl (by kernel_rfl) Try.func6 (by kernel_rfl)
    (of_decide_eq_true (by kernel_rfl)) (by unfold Func.isWrapper; first | (rw [if_pos (by decide +kernel)]; kernel_rfl) | (rw [if_neg (by decide +kernel)]; exact ⟨rfl, rfl⟩))
    (fun os started H enc _ => changes_lifted os started H enc)

end Go.Proofs.Ytdpnadknaacinaa
end
