/-
  append, for the symbolic walk: a slice of the call's own grows; own blocks in another order, or fewer.
  Conditions: none; generic over the program.
-/
import Derived.Test.YtdpnadknaacinaaRg
import Derived.Deep.AppendLies
namespace Go.Sx
open Go.RowKit

/-- A slice of the call's own: n elements of size cells each, xs, in the block of B (nil: B empty). -/
def Sl (B : Blks) (e : TypeId) (size : Nat) (p : Option Addr) (n c : Nat) (xs : List Value) : Prop :=
  xs.length = n * size ∧ ((p = none ∧ n = 0 ∧ c = 0 ∧ B = []) ∨
    ∃ g cs, p = some ⟨g, 0, none⟩ ∧ B = [(g, cs, e)] ∧ n ≤ c ∧ c ≤ maxLen ∧ cs.length = c * size ∧ cs.take (n * size) = xs)

theorem Sl.nil (e : TypeId) (size : Nat) : Sl [] e size none 0 0 [] := ⟨by simp, .inl ⟨rfl, rfl, rfl, rfl⟩⟩
theorem Sl.lit {e : TypeId} {size g n : Nat} {cs : List Value} (h : cs.length = n * size) (hn : n ≤ maxLen) : Sl [(g, cs, e)] e size (some ⟨g, 0, none⟩) n n cs :=
  ⟨h, .inr ⟨g, cs, rfl, rfl, Nat.le_refl _, hn, h, by rw [← h]; exact List.take_length⟩⟩

section
variable {P : Program} {N : Cx} {w0 : World} {l l' : Env} {O O' F B R : Blks} {A : Args} {a : Act} {w w' : World} {ops : Array Oper} {o : Oper} {Q : Exit → Act → World → Prop} {is : List Nat}

theorem Sl.len {e size p n c xs} (h : Sl B e size p n c xs) : xs.length = n * size := h.1

theorem Sl.owns {e size p n c xs} (h : Sl B e size p n c xs) (hB : ∀ b cs T, (b, cs, T) ∈ B → holds w b cs T) : w.ownsRow 0 e size (.slice p n c) n xs := by
  refine ⟨h.1, ?_⟩
  rcases h.2 with ⟨rfl, rfl, rfl, rfl⟩ | ⟨g, cs, rfl, rfl, hn, hm, hl, ht⟩
  · exact .inl ⟨rfl, rfl⟩
  · exact .inr ⟨g, c, cs.toArray, rfl, Nat.zero_le _, hB g cs e (by simp), hn, hm, by simpa using hl, by simpa using ht⟩

theorem Sl.of_owns {e size n g c xs} (h : w.ownsRow 0 e size (.slice (some ⟨g, 0, none⟩) n c) n xs) : ∃ cs, Sl [(g, cs, e)] e size (some ⟨g, 0, none⟩) n c xs ∧ holds w g cs e := by
  obtain ⟨h1, h2 | ⟨g', cap, cur, hv, _, hh, hn, hm, hs, ht⟩⟩ := h
  · cases h2.1
  · cases hv
    exact ⟨cur.toList, ⟨h1, .inr ⟨g, cur.toList, rfl, rfl, hn, hm, by simpa using hs, ht⟩⟩, by simpa [holds] using hh⟩

/-! ### Own blocks in another order, or fewer -/
theorem St.perm (h : St N w0 l O A a w) (hE : SubE l' l) (hO : ∀ x ∈ O', x ∈ O) (hn : (O'.map (·.1)).Nodup) : St N w0 l' O' A a w :=
  ⟨h.size, h.noDef, h.bel, fun t v hv => h.env t v (hE.get t v hv), fun j b cs T hj => by
    obtain ⟨i, hi⟩ := List.mem_iff_getElem?.1 (hO _ (List.mem_of_getElem? hj))
    exact h.own i b cs T hi, hn, h.arg, h.marked⟩

theorem St.sub (h : St N w0 l O A a w) (hE : SubE l' l) (hO : O'.Sublist O) : St N w0 l' O' A a w :=
  h.perm hE (fun _ hx => hO.subset hx) (List.Nodup.sublist (hO.map _) h.nodup)

theorem St.reo (h : St N w0 l O A a w) (hO : O.Perm O') : St N w0 l O' A a w :=
  ⟨h.size, h.noDef, h.bel, h.env, fun j b cs T hj => by
    obtain ⟨i, hi⟩ := List.mem_iff_getElem?.1 (hO.mem_iff.2 (List.mem_of_getElem? hj))
    exact h.own i b cs T hi, (hO.map (·.1)).nodup_iff.1 h.nodup, h.arg, h.marked⟩

theorem okl_perm (hO : O.Perm O') (h : OkL P N w0 ops Q is l O' A) : OkL P N w0 ops Q is l O A := fun a w hs => h a w (hs.reo hO)
theorem okc_perm {c : Code} (hO : O.Perm O') (h : OkC P N w0 c Q l O' A) : OkC P N w0 c Q l O A := fun a w hs => h a w (hs.reo hO)
theorem okl_sub (hO : O'.Sublist O) (h : OkL P N w0 ops Q is l O' A) : OkL P N w0 ops Q is l O A := fun a w hs => h a w ⟨hs.size, hs.noDef, hs.bel, hs.env, fun j b cs T hj => by
    obtain ⟨i, hi⟩ := List.mem_iff_getElem?.1 (hO.subset (List.mem_of_getElem? hj))
    exact hs.own i b cs T hi, List.Nodup.sublist (hO.map _) hs.nodup, hs.arg, hs.marked⟩
theorem okc_sub {c : Code} (hO : O'.Sublist O) (h : OkC P N w0 c Q l O' A) : OkC P N w0 c Q l O A := fun a w hs => h a w ⟨hs.size, hs.noDef, hs.bel, hs.env, fun j b cs T hj => by
    obtain ⟨i, hi⟩ := List.mem_iff_getElem?.1 (hO.subset (List.mem_of_getElem? hj))
    exact hs.own i b cs T hi, List.Nodup.sublist (hO.map _) hs.nodup, hs.arg, hs.marked⟩

/-- A call that hands back blocks: they come behind. -/
theorem okl_rE {i d : Nat} {σ : Type} {val : σ → Value} {blks : σ → Blks} {ok : σ → Prop} (ho : ops[i]? = some o) (hg : wantsB ops l o = some true) (hd : o.dst = some d) (hN : Nat.blt d N.n = true)
    (h : OpV P N w0 l O A o (Res val blks ok)) (rest : ∀ s, ok s → OkL P N w0 ops Q is ((d, val s) :: l) (O ++ blks s) A) : OkL P N w0 ops Q (i :: is) l O A :=
  okl_r ho hg hd hN h fun s hs => okl_perm List.perm_append_comm (rest s hs)

/-! ### append -/
theorem St.grown {g : Nat} {e : TypeId} {cs' : List Value} {row : Option Nat} (h : St N w0 l (F ++ (B ++ R)) A a w) (hrow : ∀ k, row = some k → ∃ cs T, (k, cs, T) ∈ B) (hg : w.grownBy w' row) (hat : row = some g ∨ g = w.heap.size)
    (hh : holds w' g cs' e) : St N w0 l (F ++ ([(g, cs', e)] ++ R)) A a w' := by
  have hws := h.ws
  have hnd : (nums (F ++ (B ++ R))).Nodup := hws.nodup
  have hnum : ∀ x ∈ nums (F ++ (B ++ R)), x < w.heap.size ∧ (w0.heap.size ≤ x ∨ x ∈ N.wr) := fun x hx => by
    obtain ⟨cs, T, hm⟩ := mem_nums.1 hx
    exact ⟨(hws.own x cs T hm).1.lt, (hws.own x cs T hm).2⟩
  have hB : ∀ k, row = some k → k ∈ nums B := fun k hk => by obtain ⟨cs, T, hm⟩ := hrow k hk; exact mem_nums.2 ⟨cs, T, hm⟩
  have hrow0 : ∀ k, row = some k → w0.heap.size ≤ k ∨ k ∈ N.wr := fun k hk => by
    have := hB k hk
    exact (hnum k (by simp only [nums, List.map_append, List.mem_append] at this ⊢; exact .inr (.inl this))).2
  have hs0 : w0.heap.size ≤ w.heap.size := h.bel.size
  simp only [nums, List.map_append, List.nodup_append, List.mem_append] at hnd
  obtain ⟨hF, ⟨hBn, hR, hBR⟩, hFBR⟩ := hnd
  have hFR : ∀ x, x ∈ nums F ∨ x ∈ nums R → some x ≠ row ∧ x ≠ g := fun x hx => by
    have hne : some x ≠ row := fun e => by
      have hb := hB x e.symm
      rcases hx with hx | hx
      · exact hFBR x hx x (.inl hb) rfl
      · exact hBR x hb x hx rfl
    refine ⟨hne, fun e => ?_⟩
    rcases hat with hat | hat
    · exact hne (by rw [hat, e])
    · have := (hnum x (by simp only [nums, List.map_append, List.mem_append] at hx ⊢; rcases hx with hx | hx; exact .inl hx; exact .inr (.inr hx))).1
      omega
  refine WS.st ⟨⟨hg.os.trans h.bel.os, hg.tape.trans h.bel.tape, hg.output.trans h.bel.output, Nat.le_trans h.bel.size hg.size, fun k hk hS => ?_⟩, ?_, ?_, ?_⟩ h.size h.noDef h.env ?_
  · refine (hg.block k (by omega) (fun e => ?_)).trans (h.bel.block k hk hS)
    rcases hrow0 k e.symm with h1 | h1
    · omega
    · exact hS h1
  · intro b cs T hm
    simp only [List.mem_append, List.mem_singleton] at hm
    have old : ∀ (hx : (b, cs, T) ∈ F ∨ (b, cs, T) ∈ R), holds w' b cs T ∧ (w0.heap.size ≤ b ∨ b ∈ N.wr) := fun hx => by
      obtain ⟨h1, h2⟩ := hws.own b cs T (by simp only [List.mem_append]; rcases hx with hx | hx; exact .inl hx; exact .inr (.inr hx))
      refine ⟨?_, h2⟩
      unfold holds
      rw [hg.block b h1.lt (hFR b (by rcases hx with hx | hx; exact .inl (mem_nums.2 ⟨cs, T, hx⟩); exact .inr (mem_nums.2 ⟨cs, T, hx⟩))).1]
      exact h1
    rcases hm with hm | hm | hm
    · exact old (.inl hm)
    · cases hm
      refine ⟨hh, ?_⟩
      rcases hat with hat | hat
      · exact hrow0 g hat
      · exact .inl (by omega)
    · exact old (.inr hm)
  · simp only [nums, List.map_append, List.nodup_append, List.map_cons, List.map_nil, List.mem_append, List.mem_singleton]
    refine ⟨hF, ⟨by simp, hR, ?_⟩, ?_⟩
    · rintro x rfl y hy rfl
      exact (hFR _ (.inr hy)).2 rfl
    · rintro x hx y (rfl | hy) rfl
      · exact (hFR _ (.inl hx)).2 rfl
      · exact hFBR x hx x (.inr hy) rfl
  · intro b cs hm
    obtain ⟨⟨T, fr, h1⟩, h2, h3⟩ := hws.arg b cs hm
    refine ⟨⟨T, fr, (hg.block b (lt_of_get h1) (fun e => ?_)).trans h1⟩, h2, h3⟩
    rcases hrow0 b e.symm with h4 | h4
    · omega
    · exact h3 h4
  · intro D hD
    obtain ⟨h1, h2⟩ := h.marked D hD
    refine ⟨(hg.block D (lt_of_get h1) (fun e => ?_)).trans h1, h2⟩
    obtain ⟨cs, T, hm⟩ := hrow D e.symm
    have := (hws.own D cs T (by simp [hm])).1
    exact holds_ne this h1 rfl rfl

/-- What is appended: cells that lie in a block of the call's own, or in one that came in. -/
def Lies (O : Blks) (A : Args) (b off : Nat) (news : List Value) : Prop := ∃ cs, ((∃ T, (b, cs, T) ∈ O) ∨ (b, cs) ∈ A) ∧ ∀ j v, news[j]? = some v → cs[off + j]? = some v

theorem Lies.own {b off n : Nat} {cs news : List Value} {T : TypeId} (j : Nat) (hj : O[j]? = some (b, cs, T)) (hs : Go.Sx.sub cs off n = news) : Lies O A b off news :=
  ⟨cs, .inl ⟨T, List.mem_of_getElem? hj⟩, fun j v hv => by
    subst hs; unfold Go.Sx.sub at hv
    rw [List.getElem?_take] at hv
    split at hv
    · simpa using hv
    · cases hv⟩
theorem Lies.whole {b : Nat} {cs : List Value} {T : TypeId} (j : Nat) (hj : O[j]? = some (b, cs, T)) : Lies O A b 0 cs := ⟨cs, .inl ⟨T, List.mem_of_getElem? hj⟩, fun j v hv => by simpa using hv⟩
theorem Lies.arg {b off : Nat} {cs news : List Value} (hm : (b, cs) ∈ A) (h : ∀ j v, news[j]? = some v → cs[off + j]? = some v) : Lies O A b off news := ⟨cs, .inr hm, h⟩

theorem Lies.cell {b off : Nat} {news : List Value} (h : Lies O A b off news) (hs : St N w0 l O A a w) : ∀ j u, news[j]? = some u → w.cell? ((⟨b, off, none⟩ : Addr).add j) = some u := by
  obtain ⟨cs, hc, hn⟩ := h
  intro j u hj
  have hr : reads w b cs := by
    rcases hc with ⟨T, hm⟩ | hm
    · exact ⟨T, _, (hs.ws.own b cs T hm).1⟩
    · exact (hs.ws.arg b cs hm).1
  obtain ⟨T, fr, hr⟩ := hr
  rw [add_lit]
  have := hn j u hj
  simp [World.cell?, hr, this]

theorem info_of_siz {e size : Nat} {z : List Value} (hn : sizeB P e = some size) (hz : zeroB P e = some z) : ∃ i v, P.info? e = some i ∧ i.zero = some v ∧ i.size = size ∧ v.cells.toList = z := by
  unfold sizeB at hn
  unfold zeroB at hz
  cases hi : P.info? e with
  | none => rw [hi] at hn; simp at hn
  | some i =>
    rw [hi] at hn hz
    cases hv : i.zero with
    | none => simp [hv] at hz
    | some v => exact ⟨i, v, rfl, hv, by simpa using hn, by simpa [hv] using hz⟩

theorem okl_append {i d : Nat} {s x : Operand} {t e size bx ox m cx n c : Nat} {p : Option Addr} {xs news zs : List Value} (F B R : Blks)
    (ho : ops[i]? = some o) (hg : wantsB ops l o = some true) (hd : o.dst = some d) (hN : Nat.blt d N.n = true) (hop : o.op = .call { callee := .builtin .append, args := #[s, x], argTypes := #[t, t] })
    (hs : ev l s = some (.slice p n c)) (hx : ev l x = some (.slice (some ⟨bx, ox, none⟩) m cx)) (hT : P.underlying t = some (.slice e)) (hsz : sizeB P e = some size) (hzr : zeroB P e = some zs) (hzl : zs.length = size) (hpos : 0 < size)
    (hO : O = F ++ (B ++ R)) (hsl : Sl B e size p n c xs) (hn : Lies O A bx ox news) (hnl : news.length = m * size) (h1 : flat news = true) (hm : 0 < m)
    (hlen : n + m ≤ 100000000000) (hby : ∃ i, P.info? e = some i ∧ i.bytes ≤ 1000)
    (rest : ∀ g c' cs', Sl [(g, cs', e)] e size (some ⟨g, 0, none⟩) (n + m) c' (xs ++ news) → OkL P N w0 ops Q is ((d, .slice (some ⟨g, 0, none⟩) (n + m) c') :: l) (F ++ ([(g, cs', e)] ++ R)) A) :
    OkL P N w0 ops Q (i :: is) l O A := by
  intro a w hst
  simp only [wpOpsIn, ho, wanted_of hst hg, if_true]
  obtain ⟨info, z, hi, hz, hisz, hzc⟩ := info_of_siz hsz hzr
  obtain ⟨info', hi', hb⟩ := hby
  obtain rfl : info = info' := Option.some.inj (hi.symm.trans hi')
  have hown : ∀ b cs T, (b, cs, T) ∈ B → holds w b cs T := fun b cs T hm => (hst.ws.own b cs T (by rw [hO]; simp [hm])).1
  have hbytes : (n + m) * info.bytes ≤ 140737488355328 := by
    have h2 : (n + m) * info.bytes ≤ 100000000000 * 1000 := Nat.mul_le_mul hlen hb
    omega
  obtain ⟨g, cap, w', hr, h2, h3, h4, h5⟩ := run_append_lies (P := P) w t o.type 0 e info z size info.bytes hT hi hz hisz rfl (by rw [← Array.length_toList, hzc, hzl]) hpos
    (.slice p n c) n xs (hsl.owns hown) ⟨bx, ox, none⟩ m cx news hnl (hn.cell hst) (fun u hu => by unfold flat at h1; rw [List.all_eq_true] at h1; exact h1 u hu) hm (by unfold maxLen; omega) hbytes (Nat.zero_le _) _ rfl
  have hrun : (execOp a.eval o).run P w = .ok (.value (.slice (some ⟨g, 0, none⟩) (n + m) cap)) w' := by
    simp [execOp, hop, resolve, hst.eval hs, hst.eval hx, invoke, builtin, hr]
  refine opIn_of (fun c h => by rw [hop] at h; cases h) ?_
  rw [hrun, hd]
  obtain ⟨cs', hsl', hh⟩ := Sl.of_owns h2
  subst hO
  refine rest g cap cs' hsl' _ _ ((hst.grown (fun k hk => ?_) h3 h4 hh).put hN _)
  rcases hsl.2 with ⟨rfl, rfl, rfl, rfl⟩ | ⟨g0, cs, rfl, rfl, _⟩
  · simp [Value.ownBlock] at hk
  · simp only [Value.ownBlock, Option.some.injEq] at hk
    subst hk
    exact ⟨cs, e, by simp⟩

/-- Nothing is appended. -/
theorem op_append0 {s x : Operand} {t e size cx n c : Nat} {p q : Option Addr} (hop : o.op = .call { callee := .builtin .append, args := #[s, x], argTypes := #[t, t] })
    (hs : ev l s = some (.slice p n c)) (hx : ev l x = some (.slice q 0 cx)) (hT : P.underlying t = some (.slice e)) (hsz : sizeB P e = some size) (hc : n ≤ c) : OpV P N w0 l O A o (pv (.slice p n c)) :=
  opv_run fun a w hst => by
    have hl : ∀ b, (loadCells b 0).run P w = .ok #[] w := fun b => by have := run_loadCells_list (P := P) w b [] (fun j v h => by simp at h); simpa using this
    have hst' : ∀ b, (storeCells b []).run P w = .ok () w := fun b => by simp [storeCells]
    cases p <;> cases q <;> simp [execOp, hop, resolve, hst.eval hs, hst.eval hx, invoke, builtin, Builtin.append_, run_underlying hT, run_sizeOf hsz, Builtin.lenOf, Builtin.firstCells, hc, hl, hst']

/-- A literal of one element of several cells. -/
theorem fill_one {n : Nat} {v : Value} {cs zs : List Value} (hv : v.cells = cs.toArray) (hl : cs.length = n) (hz : zs.length = n) : Instr.fill (fun i => some (i * n, n)) zs.toArray [(0, v)] = some cs.toArray := by
  have hc : ¬ ((v.cells.size ≠ n || 0 * n + v.cells.size > zs.toArray.size) = true) := by
    simp [hv, hl, hz]
  have hfold : v.cells.zipIdx.foldl (fun (c : Array Value) (p : Value × Nat) => c.setIfInBounds (0 * n + p.2) p.1) zs.toArray = cs.toArray := by
    have := foldl_setL v.cells.toList 0 (0 * n) zs
    rw [← Array.foldl_toList]
    rw [setL_eq _ _ _ (by simp [hv, hl, hz])] at this
    simp only [hv, Array.toList_zipIdx] at this ⊢
    rw [this]
    simp [hl, ← hz]
  simp only [Instr.fill]
  rw [if_neg hc]
  simp only [hfold]

theorem op_slice1N {T e n : Nat} {x : Operand} {v : Value} {cs zs : List Value} (ho : o.op = .buildSlice T 1 #[(0, x)]) (hx : ev l x = some v) (hv : v.cells = cs.toArray) (hT : P.underlying T = some (.slice e)) (hm : sizeB P e = some n) (hl : cs.length = n) (hz : zeroB P e = some zs) (hzl : zs.length = n) (h0 : Nat.blt 0 n = true) (h24 : Nat.ble n 1000 = true) :
    OpV P N w0 l O A o (Res (fun b => .slice (some ⟨b, 0, none⟩) 1 1) (fun b => [(b, cs, e)]) (fun _ => True)) :=
  opv_new fun a w hs => by
    obtain ⟨i, z, hi, hzz, hisz, hzc⟩ := info_of_siz hm hz
    have h0' : 0 < n := by simpa [Nat.blt_eq] using h0
    have h24' : n ≤ 1000 := Nat.le_of_ble_eq_true h24
    have hne : n ≠ 0 := by omega
    have hle : ¬ (16777216 < n) := by omega
    have hr : (zeroValue e).run P w = .ok z w := by simp [zeroValue, typeInfo, hi, hzz]
    have hmap : ((Array.range n).map fun k => z.cells[k % z.cells.size]!) = z.cells := by
      have hsz : z.cells.size = n := by rw [← Array.length_toList, hzc, hzl]
      apply Array.ext
      · simp [hsz]
      · intro k h1 h2
        simp only [Array.getElem_map, Array.getElem_range]
        rw [Nat.mod_eq_of_lt h2, getElem!_pos z.cells k h2]
    have hfill := fill_one (n := n) (v := v) (cs := cs) (zs := z.cells.toList) hv hl (by rw [hzc, hzl])
    simp only [Array.toArray_toList] at hfill
    simp [execOp, ho, hs.eval hx, Instr.buildSlice, run_underlying hT, run_sizeOf hm, newRow, hr, hne, hle, hmap, hfill]

/-! ### Ends -/
theorem ret_postS {σ : Type} {fn : Func} {val : σ → Value} {blks : σ → Blks} {ok : σ → Prop} {v : Value} (hs : St N w0 l O A a w) (hr : (results fn a.tmps).run P w = .ok v w)
    (s : σ) (hv : v = val s) (hok : ok s) (hB : (blks s).Sublist O) (hN : N.marks = [] ∧ N.wr = [] := by exact ⟨rfl, rfl⟩) : bodyPost P fn (postOf w0 val blks ok) .ret a w := by
  refine ⟨by rw [hs.noDef, hN.1]; rfl, v, hr, v, rfl, hs.bel.below hN.2, s, hv, hok, ?_, ?_⟩
  · intro b cs T hm
    have := hs.ws.own b cs T (hB.subset hm)
    exact ⟨this.1, this.2.resolve_right (by simp [hN.2])⟩
  · exact List.Nodup.sublist (hB.map _) hs.nodup

theorem ret_postMS {σ : Type} {fn : Func} {n D : Nat} {val : σ → Value} {blks : σ → Blks} {ok : σ → Prop} {v : Value} (hs : St ⟨n, [D], none, []⟩ w0 l O A a w)
    (hr : ∀ a w, St (C0 n) w0 l O A a w → (results fn a.tmps).run P w = .ok v w)
    (s : σ) (hv : v = val s) (hok : ok s) (hB : (blks s).Sublist O) : bodyPostM (Fr none) 0 P fn (postOf w0 val blks ok) .ret a w := by
  have h1 := hs.unmark (by simp)
  obtain ⟨_, v', h2, h3⟩ := ret_postS h1 (hr _ _ h1) s hv hok hB
  show LeavesInM _ _ _ _ _ _ a.defers _ _
  rw [hs.noDef]
  refine ⟨by simp, .inl ⟨D, _, rfl, run_takeDeferred (hs.marked D (by simp)).1, v', h2, h3⟩⟩

theorem ret_postMS0 {σ : Type} {fn : Func} {n : Nat} {val : σ → Value} {blks : σ → Blks} {ok : σ → Prop} {v : Value} (hs : St (C0 n) w0 l O A a w)
    (hr : ∀ a w, St (C0 n) w0 l O A a w → (results fn a.tmps).run P w = .ok v w)
    (s : σ) (hv : v = val s) (hok : ok s) (hB : (blks s).Sublist O) : bodyPostM (Fr none) 0 P fn (postOf w0 val blks ok) .ret a w := by
  obtain ⟨_, v', h2, h3⟩ := ret_postS hs (hr _ _ hs) s hv hok hB
  show LeavesInM _ _ _ _ _ _ a.defers _ _
  rw [hs.noDef]
  exact ⟨v', h2, h3⟩
end
end Go.Sx
