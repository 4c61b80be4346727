/-
  Arguments opened: a spring that came in, as its data and the blocks in which its lists lie.
  Conditions: none.
-/
import Derived.Test.YtdpnadknaacinaaRows
import Derived.Test.YtdpnadknaacinaaC26
import Derived.ProofKit
import Derived.Deep.Slices
namespace Go.Proofs.Ytdpnadknaacinaa
open Go.Sx Go.Proofs.Ytdpnadknaacinaa.Ty Go.ChangeShapes Go.WideShapes Go.ChangeAt Go.RowKit
set_option linter.unusedVariables false
set_option maxRecDepth 100000

theorem Try.own : ownKnob Try.prog.godebug = none := by kernel_rfl
theorem Try.laidOut : laidOutB Try.prog = true := by kernel_rfl
theorem cells23 : Try.prog.cellsOf 23 = 2 := by kernel_rfl
theorem cells3 : Try.prog.cellsOf 3 = 1 := by kernel_rfl
theorem cells76 : Try.prog.cellsOf 76 = 5 := by kernel_rfl
theorem cells69 : Try.prog.cellsOf 69 = 5 := by kernel_rfl
theorem cells27 : Try.prog.cellsOf 27 = 9 := by kernel_rfl
theorem cells24 : Try.prog.cellsOf 24 = 1 := by kernel_rfl
theorem cells25 : Try.prog.cellsOf 25 = 1 := by kernel_rfl

section
variable {H : Type} {enc : TypeId × Value → H} {P : Program} {w : World} {base fuel : Nat} {spare : Nat → Bool} {held : Bool} {x : DataW H × List MemPlace} {cs : List Value}

theorem mapM_at {α β : Type} {f : α → Option β} : ∀ {l : List α} {r : List β}, l.mapM f = some r → r.length = l.length ∧ ∀ (i : Nat) (a : α), l[i]? = some a → ∃ b, f a = some b ∧ r[i]? = some b
  | [], r, h => by
    simp at h; subst h
    exact ⟨rfl, fun i a h => by simp at h⟩
  | a :: l, r, h => by
    rw [List.mapM_cons] at h
    cases ha : f a with
    | none => simp [ha] at h
    | some b =>
      cases hl : l.mapM f with
      | none => simp [ha, hl] at h
      | some r' =>
        simp [ha, hl] at h
        subst h
        obtain ⟨h1, h2⟩ := mapM_at hl
        refine ⟨by simp [h1], fun i c hc => ?_⟩
        cases i with
        | zero => simp at hc; subst hc; exact ⟨b, ha, by simp⟩
        | succ i => obtain ⟨b', h3, h4⟩ := h2 i c (by simpa using hc); exact ⟨b', h3, by simpa using h4⟩

/-- Cells that are read lie in one block, one behind the other. -/
theorem cells_row {a : Addr} {n : Nat} (hn : 0 < n) (h : w.cells? base a n = some cs) : a.spot = none ∧ cs.length = n ∧ ∃ row, reads w a.block row ∧ ∀ j, j < n → row[a.off + j]? = cs[j]? := by
  unfold World.cells? at h
  split at h
  · obtain ⟨h1, h2⟩ := mapM_at h
    simp only [List.length_range] at h1
    have each : ∀ j, j < n → ∃ b, w.cell? (a.add j) = some b ∧ cs[j]? = some b := fun j hj => h2 j j (by simp [hj])
    obtain ⟨b, h3, _⟩ := each 0 hn
    have e0 : a.add 0 = a := by simp [Addr.add]
    rw [e0] at h3
    unfold World.cell? at h3
    cases hb : w.heap[a.block]? with
    | none => rw [hb] at h3; cases h3
    | some o =>
      rw [hb] at h3
      cases o with
      | cells c e f =>
        have hs : a.spot = none := by
          cases hs : a.spot with
          | none => rfl
          | some s => simp [hs] at h3
        refine ⟨hs, h1, c.toList, ⟨e, f, by simpa using hb⟩, fun j hj => ?_⟩
        obtain ⟨b', h4, h5⟩ := each j hj
        rw [h5]
        have e1 : (a.add j).block = a.block ∧ (a.add j).spot = none ∧ (a.add j).off = a.off + j := by
          unfold Addr.add
          split
          · rename_i h6; subst h6; exact ⟨rfl, hs, rfl⟩
          · exact ⟨rfl, rfl, rfl⟩
        unfold World.cell? at h4
        rw [e1.1, hb] at h4
        simp only [e1.2.1, e1.2.2] at h4
        simpa using h4
      | _ => simp at h3
  · cases h

theorem list_of {α : Type} {R : Nat → α → Prop} : ∀ n : Nat, (∀ i, i < n → ∃ a, R i a) → ∃ L : List α, L.length = n ∧ ∀ (i : Nat) (a : α), L[i]? = some a → R i a
  | 0, _ => ⟨[], rfl, fun i a h => by simp at h⟩
  | n + 1, h => by
    obtain ⟨L, h1, h2⟩ := list_of n (fun i hi => h i (by omega))
    obtain ⟨a, ha⟩ := h n (by omega)
    refine ⟨L ++ [a], by simp [h1], fun i b hb => ?_⟩
    rcases Nat.lt_or_ge i n with hi | hi
    · rw [List.getElem?_append_left (by omega)] at hb; exact h2 i b hb
    · rw [List.getElem?_append_right (by omega)] at hb
      have : i = n := by
        rcases Nat.lt_or_ge (i - L.length) 1 with h3 | h3
        · omega
        · rw [List.getElem?_eq_none (by simpa using h3)] at hb; cases hb
      subst this
      simp [h1] at hb
      subst hb; exact ha

/-- A slice of rows that came in. -/
theorem open_rows {α : Type} {f : α → List Value} {m : Nat} {t e : TypeId} (hm : 0 < m) (hf : ∀ r, (f r).length = m) (hc : P.cellsOf e = m) (ht : P.underlying t = some (.slice e))
    (hrow : ∀ fuel cs x, DataW.trod enc P w base spare held fuel e cs = some x → ∃ r : α, cs = f r) (h : DataW.trod enc P w base spare held fuel t cs = some x) :
    ∃ (p : Option Addr) (L : List α) (cap : Nat), cs = [.slice p L.length cap] ∧ ∃ (b off : Nat) (row : List Value), L ≠ [] → p = some ⟨b, off, none⟩ ∧ reads w b row ∧ ∀ (i : Nat) (r : α), L[i]? = some r → sub row (off + i * m) m = f r := by
  rcases Deep.open_slice ht h with ⟨rfl, _⟩ | ⟨a, len, cap, mm, n, D, Pl, rfl, _, hlc, _, hmm, _, hel⟩
  · exact ⟨none, [], 0, rfl, 0, 0, [], fun h => absurd rfl h⟩
  · have hle : len ≤ mm := by rw [hmm]; split <;> omega
    have each : ∀ i, i < len → ∃ r : α, w.cells? base (a.add (i * m)) m = some (f r) := fun i hi => by
      obtain ⟨cs', h1, h2⟩ := hel i (by omega)
      obtain ⟨r, rfl⟩ := hrow _ _ _ h2
      rw [hc] at h1; exact ⟨r, h1⟩
    obtain ⟨L, hL, hR⟩ := list_of (R := fun i r => w.cells? base (a.add (i * m)) m = some (f r)) len each
    refine ⟨some a, L, cap, by rw [hL], ?_⟩
    cases L with
    | nil => exact ⟨0, 0, [], fun h => absurd rfl h⟩
    | cons r0 L0 =>
      have h0 := hR 0 r0 rfl
      rw [Nat.zero_mul, show a.add 0 = a by simp [Addr.add]] at h0
      obtain ⟨hs, _, row, hrd, _⟩ := cells_row hm h0
      refine ⟨a.block, a.off, row, fun _ => ⟨?_, hrd, fun i r hr => ?_⟩⟩
      · cases a; simp at hs; subst hs; rfl
      · have h1 := hR i r hr
        obtain ⟨_, _, row', hrd', hcell⟩ := cells_row hm h1
        have e1 : (a.add (i * m)).block = a.block ∧ (a.add (i * m)).off = a.off + i * m := by
          unfold Addr.add
          split
          · rename_i h6; rw [h6]; exact ⟨rfl, rfl⟩
          · exact ⟨rfl, rfl⟩
        rw [e1.1] at hrd'
        have hrow' : row = row' := by
          obtain ⟨T, fr, g1⟩ := hrd
          obtain ⟨T', fr', g2⟩ := hrd'
          rw [g1] at g2
          simp only [Option.some.injEq, Obj.cells.injEq] at g2
          have := congrArg Array.toList g2.1
          simpa using this
        subst hrow'
        rw [e1.2] at hcell
        apply List.ext_getElem?
        intro j
        unfold sub
        rw [List.getElem?_take]
        split
        · rename_i hj
          rw [List.getElem?_drop]; exact hcell j hj
        · rename_i hj
          rw [List.getElem?_eq_none (by rw [hf]; omega)]
end

section
variable {H : Type} {enc : TypeId × Value → H} {w : World} {base fuel : Nat} {spare : Nat → Bool} {held : Bool} {x : DataW H × List MemPlace} {cs : List Value}
theorem fld {fs : Array Field} {xs : List (DataW H × List MemPlace)} {n : Nat} {cs : List Value} (hf : ∀ (i : Nat) (f : Field), fs[i]? = some f → DataW.trod enc Try.prog w base spare held n f.type ((cs.drop f.offset).take (Try.prog.cellsOf f.type)) = xs[i]?)
    (i off T k : Nat) (hi : ∃ f, fs[i]? = some f ∧ f.type = T ∧ f.offset = off) (hc : Try.prog.cellsOf T = k) {y : DataW H × List MemPlace} (hx : xs[i]? = some y) : DataW.trod enc Try.prog w base spare held n T ((cs.drop off).take k) = some y := by
  obtain ⟨f, h1, rfl, rfl⟩ := hi
  rw [← hc, hf i f h1, hx]
theorem rd_int (h : DataW.trod enc Try.prog w base spare held fuel 3 cs = some x) : ∃ n : Int, cs = [.int .i64 n] := by
  obtain ⟨n, h1, _⟩ := DataW.trod_int int3 h
  exact ⟨n, h1⟩
theorem rd_span (h : DataW.trod enc Try.prog w base spare held fuel 23 cs = some x) : ∃ a b : Int, cs = [.int .i64 a, .int .i64 b] := by
  obtain ⟨xs, n, _, _, hl, hxl, hf⟩ := DataW.trod_struct Try.underlying23 h
  rw [cells23] at hl
  match cs, hl with
  | [c0, c1], _ =>
    match xs, hxl with
    | [x0, x1], _ =>
      have f0 := fld hf 0 0 3 1 ⟨_, rfl, rfl, rfl⟩ cells3 (y := x0) rfl
      have f1 := fld hf 1 1 3 1 ⟨_, rfl, rfl, rfl⟩ cells3 (y := x1) rfl
      obtain ⟨a, ha⟩ := rd_int f0
      obtain ⟨b, hb⟩ := rd_int f1
      simp at ha hb
      exact ⟨a, b, by rw [ha, hb]⟩
theorem rd_line (h : DataW.trod enc Try.prog w base spare held fuel 76 cs = some x) : ∃ r : Ln, cs = lnL r := by
  obtain ⟨xs, n, _, _, hl, hxl, hf⟩ := DataW.trod_struct Try.underlying76 h
  rw [cells76] at hl
  match cs, hl with
  | [c0, c1, c2, c3, c4], _ =>
    match xs, hxl with
    | [x0, x1, x2], _ =>
      have f0 := fld hf 0 0 23 2 ⟨_, rfl, rfl, rfl⟩ cells23 (y := x0) rfl
      have f1 := fld hf 1 2 3 1 ⟨_, rfl, rfl, rfl⟩ cells3 (y := x1) rfl
      have f2 := fld hf 2 3 23 2 ⟨_, rfl, rfl, rfl⟩ cells23 (y := x2) rfl
      obtain ⟨a, b, hab⟩ := rd_span f0
      obtain ⟨c, hc⟩ := rd_int f1
      obtain ⟨d, e, hde⟩ := rd_span f2
      simp at hab hc hde
      exact ⟨⟨a, b, c, d, e⟩, by simp [lnL, hab, hc, hde]⟩
theorem rd_reading (h : DataW.trod enc Try.prog w base spare held fuel 69 cs = some x) : ∃ r : Rd, cs = rdL r := by
  obtain ⟨xs, n, _, _, hl, hxl, hf⟩ := DataW.trod_struct Try.underlying69 h
  rw [cells69] at hl
  match cs, hl with
  | [c0, c1, c2, c3, c4], _ =>
    match xs, hxl with
    | [x0, x1, x2, x3], _ =>
      have f0 := fld hf 0 0 3 1 ⟨_, rfl, rfl, rfl⟩ cells3 (y := x0) rfl
      have f1 := fld hf 1 1 3 1 ⟨_, rfl, rfl, rfl⟩ cells3 (y := x1) rfl
      have f2 := fld hf 2 2 3 1 ⟨_, rfl, rfl, rfl⟩ cells3 (y := x2) rfl
      have f3 := fld hf 3 3 23 2 ⟨_, rfl, rfl, rfl⟩ cells23 (y := x3) rfl
      obtain ⟨a, ha⟩ := rd_int f0
      obtain ⟨b, hb⟩ := rd_int f1
      obtain ⟨c, hc⟩ := rd_int f2
      obtain ⟨d, e, hde⟩ := rd_span f3
      simp at ha hb hc hde
      exact ⟨⟨a, b, c, d, e⟩, by simp [rdL, ha, hb, hc, hde]⟩

/-- What came in of a spring: its lists in blocks that lie there. -/
def Came (w : World) (M : Args) (s : Sp) : Prop := (∀ b cs, (b, cs) ∈ M → reads w b cs) ∧ (s.book.length ≤ 1000000000000 → s.reads.length ≤ 1000000000000 → s.In M)
theorem open_spring {v : Value} {d : DataW H} {ps : List MemPlace} (hv : Value.okWide Try.prog w .any base 27 v) (h : DataW.Trod enc Try.prog w 0 spare held 27 v d ps) : ∃ (s : Sp) (M : Args), v = spV s ∧ Came w M s := by
  obtain ⟨cs, rfl, hcs⟩ := okWide_struct Try.underlying27 hv
  obtain ⟨fuel, h⟩ := h
  obtain ⟨xs, n, _, _, hl, hxl, hf⟩ := DataW.trod_struct Try.underlying27 h
  have hl' : cs.toList.length = 9 := by rw [cells27] at hl; exact hl
  obtain ⟨c0, c1, c2, c3, c4, c5, c6, c7, c8, hc⟩ : ∃ c0 c1 c2 c3 c4 c5 c6 c7 c8, cs.toList = [c0, c1, c2, c3, c4, c5, c6, c7, c8] := by
    match hz : cs.toList, hl' with
    | [c0, c1, c2, c3, c4, c5, c6, c7, c8], _ => exact ⟨c0, c1, c2, c3, c4, c5, c6, c7, c8, rfl⟩
  have hce : (Value.agg cs).cells.toList = [c0, c1, c2, c3, c4, c5, c6, c7, c8] := hc
  rw [hce] at hf
  match xs, hxl with
  | [x0, x1, x2, x3, x4, x5, x6], _ =>
    have f0 := fld hf 0 0 3 1 ⟨_, rfl, rfl, rfl⟩ cells3 (y := x0) rfl
    have f1 := fld hf 1 1 3 1 ⟨_, rfl, rfl, rfl⟩ cells3 (y := x1) rfl
    have f2 := fld hf 2 2 3 1 ⟨_, rfl, rfl, rfl⟩ cells3 (y := x2) rfl
    have f3 := fld hf 3 3 23 2 ⟨_, rfl, rfl, rfl⟩ cells23 (y := x3) rfl
    have f4 := fld hf 4 5 23 2 ⟨_, rfl, rfl, rfl⟩ cells23 (y := x4) rfl
    have f5 := fld hf 5 7 24 1 ⟨_, rfl, rfl, rfl⟩ cells24 (y := x5) rfl
    have f6 := fld hf 6 8 25 1 ⟨_, rfl, rfl, rfl⟩ cells25 (y := x6) rfl
    obtain ⟨i0, e0⟩ := rd_int f0
    obtain ⟨i1, e1⟩ := rd_int f1
    obtain ⟨i2, e2⟩ := rd_int f2
    obtain ⟨i3, i4, e3⟩ := rd_span f3
    obtain ⟨i5, i6, e4⟩ := rd_span f4
    obtain ⟨p1, L1, k1, e5, b1, o1, r1, g1⟩ := open_rows (f := lnL) (m := 5) (by decide) (fun _ => rfl) cells76 Try.underlying24 (fun _ _ _ h => rd_line h) f5
    obtain ⟨p2, L2, k2, e6, b2, o2, r2, g2⟩ := open_rows (f := rdL) (m := 5) (by decide) (fun _ => rfl) cells69 Try.underlying25 (fun _ _ _ h => rd_reading h) f6
    simp at e0 e1 e2 e3 e4 e5 e6
    obtain ⟨e3, e3'⟩ := e3
    obtain ⟨e4, e4'⟩ := e4
    refine ⟨⟨i0, i1, i2, i3, i4, i5, i6, p1, k1, p2, k2, L1, L2⟩, (if L1 = [] then [] else [(b1, r1)]) ++ (if L2 = [] then [] else [(b2, r2)]), ?_, ?_, ?_⟩
    · show Value.agg cs = Value.agg _
      congr 1
      apply Array.ext'
      rw [hc, e0, e1, e2, e3, e3', e4, e4', e5, e6]
    · intro b cs hm
      rcases List.mem_append.1 hm with hm | hm
      · split at hm
        · cases hm
        · rename_i hn; cases List.mem_singleton.1 hm; exact (g1 hn).2.1
      · split at hm
        · cases hm
        · rename_i hn; cases List.mem_singleton.1 hm; exact (g2 hn).2.1
    · intro hb1 hb2
      refine ⟨⟨b1, o1, r1, 0, fun hn => ⟨(g1 hn).1, ?_, (g1 hn).2.2⟩⟩, ⟨b2, o2, r2, (if L1 = [] then 0 else 1), fun hn => ⟨(g2 hn).1, ?_, (g2 hn).2.2⟩⟩, hb1, hb2⟩
      · have hn' : L1 ≠ [] := hn
        simp [hn']
      · have hn' : L2 ≠ [] := hn
        by_cases h1 : L1 = [] <;> simp [h1, hn']
end

/-- What a law's walk ends in, as the row's 'post' asks. -/
theorem law_end {M : Args} {f : Nat} {args : List Value} {w : World} (h : Cn Try.prog f args M (fun _ : Unit => .bool true) (fun _ => []) (fun _ => True)) (hM : ∀ b cs, (b, cs) ∈ M → reads w b cs) :
    Calls Try.prog f args.toArray w fun e w' => e = .returned (.bool true) ∧ Below w.heap.size w w' := by
  refine (h w hM).mono ?_
  rintro e w' ⟨v, rfl, hb, _, rfl, _⟩
  exact ⟨rfl, hb⟩
end Go.Proofs.Ytdpnadknaacinaa
