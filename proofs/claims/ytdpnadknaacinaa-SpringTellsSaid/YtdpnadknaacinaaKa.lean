/-
  The rules for append at this translation: the facts on types come out of its tables.
  Conditions: none.
-/
import Derived.Test.YtdpnadknaacinaaDx
import Derived.Test.YtdpnadknaacinaaKx
namespace Go.Proofs.Ytdpnadknaacinaa
open Go.Sx Go.Proofs.Ytdpnadknaacinaa.Ty

def bytB (e : Nat) : Prop := ∃ i, Try.prog.info? e = some i ∧ i.bytes ≤ 1000
theorem bytB_of {e n : Nat} (h : (Try.prog.info? e).map (·.bytes) = some n) (hn : Nat.ble n 1000 = true) : bytB e := by
  cases hi : Try.prog.info? e with
  | none => rw [hi] at h; cases h
  | some i => rw [hi] at h; simp at h; exact ⟨i, hi, by rw [h]; exact Nat.le_of_ble_eq_true hn⟩
theorem by3 : bytB 3 := bytB_of (n := 8) (by kernel_rfl) rfl
theorem by135 : bytB 135 := bytB_of (n := 160) (by kernel_rfl) rfl
theorem by76 : bytB 76 := bytB_of (n := 40) (by kernel_rfl) rfl
theorem by69 : bytB 69 := bytB_of (n := 40) (by kernel_rfl) rfl

section
variable {N : Cx} {w0 : World} {l : Env} {O keep : Blks} {A : Args} {o : Oper} {ops : Array Oper} {Q : Exit → Act → World → Prop} {is : List Nat} {i d : Nat}

theorem k_append {s x : Operand} {t e size m cx n cp : Nat} {p q : Option Addr} {xs news zs : List Value} {B : Blks} (hsl : Sl B e size p n cp xs) (hby : bytB e)
    (hop : o.op = .call { callee := .builtin .append, args := #[s, x], argTypes := #[t, t] })
    (hs : ev l s = some (.slice p n cp)) (hx : ev l x = some (.slice q m cx)) (hT : nth slL t = some (some e)) (hsz : nth sizL e = some (some size)) (hzr : lookT zerL e = some zs) (hzl : zs.length = size) (hpos : Nat.blt 0 size = true)
    (hn : (m = 0 ∧ news = []) ∨ (0 < m ∧ ∃ bx ox, q = some ⟨bx, ox, none⟩ ∧ Lies keep A bx ox news)) (hnl : news.length = m * size) (h1 : flat news = true) (hlen : n + m ≤ 100000000000) :
    OpX Try.prog N w0 l B keep A o (fun v B' => ∃ p' c', v = .slice p' (n + m) c' ∧ Sl B' e size p' (n + m) c' (xs ++ news)) :=
  opx_append hop hs hx (sl_un (sl_of hT)) (siz_of hsz) (zer_of hzr) hzl (by simpa [Nat.blt_eq] using hpos) hsl hn hnl h1 hlen hby

/-- Of a literal of one element, in an own block. -/
theorem k_append1 {s x : Operand} {t e size n cp bx : Nat} {p : Option Addr} {xs news zs : List Value} {B : Blks} {T : TypeId} (j : Nat) (hsl : Sl B e size p n cp xs) (hby : bytB e)
    (hop : o.op = .call { callee := .builtin .append, args := #[s, x], argTypes := #[t, t] })
    (hs : ev l s = some (.slice p n cp)) (hx : ev l x = some (.slice (some ⟨bx, 0, none⟩) 1 1)) (hT : nth slL t = some (some e)) (hsz : nth sizL e = some (some size)) (hzr : lookT zerL e = some zs) (hzl : zs.length = size) (hpos : Nat.blt 0 size = true)
    (hj : keep[j]? = some (bx, news, T)) (hnl : news.length = size) (h1 : flat news = true) (hlen : n + 1 ≤ 100000000000) :
    OpX Try.prog N w0 l B keep A o (fun v B' => ∃ p' c', v = .slice p' (n + 1) c' ∧ Sl B' e size p' (n + 1) c' (xs ++ news)) :=
  k_append hsl hby hop hs hx hT hsz hzr hzl hpos (.inr ⟨Nat.lt_succ_self 0, bx, 0, rfl, Lies.whole j hj⟩) (by rw [hnl, Nat.one_mul]) h1 hlen

theorem okl_xm {φ : Value → Blks → Prop} (F B R : Blks) (ho : ops[i]? = some o) (hg : wantsB ops l o = some true) (hd : o.dst = some d) (hN : Nat.blt d N.n = true)
    (h : OpX Try.prog N w0 l B (F ++ R) A o φ) (hO : O = F ++ (B ++ R)) (rest : ∀ v B', φ v B' → OkL Try.prog N w0 ops Q is ((d, v) :: l) (F ++ (B' ++ R)) A) : OkL Try.prog N w0 ops Q (i :: is) l O A := by
  have swap : ∀ X : Blks, (F ++ (X ++ R)).Perm ([] ++ (X ++ (F ++ R))) := fun X => by
    have h1 : (F ++ X).Perm (X ++ F) := List.perm_append_comm
    have h2 := h1.append_right R
    simpa [List.append_assoc] using h2
  subst hO
  exact okl_x [] ho hg hd hN h (swap B) fun v B' hφ => okl_perm (swap B').symm (rest v B' hφ)

theorem okl_xm0 {φ : Value → Blks → Prop} (F B : Blks) (ho : ops[i]? = some o) (hg : wantsB ops l o = some true) (hd : o.dst = some d) (hN : Nat.blt d N.n = true)
    (h : OpX Try.prog N w0 l B F A o φ) (hO : O = F ++ B) (rest : ∀ v B', φ v B' → OkL Try.prog N w0 ops Q is ((d, v) :: l) (F ++ B') A) : OkL Try.prog N w0 ops Q (i :: is) l O A :=
  okl_xm F B [] ho hg hd hN (by simpa using h) (by simpa using hO) (fun v B' hφ => by simpa using rest v B' hφ)

theorem k_slice1N {T e n : Nat} {x : Operand} {cs zs : List Value} (ho : o.op = .buildSlice T 1 #[(0, x)]) (hx : ev l x = some (.agg cs.toArray)) (hT : nth slL T = some (some e)) (hm : nth sizL e = some (some n)) (hl : cs.length = n) (hz : lookT zerL e = some zs) (hzl : zs.length = n) (h0 : Nat.blt 0 n = true) (h24 : Nat.ble n 1000 = true) :
    OpV Try.prog N w0 l O A o (Res (fun b => .slice (some ⟨b, 0, none⟩) 1 1) (fun b => [(b, cs, e)]) (fun _ => True)) :=
  op_slice1N ho hx rfl (sl_un (sl_of hT)) (siz_of hm) hl (zer_of hz) hzl h0 h24

theorem s_slice1N {T e n : Nat} {x : Operand} {cs zs : List Value} (h0 : ops[i]? = some o) (hg : wantsB ops l o = some true) (hd : o.dst = some d) (hN : Nat.blt d N.n = true) (ho : o.op = .buildSlice T 1 #[(0, x)]) (hx : ev l x = some (.agg cs.toArray)) (hT : nth slL T = some (some e)) (hm : nth sizL e = some (some n)) (hl : cs.length = n) (hz : lookT zerL e = some zs) (hzl : zs.length = n) (h0' : Nat.blt 0 n = true) (h24 : Nat.ble n 1000 = true)
    (rest : ∀ b, OkL Try.prog N w0 ops Q is ((d, .slice (some ⟨b, 0, none⟩) 1 1) :: l) ((b, cs, e) :: O) A) : OkL Try.prog N w0 ops Q (i :: is) l O A :=
  okl_new h0 hg hd hN (k_slice1N ho hx hT hm hl hz hzl h0' h24) rest
end

theorem sub_drop {O B : Blks} (k : Nat) (h : O.drop k = B) : B.Sublist O := h ▸ List.drop_sublist k O
/-- Of what is handed back nothing lies anywhere. -/
theorem res_nil (w w' : World) : (∀ (b : Nat) (cs : List Value) (T : TypeId), (b, cs, T) ∈ ([] : Blks) → holds w' b cs T ∧ w.heap.size ≤ b) ∧ (([] : Blks).map (·.1)).Nodup := ⟨fun _ _ _ h => (by cases h), by simp⟩
/-- A slice that is handed back: where, its room, its block. -/
structure SlG where
  p : Option Addr
  c : Nat
  B : Blks
def SlG.nil : SlG := ⟨none, 0, []⟩

theorem covers_grp {O : Blks} {A : Args} {B : Blks} (h : ∀ x ∈ B, x ∈ O) : covers O A (argsOf B) := fun b cs hm => by
  obtain ⟨T, hm⟩ := mem_argsOf.1 hm
  exact .inl ⟨T, h _ hm⟩
theorem covers_two {O : Blks} {A M M' : Args} (h : covers O A M) (h' : covers O A M') : covers O A (M ++ M') := fun b cs hm => by
  rcases List.mem_append.1 hm with hm | hm
  · exact h b cs hm
  · exact h' b cs hm
end Go.Proofs.Ytdpnadknaacinaa
