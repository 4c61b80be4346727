/-
  Texts that the proof uses, part 2.
  Conditions: none.
-/
import Derived.Test.YtdpnadknaacinaaChanges1

set_option linter.unusedVariables false
set_option linter.unusedSimpArgs false

section
namespace Go.Proofs.Ytdpnadknaacinaa
open Go.Sx Go.Proofs.Ytdpnadknaacinaa.Ty

section
variable {N : Cx} {w0 : World} {l : Env} {O : Blks} {A : Args} {o : Oper} {ops : Array Oper} {Q : Exit → Act → World → Prop} {is : List Nat} {i d : Nat}

theorem okl_new {mk : Nat → Value} {cs : List Value} {T : TypeId} (ho : ops[i]? = some o) (hg : wantsB ops l o = some true) (hd : o.dst = some d) (hN : Nat.blt d N.n = true)
    (h : OpV Try.prog N w0 l O A o (Res mk (fun b => [(b, cs, T)]) (fun _ => True))) (rest : ∀ b, OkL Try.prog N w0 ops Q is ((d, mk b) :: l) ((b, cs, T) :: O) A) : OkL Try.prog N w0 ops Q (i :: is) l O A :=
  okl_r ho hg hd hN h (fun s _ => rest s)

theorem k_field {S k δ b off : Nat} {x : Operand} {fs : List (Option Nat)} (ho : o.op = .fieldAddr S x k) (hx : ev l x = some (.pointer (some ⟨b, off, none⟩))) (hl : lookT offL S = some fs) (hj : nth fs k = some (some δ)) :
    OpV Try.prog N w0 l O A o (pv (.pointer (some ⟨b, off + δ, none⟩))) := op_fieldAddr ho hx (off_of hl hj)

theorem k_load1 (j : Nat) {b off Ty : Nat} {T : TypeId} {cs : List Value} {x : Operand} {v : Value} (ho : o.op = .load Ty x) (hx : ev l x = some (.pointer (some ⟨b, off, none⟩)))
    (hj : O[j]? = some (b, cs, T)) (ha : nth aggL Ty = some (some false)) (hv : cs[off]? = some v) : OpV Try.prog N w0 l O A o (pv v) := op_load1 ho hx hj (agg_of ha) hv
theorem k_loadA1 (j : Nat) {b off Ty : Nat} {cs : List Value} {x : Operand} {v : Value} (ho : o.op = .load Ty x) (hx : ev l x = some (.pointer (some ⟨b, off, none⟩)))
    (hj : A[j]? = some (b, cs)) (ha : nth aggL Ty = some (some false)) (hv : cs[off]? = some v) : OpV Try.prog N w0 l O A o (pv v) := op_loadA1 ho hx hj (agg_of ha) hv
theorem k_loadW (j : Nat) {b Ty n : Nat} {T : TypeId} {cs : List Value} {x : Operand} (ho : o.op = .load Ty x) (hx : ev l x = some (.pointer (some ⟨b, 0, none⟩)))
    (hj : O[j]? = some (b, cs, T)) (ha : nth aggL Ty = some (some true)) (hn : nth sizL Ty = some (some n)) (hl : cs.length = n) : OpV Try.prog N w0 l O A o (pv (.agg cs.toArray)) := op_loadW ho hx hj (agg_of ha) (siz_of hn) hl
theorem k_loadP (j : Nat) {b off Ty n : Nat} {T : TypeId} {cs vs : List Value} {x : Operand} (ho : o.op = .load Ty x) (hx : ev l x = some (.pointer (some ⟨b, off, none⟩)))
    (hj : O[j]? = some (b, cs, T)) (ha : nth aggL Ty = some (some true)) (hn : nth sizL Ty = some (some n)) (hvs : sub cs off n = vs) (hl : vs.length = n) : OpV Try.prog N w0 l O A o (pv (.agg vs.toArray)) := op_loadP ho hx hj (agg_of ha) (siz_of hn) hvs hl
theorem k_loadP2 (j : Nat) {b off Ty : Nat} {T : TypeId} {cs : List Value} {x : Operand} {u v : Value} (ho : o.op = .load Ty x) (hx : ev l x = some (.pointer (some ⟨b, off, none⟩)))
    (hj : O[j]? = some (b, cs, T)) (ha : nth aggL Ty = some (some true)) (hn : nth sizL Ty = some (some 2)) (hu : cs[off]? = some u) (hv : cs[off + 1]? = some v) : OpV Try.prog N w0 l O A o (pv (.agg #[u, v])) :=
  k_loadP (vs := [u, v]) j ho hx hj ha hn (by
    unfold sub
    apply List.ext_getElem?
    intro k
    rw [List.getElem?_take, List.getElem?_drop]
    match k with
    | 0 => simpa using hu
    | 1 => simpa using hv
    | k + 2 => rw [if_neg (by omega)]; simp) rfl
theorem k_loadAP (j : Nat) {b off Ty n : Nat} {cs vs : List Value} {x : Operand} (ho : o.op = .load Ty x) (hx : ev l x = some (.pointer (some ⟨b, off, none⟩)))
    (hj : A[j]? = some (b, cs)) (ha : nth aggL Ty = some (some true)) (hn : nth sizL Ty = some (some (n + 1))) (hvs : sub cs off (n + 1) = vs) (hl : vs.length = n + 1) : OpV Try.prog N w0 l O A o (pv (.agg vs.toArray)) := op_loadAP ho hx hj (agg_of ha) (siz_of hn) hvs hl (by omega)

theorem k_boxA {Ty : Nat} {x : Operand} {cs : List Value} (ho : o.op = .box Ty x) (hx : ev l x = some (.agg cs.toArray)) :
    OpV Try.prog N w0 l O A o (Res (fun b => .pointer (some ⟨b, 0, none⟩)) (fun b => [(b, cs, Ty)]) (fun _ => True)) := op_box ho hx rfl
theorem k_box1 {Ty : Nat} {x : Operand} {v : Value} (ho : o.op = .box Ty x) (hx : ev l x = some v) (hv : v.cells = #[v]) :
    OpV Try.prog N w0 l O A o (Res (fun b => .pointer (some ⟨b, 0, none⟩)) (fun b => [(b, [v], Ty)]) (fun _ => True)) := op_box ho hx hv
theorem k_alloc {Ty : Nat} {cs : List Value} (ho : o.op = .alloc Ty) (hz : lookT zerL Ty = some cs) :
    OpV Try.prog N w0 l O A o (Res (fun b => .pointer (some ⟨b, 0, none⟩)) (fun b => [(b, cs, Ty)]) (fun _ => True)) := op_alloc ho (zer_of hz)
theorem k_len {T e : Nat} {x : Operand} {p : Option Addr} {n c : Nat} (ho : o.op = .call { callee := .builtin .len, args := #[x], argTypes := #[T] }) (hx : ev l x = some (.slice p n c)) (hT : nth slL T = some (some e)) :
    OpV Try.prog N w0 l O A o (pv (.int .i64 n)) := op_len ho hx (sl_un (sl_of hT))
theorem k_indexS {T e n m k j : Nat} {c : Nat} {b off : Nat} {q : Int} {x y : Operand} (ho : o.op = .indexAddr T x y) (hx : ev l x = some (.slice (some ⟨b, off, none⟩) n c)) (hy : ev l y = some (.int .i64 q))
    (hT : nth slL T = some (some e)) (hm : nth sizL e = some (some m)) (hq : q = (j : Int)) (hi : j < n) (hk : off + j * m = k) : OpV Try.prog N w0 l O A o (pv (.pointer (some ⟨b, k, none⟩))) :=
  op_indexS ho hx hy (sl_un (sl_of hT)) (siz_of hm) hq hi hk
theorem k_indexA {T e n m k j : Nat} {b off : Nat} {q : Int} {x y : Operand} (ho : o.op = .indexAddr T x y) (hx : ev l x = some (.pointer (some ⟨b, off, none⟩))) (hy : ev l y = some (.int .i64 q))
    (hT : nth arL T = some (some (n, e))) (hm : nth sizL e = some (some m)) (hq : q = (j : Int)) (hi : j < n) (hk : off + j * m = k) : OpV Try.prog N w0 l O A o (pv (.pointer (some ⟨b, k, none⟩))) :=
  op_indexA ho hx hy (ar_un (ar_of hT)) (siz_of hm) hq hi hk

/-! ### Literals of slices, of elements of one cell -/
theorem k_slice0 {T e m : Nat} (ho : o.op = .buildSlice T 0 #[]) (hT : nth slL T = some (some e)) (hm : nth sizL e = some (some m)) :
    OpV Try.prog N w0 l O A o (Res (fun b => .slice (some ⟨b, 0, none⟩) 0 0) (fun b => [(b, [], e)]) (fun _ => True)) := op_slice0 ho (sl_un (sl_of hT)) (siz_of hm)
theorem k_slice1 {T e : Nat} {x : Operand} {v z : Value} (ho : o.op = .buildSlice T 1 #[(0, x)]) (hx : ev l x = some v) (hv : v.cells = #[v]) (hT : nth slL T = some (some e)) (hm : nth sizL e = some (some 1)) (hz : lookT zerL e = some [z]) :
    OpV Try.prog N w0 l O A o (Res (fun b => .slice (some ⟨b, 0, none⟩) 1 1) (fun b => [(b, [v], e)]) (fun _ => True)) := op_slice1 ho hx hv (sl_un (sl_of hT)) (siz_of hm) (zer_of hz)
theorem k_slice2 {T e : Nat} {x y : Operand} {u v z : Value} (ho : o.op = .buildSlice T 2 #[(0, x), (1, y)]) (hx : ev l x = some u) (hy : ev l y = some v) (hu : u.cells = #[u]) (hv : v.cells = #[v]) (hT : nth slL T = some (some e)) (hm : nth sizL e = some (some 1)) (hz : lookT zerL e = some [z]) :
    OpV Try.prog N w0 l O A o (Res (fun b => .slice (some ⟨b, 0, none⟩) 2 2) (fun b => [(b, [u, v], e)]) (fun _ => True)) := op_slice2 ho hx hy hu hv (sl_un (sl_of hT)) (siz_of hm) (zer_of hz)

theorem k_build {T : Nat} {parts : Array (Nat × Operand)} {ps : List (Nat × Value)} {zs cs : List Value} {pl : List (Nat × Nat)} (ho : o.op = .build T parts) (hps : evParts l parts.toList = some ps)
    (hz : lookT zerL T = some zs) (hpl : lookT plaL T = some pl) (hf : fillL pl zs (ps.map fun p => (p.1, p.2.cells.toList)) = some cs) : OpV Try.prog N w0 l O A o (pv (.agg cs.toArray)) := op_build ho hps (zer_of hz) (pla_of hpl) hf
theorem fill_congr {f g : Nat → Option (Nat × Nat)} : ∀ (ps : List (Nat × Value)) (cs : Array Value), (∀ p ∈ ps, f p.1 = g p.1) → Instr.fill f cs ps = Instr.fill g cs ps
  | [], cs, _ => rfl
  | (i, v) :: ps, cs, h => by
    simp only [Instr.fill]
    have h1 := h (i, v) (by simp)
    simp only at h1
    rw [h1]
    cases g i with
    | none => rfl
    | some x =>
      simp only
      split
      · rfl
      · exact fill_congr ps _ (fun p hp => h p (by simp [hp]))
def plA (n m : Nat) : List (Nat × Nat) := (List.range n).map fun i => (i * m, m)
theorem k_buildA {T n e m : Nat} {parts : Array (Nat × Operand)} {ps : List (Nat × Value)} {zs cs : List Value} (ho : o.op = .build T parts) (hps : evParts l parts.toList = some ps)
    (hz : lookT zerL T = some zs) (hT : nth arL T = some (some (n, e))) (hm : nth sizL e = some (some m)) (hlt : (ps.all fun p => Nat.blt p.1 n) = true) (hf : fillL (plA n m) zs (ps.map fun p => (p.1, p.2.cells.toList)) = some cs) : OpV Try.prog N w0 l O A o (pv (.agg cs.toArray)) :=
  opv_run fun a w hs => by
    have h1 : (parts.map fun (i, x) => (i, a.eval x)).toList = ps := by
      have := evParts_map hs hps
      simpa using this
    have hz := zer_of hz
    unfold zeroB at hz
    have hu := ar_un (ar_of hT)
    have hs' := fun w => Go.Sx.run_sizeOf (P := Try.prog) (siz_of hm) w
    cases hi : (Try.prog.info? T) with
    | none => rw [hi] at hz; simp at hz
    | some i =>
      cases hzz : i.zero with
      | none => rw [hi] at hz; simp [hzz] at hz
      | some z =>
        rw [hi] at hz; simp [hzz] at hz
        have hzc : z.cells = zs.toArray := by rw [← hz]
        have h4 := fill_of (plA n m) ps zs cs hf
        have h5 : Instr.fill (fun i => some (i * m, m)) zs.toArray ps = some cs.toArray := by
          rw [← h4]
          refine fill_congr _ _ ?_
          intro p hp
          rw [List.all_eq_true] at hlt
          have := hlt p hp
          have hp' : p.1 < n := by simpa [Nat.blt_eq] using this
          simp [plA, hp']
        simp at h1
        simp [execOp, ho, Instr.build, zeroValue, typeInfo, hi, hzz, run_underlying hu, hs', h1, hzc, h5]
theorem s_buildA {i d : Nat} {ops : Array Oper} {is : List Nat} {Q : Exit → Act → World → Prop} {T n e m : Nat} {parts : Array (Nat × Operand)} {ps : List (Nat × Value)} {zs cs : List Value} (h0 : ops[i]? = some o) (hg : wantsB ops l o = some true) (hd : o.dst = some d) (hN : Nat.blt d N.n = true) (ho : o.op = .build T parts) (hps : evParts l parts.toList = some ps)
    (hz : lookT zerL T = some zs) (hT : nth arL T = some (some (n, e))) (hm : nth sizL e = some (some m)) (hlt : (ps.all fun p => Nat.blt p.1 n) = true) (hf : fillL (plA n m) zs (ps.map fun p => (p.1, p.2.cells.toList)) = some cs)
    (rest : OkL Try.prog N w0 ops Q is ((d, .agg cs.toArray) :: l) O A) : OkL Try.prog N w0 ops Q (i :: is) l O A := okl_v h0 hg hd hN (k_buildA ho hps hz hT hm hlt hf) rest
theorem k_store (j : Nat) {i b off Ty n : Nat} {T : TypeId} {cs vs : List Value} {x y : Operand} {v : Value} (ho : ops[i]? = some o) (hg : wantsB ops l o = some true) (hd : o.dst = none) (hop : o.op = .store Ty x y)
    (hx : ev l x = some (.pointer (some ⟨b, off, none⟩))) (hy : ev l y = some v) (hv : v.cells = vs.toArray) (hj : O[j]? = some (b, cs, T)) (hn : nth sizL Ty = some (some n)) (hl : vs.length = n) (hfit : Nat.ble (off + n) cs.length = true) (h1 : flat vs = true)
    (rest : OkL Try.prog N w0 ops Q is l (O.set j (b, setL cs off vs, T)) A) : OkL Try.prog N w0 ops Q (i :: is) l O A := okl_store ho hg hd hop hx hy hv hj (siz_of hn) hl (Nat.le_of_ble_eq_true hfit) h1 rest
theorem k_storeW (j : Nat) {i b Ty n : Nat} {T : TypeId} {cs vs : List Value} {x y : Operand} {v : Value} (ho : ops[i]? = some o) (hg : wantsB ops l o = some true) (hd : o.dst = none) (hop : o.op = .store Ty x y)
    (hx : ev l x = some (.pointer (some ⟨b, 0, none⟩))) (hy : ev l y = some v) (hv : v.cells = vs.toArray) (hj : O[j]? = some (b, cs, T)) (hn : nth sizL Ty = some (some n)) (hl : vs.length = n) (hfit : cs.length = n) (h1 : flat vs = true)
    (rest : OkL Try.prog N w0 ops Q is l (O.set j (b, vs, T)) A) : OkL Try.prog N w0 ops Q (i :: is) l O A := okl_storeW ho hg hd hop hx hy hv hj (siz_of hn) hl hfit h1 rest
theorem k_ragg (j : Nat) {p ty b n : Nat} {cs : List Value} {T : TypeId} (hp : get l p = some (.pointer (some ⟨b, 0, none⟩))) (hj : O[j]? = some (b, cs, T)) (ha : nth aggL ty = some (some true)) (hn : nth sizL ty = some (some n)) (hl : cs.length = n) :
    Rv Try.prog l O (.cell p ty) (.agg cs.toArray) := rv_agg j hp hj (agg_of ha) (siz_of hn) hl
theorem k_rone (j : Nat) {p ty b : Nat} {cs : List Value} {T : TypeId} {v : Value} (hp : get l p = some (.pointer (some ⟨b, 0, none⟩))) (hj : O[j]? = some (b, cs, T)) (ha : nth aggL ty = some (some false)) (hv : cs[0]? = some v) :
    Rv Try.prog l O (.cell p ty) v := rv_one j hp hj (agg_of ha) hv

/-! ### The same, one step each -/
theorem s_move {x : Operand} {v : Value} (h0 : ops[i]? = some o) (hg : wantsB ops l o = some true) (hd : o.dst = some d) (hN : Nat.blt d N.n = true) (ho : o.op = .move x) (hx : ev l x = some v)
    (rest : OkL Try.prog N w0 ops Q is ((d, v) :: l) O A) : OkL Try.prog N w0 ops Q (i :: is) l O A := okl_v h0 hg hd hN (op_move ho hx) rest

theorem s_assign {x : Operand} {v : Value} (h0 : ops[i]? = some o) (hg : wantsB ops l o = some true) (hd : o.dst = some d) (hN : Nat.blt d N.n = true) (ho : o.op = .assign x) (hx : ev l x = some v)
    (rest : OkL Try.prog N w0 ops Q is ((d, v) :: l) O A) : OkL Try.prog N w0 ops Q (i :: is) l O A := okl_v h0 hg hd hN (op_assign ho hx) rest

theorem s_pick_t {c x y : Operand} {v : Value} (h0 : ops[i]? = some o) (hg : wantsB ops l o = some true) (hd : o.dst = some d) (hN : Nat.blt d N.n = true) (ho : o.op = .pick c x y) (hc : ev l c = some (.bool true)) (hx : ev l x = some v)
    (rest : OkL Try.prog N w0 ops Q is ((d, v) :: l) O A) : OkL Try.prog N w0 ops Q (i :: is) l O A := okl_v h0 hg hd hN (op_pick_t ho hc hx) rest

theorem s_pick_f {c x y : Operand} {v : Value} (h0 : ops[i]? = some o) (hg : wantsB ops l o = some true) (hd : o.dst = some d) (hN : Nat.blt d N.n = true) (ho : o.op = .pick c x y) (hc : ev l c = some (.bool false)) (hx : ev l y = some v)
    (rest : OkL Try.prog N w0 ops Q is ((d, v) :: l) O A) : OkL Try.prog N w0 ops Q (i :: is) l O A := okl_v h0 hg hd hN (op_pick_f ho hc hx) rest

theorem s_cmp {b : BinOp} {T T' : TypeId} {x y : Operand} {k : IntKind} {p q : Int} {r : Bool} (h0 : ops[i]? = some o) (hg : wantsB ops l o = some true) (hd : o.dst = some d) (hN : Nat.blt d N.n = true) (ho : o.op = .binOp b T x y T') (hx : ev l x = some (.int k p)) (hy : ev l y = some (.int k q)) (hr : cmpB b p q = some r)
    (rest : OkL Try.prog N w0 ops Q is ((d, .bool r) :: l) O A) : OkL Try.prog N w0 ops Q (i :: is) l O A := okl_v h0 hg hd hN (op_cmp ho hx hy hr) rest

theorem s_cmpc {b : BinOp} {T T' : TypeId} {x y : Operand} {k : IntKind} {p q : Int} {r : Bool} (c : Bool) (h0 : ops[i]? = some o) (hg : wantsB ops l o = some true) (hd : o.dst = some d) (hN : Nat.blt d N.n = true) (ho : o.op = .binOp b T x y T') (hx : ev l x = some (.int k p)) (hy : ev l y = some (.int k q)) (hr : cmpB b p q = some r) (hc : r = c)
    (rest : OkL Try.prog N w0 ops Q is ((d, .bool c) :: l) O A) : OkL Try.prog N w0 ops Q (i :: is) l O A := okl_v h0 hg hd hN (hc ▸ op_cmp ho hx hy hr) rest

theorem s_add {T T' : TypeId} {x y : Operand} {p q : Int} (h0 : ops[i]? = some o) (hg : wantsB ops l o = some true) (hd : o.dst = some d) (hN : Nat.blt d N.n = true) (ho : o.op = .binOp .add T x y T') (hx : ev l x = some (.int .i64 p)) (hy : ev l y = some (.int .i64 q)) (hr : -9223372036854775808 ≤ p + q ∧ p + q ≤ 9223372036854775807)
    (rest : OkL Try.prog N w0 ops Q is ((d, .int .i64 (p + q)) :: l) O A) : OkL Try.prog N w0 ops Q (i :: is) l O A := okl_v h0 hg hd hN (op_add ho hx hy hr) rest

theorem s_sub {T T' : TypeId} {x y : Operand} {p q : Int} (h0 : ops[i]? = some o) (hg : wantsB ops l o = some true) (hd : o.dst = some d) (hN : Nat.blt d N.n = true) (ho : o.op = .binOp .sub T x y T') (hx : ev l x = some (.int .i64 p)) (hy : ev l y = some (.int .i64 q)) (hr : -9223372036854775808 ≤ p - q ∧ p - q ≤ 9223372036854775807)
    (rest : OkL Try.prog N w0 ops Q is ((d, .int .i64 (p - q)) :: l) O A) : OkL Try.prog N w0 ops Q (i :: is) l O A := okl_v h0 hg hd hN (op_sub ho hx hy hr) rest

theorem s_mul {T T' : TypeId} {x y : Operand} {p q : Int} (h0 : ops[i]? = some o) (hg : wantsB ops l o = some true) (hd : o.dst = some d) (hN : Nat.blt d N.n = true) (ho : o.op = .binOp .mul T x y T') (hx : ev l x = some (.int .i64 p)) (hy : ev l y = some (.int .i64 q)) (hr : -9223372036854775808 ≤ p * q ∧ p * q ≤ 9223372036854775807)
    (rest : OkL Try.prog N w0 ops Q is ((d, .int .i64 (p * q)) :: l) O A) : OkL Try.prog N w0 ops Q (i :: is) l O A := okl_v h0 hg hd hN (op_mul ho hx hy hr) rest

theorem s_quo {T T' : TypeId} {x y : Operand} {p q : Int} (h0 : ops[i]? = some o) (hg : wantsB ops l o = some true) (hd : o.dst = some d) (hN : Nat.blt d N.n = true) (ho : o.op = .binOp .quo T x y T') (hx : ev l x = some (.int .i64 p)) (hy : ev l y = some (.int .i64 q)) (hj : 0 ≤ p ∧ p ≤ 9223372036854775807 ∧ 0 < q)
    (rest : OkL Try.prog N w0 ops Q is ((d, .int .i64 (p / q)) :: l) O A) : OkL Try.prog N w0 ops Q (i :: is) l O A := okl_v h0 hg hd hN (op_quoP ho hx hy hj) rest

theorem s_not {T : TypeId} {x : Operand} {r : Bool} (h0 : ops[i]? = some o) (hg : wantsB ops l o = some true) (hd : o.dst = some d) (hN : Nat.blt d N.n = true) (ho : o.op = .unOp .not T x) (hx : ev l x = some (.bool r))
    (rest : OkL Try.prog N w0 ops Q is ((d, .bool (!r)) :: l) O A) : OkL Try.prog N w0 ops Q (i :: is) l O A := okl_v h0 hg hd hN (op_not ho hx) rest

theorem s_extract {x : Operand} {k : Nat} {vs : Array Value} {v : Value} (h0 : ops[i]? = some o) (hg : wantsB ops l o = some true) (hd : o.dst = some d) (hN : Nat.blt d N.n = true) (ho : o.op = .extract x k) (hx : ev l x = some (.tuple vs)) (hv : vs[k]? = some v)
    (rest : OkL Try.prog N w0 ops Q is ((d, v) :: l) O A) : OkL Try.prog N w0 ops Q (i :: is) l O A := okl_v h0 hg hd hN (op_extract ho hx hv) rest

theorem s_max {ts : Array TypeId} {x y : Operand} {k : IntKind} {p q : Int} (h0 : ops[i]? = some o) (hg : wantsB ops l o = some true) (hd : o.dst = some d) (hN : Nat.blt d N.n = true) (ho : o.op = .call { callee := .builtin .max, args := #[x, y], argTypes := ts }) (hx : ev l x = some (.int k p)) (hy : ev l y = some (.int k q))
    (rest : OkL Try.prog N w0 ops Q is ((d, .int k (max p q)) :: l) O A) : OkL Try.prog N w0 ops Q (i :: is) l O A := okl_v h0 hg hd hN (op_max ho hx hy) rest

theorem s_min {ts : Array TypeId} {x y : Operand} {k : IntKind} {p q : Int} (h0 : ops[i]? = some o) (hg : wantsB ops l o = some true) (hd : o.dst = some d) (hN : Nat.blt d N.n = true) (ho : o.op = .call { callee := .builtin .min, args := #[x, y], argTypes := ts }) (hx : ev l x = some (.int k p)) (hy : ev l y = some (.int k q))
    (rest : OkL Try.prog N w0 ops Q is ((d, .int k (min p q)) :: l) O A) : OkL Try.prog N w0 ops Q (i :: is) l O A := okl_v h0 hg hd hN (op_min ho hx hy) rest

theorem s_field {S k δ b off : Nat} {x : Operand} {fs : List (Option Nat)} (h0 : ops[i]? = some o) (hg : wantsB ops l o = some true) (hd : o.dst = some d) (hN : Nat.blt d N.n = true) (ho : o.op = .fieldAddr S x k) (hx : ev l x = some (.pointer (some ⟨b, off, none⟩))) (hl : lookT offL S = some fs) (hj : nth fs k = some (some δ))
    (rest : OkL Try.prog N w0 ops Q is ((d, .pointer (some ⟨b, off + δ, none⟩)) :: l) O A) : OkL Try.prog N w0 ops Q (i :: is) l O A := okl_v h0 hg hd hN (k_field ho hx hl hj) rest

theorem s_load1 (j : Nat) {b off Ty : Nat} {T : TypeId} {cs : List Value} {x : Operand} {v : Value} (h0 : ops[i]? = some o) (hg : wantsB ops l o = some true) (hd : o.dst = some d) (hN : Nat.blt d N.n = true) (ho : o.op = .load Ty x) (ha : nth aggL Ty = some (some false)) (hx : ev l x = some (.pointer (some ⟨b, off, none⟩))) (hj : O[j]? = some (b, cs, T)) (hv : cs[off]? = some v)
    (rest : OkL Try.prog N w0 ops Q is ((d, v) :: l) O A) : OkL Try.prog N w0 ops Q (i :: is) l O A := okl_v h0 hg hd hN (k_load1 j ho hx hj ha hv) rest

theorem s_loadA1 (j : Nat) {b off Ty : Nat} {cs : List Value} {x : Operand} {v : Value} (h0 : ops[i]? = some o) (hg : wantsB ops l o = some true) (hd : o.dst = some d) (hN : Nat.blt d N.n = true) (ho : o.op = .load Ty x) (ha : nth aggL Ty = some (some false)) (hx : ev l x = some (.pointer (some ⟨b, off, none⟩))) (hj : A[j]? = some (b, cs)) (hv : cs[off]? = some v)
    (rest : OkL Try.prog N w0 ops Q is ((d, v) :: l) O A) : OkL Try.prog N w0 ops Q (i :: is) l O A := okl_v h0 hg hd hN (k_loadA1 j ho hx hj ha hv) rest

theorem s_loadW (j : Nat) {b Ty n : Nat} {T : TypeId} {cs : List Value} {x : Operand} (h0 : ops[i]? = some o) (hg : wantsB ops l o = some true) (hd : o.dst = some d) (hN : Nat.blt d N.n = true) (ho : o.op = .load Ty x) (ha : nth aggL Ty = some (some true)) (hx : ev l x = some (.pointer (some ⟨b, 0, none⟩))) (hj : O[j]? = some (b, cs, T)) (hn : nth sizL Ty = some (some n)) (hl : cs.length = n)
    (rest : OkL Try.prog N w0 ops Q is ((d, .agg cs.toArray) :: l) O A) : OkL Try.prog N w0 ops Q (i :: is) l O A := okl_v h0 hg hd hN (k_loadW j ho hx hj ha hn hl) rest

theorem s_loadP2 (j : Nat) {b off Ty : Nat} {T : TypeId} {cs : List Value} {x : Operand} {u v : Value} (h0 : ops[i]? = some o) (hg : wantsB ops l o = some true) (hd : o.dst = some d) (hN : Nat.blt d N.n = true) (ho : o.op = .load Ty x) (ha : nth aggL Ty = some (some true)) (hx : ev l x = some (.pointer (some ⟨b, off, none⟩))) (hj : O[j]? = some (b, cs, T)) (hn : nth sizL Ty = some (some 2)) (hu : cs[off]? = some u) (hv : cs[off + 1]? = some v)
    (rest : OkL Try.prog N w0 ops Q is ((d, .agg #[u, v]) :: l) O A) : OkL Try.prog N w0 ops Q (i :: is) l O A := okl_v h0 hg hd hN (k_loadP2 j ho hx hj ha hn hu hv) rest

theorem s_loadP (j : Nat) {b off Ty n : Nat} {T : TypeId} {cs vs : List Value} {x : Operand} (h0 : ops[i]? = some o) (hg : wantsB ops l o = some true) (hd : o.dst = some d) (hN : Nat.blt d N.n = true) (ho : o.op = .load Ty x) (ha : nth aggL Ty = some (some true)) (hx : ev l x = some (.pointer (some ⟨b, off, none⟩))) (hj : O[j]? = some (b, cs, T)) (hn : nth sizL Ty = some (some n)) (hvs : sub cs off n = vs) (hl : vs.length = n)
    (rest : OkL Try.prog N w0 ops Q is ((d, .agg vs.toArray) :: l) O A) : OkL Try.prog N w0 ops Q (i :: is) l O A := okl_v h0 hg hd hN (k_loadP j ho hx hj ha hn hvs hl) rest

theorem s_loadAP (j : Nat) {b off Ty n : Nat} {cs vs : List Value} {x : Operand} (h0 : ops[i]? = some o) (hg : wantsB ops l o = some true) (hd : o.dst = some d) (hN : Nat.blt d N.n = true) (ho : o.op = .load Ty x) (ha : nth aggL Ty = some (some true)) (hx : ev l x = some (.pointer (some ⟨b, off, none⟩))) (hj : A[j]? = some (b, cs)) (hn : nth sizL Ty = some (some (n + 1))) (hvs : sub cs off (n + 1) = vs) (hl : vs.length = n + 1)
    (rest : OkL Try.prog N w0 ops Q is ((d, .agg vs.toArray) :: l) O A) : OkL Try.prog N w0 ops Q (i :: is) l O A := okl_v h0 hg hd hN (k_loadAP j ho hx hj ha hn hvs hl) rest

theorem s_len {T e : Nat} {x : Operand} {p : Option Addr} {n c : Nat} (h0 : ops[i]? = some o) (hg : wantsB ops l o = some true) (hd : o.dst = some d) (hN : Nat.blt d N.n = true) (ho : o.op = .call { callee := .builtin .len, args := #[x], argTypes := #[T] }) (hx : ev l x = some (.slice p n c)) (hT : nth slL T = some (some e))
    (rest : OkL Try.prog N w0 ops Q is ((d, .int .i64 n) :: l) O A) : OkL Try.prog N w0 ops Q (i :: is) l O A := okl_v h0 hg hd hN (k_len ho hx hT) rest

theorem s_indexS {T e n m k : Nat} (j : Nat) {c : Nat} {b off : Nat} {q : Int} {x y : Operand} (h0 : ops[i]? = some o) (hg : wantsB ops l o = some true) (hd : o.dst = some d) (hN : Nat.blt d N.n = true) (ho : o.op = .indexAddr T x y) (hx : ev l x = some (.slice (some ⟨b, off, none⟩) n c)) (hy : ev l y = some (.int .i64 q)) (hT : nth slL T = some (some e)) (hm : nth sizL e = some (some m)) (hq : q = (j : Int)) (hi : j < n) (hk : off + j * m = k)
    (rest : OkL Try.prog N w0 ops Q is ((d, .pointer (some ⟨b, k, none⟩)) :: l) O A) : OkL Try.prog N w0 ops Q (i :: is) l O A := okl_v h0 hg hd hN (k_indexS ho hx hy hT hm hq hi hk) rest

theorem s_indexA {T e n m k : Nat} (j : Nat) {b off : Nat} {q : Int} {x y : Operand} (h0 : ops[i]? = some o) (hg : wantsB ops l o = some true) (hd : o.dst = some d) (hN : Nat.blt d N.n = true) (ho : o.op = .indexAddr T x y) (hx : ev l x = some (.pointer (some ⟨b, off, none⟩))) (hy : ev l y = some (.int .i64 q)) (hT : nth arL T = some (some (n, e))) (hm : nth sizL e = some (some m)) (hq : q = (j : Int)) (hi : j < n) (hk : off + j * m = k)
    (rest : OkL Try.prog N w0 ops Q is ((d, .pointer (some ⟨b, k, none⟩)) :: l) O A) : OkL Try.prog N w0 ops Q (i :: is) l O A := okl_v h0 hg hd hN (k_indexA ho hx hy hT hm hq hi hk) rest

theorem s_build {T : Nat} {parts : Array (Nat × Operand)} {ps : List (Nat × Value)} {zs cs : List Value} {pl : List (Nat × Nat)} (h0 : ops[i]? = some o) (hg : wantsB ops l o = some true) (hd : o.dst = some d) (hN : Nat.blt d N.n = true) (ho : o.op = .build T parts) (hps : evParts l parts.toList = some ps) (hz : lookT zerL T = some zs) (hpl : lookT plaL T = some pl) (hf : fillL pl zs (ps.map fun p => (p.1, p.2.cells.toList)) = some cs)
    (rest : OkL Try.prog N w0 ops Q is ((d, .agg cs.toArray) :: l) O A) : OkL Try.prog N w0 ops Q (i :: is) l O A := okl_v h0 hg hd hN (k_build ho hps hz hpl hf) rest

theorem s_callv {f : Nat} {xs : Array Operand} {ts : Array TypeId} {x : Operand} {vs : List Value} {cap : Array Value} {M : Args} {r : Value} (h0 : ops[i]? = some o) (hg : wantsB ops l o = some true) (hd : o.dst = some d) (hN : Nat.blt d N.n = true) (ho : o.op = .call { callee := .value x, args := xs, argTypes := ts }) (hf : ev l x = some (.func (.func f) #[] cap)) (hx : evAll l xs.toList = some vs) (hc : callable Try.prog f)
    (hF : Cn Try.prog f (vs ++ cap.toList) M (fun _ : Unit => r) (fun _ => []) (fun _ => True)) (hM : covers O A M)
    (rest : OkL Try.prog N w0 ops Q is ((d, r) :: l) O A) : OkL Try.prog N w0 ops Q (i :: is) l O A := okl_v h0 hg hd hN (op_callv ho hf hx hc hF hM) rest

theorem s_boxA {Ty : Nat} {x : Operand} {cs : List Value} (h0 : ops[i]? = some o) (hg : wantsB ops l o = some true) (hd : o.dst = some d) (hN : Nat.blt d N.n = true) (ho : o.op = .box Ty x) (hx : ev l x = some (.agg cs.toArray))
    (rest : ∀ b, OkL Try.prog N w0 ops Q is ((d, .pointer (some ⟨b, 0, none⟩)) :: l) ((b, cs, Ty) :: O) A) : OkL Try.prog N w0 ops Q (i :: is) l O A := okl_new h0 hg hd hN (k_boxA ho hx) rest

theorem s_box1 {Ty : Nat} {x : Operand} {v : Value} (h0 : ops[i]? = some o) (hg : wantsB ops l o = some true) (hd : o.dst = some d) (hN : Nat.blt d N.n = true) (ho : o.op = .box Ty x) (hx : ev l x = some v) (hv : v.cells = #[v])
    (rest : ∀ b, OkL Try.prog N w0 ops Q is ((d, .pointer (some ⟨b, 0, none⟩)) :: l) ((b, [v], Ty) :: O) A) : OkL Try.prog N w0 ops Q (i :: is) l O A := okl_new h0 hg hd hN (k_box1 ho hx hv) rest

theorem s_alloc {Ty : Nat} {cs : List Value} (h0 : ops[i]? = some o) (hg : wantsB ops l o = some true) (hd : o.dst = some d) (hN : Nat.blt d N.n = true) (ho : o.op = .alloc Ty) (hz : lookT zerL Ty = some cs)
    (rest : ∀ b, OkL Try.prog N w0 ops Q is ((d, .pointer (some ⟨b, 0, none⟩)) :: l) ((b, cs, Ty) :: O) A) : OkL Try.prog N w0 ops Q (i :: is) l O A := okl_new h0 hg hd hN (k_alloc ho hz) rest

theorem s_slice0 {T e m : Nat} (h0 : ops[i]? = some o) (hg : wantsB ops l o = some true) (hd : o.dst = some d) (hN : Nat.blt d N.n = true) (ho : o.op = .buildSlice T 0 #[]) (hT : nth slL T = some (some e)) (hm : nth sizL e = some (some m))
    (rest : ∀ b, OkL Try.prog N w0 ops Q is ((d, .slice (some ⟨b, 0, none⟩) 0 0) :: l) ((b, [], e) :: O) A) : OkL Try.prog N w0 ops Q (i :: is) l O A := okl_new h0 hg hd hN (k_slice0 ho hT hm) rest

theorem s_slice1 {T e : Nat} {x : Operand} {v z : Value} (h0 : ops[i]? = some o) (hg : wantsB ops l o = some true) (hd : o.dst = some d) (hN : Nat.blt d N.n = true) (ho : o.op = .buildSlice T 1 #[(0, x)]) (hx : ev l x = some v) (hv : v.cells = #[v]) (hT : nth slL T = some (some e)) (hm : nth sizL e = some (some 1)) (hz : lookT zerL e = some [z])
    (rest : ∀ b, OkL Try.prog N w0 ops Q is ((d, .slice (some ⟨b, 0, none⟩) 1 1) :: l) ((b, [v], e) :: O) A) : OkL Try.prog N w0 ops Q (i :: is) l O A := okl_new h0 hg hd hN (k_slice1 ho hx hv hT hm hz) rest

theorem s_slice2 {T e : Nat} {x y : Operand} {u v z : Value} (h0 : ops[i]? = some o) (hg : wantsB ops l o = some true) (hd : o.dst = some d) (hN : Nat.blt d N.n = true) (ho : o.op = .buildSlice T 2 #[(0, x), (1, y)]) (hx : ev l x = some u) (hy : ev l y = some v) (hu : u.cells = #[u]) (hv : v.cells = #[v]) (hT : nth slL T = some (some e)) (hm : nth sizL e = some (some 1)) (hz : lookT zerL e = some [z])
    (rest : ∀ b, OkL Try.prog N w0 ops Q is ((d, .slice (some ⟨b, 0, none⟩) 2 2) :: l) ((b, [u, v], e) :: O) A) : OkL Try.prog N w0 ops Q (i :: is) l O A := okl_new h0 hg hd hN (k_slice2 ho hx hy hu hv hT hm hz) rest

theorem s_cmpS {b : BinOp} {T T' : TypeId} {x y : Operand} {k : IntKind} {p q : Int} {r : Bool} (h0 : ops[i]? = some o) (hg : wantsB ops l o = some true) (hd : o.dst = some d) (hN : Nat.blt d N.n = true) (ho : o.op = .binOp b T x y T') (hx : ev l x = some (.int k p)) (hy : ev l y = some (.int k q)) (hr : cmpB b p q = some r)
    (ht : r = true → OkL Try.prog N w0 ops Q is ((d, .bool true) :: l) O A) (hf : r = false → OkL Try.prog N w0 ops Q is ((d, .bool false) :: l) O A) : OkL Try.prog N w0 ops Q (i :: is) l O A := by
  cases r with
  | true => exact okl_v h0 hg hd hN (op_cmp ho hx hy hr) (ht rfl)
  | false => exact okl_v h0 hg hd hN (op_cmp ho hx hy hr) (hf rfl)

theorem s_callb {f : Nat} {xs : Array Operand} {ts : Array TypeId} {x : Operand} {vs : List Value} {cap : Array Value} {M : Args} {r : Bool} (h0 : ops[i]? = some o) (hg : wantsB ops l o = some true) (hd : o.dst = some d) (hN : Nat.blt d N.n = true) (ho : o.op = .call { callee := .value x, args := xs, argTypes := ts }) (hf : ev l x = some (.func (.func f) #[] cap)) (hx : evAll l xs.toList = some vs) (hc : callable Try.prog f)
    (hF : Cn Try.prog f (vs ++ cap.toList) M (fun _ : Unit => .bool r) (fun _ => []) (fun _ => True)) (hM : covers O A M)
    (ht : r = true → OkL Try.prog N w0 ops Q is ((d, .bool true) :: l) O A) (hff : r = false → OkL Try.prog N w0 ops Q is ((d, .bool false) :: l) O A) : OkL Try.prog N w0 ops Q (i :: is) l O A := by
  cases r with
  | true => exact okl_v h0 hg hd hN (op_callv ho hf hx hc hF hM) (ht rfl)
  | false => exact okl_v h0 hg hd hN (op_callv ho hf hx hc hF hM) (hff rfl)
end

/-! ### In a region that draws -/
section
variable {N : Cx} {w0 : World} {l lb : Env} {O : Blks} {A : Args} {o : Oper} {ops : Array Oper} {Q : Exit → Act → World → Prop} {i d id : Nat} {es : Ents}

theorem d_v (ds : List Nat) {x : Value} (hi : es.length = i) (ho : ops[i]? = some o) (hd : o.dst = some d) (hN : Nat.blt d N.n = true) (hds : depsB o i ds = true)
    (hg : ∀ ν, wantsB ops (envD es ν ds ++ lb) o = some true) (hv : ∀ ν, OpV Try.prog N w0 (envD es ν ds ++ lb) (blkD es ν ds ++ O) A o (pv x))
    (rest : Dr Try.prog N w0 id ops Q l lb O A ((i, d, some (.inl x)) :: es)) : Dr Try.prog N w0 id ops Q l lb O A es :=
  dr_step ds hi ho hd hN hds (e := some (.inl x)) (fun ν => .inl ⟨hg ν, hv ν⟩) rest
theorem d_skip (ds : List Nat) (hi : es.length = i) (ho : ops[i]? = some o) (hd : o.dst = some d) (hN : Nat.blt d N.n = true) (hds : depsB o i ds = true)
    (hg : ∀ ν, wantsB ops (envD es ν ds ++ lb) o = some false)
    (rest : Dr Try.prog N w0 id ops Q l lb O A ((i, d, some (.inl undef)) :: es)) : Dr Try.prog N w0 id ops Q l lb O A es :=
  dr_step ds hi ho hd hN hds (e := some (.inl undef)) (fun ν => .inr ⟨hg ν, rfl⟩) rest
theorem d_new (ds : List Nat) {mk : Nat → Value} {cs : List Value} {T : Nat} (hi : es.length = i) (ho : ops[i]? = some o) (hd : o.dst = some d) (hN : Nat.blt d N.n = true) (hds : depsB o i ds = true)
    (hg : ∀ ν, wantsB ops (envD es ν ds ++ lb) o = some true) (hv : ∀ ν, OpV Try.prog N w0 (envD es ν ds ++ lb) (blkD es ν ds ++ O) A o (Res mk (fun b => [(b, cs, T)]) (fun _ => True)))
    (rest : Dr Try.prog N w0 id ops Q l lb O A ((i, d, some (.inr (mk, cs, T))) :: es)) : Dr Try.prog N w0 id ops Q l lb O A es :=
  dr_step ds hi ho hd hN hds (e := some (.inr (mk, cs, T))) (fun ν => ⟨hg ν, hv ν⟩) rest
theorem d_b (ds : List Nat) {r : Bool} (hi : es.length = i) (ho : ops[i]? = some o) (hd : o.dst = some d) (hN : Nat.blt d N.n = true) (hds : depsB o i ds = true)
    (hg : ∀ ν, wantsB ops (envD es ν ds ++ lb) o = some true) (hv : ∀ ν, OpV Try.prog N w0 (envD es ν ds ++ lb) (blkD es ν ds ++ O) A o (pv (.bool r)))
    (ht : r = true → Dr Try.prog N w0 id ops Q l lb O A ((i, d, some (.inl (.bool true))) :: es)) (hf : r = false → Dr Try.prog N w0 id ops Q l lb O A ((i, d, some (.inl (.bool false))) :: es)) : Dr Try.prog N w0 id ops Q l lb O A es := by
  cases r with
  | true => exact d_v ds hi ho hd hN hds hg hv (ht rfl)
  | false => exact d_v ds hi ho hd hN hds hg hv (hf rfl)
end
section
variable {N : Cx} {w0 : World} {l lb : Env} {O : Blks} {A : Args} {o : Oper} {ops : Array Oper} {Q : Exit → Act → World → Prop} {i d id : Nat} {es : Ents}
theorem d_move {x : Operand} {v : Value} (ds : List Nat) (hi : es.length = i) (h0 : ops[i]? = some o) (hd : o.dst = some d) (hN : Nat.blt d N.n = true) (hds : depsB o i ds = true)
    (hg : ∀ ν, wantsB ops (envD es ν ds ++ lb) o = some true) (ho : o.op = .move x) (hx : ∀ ν, ev (envD es ν ds ++ lb) x = some v)
    (rest : Dr Try.prog N w0 id ops Q l lb O A ((i, d, some (.inl (v))) :: es)) : Dr Try.prog N w0 id ops Q l lb O A es := d_v ds hi h0 hd hN hds hg (fun ν => op_move ho (hx ν)) rest
theorem d_assign {x : Operand} {v : Value} (ds : List Nat) (hi : es.length = i) (h0 : ops[i]? = some o) (hd : o.dst = some d) (hN : Nat.blt d N.n = true) (hds : depsB o i ds = true)
    (hg : ∀ ν, wantsB ops (envD es ν ds ++ lb) o = some true) (ho : o.op = .assign x) (hx : ∀ ν, ev (envD es ν ds ++ lb) x = some v)
    (rest : Dr Try.prog N w0 id ops Q l lb O A ((i, d, some (.inl (v))) :: es)) : Dr Try.prog N w0 id ops Q l lb O A es := d_v ds hi h0 hd hN hds hg (fun ν => op_assign ho (hx ν)) rest
theorem d_pick_t {c x y : Operand} {v : Value} (ds : List Nat) (hi : es.length = i) (h0 : ops[i]? = some o) (hd : o.dst = some d) (hN : Nat.blt d N.n = true) (hds : depsB o i ds = true)
    (hg : ∀ ν, wantsB ops (envD es ν ds ++ lb) o = some true) (ho : o.op = .pick c x y) (hc : ∀ ν, ev (envD es ν ds ++ lb) c = some (.bool true)) (hx : ∀ ν, ev (envD es ν ds ++ lb) x = some v)
    (rest : Dr Try.prog N w0 id ops Q l lb O A ((i, d, some (.inl (v))) :: es)) : Dr Try.prog N w0 id ops Q l lb O A es := d_v ds hi h0 hd hN hds hg (fun ν => op_pick_t ho (hc ν) (hx ν)) rest
theorem d_pick_f {c x y : Operand} {v : Value} (ds : List Nat) (hi : es.length = i) (h0 : ops[i]? = some o) (hd : o.dst = some d) (hN : Nat.blt d N.n = true) (hds : depsB o i ds = true)
    (hg : ∀ ν, wantsB ops (envD es ν ds ++ lb) o = some true) (ho : o.op = .pick c x y) (hc : ∀ ν, ev (envD es ν ds ++ lb) c = some (.bool false)) (hx : ∀ ν, ev (envD es ν ds ++ lb) y = some v)
    (rest : Dr Try.prog N w0 id ops Q l lb O A ((i, d, some (.inl (v))) :: es)) : Dr Try.prog N w0 id ops Q l lb O A es := d_v ds hi h0 hd hN hds hg (fun ν => op_pick_f ho (hc ν) (hx ν)) rest
theorem d_cmpS {b : BinOp} {T T' : TypeId} {x y : Operand} {k : IntKind} {p q : Int} {r : Bool} (ds : List Nat) (hi : es.length = i) (h0 : ops[i]? = some o) (hd : o.dst = some d) (hN : Nat.blt d N.n = true) (hds : depsB o i ds = true)
    (hg : ∀ ν, wantsB ops (envD es ν ds ++ lb) o = some true) (ho : o.op = .binOp b T x y T') (hx : ∀ ν, ev (envD es ν ds ++ lb) x = some (.int k p)) (hy : ∀ ν, ev (envD es ν ds ++ lb) y = some (.int k q)) (hr : cmpB b p q = some r)
    (ht : r = true → Dr Try.prog N w0 id ops Q l lb O A ((i, d, some (.inl (.bool true))) :: es)) (hf : r = false → Dr Try.prog N w0 id ops Q l lb O A ((i, d, some (.inl (.bool false))) :: es)) : Dr Try.prog N w0 id ops Q l lb O A es := d_b ds hi h0 hd hN hds hg (fun ν => op_cmp ho (hx ν) (hy ν) hr) ht hf
theorem d_add {T T' : TypeId} {x y : Operand} {p q : Int} (ds : List Nat) (hi : es.length = i) (h0 : ops[i]? = some o) (hd : o.dst = some d) (hN : Nat.blt d N.n = true) (hds : depsB o i ds = true)
    (hg : ∀ ν, wantsB ops (envD es ν ds ++ lb) o = some true) (ho : o.op = .binOp .add T x y T') (hx : ∀ ν, ev (envD es ν ds ++ lb) x = some (.int .i64 p)) (hy : ∀ ν, ev (envD es ν ds ++ lb) y = some (.int .i64 q)) (hr : -9223372036854775808 ≤ p + q ∧ p + q ≤ 9223372036854775807)
    (rest : Dr Try.prog N w0 id ops Q l lb O A ((i, d, some (.inl (.int .i64 (p + q)))) :: es)) : Dr Try.prog N w0 id ops Q l lb O A es := d_v ds hi h0 hd hN hds hg (fun ν => op_add ho (hx ν) (hy ν) hr) rest
theorem d_sub {T T' : TypeId} {x y : Operand} {p q : Int} (ds : List Nat) (hi : es.length = i) (h0 : ops[i]? = some o) (hd : o.dst = some d) (hN : Nat.blt d N.n = true) (hds : depsB o i ds = true)
    (hg : ∀ ν, wantsB ops (envD es ν ds ++ lb) o = some true) (ho : o.op = .binOp .sub T x y T') (hx : ∀ ν, ev (envD es ν ds ++ lb) x = some (.int .i64 p)) (hy : ∀ ν, ev (envD es ν ds ++ lb) y = some (.int .i64 q)) (hr : -9223372036854775808 ≤ p - q ∧ p - q ≤ 9223372036854775807)
    (rest : Dr Try.prog N w0 id ops Q l lb O A ((i, d, some (.inl (.int .i64 (p - q)))) :: es)) : Dr Try.prog N w0 id ops Q l lb O A es := d_v ds hi h0 hd hN hds hg (fun ν => op_sub ho (hx ν) (hy ν) hr) rest
theorem d_mul {T T' : TypeId} {x y : Operand} {p q : Int} (ds : List Nat) (hi : es.length = i) (h0 : ops[i]? = some o) (hd : o.dst = some d) (hN : Nat.blt d N.n = true) (hds : depsB o i ds = true)
    (hg : ∀ ν, wantsB ops (envD es ν ds ++ lb) o = some true) (ho : o.op = .binOp .mul T x y T') (hx : ∀ ν, ev (envD es ν ds ++ lb) x = some (.int .i64 p)) (hy : ∀ ν, ev (envD es ν ds ++ lb) y = some (.int .i64 q)) (hr : -9223372036854775808 ≤ p * q ∧ p * q ≤ 9223372036854775807)
    (rest : Dr Try.prog N w0 id ops Q l lb O A ((i, d, some (.inl (.int .i64 (p * q)))) :: es)) : Dr Try.prog N w0 id ops Q l lb O A es := d_v ds hi h0 hd hN hds hg (fun ν => op_mul ho (hx ν) (hy ν) hr) rest
theorem d_quo {T T' : TypeId} {x y : Operand} {p q : Int} (ds : List Nat) (hi : es.length = i) (h0 : ops[i]? = some o) (hd : o.dst = some d) (hN : Nat.blt d N.n = true) (hds : depsB o i ds = true)
    (hg : ∀ ν, wantsB ops (envD es ν ds ++ lb) o = some true) (ho : o.op = .binOp .quo T x y T') (hx : ∀ ν, ev (envD es ν ds ++ lb) x = some (.int .i64 p)) (hy : ∀ ν, ev (envD es ν ds ++ lb) y = some (.int .i64 q)) (hj : 0 ≤ p ∧ p ≤ 9223372036854775807 ∧ 0 < q)
    (rest : Dr Try.prog N w0 id ops Q l lb O A ((i, d, some (.inl (.int .i64 (p / q)))) :: es)) : Dr Try.prog N w0 id ops Q l lb O A es := d_v ds hi h0 hd hN hds hg (fun ν => op_quoP ho (hx ν) (hy ν) hj) rest
theorem d_not {T : TypeId} {x : Operand} {r : Bool} (ds : List Nat) (hi : es.length = i) (h0 : ops[i]? = some o) (hd : o.dst = some d) (hN : Nat.blt d N.n = true) (hds : depsB o i ds = true)
    (hg : ∀ ν, wantsB ops (envD es ν ds ++ lb) o = some true) (ho : o.op = .unOp .not T x) (hx : ∀ ν, ev (envD es ν ds ++ lb) x = some (.bool r))
    (rest : Dr Try.prog N w0 id ops Q l lb O A ((i, d, some (.inl (.bool (!r)))) :: es)) : Dr Try.prog N w0 id ops Q l lb O A es := d_v ds hi h0 hd hN hds hg (fun ν => op_not ho (hx ν)) rest
theorem d_extract {x : Operand} {k : Nat} {vs : Array Value} {v : Value} (ds : List Nat) (hi : es.length = i) (h0 : ops[i]? = some o) (hd : o.dst = some d) (hN : Nat.blt d N.n = true) (hds : depsB o i ds = true)
    (hg : ∀ ν, wantsB ops (envD es ν ds ++ lb) o = some true) (ho : o.op = .extract x k) (hx : ∀ ν, ev (envD es ν ds ++ lb) x = some (.tuple vs)) (hv : vs[k]? = some v)
    (rest : Dr Try.prog N w0 id ops Q l lb O A ((i, d, some (.inl (v))) :: es)) : Dr Try.prog N w0 id ops Q l lb O A es := d_v ds hi h0 hd hN hds hg (fun ν => op_extract ho (hx ν) hv) rest
theorem d_max {ts : Array TypeId} {x y : Operand} {k : IntKind} {p q : Int} (ds : List Nat) (hi : es.length = i) (h0 : ops[i]? = some o) (hd : o.dst = some d) (hN : Nat.blt d N.n = true) (hds : depsB o i ds = true)
    (hg : ∀ ν, wantsB ops (envD es ν ds ++ lb) o = some true) (ho : o.op = .call { callee := .builtin .max, args := #[x, y], argTypes := ts }) (hx : ∀ ν, ev (envD es ν ds ++ lb) x = some (.int k p)) (hy : ∀ ν, ev (envD es ν ds ++ lb) y = some (.int k q))
    (rest : Dr Try.prog N w0 id ops Q l lb O A ((i, d, some (.inl (.int k (max p q)))) :: es)) : Dr Try.prog N w0 id ops Q l lb O A es := d_v ds hi h0 hd hN hds hg (fun ν => op_max ho (hx ν) (hy ν)) rest
theorem d_min {ts : Array TypeId} {x y : Operand} {k : IntKind} {p q : Int} (ds : List Nat) (hi : es.length = i) (h0 : ops[i]? = some o) (hd : o.dst = some d) (hN : Nat.blt d N.n = true) (hds : depsB o i ds = true)
    (hg : ∀ ν, wantsB ops (envD es ν ds ++ lb) o = some true) (ho : o.op = .call { callee := .builtin .min, args := #[x, y], argTypes := ts }) (hx : ∀ ν, ev (envD es ν ds ++ lb) x = some (.int k p)) (hy : ∀ ν, ev (envD es ν ds ++ lb) y = some (.int k q))
    (rest : Dr Try.prog N w0 id ops Q l lb O A ((i, d, some (.inl (.int k (min p q)))) :: es)) : Dr Try.prog N w0 id ops Q l lb O A es := d_v ds hi h0 hd hN hds hg (fun ν => op_min ho (hx ν) (hy ν)) rest
theorem d_field {S k δ b off : Nat} {x : Operand} {fs : List (Option Nat)} (ds : List Nat) (hi : es.length = i) (h0 : ops[i]? = some o) (hd : o.dst = some d) (hN : Nat.blt d N.n = true) (hds : depsB o i ds = true)
    (hg : ∀ ν, wantsB ops (envD es ν ds ++ lb) o = some true) (ho : o.op = .fieldAddr S x k) (hx : ∀ ν, ev (envD es ν ds ++ lb) x = some (.pointer (some ⟨b, off, none⟩))) (hl : lookT offL S = some fs) (hj : nth fs k = some (some δ))
    (rest : Dr Try.prog N w0 id ops Q l lb O A ((i, d, some (.inl (.pointer (some ⟨b, off + δ, none⟩)))) :: es)) : Dr Try.prog N w0 id ops Q l lb O A es := d_v ds hi h0 hd hN hds hg (fun ν => k_field ho (hx ν) hl hj) rest
theorem d_load1 (j : Nat) {b off Ty : Nat} {T : TypeId} {cs : List Value} {x : Operand} {v : Value} (ds : List Nat) (hi : es.length = i) (h0 : ops[i]? = some o) (hd : o.dst = some d) (hN : Nat.blt d N.n = true) (hds : depsB o i ds = true)
    (hg : ∀ ν, wantsB ops (envD es ν ds ++ lb) o = some true) (ho : o.op = .load Ty x) (ha : nth aggL Ty = some (some false)) (hx : ∀ ν, ev (envD es ν ds ++ lb) x = some (.pointer (some ⟨b, off, none⟩))) (hj : ∀ ν, (blkD es ν ds ++ O)[j]? = some (b, cs, T)) (hv : cs[off]? = some v)
    (rest : Dr Try.prog N w0 id ops Q l lb O A ((i, d, some (.inl (v))) :: es)) : Dr Try.prog N w0 id ops Q l lb O A es := d_v ds hi h0 hd hN hds hg (fun ν => k_load1 j ho (hx ν) (hj ν) ha hv) rest
theorem d_loadA1 (j : Nat) {b off Ty : Nat} {cs : List Value} {x : Operand} {v : Value} (ds : List Nat) (hi : es.length = i) (h0 : ops[i]? = some o) (hd : o.dst = some d) (hN : Nat.blt d N.n = true) (hds : depsB o i ds = true)
    (hg : ∀ ν, wantsB ops (envD es ν ds ++ lb) o = some true) (ho : o.op = .load Ty x) (ha : nth aggL Ty = some (some false)) (hx : ∀ ν, ev (envD es ν ds ++ lb) x = some (.pointer (some ⟨b, off, none⟩))) (hj : A[j]? = some (b, cs)) (hv : cs[off]? = some v)
    (rest : Dr Try.prog N w0 id ops Q l lb O A ((i, d, some (.inl (v))) :: es)) : Dr Try.prog N w0 id ops Q l lb O A es := d_v ds hi h0 hd hN hds hg (fun ν => k_loadA1 j ho (hx ν) hj ha hv) rest
theorem d_loadW (j : Nat) {b Ty n : Nat} {T : TypeId} {cs : List Value} {x : Operand} (ds : List Nat) (hi : es.length = i) (h0 : ops[i]? = some o) (hd : o.dst = some d) (hN : Nat.blt d N.n = true) (hds : depsB o i ds = true)
    (hg : ∀ ν, wantsB ops (envD es ν ds ++ lb) o = some true) (ho : o.op = .load Ty x) (ha : nth aggL Ty = some (some true)) (hx : ∀ ν, ev (envD es ν ds ++ lb) x = some (.pointer (some ⟨b, 0, none⟩))) (hj : ∀ ν, (blkD es ν ds ++ O)[j]? = some (b, cs, T)) (hn : nth sizL Ty = some (some n)) (hl : cs.length = n)
    (rest : Dr Try.prog N w0 id ops Q l lb O A ((i, d, some (.inl (.agg cs.toArray))) :: es)) : Dr Try.prog N w0 id ops Q l lb O A es := d_v ds hi h0 hd hN hds hg (fun ν => k_loadW j ho (hx ν) (hj ν) ha hn hl) rest
theorem d_loadP2 (j : Nat) {b off Ty : Nat} {T : TypeId} {cs : List Value} {x : Operand} {u v : Value} (ds : List Nat) (hi : es.length = i) (h0 : ops[i]? = some o) (hd : o.dst = some d) (hN : Nat.blt d N.n = true) (hds : depsB o i ds = true)
    (hg : ∀ ν, wantsB ops (envD es ν ds ++ lb) o = some true) (ho : o.op = .load Ty x) (ha : nth aggL Ty = some (some true)) (hx : ∀ ν, ev (envD es ν ds ++ lb) x = some (.pointer (some ⟨b, off, none⟩))) (hj : ∀ ν, (blkD es ν ds ++ O)[j]? = some (b, cs, T)) (hn : nth sizL Ty = some (some 2)) (hu : cs[off]? = some u) (hv : cs[off + 1]? = some v)
    (rest : Dr Try.prog N w0 id ops Q l lb O A ((i, d, some (.inl (.agg #[u, v]))) :: es)) : Dr Try.prog N w0 id ops Q l lb O A es := d_v ds hi h0 hd hN hds hg (fun ν => k_loadP2 j ho (hx ν) (hj ν) ha hn hu hv) rest
theorem d_len {T e : Nat} {x : Operand} {p : Option Addr} {n c : Nat} (ds : List Nat) (hi : es.length = i) (h0 : ops[i]? = some o) (hd : o.dst = some d) (hN : Nat.blt d N.n = true) (hds : depsB o i ds = true)
    (hg : ∀ ν, wantsB ops (envD es ν ds ++ lb) o = some true) (ho : o.op = .call { callee := .builtin .len, args := #[x], argTypes := #[T] }) (hx : ∀ ν, ev (envD es ν ds ++ lb) x = some (.slice p n c)) (hT : nth slL T = some (some e))
    (rest : Dr Try.prog N w0 id ops Q l lb O A ((i, d, some (.inl (.int .i64 n))) :: es)) : Dr Try.prog N w0 id ops Q l lb O A es := d_v ds hi h0 hd hN hds hg (fun ν => k_len ho (hx ν) hT) rest
theorem d_indexS {T e n m k : Nat} (j : Nat) {c : Nat} {b off : Nat} {q : Int} {x y : Operand} (ds : List Nat) (hi : es.length = i) (h0 : ops[i]? = some o) (hd : o.dst = some d) (hN : Nat.blt d N.n = true) (hds : depsB o i ds = true)
    (hg : ∀ ν, wantsB ops (envD es ν ds ++ lb) o = some true) (ho : o.op = .indexAddr T x y) (hx : ∀ ν, ev (envD es ν ds ++ lb) x = some (.slice (some ⟨b, off, none⟩) n c)) (hy : ∀ ν, ev (envD es ν ds ++ lb) y = some (.int .i64 q)) (hT : nth slL T = some (some e)) (hm : nth sizL e = some (some m)) (hq : q = (j : Int)) (hlt : j < n) (hk : off + j * m = k)
    (rest : Dr Try.prog N w0 id ops Q l lb O A ((i, d, some (.inl (.pointer (some ⟨b, k, none⟩)))) :: es)) : Dr Try.prog N w0 id ops Q l lb O A es := d_v ds hi h0 hd hN hds hg (fun ν => k_indexS ho (hx ν) (hy ν) hT hm hq hlt hk) rest
theorem d_indexA {T e n m k : Nat} (j : Nat) {b off : Nat} {q : Int} {x y : Operand} (ds : List Nat) (hi : es.length = i) (h0 : ops[i]? = some o) (hd : o.dst = some d) (hN : Nat.blt d N.n = true) (hds : depsB o i ds = true)
    (hg : ∀ ν, wantsB ops (envD es ν ds ++ lb) o = some true) (ho : o.op = .indexAddr T x y) (hx : ∀ ν, ev (envD es ν ds ++ lb) x = some (.pointer (some ⟨b, off, none⟩))) (hy : ∀ ν, ev (envD es ν ds ++ lb) y = some (.int .i64 q)) (hT : nth arL T = some (some (n, e))) (hm : nth sizL e = some (some m)) (hq : q = (j : Int)) (hlt : j < n) (hk : off + j * m = k)
    (rest : Dr Try.prog N w0 id ops Q l lb O A ((i, d, some (.inl (.pointer (some ⟨b, k, none⟩)))) :: es)) : Dr Try.prog N w0 id ops Q l lb O A es := d_v ds hi h0 hd hN hds hg (fun ν => k_indexA ho (hx ν) (hy ν) hT hm hq hlt hk) rest
theorem d_callv {f : Nat} {xs : Array Operand} {ts : Array TypeId} {x : Operand} {vs : (Nat → Nat) → List Value} {cap : Array Value} {M : (Nat → Nat) → Args} {r : Value} (ds : List Nat) (hi : es.length = i) (h0 : ops[i]? = some o) (hd : o.dst = some d) (hN : Nat.blt d N.n = true) (hds : depsB o i ds = true)
    (hg : ∀ ν, wantsB ops (envD es ν ds ++ lb) o = some true) (ho : o.op = .call { callee := .value x, args := xs, argTypes := ts }) (hf : ∀ ν, ev (envD es ν ds ++ lb) x = some (.func (.func f) #[] cap)) (hx : ∀ ν, evAll (envD es ν ds ++ lb) xs.toList = some (vs ν)) (hc : callable Try.prog f)
    (hF : ∀ ν : Nat → Nat, Cn Try.prog f (vs ν ++ cap.toList) (M ν) (fun _ : Unit => r) (fun _ => []) (fun _ => True)) (hM : ∀ ν, covers (blkD es ν ds ++ O) A (M ν))
    (rest : Dr Try.prog N w0 id ops Q l lb O A ((i, d, some (.inl (r))) :: es)) : Dr Try.prog N w0 id ops Q l lb O A es := d_v ds hi h0 hd hN hds hg (fun ν => op_callv ho (hf ν) (hx ν) hc (hF ν) (hM ν)) rest
theorem d_callb {f : Nat} {xs : Array Operand} {ts : Array TypeId} {x : Operand} {vs : (Nat → Nat) → List Value} {cap : Array Value} {M : (Nat → Nat) → Args} {r : Bool} (ds : List Nat) (hi : es.length = i) (h0 : ops[i]? = some o) (hd : o.dst = some d) (hN : Nat.blt d N.n = true) (hds : depsB o i ds = true)
    (hg : ∀ ν, wantsB ops (envD es ν ds ++ lb) o = some true) (ho : o.op = .call { callee := .value x, args := xs, argTypes := ts }) (hfn : ∀ ν, ev (envD es ν ds ++ lb) x = some (.func (.func f) #[] cap)) (hx : ∀ ν, evAll (envD es ν ds ++ lb) xs.toList = some (vs ν)) (hc : callable Try.prog f)
    (hF : ∀ ν : Nat → Nat, Cn Try.prog f (vs ν ++ cap.toList) (M ν) (fun _ : Unit => .bool r) (fun _ => []) (fun _ => True)) (hM : ∀ ν, covers (blkD es ν ds ++ O) A (M ν))
    (ht : r = true → Dr Try.prog N w0 id ops Q l lb O A ((i, d, some (.inl (.bool true))) :: es)) (hf : r = false → Dr Try.prog N w0 id ops Q l lb O A ((i, d, some (.inl (.bool false))) :: es)) : Dr Try.prog N w0 id ops Q l lb O A es := d_b ds hi h0 hd hN hds hg (fun ν => op_callv ho (hfn ν) (hx ν) hc (hF ν) (hM ν)) ht hf
theorem d_alloc {Ty : Nat} {cs : List Value} (ds : List Nat) (hi : es.length = i) (h0 : ops[i]? = some o) (hd : o.dst = some d) (hN : Nat.blt d N.n = true) (hds : depsB o i ds = true)
    (hg : ∀ ν, wantsB ops (envD es ν ds ++ lb) o = some true) (ho : o.op = .alloc Ty) (hz : lookT zerL Ty = some cs)
    (rest : Dr Try.prog N w0 id ops Q l lb O A ((i, d, some (.inr (fun b => .pointer (some ⟨b, 0, none⟩), cs, Ty))) :: es)) : Dr Try.prog N w0 id ops Q l lb O A es := d_new ds hi h0 hd hN hds hg (fun ν => k_alloc ho hz) rest
theorem d_slice0 {T e m : Nat} (ds : List Nat) (hi : es.length = i) (h0 : ops[i]? = some o) (hd : o.dst = some d) (hN : Nat.blt d N.n = true) (hds : depsB o i ds = true)
    (hg : ∀ ν, wantsB ops (envD es ν ds ++ lb) o = some true) (ho : o.op = .buildSlice T 0 #[]) (hT : nth slL T = some (some e)) (hm : nth sizL e = some (some m))
    (rest : Dr Try.prog N w0 id ops Q l lb O A ((i, d, some (.inr (fun b => .slice (some ⟨b, 0, none⟩) 0 0, [], e))) :: es)) : Dr Try.prog N w0 id ops Q l lb O A es := d_new ds hi h0 hd hN hds hg (fun ν => k_slice0 ho hT hm) rest
theorem d_slice1 {T e : Nat} {x : Operand} {v z : Value} (ds : List Nat) (hi : es.length = i) (h0 : ops[i]? = some o) (hd : o.dst = some d) (hN : Nat.blt d N.n = true) (hds : depsB o i ds = true)
    (hg : ∀ ν, wantsB ops (envD es ν ds ++ lb) o = some true) (ho : o.op = .buildSlice T 1 #[(0, x)]) (hx : ∀ ν, ev (envD es ν ds ++ lb) x = some v) (hv : v.cells = #[v]) (hT : nth slL T = some (some e)) (hm : nth sizL e = some (some 1)) (hz : lookT zerL e = some [z])
    (rest : Dr Try.prog N w0 id ops Q l lb O A ((i, d, some (.inr (fun b => .slice (some ⟨b, 0, none⟩) 1 1, [v], e))) :: es)) : Dr Try.prog N w0 id ops Q l lb O A es := d_new ds hi h0 hd hN hds hg (fun ν => k_slice1 ho (hx ν) hv hT hm hz) rest
theorem d_slice2 {T e : Nat} {x y : Operand} {u v z : Value} (ds : List Nat) (hi : es.length = i) (h0 : ops[i]? = some o) (hd : o.dst = some d) (hN : Nat.blt d N.n = true) (hds : depsB o i ds = true)
    (hg : ∀ ν, wantsB ops (envD es ν ds ++ lb) o = some true) (ho : o.op = .buildSlice T 2 #[(0, x), (1, y)]) (hx : ∀ ν, ev (envD es ν ds ++ lb) x = some u) (hy : ∀ ν, ev (envD es ν ds ++ lb) y = some v) (hu : u.cells = #[u]) (hv : v.cells = #[v]) (hT : nth slL T = some (some e)) (hm : nth sizL e = some (some 1)) (hz : lookT zerL e = some [z])
    (rest : Dr Try.prog N w0 id ops Q l lb O A ((i, d, some (.inr (fun b => .slice (some ⟨b, 0, none⟩) 2 2, [u, v], e))) :: es)) : Dr Try.prog N w0 id ops Q l lb O A es := d_new ds hi h0 hd hN hds hg (fun ν => k_slice2 ho (hx ν) (hy ν) hu hv hT hm hz) rest
end

theorem s_indexP {N : Cx} {w0 : World} {l : Env} {O : Blks} {A : Args} {o : Oper} {ops : Array Oper} {Q : Exit → Act → World → Prop} {is : List Nat} {i d : Nat} {T e n m k : Nat} (j : Nat) {c : Nat} {b off : Nat} {q : Int} {x y : Operand} {p : Option Addr} (hp : p = some ⟨b, off, none⟩) (h0 : ops[i]? = some o) (hg : wantsB ops l o = some true) (hd : o.dst = some d) (hN : Nat.blt d N.n = true) (ho : o.op = .indexAddr T x y) (hx : ev l x = some (.slice p n c)) (hy : ev l y = some (.int .i64 q)) (hT : nth slL T = some (some e)) (hm : nth sizL e = some (some m)) (hq : q = (j : Int)) (hi : j < n) (hk : off + j * m = k)
    (rest : OkL Try.prog N w0 ops Q is ((d, .pointer (some ⟨b, k, none⟩)) :: l) O A) : OkL Try.prog N w0 ops Q (i :: is) l O A := by
  subst hp; exact s_indexS j h0 hg hd hN ho hx hy hT hm hq hi hk rest
theorem d_indexP {N : Cx} {w0 : World} {l lb : Env} {O : Blks} {A : Args} {o : Oper} {ops : Array Oper} {Q : Exit → Act → World → Prop} {i d id : Nat} {es : Ents} {T e n m k : Nat} (j : Nat) {c : Nat} {b off : Nat} {q : Int} {x y : Operand} {p : Option Addr} (hp : p = some ⟨b, off, none⟩) (ds : List Nat) (hi : es.length = i) (h0 : ops[i]? = some o) (hd : o.dst = some d) (hN : Nat.blt d N.n = true) (hds : depsB o i ds = true)
    (hg : ∀ ν, wantsB ops (envD es ν ds ++ lb) o = some true) (ho : o.op = .indexAddr T x y) (hx : ∀ ν, ev (envD es ν ds ++ lb) x = some (.slice p n c)) (hy : ∀ ν, ev (envD es ν ds ++ lb) y = some (.int .i64 q)) (hT : nth slL T = some (some e)) (hm : nth sizL e = some (some m)) (hq : q = (j : Int)) (hlt : j < n) (hk : off + j * m = k)
    (rest : Dr Try.prog N w0 id ops Q l lb O A ((i, d, some (.inl (.pointer (some ⟨b, k, none⟩)))) :: es)) : Dr Try.prog N w0 id ops Q l lb O A es := by
  subst hp; exact d_indexS j ds hi h0 hd hN hds hg ho hx hy hT hm hq hlt hk rest
theorem c3 : callable Try.prog 3 := ⟨Try.f3, Try.func3, by kernel_rfl, rfl⟩
theorem c4 : callable Try.prog 4 := ⟨Try.f4, Try.func4, by kernel_rfl, rfl⟩
theorem c5 : callable Try.prog 5 := ⟨Try.f5, Try.func5, by kernel_rfl, rfl⟩
theorem c6 : callable Try.prog 6 := ⟨Try.f6, Try.func6, by kernel_rfl, rfl⟩
theorem c7 : callable Try.prog 7 := ⟨Try.f7, Try.func7, by kernel_rfl, rfl⟩
theorem c8 : callable Try.prog 8 := ⟨Try.f8, Try.func8, by kernel_rfl, rfl⟩
theorem c9 : callable Try.prog 9 := ⟨Try.f9, Try.func9, by kernel_rfl, rfl⟩
theorem c10 : callable Try.prog 10 := ⟨Try.f10, Try.func10, by kernel_rfl, rfl⟩
theorem c11 : callable Try.prog 11 := ⟨Try.f11, Try.func11, by kernel_rfl, rfl⟩
theorem c12 : callable Try.prog 12 := ⟨Try.f12, Try.func12, by kernel_rfl, rfl⟩
theorem c13 : callable Try.prog 13 := ⟨Try.f13, Try.func13, by kernel_rfl, rfl⟩
theorem c14 : callable Try.prog 14 := ⟨Try.f14, Try.func14, by kernel_rfl, rfl⟩
theorem c15 : callable Try.prog 15 := ⟨Try.f15, Try.func15, by kernel_rfl, rfl⟩
theorem c16 : callable Try.prog 16 := ⟨Try.f16, Try.func16, by kernel_rfl, rfl⟩
theorem c17 : callable Try.prog 17 := ⟨Try.f17, Try.func17, by kernel_rfl, rfl⟩
theorem c18 : callable Try.prog 18 := ⟨Try.f18, Try.func18, by kernel_rfl, rfl⟩
theorem c19 : callable Try.prog 19 := ⟨Try.f19, Try.func19, by kernel_rfl, rfl⟩
theorem c20 : callable Try.prog 20 := ⟨Try.f20, Try.func20, by kernel_rfl, rfl⟩
theorem c21 : callable Try.prog 21 := ⟨Try.f21, Try.func21, by kernel_rfl, rfl⟩
theorem c22 : callable Try.prog 22 := ⟨Try.f22, Try.func22, by kernel_rfl, rfl⟩
theorem c23 : callable Try.prog 23 := ⟨Try.f23, Try.func23, by kernel_rfl, rfl⟩
theorem c24 : callable Try.prog 24 := ⟨Try.f24, Try.func24, by kernel_rfl, rfl⟩
theorem c25 : callable Try.prog 25 := ⟨Try.f25, Try.func25, by kernel_rfl, rfl⟩
theorem c26 : callable Try.prog 26 := ⟨Try.f26, Try.func26, by kernel_rfl, rfl⟩
theorem c27 : callable Try.prog 27 := ⟨Try.f27, Try.func27, by kernel_rfl, rfl⟩
theorem c28 : callable Try.prog 28 := ⟨Try.f28, Try.func28, by kernel_rfl, rfl⟩
theorem c29 : callable Try.prog 29 := ⟨Try.f29, Try.func29, by kernel_rfl, rfl⟩
theorem c30 : callable Try.prog 30 := ⟨Try.f30, Try.func30, by kernel_rfl, rfl⟩
theorem c31 : callable Try.prog 31 := ⟨Try.f31, Try.func31, by kernel_rfl, rfl⟩
theorem c32 : callable Try.prog 32 := ⟨Try.f32, Try.func32, by kernel_rfl, rfl⟩
theorem c33 : callable Try.prog 33 := ⟨Try.f33, Try.func33, by kernel_rfl, rfl⟩
theorem c34 : callable Try.prog 34 := ⟨Try.f34, Try.func34, by kernel_rfl, rfl⟩
theorem c35 : callable Try.prog 35 := ⟨Try.f35, Try.func35, by kernel_rfl, rfl⟩
theorem c36 : callable Try.prog 36 := ⟨Try.f36, Try.func36, by kernel_rfl, rfl⟩
theorem c37 : callable Try.prog 37 := ⟨Try.f37, Try.func37, by kernel_rfl, rfl⟩
theorem c38 : callable Try.prog 38 := ⟨Try.f38, Try.func38, by kernel_rfl, rfl⟩
theorem c39 : callable Try.prog 39 := ⟨Try.f39, Try.func39, by kernel_rfl, rfl⟩
theorem c40 : callable Try.prog 40 := ⟨Try.f40, Try.func40, by kernel_rfl, rfl⟩
theorem c41 : callable Try.prog 41 := ⟨Try.f41, Try.func41, by kernel_rfl, rfl⟩
theorem c42 : callable Try.prog 42 := ⟨Try.f42, Try.func42, by kernel_rfl, rfl⟩
theorem c43 : callable Try.prog 43 := ⟨Try.f43, Try.func43, by kernel_rfl, rfl⟩
theorem c44 : callable Try.prog 44 := ⟨Try.f44, Try.func44, by kernel_rfl, rfl⟩
theorem c45 : callable Try.prog 45 := ⟨Try.f45, Try.func45, by kernel_rfl, rfl⟩
theorem c46 : callable Try.prog 46 := ⟨Try.f46, Try.func46, by kernel_rfl, rfl⟩
theorem c47 : callable Try.prog 47 := ⟨Try.f47, Try.func47, by kernel_rfl, rfl⟩
theorem c48 : callable Try.prog 48 := ⟨Try.f48, Try.func48, by kernel_rfl, rfl⟩
theorem c49 : callable Try.prog 49 := ⟨Try.f49, Try.func49, by kernel_rfl, rfl⟩
theorem c50 : callable Try.prog 50 := ⟨Try.f50, Try.func50, by kernel_rfl, rfl⟩
theorem c51 : callable Try.prog 51 := ⟨Try.f51, Try.func51, by kernel_rfl, rfl⟩
theorem c52 : callable Try.prog 52 := ⟨Try.f52, Try.func52, by kernel_rfl, rfl⟩
theorem c53 : callable Try.prog 53 := ⟨Try.f53, Try.func53, by kernel_rfl, rfl⟩
theorem c54 : callable Try.prog 54 := ⟨Try.f54, Try.func54, by kernel_rfl, rfl⟩
theorem c55 : callable Try.prog 55 := ⟨Try.f55, Try.func55, by kernel_rfl, rfl⟩
theorem c56 : callable Try.prog 56 := ⟨Try.f56, Try.func56, by kernel_rfl, rfl⟩
theorem c57 : callable Try.prog 57 := ⟨Try.f57, Try.func57, by kernel_rfl, rfl⟩
theorem c58 : callable Try.prog 58 := ⟨Try.f58, Try.func58, by kernel_rfl, rfl⟩
theorem c59 : callable Try.prog 59 := ⟨Try.f59, Try.func59, by kernel_rfl, rfl⟩
theorem c60 : callable Try.prog 60 := ⟨Try.f60, Try.func60, by kernel_rfl, rfl⟩
theorem c61 : callable Try.prog 61 := ⟨Try.f61, Try.func61, by kernel_rfl, rfl⟩
theorem c62 : callable Try.prog 62 := ⟨Try.f62, Try.func62, by kernel_rfl, rfl⟩
theorem c63 : callable Try.prog 63 := ⟨Try.f63, Try.func63, by kernel_rfl, rfl⟩
theorem c64 : callable Try.prog 64 := ⟨Try.f64, Try.func64, by kernel_rfl, rfl⟩
theorem c65 : callable Try.prog 65 := ⟨Try.f65, Try.func65, by kernel_rfl, rfl⟩
theorem c66 : callable Try.prog 66 := ⟨Try.f66, Try.func66, by kernel_rfl, rfl⟩
theorem c67 : callable Try.prog 67 := ⟨Try.f67, Try.func67, by kernel_rfl, rfl⟩
theorem c68 : callable Try.prog 68 := ⟨Try.f68, Try.func68, by kernel_rfl, rfl⟩
theorem c69 : callable Try.prog 69 := ⟨Try.f69, Try.func69, by kernel_rfl, rfl⟩
theorem c70 : callable Try.prog 70 := ⟨Try.f70, Try.func70, by kernel_rfl, rfl⟩
theorem c71 : callable Try.prog 71 := ⟨Try.f71, Try.func71, by kernel_rfl, rfl⟩
theorem c72 : callable Try.prog 72 := ⟨Try.f72, Try.func72, by kernel_rfl, rfl⟩
theorem c73 : callable Try.prog 73 := ⟨Try.f73, Try.func73, by kernel_rfl, rfl⟩
theorem c74 : callable Try.prog 74 := ⟨Try.f74, Try.func74, by kernel_rfl, rfl⟩
theorem c75 : callable Try.prog 75 := ⟨Try.f75, Try.func75, by kernel_rfl, rfl⟩
theorem c76 : callable Try.prog 76 := ⟨Try.f76, Try.func76, by kernel_rfl, rfl⟩
theorem c77 : callable Try.prog 77 := ⟨Try.f77, Try.func77, by kernel_rfl, rfl⟩
theorem c78 : callable Try.prog 78 := ⟨Try.f78, Try.func78, by kernel_rfl, rfl⟩
theorem c79 : callable Try.prog 79 := ⟨Try.f79, Try.func79, by kernel_rfl, rfl⟩
theorem c80 : callable Try.prog 80 := ⟨Try.f80, Try.func80, by kernel_rfl, rfl⟩
theorem c81 : callable Try.prog 81 := ⟨Try.f81, Try.func81, by kernel_rfl, rfl⟩
theorem c82 : callable Try.prog 82 := ⟨Try.f82, Try.func82, by kernel_rfl, rfl⟩
theorem c83 : callable Try.prog 83 := ⟨Try.f83, Try.func83, by kernel_rfl, rfl⟩
theorem c84 : callable Try.prog 84 := ⟨Try.f84, Try.func84, by kernel_rfl, rfl⟩
theorem c85 : callable Try.prog 85 := ⟨Try.f85, Try.func85, by kernel_rfl, rfl⟩
theorem c86 : callable Try.prog 86 := ⟨Try.f86, Try.func86, by kernel_rfl, rfl⟩
theorem c87 : callable Try.prog 87 := ⟨Try.f87, Try.func87, by kernel_rfl, rfl⟩
theorem c88 : callable Try.prog 88 := ⟨Try.f88, Try.func88, by kernel_rfl, rfl⟩
theorem c89 : callable Try.prog 89 := ⟨Try.f89, Try.func89, by kernel_rfl, rfl⟩
theorem c90 : callable Try.prog 90 := ⟨Try.f90, Try.func90, by kernel_rfl, rfl⟩
theorem c91 : callable Try.prog 91 := ⟨Try.f91, Try.func91, by kernel_rfl, rfl⟩
theorem c92 : callable Try.prog 92 := ⟨Try.f92, Try.func92, by kernel_rfl, rfl⟩
theorem c93 : callable Try.prog 93 := ⟨Try.f93, Try.func93, by kernel_rfl, rfl⟩
theorem c94 : callable Try.prog 94 := ⟨Try.f94, Try.func94, by kernel_rfl, rfl⟩
theorem c95 : callable Try.prog 95 := ⟨Try.f95, Try.func95, by kernel_rfl, rfl⟩
theorem c96 : callable Try.prog 96 := ⟨Try.f96, Try.func96, by kernel_rfl, rfl⟩
theorem c97 : callable Try.prog 97 := ⟨Try.f97, Try.func97, by kernel_rfl, rfl⟩
theorem c98 : callable Try.prog 98 := ⟨Try.f98, Try.func98, by kernel_rfl, rfl⟩
theorem c99 : callable Try.prog 99 := ⟨Try.f99, Try.func99, by kernel_rfl, rfl⟩
theorem c100 : callable Try.prog 100 := ⟨Try.f100, Try.func100, by kernel_rfl, rfl⟩
theorem c101 : callable Try.prog 101 := ⟨Try.f101, Try.func101, by kernel_rfl, rfl⟩
theorem c102 : callable Try.prog 102 := ⟨Try.f102, Try.func102, by kernel_rfl, rfl⟩
theorem c103 : callable Try.prog 103 := ⟨Try.f103, Try.func103, by kernel_rfl, rfl⟩
theorem c104 : callable Try.prog 104 := ⟨Try.f104, Try.func104, by kernel_rfl, rfl⟩
theorem c105 : callable Try.prog 105 := ⟨Try.f105, Try.func105, by kernel_rfl, rfl⟩
theorem c106 : callable Try.prog 106 := ⟨Try.f106, Try.func106, by kernel_rfl, rfl⟩
theorem c107 : callable Try.prog 107 := ⟨Try.f107, Try.func107, by kernel_rfl, rfl⟩
theorem c108 : callable Try.prog 108 := ⟨Try.f108, Try.func108, by kernel_rfl, rfl⟩
theorem c109 : callable Try.prog 109 := ⟨Try.f109, Try.func109, by kernel_rfl, rfl⟩
theorem c110 : callable Try.prog 110 := ⟨Try.f110, Try.func110, by kernel_rfl, rfl⟩
theorem c111 : callable Try.prog 111 := ⟨Try.f111, Try.func111, by kernel_rfl, rfl⟩
theorem c112 : callable Try.prog 112 := ⟨Try.f112, Try.func112, by kernel_rfl, rfl⟩
theorem c113 : callable Try.prog 113 := ⟨Try.f113, Try.func113, by kernel_rfl, rfl⟩
theorem c114 : callable Try.prog 114 := ⟨Try.f114, Try.func114, by kernel_rfl, rfl⟩
theorem c115 : callable Try.prog 115 := ⟨Try.f115, Try.func115, by kernel_rfl, rfl⟩
theorem c116 : callable Try.prog 116 := ⟨Try.f116, Try.func116, by kernel_rfl, rfl⟩
theorem c117 : callable Try.prog 117 := ⟨Try.f117, Try.func117, by kernel_rfl, rfl⟩
theorem c118 : callable Try.prog 118 := ⟨Try.f118, Try.func118, by kernel_rfl, rfl⟩
theorem c119 : callable Try.prog 119 := ⟨Try.f119, Try.func119, by kernel_rfl, rfl⟩
theorem c120 : callable Try.prog 120 := ⟨Try.f120, Try.func120, by kernel_rfl, rfl⟩
theorem c121 : callable Try.prog 121 := ⟨Try.f121, Try.func121, by kernel_rfl, rfl⟩
theorem c123 : callable Try.prog 123 := ⟨Try.f123, Try.func123, by kernel_rfl, rfl⟩
theorem c124 : callable Try.prog 124 := ⟨Try.f124, Try.func124, by kernel_rfl, rfl⟩
theorem c125 : callable Try.prog 125 := ⟨Try.f125, Try.func125, by kernel_rfl, rfl⟩
theorem c126 : callable Try.prog 126 := ⟨Try.f126, Try.func126, by kernel_rfl, rfl⟩
theorem c127 : callable Try.prog 127 := ⟨Try.f127, Try.func127, by kernel_rfl, rfl⟩
theorem c128 : callable Try.prog 128 := ⟨Try.f128, Try.func128, by kernel_rfl, rfl⟩
theorem c129 : callable Try.prog 129 := ⟨Try.f129, Try.func129, by kernel_rfl, rfl⟩
theorem c130 : callable Try.prog 130 := ⟨Try.f130, Try.func130, by kernel_rfl, rfl⟩
theorem c131 : callable Try.prog 131 := ⟨Try.f131, Try.func131, by kernel_rfl, rfl⟩
theorem c132 : callable Try.prog 132 := ⟨Try.f132, Try.func132, by kernel_rfl, rfl⟩
theorem c133 : callable Try.prog 133 := ⟨Try.f133, Try.func133, by kernel_rfl, rfl⟩
theorem c134 : callable Try.prog 134 := ⟨Try.f134, Try.func134, by kernel_rfl, rfl⟩
theorem c135 : callable Try.prog 135 := ⟨Try.f135, Try.func135, by kernel_rfl, rfl⟩
theorem c136 : callable Try.prog 136 := ⟨Try.f136, Try.func136, by kernel_rfl, rfl⟩
theorem c137 : callable Try.prog 137 := ⟨Try.f137, Try.func137, by kernel_rfl, rfl⟩
theorem c138 : callable Try.prog 138 := ⟨Try.f138, Try.func138, by kernel_rfl, rfl⟩
theorem c139 : callable Try.prog 139 := ⟨Try.f139, Try.func139, by kernel_rfl, rfl⟩
theorem c140 : callable Try.prog 140 := ⟨Try.f140, Try.func140, by kernel_rfl, rfl⟩
theorem c141 : callable Try.prog 141 := ⟨Try.f141, Try.func141, by kernel_rfl, rfl⟩
theorem c142 : callable Try.prog 142 := ⟨Try.f142, Try.func142, by kernel_rfl, rfl⟩
theorem c143 : callable Try.prog 143 := ⟨Try.f143, Try.func143, by kernel_rfl, rfl⟩
theorem c144 : callable Try.prog 144 := ⟨Try.f144, Try.func144, by kernel_rfl, rfl⟩
theorem c145 : callable Try.prog 145 := ⟨Try.f145, Try.func145, by kernel_rfl, rfl⟩
theorem c146 : callable Try.prog 146 := ⟨Try.f146, Try.func146, by kernel_rfl, rfl⟩
end Go.Proofs.Ytdpnadknaacinaa
end

section
namespace Go.Proofs.Ytdpnadknaacinaa
open Go.Sx Go.Proofs.Ytdpnadknaacinaa.Ty

theorem span_fn (lo hi : Int) : Cn Try.prog 85 [.int .i64 lo, .int .i64 hi] [] (fun _ : Unit => .agg #[.int .i64 lo, .int .i64 hi]) (fun _ => []) (fun _ => True) := by
  refine fn_intro (N := 8) Try.func85 rfl rfl rfl fun w0 => ?_
  refine okc_seq ?_
  refine okc_region ?_
  refine s_alloc rfl rfl rfl rfl rfl rfl (fun b1 => ?_)
  refine okl_nil ?_
  change OkC Try.prog _ _ _ _ _ _ _
  refine okc_weak (l' := [(0, _), (1, _), (4, _)]) ⟨rfl, rfl, rfl, trivial⟩ ?_
  refine okc_seq ?_
  refine okc_region ?_
  refine s_move rfl rfl rfl rfl rfl rfl ?_
  refine s_move rfl rfl rfl rfl rfl rfl ?_
  refine s_build rfl rfl rfl rfl rfl rfl rfl rfl rfl ?_
  refine k_storeW 0 rfl rfl rfl rfl rfl rfl rfl rfl rfl rfl rfl rfl ?_
  try dsimp only [List.set_cons_zero, List.set_cons_succ, setL]
  refine okl_nil ?_
  change OkC Try.prog _ _ _ _ _ _ _
  refine okc_weak (l' := [(0, _), (1, _), (4, _)]) ⟨rfl, rfl, rfl, trivial⟩ ?_
  refine okc_ret fun a w hs => ?_
  exact ret_v hs (run_results1 hs rfl (k_ragg 0 rfl rfl rfl rfl rfl)) (rfl)

theorem least_fn (lo hi : Int) : Cn Try.prog 80 [.agg #[.int .i64 lo, .int .i64 hi]] [] (fun _ : Unit => .int .i64 lo) (fun _ => []) (fun _ => True) := by
  refine fn_intro (N := 5) Try.func80 rfl rfl rfl fun w0 => ?_
  refine okc_seq ?_
  refine okc_region ?_
  refine s_boxA rfl rfl rfl rfl rfl rfl (fun b2 => ?_)
  refine s_assign rfl rfl rfl rfl rfl rfl ?_
  refine okl_nil ?_
  change OkC Try.prog _ _ _ _ _ _ _
  refine okc_weak (l' := [(0, _), (1, _), (2, _)]) ⟨rfl, rfl, rfl, trivial⟩ ?_
  refine okc_seq ?_
  refine okc_region ?_
  refine s_field rfl rfl rfl rfl rfl rfl rfl rfl ?_
  refine s_load1 0 rfl rfl rfl rfl rfl rfl rfl rfl rfl ?_
  refine s_assign rfl rfl rfl rfl rfl rfl ?_
  refine okl_nil ?_
  change OkC Try.prog _ _ _ _ _ _ _
  refine okc_weak (l' := [(0, _), (1, _), (2, _)]) ⟨rfl, rfl, rfl, trivial⟩ ?_
  refine okc_ret fun a w hs => ?_
  exact ret_v hs (run_results1 hs rfl (rv_tmp rfl)) (rfl)

theorem most_fn (lo hi : Int) : Cn Try.prog 81 [.agg #[.int .i64 lo, .int .i64 hi]] [] (fun _ : Unit => .int .i64 hi) (fun _ => []) (fun _ => True) := by
  refine fn_intro (N := 5) Try.func81 rfl rfl rfl fun w0 => ?_
  refine okc_seq ?_
  refine okc_region ?_
  refine s_boxA rfl rfl rfl rfl rfl rfl (fun b3 => ?_)
  refine s_assign rfl rfl rfl rfl rfl rfl ?_
  refine okl_nil ?_
  change OkC Try.prog _ _ _ _ _ _ _
  refine okc_weak (l' := [(0, _), (1, _), (2, _)]) ⟨rfl, rfl, rfl, trivial⟩ ?_
  refine okc_seq ?_
  refine okc_region ?_
  refine s_field rfl rfl rfl rfl rfl rfl rfl rfl ?_
  refine s_load1 0 rfl rfl rfl rfl rfl rfl rfl rfl rfl ?_
  refine s_assign rfl rfl rfl rfl rfl rfl ?_
  refine okl_nil ?_
  change OkC Try.prog _ _ _ _ _ _ _
  refine okc_weak (l' := [(0, _), (1, _), (2, _)]) ⟨rfl, rfl, rfl, trivial⟩ ?_
  refine okc_ret fun a w hs => ?_
  exact ret_v hs (run_results1 hs rfl (rv_tmp rfl)) (rfl)

theorem both_fn (a b c d : Int) : Cn Try.prog 135 [.agg #[.int .i64 a, .int .i64 b], .agg #[.int .i64 c, .int .i64 d]] [] (fun _ : Unit => .agg #[.int .i64 (max a c), .int .i64 (min b d)]) (fun _ => []) (fun _ => True) := by
  refine fn_intro (N := 16) Try.func135 rfl rfl rfl fun w0 => ?_
  refine okc_seq ?_
  refine okc_region ?_
  refine s_boxA rfl rfl rfl rfl rfl rfl (fun b4 => ?_)
  refine s_boxA rfl rfl rfl rfl rfl rfl (fun b5 => ?_)
  refine s_alloc rfl rfl rfl rfl rfl rfl (fun b6 => ?_)
  refine okl_nil ?_
  change OkC Try.prog _ _ _ _ _ _ _
  refine okc_weak (l' := [(0, _), (1, _), (2, _), (3, _), (4, _)]) ⟨rfl, rfl, rfl, rfl, rfl, trivial⟩ ?_
  refine okc_seq ?_
  refine okc_region ?_
  refine s_field rfl rfl rfl rfl rfl rfl rfl rfl ?_
  refine s_load1 2 rfl rfl rfl rfl rfl rfl rfl rfl rfl ?_
  refine s_field rfl rfl rfl rfl rfl rfl rfl rfl ?_
  refine s_load1 1 rfl rfl rfl rfl rfl rfl rfl rfl rfl ?_
  refine s_max rfl rfl rfl rfl rfl rfl rfl ?_
  refine s_field rfl rfl rfl rfl rfl rfl rfl rfl ?_
  refine s_load1 2 rfl rfl rfl rfl rfl rfl rfl rfl rfl ?_
  refine s_field rfl rfl rfl rfl rfl rfl rfl rfl ?_
  refine s_load1 1 rfl rfl rfl rfl rfl rfl rfl rfl rfl ?_
  refine s_min rfl rfl rfl rfl rfl rfl rfl ?_
  refine s_callv rfl rfl rfl rfl rfl rfl rfl c85 (span_fn _ _) covers_nil ?_
  refine k_storeW 0 rfl rfl rfl rfl rfl rfl rfl rfl rfl rfl rfl rfl ?_
  try dsimp only [List.set_cons_zero, List.set_cons_succ, setL]
  refine okl_nil ?_
  change OkC Try.prog _ _ _ _ _ _ _
  refine okc_weak (l' := [(0, _), (1, _), (2, _), (3, _), (4, _)]) ⟨rfl, rfl, rfl, rfl, rfl, trivial⟩ ?_
  refine okc_ret fun a w hs => ?_
  exact ret_v hs (run_results1 hs rfl (k_ragg 0 rfl rfl rfl rfl rfl)) (rfl)

theorem around_fn (a b c d : Int) : Cn Try.prog 112 [.agg #[.int .i64 a, .int .i64 b], .agg #[.int .i64 c, .int .i64 d]] [] (fun _ : Unit => .agg #[.int .i64 (min a c), .int .i64 (max b d)]) (fun _ => []) (fun _ => True) := by
  refine fn_intro (N := 16) Try.func112 rfl rfl rfl fun w0 => ?_
  refine okc_seq ?_
  refine okc_region ?_
  refine s_boxA rfl rfl rfl rfl rfl rfl (fun b7 => ?_)
  refine s_boxA rfl rfl rfl rfl rfl rfl (fun b8 => ?_)
  refine s_alloc rfl rfl rfl rfl rfl rfl (fun b9 => ?_)
  refine okl_nil ?_
  change OkC Try.prog _ _ _ _ _ _ _
  refine okc_weak (l' := [(0, _), (1, _), (2, _), (3, _), (4, _)]) ⟨rfl, rfl, rfl, rfl, rfl, trivial⟩ ?_
  refine okc_seq ?_
  refine okc_region ?_
  refine s_field rfl rfl rfl rfl rfl rfl rfl rfl ?_
  refine s_load1 2 rfl rfl rfl rfl rfl rfl rfl rfl rfl ?_
  refine s_field rfl rfl rfl rfl rfl rfl rfl rfl ?_
  refine s_load1 1 rfl rfl rfl rfl rfl rfl rfl rfl rfl ?_
  refine s_min rfl rfl rfl rfl rfl rfl rfl ?_
  refine s_field rfl rfl rfl rfl rfl rfl rfl rfl ?_
  refine s_load1 2 rfl rfl rfl rfl rfl rfl rfl rfl rfl ?_
  refine s_field rfl rfl rfl rfl rfl rfl rfl rfl ?_
  refine s_load1 1 rfl rfl rfl rfl rfl rfl rfl rfl rfl ?_
  refine s_max rfl rfl rfl rfl rfl rfl rfl ?_
  refine s_callv rfl rfl rfl rfl rfl rfl rfl c85 (span_fn _ _) covers_nil ?_
  refine k_storeW 0 rfl rfl rfl rfl rfl rfl rfl rfl rfl rfl rfl rfl ?_
  try dsimp only [List.set_cons_zero, List.set_cons_succ, setL]
  refine okl_nil ?_
  change OkC Try.prog _ _ _ _ _ _ _
  refine okc_weak (l' := [(0, _), (1, _), (2, _), (3, _), (4, _)]) ⟨rfl, rfl, rfl, rfl, rfl, trivial⟩ ?_
  refine okc_ret fun a w hs => ?_
  exact ret_v hs (run_results1 hs rfl (k_ragg 0 rfl rfl rfl rfl rfl)) (rfl)

theorem inside_fn (n lo hi : Int) : Cn Try.prog 62 [.int .i64 n, .agg #[.int .i64 lo, .int .i64 hi]] [] (fun _ : Unit => .bool (decide (lo ≤ n) && decide (n ≤ hi))) (fun _ => []) (fun _ => True) := by
  refine fn_intro (N := 15) Try.func62 rfl rfl rfl fun w0 => ?_
  refine okc_seq ?_
  refine okc_region ?_
  refine s_boxA rfl rfl rfl rfl rfl rfl (fun b10 => ?_)
  refine s_assign rfl rfl rfl rfl rfl rfl ?_
  refine okl_nil ?_
  change OkC Try.prog _ _ _ _ _ _ _
  refine okc_weak (l' := [(0, _), (1, _), (3, _), (4, _)]) ⟨rfl, rfl, rfl, rfl, trivial⟩ ?_
  refine okc_seq ?_
  refine okc_region ?_
  refine s_move rfl rfl rfl rfl rfl rfl ?_
  refine s_field rfl rfl rfl rfl rfl rfl rfl rfl ?_
  refine s_load1 0 rfl rfl rfl rfl rfl rfl rfl rfl rfl ?_
  refine s_cmpS rfl rfl rfl rfl rfl rfl rfl rfl (fun h11 => ?_) (fun h11 => ?_)
  · refine s_move rfl rfl rfl rfl rfl rfl ?_
    refine s_move rfl rfl rfl rfl rfl rfl ?_
    refine s_field rfl rfl rfl rfl rfl rfl rfl rfl ?_
    refine s_load1 0 rfl rfl rfl rfl rfl rfl rfl rfl rfl ?_
    refine s_cmpS rfl rfl rfl rfl rfl rfl rfl rfl (fun h12 => ?_) (fun h12 => ?_)
    · refine s_pick_t rfl rfl rfl rfl rfl rfl rfl ?_
      refine s_assign rfl rfl rfl rfl rfl rfl ?_
      refine okl_nil ?_
      change OkC Try.prog _ _ _ _ _ _ _
      refine okc_weak (l' := [(0, _), (1, _), (3, _), (4, _)]) ⟨rfl, rfl, rfl, rfl, trivial⟩ ?_
      refine okc_ret fun a w hs => ?_
      exact ret_v hs (run_results1 hs rfl (rv_tmp rfl)) (by clear hs; simp_all <;> omega)
    · refine s_pick_t rfl rfl rfl rfl rfl rfl rfl ?_
      refine s_assign rfl rfl rfl rfl rfl rfl ?_
      refine okl_nil ?_
      change OkC Try.prog _ _ _ _ _ _ _
      refine okc_weak (l' := [(0, _), (1, _), (3, _), (4, _)]) ⟨rfl, rfl, rfl, rfl, trivial⟩ ?_
      refine okc_ret fun a w hs => ?_
      exact ret_v hs (run_results1 hs rfl (rv_tmp rfl)) (by clear hs; simp_all <;> omega)
  · refine s_move rfl rfl rfl rfl rfl rfl ?_
    refine okl_skip rfl rfl rfl rfl ?_
    refine okl_skip rfl rfl rfl rfl ?_
    refine okl_skip rfl rfl rfl rfl ?_
    refine okl_skip rfl rfl rfl rfl ?_
    refine s_pick_f rfl rfl rfl rfl rfl rfl rfl ?_
    refine s_assign rfl rfl rfl rfl rfl rfl ?_
    refine okl_nil ?_
    change OkC Try.prog _ _ _ _ _ _ _
    refine okc_weak (l' := [(0, _), (1, _), (3, _), (4, _)]) ⟨rfl, rfl, rfl, rfl, trivial⟩ ?_
    refine okc_ret fun a w hs => ?_
    exact ret_v hs (run_results1 hs rfl (rv_tmp rfl)) (by clear hs; simp_all <;> omega)

theorem rwithin_fn (n lo hi : Int) : Cn Try.prog 87 [.int .i64 n, .int .i64 lo, .int .i64 hi] [] (fun _ : Unit => .bool (decide (lo ≤ n) && decide (n ≤ hi))) (fun _ => []) (fun _ => True) := by
  refine fn_intro (N := 15) Try.func87 rfl rfl rfl fun w0 => ?_
  refine okc_seq ?_
  refine okc_region ?_
  refine s_assign rfl rfl rfl rfl rfl rfl ?_
  refine okl_nil ?_
  change OkC Try.prog _ _ _ _ _ _ _
  refine okc_weak (l' := [(0, _), (1, _), (2, _), (6, _)]) ⟨rfl, rfl, rfl, rfl, trivial⟩ ?_
  refine okc_seq ?_
  refine okc_region ?_
  refine s_move rfl rfl rfl rfl rfl rfl ?_
  refine s_move rfl rfl rfl rfl rfl rfl ?_
  refine s_cmpS rfl rfl rfl rfl rfl rfl rfl rfl (fun h13 => ?_) (fun h13 => ?_)
  · refine s_move rfl rfl rfl rfl rfl rfl ?_
    refine s_move rfl rfl rfl rfl rfl rfl ?_
    refine s_move rfl rfl rfl rfl rfl rfl ?_
    refine s_cmpS rfl rfl rfl rfl rfl rfl rfl rfl (fun h14 => ?_) (fun h14 => ?_)
    · refine s_pick_t rfl rfl rfl rfl rfl rfl rfl ?_
      refine s_assign rfl rfl rfl rfl rfl rfl ?_
      refine okl_nil ?_
      change OkC Try.prog _ _ _ _ _ _ _
      refine okc_weak (l' := [(0, _), (1, _), (2, _), (6, _)]) ⟨rfl, rfl, rfl, rfl, trivial⟩ ?_
      refine okc_ret fun a w hs => ?_
      exact ret_v hs (run_results1 hs rfl (rv_tmp rfl)) (by clear hs; simp_all <;> omega)
    · refine s_pick_t rfl rfl rfl rfl rfl rfl rfl ?_
      refine s_assign rfl rfl rfl rfl rfl rfl ?_
      refine okl_nil ?_
      change OkC Try.prog _ _ _ _ _ _ _
      refine okc_weak (l' := [(0, _), (1, _), (2, _), (6, _)]) ⟨rfl, rfl, rfl, rfl, trivial⟩ ?_
      refine okc_ret fun a w hs => ?_
      exact ret_v hs (run_results1 hs rfl (rv_tmp rfl)) (by clear hs; simp_all <;> omega)
  · refine s_move rfl rfl rfl rfl rfl rfl ?_
    refine okl_skip rfl rfl rfl rfl ?_
    refine okl_skip rfl rfl rfl rfl ?_
    refine okl_skip rfl rfl rfl rfl ?_
    refine s_pick_f rfl rfl rfl rfl rfl rfl rfl ?_
    refine s_assign rfl rfl rfl rfl rfl rfl ?_
    refine okl_nil ?_
    change OkC Try.prog _ _ _ _ _ _ _
    refine okc_weak (l' := [(0, _), (1, _), (2, _), (6, _)]) ⟨rfl, rfl, rfl, rfl, trivial⟩ ?_
    refine okc_ret fun a w hs => ?_
    exact ret_v hs (run_results1 hs rfl (rv_tmp rfl)) (by clear hs; simp_all <;> omega)

/-- Is the number in the span? -/
def inS (lo hi n : Int) : Bool := decide (lo ≤ n) && decide (n ≤ hi)
def ints (xs : List Int) : List Value := xs.map (Value.int .i64)
theorem ints_at {xs : List Int} {k : Nat} {x : Int} (h : xs[k]? = some x) (off : Nat) (ho : off = k) : (ints xs)[off]? = some (.int .i64 x) := by subst ho; simp [ints, h]
theorem all_snoc {α : Type} (p : α → Bool) {xs : List α} {k : Nat} {x : α} (h : xs[k]? = some x) : (xs.take (k + 1)).all p = ((xs.take k).all p && p x) := by
  rw [List.take_add_one, h]; simp
theorem all_false {α : Type} {p : α → Bool} {xs : List α} {k : Nat} {x : α} (h : xs[k]? = some x) (hp : p x = false) : xs.all p = false := by
  rw [List.all_eq_false]; exact ⟨x, List.mem_of_getElem? h, by simp [hp]⟩
theorem all_end {α : Type} {p : α → Bool} {xs : List α} {k : Nat} (h : ¬ k < xs.length) (hp : (xs.take k).all p = true) : xs.all p = true := by
  rwa [List.take_of_length_le (by omega)] at hp

theorem within_fn (lo hi : Int) (xs : List Int) (b c : Nat) (hl : xs.length ≤ 1000) : Cn Try.prog 131 [.agg #[.int .i64 lo, .int .i64 hi], .slice (some ⟨b, 0, none⟩) xs.length c] [(b, ints xs)] (fun _ : Unit => .bool (xs.all (inS lo hi))) (fun _ => []) (fun _ => True) := by
  refine fn_intro (N := 24) Try.func131 rfl rfl rfl fun w0 => ?_
  refine okc_seq ?_
  refine okc_region ?_
  refine s_boxA rfl rfl rfl rfl rfl rfl (fun b15 => ?_)
  refine s_assign rfl rfl rfl rfl rfl rfl ?_
  refine okl_nil ?_
  change OkC Try.prog _ _ _ _ _ _ _
  refine okc_weak (l' := [(0, _), (1, _), (2, _), (4, _)]) ⟨rfl, rfl, rfl, rfl, trivial⟩ ?_
  refine okc_seq ?_
  refine okc_seq ?_
  refine okc_region ?_
  refine s_move rfl rfl rfl rfl rfl rfl ?_
  refine s_len rfl rfl rfl rfl rfl rfl rfl ?_
  refine s_move rfl rfl rfl rfl rfl rfl ?_
  refine okl_nil ?_
  change OkC Try.prog _ _ _ _ _ _ _
  refine okc_weak (l' := [(0, _), (1, _), (2, _), (4, _), (7, _), (8, _), (9, _)]) ⟨rfl, rfl, rfl, rfl, rfl, rfl, rfl, trivial⟩ ?_
  refine okc_block ?_
  refine okc_loop (γ := Nat) (fun k => [(2, .pointer (some ⟨b15, 0, none⟩)), (7, .slice (some ⟨b, 0, none⟩) xs.length c), (8, .int .i64 xs.length), (9, .int .i64 k)]) (fun _ => [(b15, [.int .i64 lo, .int .i64 hi], 23)]) (fun k => k ≤ xs.length ∧ (xs.take k).all (inS lo hi) = true) (fun k => xs.length - k) 0 ⟨Nat.zero_le _, rfl⟩ (fun a w hs => hs.weak ⟨rfl, rfl, rfl, rfl, trivial⟩ [0] (by simp) rfl) ?_
  rintro k ⟨hk, hall⟩
  try dsimp only
  refine okc_seq ?_
  refine okc_region ?_
  refine s_cmpS rfl rfl rfl rfl rfl rfl rfl rfl (fun h16 => ?_) (fun h16 => ?_)
  · have hlt : k < xs.length := by simpa using h16
    obtain ⟨x, hx⟩ : ∃ x, xs[k]? = some x := ⟨xs[k], by simp [hlt]⟩
    have hcell : (ints xs)[0 + k * 1]? = some (.int .i64 x) := ints_at hx _ (by omega)
    refine okl_nil ?_
    change OkC Try.prog _ _ _ _ _ _ _
    refine okc_weak (l' := [(2, _), (7, _), (8, _), (9, _), (10, _)]) ⟨rfl, rfl, rfl, rfl, rfl, trivial⟩ ?_
    refine okc_seq ?_
    refine okc_cond_t rfl ?_
    refine okc_skip ?_
    change OkC Try.prog _ _ _ _ _ _ _
    refine okc_weak (l' := [(2, _), (7, _), (8, _), (9, _), (10, _)]) ⟨rfl, rfl, rfl, rfl, rfl, trivial⟩ ?_
    refine okc_seq ?_
    refine okc_block ?_
    refine okc_seq ?_
    refine okc_region ?_
    refine s_indexS k rfl rfl rfl rfl rfl rfl rfl rfl rfl rfl (by omega) rfl ?_
    refine s_loadA1 0 rfl rfl rfl rfl rfl rfl rfl rfl (by assumption) ?_
    refine s_assign rfl rfl rfl rfl rfl rfl ?_
    refine okl_nil ?_
    change OkC Try.prog _ _ _ _ _ _ _
    refine okc_weak (l' := [(2, _), (6, _), (7, _), (8, _), (9, _), (10, _)]) ⟨rfl, rfl, rfl, rfl, rfl, rfl, trivial⟩ ?_
    refine okc_seq ?_
    refine okc_region ?_
    refine s_move rfl rfl rfl rfl rfl rfl ?_
    refine s_field rfl rfl rfl rfl rfl rfl rfl rfl ?_
    refine s_load1 0 rfl rfl rfl rfl rfl rfl rfl rfl rfl ?_
    refine s_cmpS rfl rfl rfl rfl rfl rfl rfl rfl (fun h17 => ?_) (fun h17 => ?_)
    · refine s_move rfl rfl rfl rfl rfl rfl ?_
      refine okl_skip rfl rfl rfl rfl ?_
      refine okl_skip rfl rfl rfl rfl ?_
      refine okl_skip rfl rfl rfl rfl ?_
      refine okl_skip rfl rfl rfl rfl ?_
      refine s_pick_t rfl rfl rfl rfl rfl rfl rfl ?_
      refine okl_nil ?_
      change OkC Try.prog _ _ _ _ _ _ _
      refine okc_weak (l' := [(2, _), (6, _), (7, _), (8, _), (9, _), (10, _), (22, _)]) ⟨rfl, rfl, rfl, rfl, rfl, rfl, rfl, trivial⟩ ?_
      refine okc_cond_t rfl ?_
      refine okc_seq ?_
      refine okc_region ?_
      refine s_assign rfl rfl rfl rfl rfl rfl ?_
      refine okl_nil ?_
      change OkC Try.prog _ _ _ _ _ _ _
      refine okc_weak (l' := [(2, _), (4, _), (6, _), (7, _), (8, _), (9, _), (10, _), (22, _)]) ⟨rfl, rfl, rfl, rfl, rfl, rfl, rfl, rfl, trivial⟩ ?_
      refine okc_ret fun a w hs => ?_
      exact ret_v hs (run_results1 hs rfl (rv_tmp rfl)) (by clear hs; first | (rw [all_false hx (by simp_all [inS] <;> omega)]; done) | (rw [all_end hge hall]; done))
    · refine s_move rfl rfl rfl rfl rfl rfl ?_
      refine s_move rfl rfl rfl rfl rfl rfl ?_
      refine s_field rfl rfl rfl rfl rfl rfl rfl rfl ?_
      refine s_load1 0 rfl rfl rfl rfl rfl rfl rfl rfl rfl ?_
      refine s_cmpS rfl rfl rfl rfl rfl rfl rfl rfl (fun h18 => ?_) (fun h18 => ?_)
      · refine s_pick_f rfl rfl rfl rfl rfl rfl rfl ?_
        refine okl_nil ?_
        change OkC Try.prog _ _ _ _ _ _ _
        refine okc_weak (l' := [(2, _), (6, _), (7, _), (8, _), (9, _), (10, _), (22, _)]) ⟨rfl, rfl, rfl, rfl, rfl, rfl, rfl, trivial⟩ ?_
        refine okc_cond_t rfl ?_
        refine okc_seq ?_
        refine okc_region ?_
        refine s_assign rfl rfl rfl rfl rfl rfl ?_
        refine okl_nil ?_
        change OkC Try.prog _ _ _ _ _ _ _
        refine okc_weak (l' := [(2, _), (4, _), (6, _), (7, _), (8, _), (9, _), (10, _), (22, _)]) ⟨rfl, rfl, rfl, rfl, rfl, rfl, rfl, rfl, trivial⟩ ?_
        refine okc_ret fun a w hs => ?_
        exact ret_v hs (run_results1 hs rfl (rv_tmp rfl)) (by clear hs; first | (rw [all_false hx (by simp_all [inS] <;> omega)]; done) | (rw [all_end hge hall]; done))
      · refine s_pick_f rfl rfl rfl rfl rfl rfl rfl ?_
        refine okl_nil ?_
        change OkC Try.prog _ _ _ _ _ _ _
        refine okc_weak (l' := [(2, _), (6, _), (7, _), (8, _), (9, _), (10, _), (22, _)]) ⟨rfl, rfl, rfl, rfl, rfl, rfl, rfl, trivial⟩ ?_
        refine okc_cond_f rfl ?_
        refine okc_skip ?_
        change OkC Try.prog _ _ _ _ _ _ _
        refine okc_weak (l' := [(2, _), (6, _), (7, _), (8, _), (9, _), (10, _), (22, _)]) ⟨rfl, rfl, rfl, rfl, rfl, rfl, rfl, trivial⟩ ?_
        refine okc_region ?_
        refine s_add rfl rfl rfl rfl rfl rfl rfl (by omega) ?_
        refine s_move rfl rfl rfl rfl rfl rfl ?_
        refine okl_nil ?_
        exact fun a w hs => ⟨k + 1, ⟨by omega, by rw [all_snoc _ hx, hall]; clear hs; simp_all [inS]⟩, by omega, hs.weak ⟨rfl, rfl, rfl, rfl, trivial⟩ [0] (by simp) rfl⟩
  · have hge : ¬ k < xs.length := by simpa using h16
    refine okl_nil ?_
    change OkC Try.prog _ _ _ _ _ _ _
    refine okc_weak (l' := [(2, _), (7, _), (8, _), (9, _), (10, _)]) ⟨rfl, rfl, rfl, rfl, rfl, trivial⟩ ?_
    refine okc_seq ?_
    refine okc_cond_f rfl ?_
    refine okc_exit ?_
    change OkC Try.prog _ _ _ _ _ _ _
    refine okc_weak (l' := [(2, _), (7, _), (8, _), (9, _), (10, _)]) ⟨rfl, rfl, rfl, rfl, rfl, trivial⟩ ?_
    refine okc_seq ?_
    refine okc_region ?_
    refine s_assign rfl rfl rfl rfl rfl rfl ?_
    refine okl_nil ?_
    change OkC Try.prog _ _ _ _ _ _ _
    refine okc_weak (l' := [(2, _), (4, _), (7, _), (8, _), (9, _), (10, _)]) ⟨rfl, rfl, rfl, rfl, rfl, rfl, trivial⟩ ?_
    refine okc_ret fun a w hs => ?_
    exact ret_v hs (run_results1 hs rfl (rv_tmp rfl)) (by clear hs; first | (rw [all_false hx (by simp_all [inS] <;> omega)]; done) | (rw [all_end hge hall]; done))

end Go.Proofs.Ytdpnadknaacinaa
end

section
namespace Go.Proofs.Ytdpnadknaacinaa
open Go.Sx Go.Proofs.Ytdpnadknaacinaa.Ty
set_option linter.unusedVariables false
set_option maxHeartbeats 2000000


/-- A line of the book, a reading, a spring: as data; the slices as they came in. -/
structure Ln where
  rlo : Int
  rhi : Int
  week : Int
  glo : Int
  ghi : Int
structure Rd where
  number : Int
  week : Int
  bucket : Int
  lo : Int
  hi : Int
structure Sp where
  weeks : Int
  most : Int
  fall : Int
  slo : Int
  shi : Int
  wlo : Int
  whi : Int
  bp : Option Addr
  bc : Nat
  rp : Option Addr
  rc : Nat
  book : List Ln
  reads : List Rd

abbrev lnV (x : Ln) : Value := .agg #[.int .i64 x.rlo, .int .i64 x.rhi, .int .i64 x.week, .int .i64 x.glo, .int .i64 x.ghi]
abbrev rdV (x : Rd) : Value := .agg #[.int .i64 x.number, .int .i64 x.week, .int .i64 x.bucket, .int .i64 x.lo, .int .i64 x.hi]
abbrev spV (s : Sp) : Value := .agg #[.int .i64 s.weeks, .int .i64 s.most, .int .i64 s.fall, .int .i64 s.slo, .int .i64 s.shi, .int .i64 s.wlo, .int .i64 s.whi, .slice s.bp s.book.length s.bc, .slice s.rp s.reads.length s.rc]

abbrev lnL (x : Ln) : List Value := [.int .i64 x.rlo, .int .i64 x.rhi, .int .i64 x.week, .int .i64 x.glo, .int .i64 x.ghi]
abbrev rdL (x : Rd) : List Value := [.int .i64 x.number, .int .i64 x.week, .int .i64 x.bucket, .int .i64 x.lo, .int .i64 x.hi]

/-- The slice p reads as these lines, these readings, out of the blocks M. -/
def LnsIn (M : Args) (p : Option Addr) (L : List Ln) : Prop := ∃ (b off : Nat) (cs : List Value) (j : Nat), L ≠ [] → p = some ⟨b, off, none⟩ ∧ M[j]? = some (b, cs) ∧ ∀ (k : Nat) (x : Ln), L[k]? = some x → sub cs (off + k * 5) 5 = lnL x
def RdsIn (M : Args) (p : Option Addr) (L : List Rd) : Prop := ∃ (b off : Nat) (cs : List Value) (j : Nat), L ≠ [] → p = some ⟨b, off, none⟩ ∧ M[j]? = some (b, cs) ∧ ∀ (k : Nat) (x : Rd), L[k]? = some x → sub cs (off + k * 5) 5 = rdL x

theorem sub_at {cs vs : List Value} {off n : Nat} (h : sub cs off n = vs) (j : Nat) (hj : j < n) : cs[off + j]? = vs[j]? := by
  rw [← h]; unfold sub; simp [hj]

structure Sp.In (M : Args) (s : Sp) : Prop where
  book : LnsIn M s.bp s.book
  reads : RdsIn M s.rp s.reads
  bn : s.book.length ≤ 1000000000000
  rn : s.reads.length ≤ 1000000000000

theorem covers_all {O : Blks} {A : Args} : covers O A A := fun _ _ h => .inr h

def isSpanB (a b lo hi : Int) : Bool := decide (a ≤ b) && (inS lo hi a && inS lo hi b)
def isWeekB (weeks k : Int) : Bool := inS 0 (weeks - 1) k
def frameB (s : Sp) : Bool := inS 1 10 s.weeks && (inS 0 100 s.most && inS 0 100 s.fall) && isSpanB s.slo s.shi 1 600 && isSpanB s.wlo s.whi 0 20
def lineB (weeks : Int) (x : Ln) : Bool := isSpanB x.rlo x.rhi 0 20 && isWeekB weeks x.week && isSpanB x.glo x.ghi 0 100
def readB (weeks : Int) (x : Rd) : Bool := inS 1 9999 x.number && isWeekB weeks x.week && inS 1 40 x.bucket && isSpanB x.lo x.hi 0 99 && decide (1 ≤ x.hi)

end Go.Proofs.Ytdpnadknaacinaa
end

section
namespace Go.Proofs.Ytdpnadknaacinaa
open Go.Sx Go.Proofs.Ytdpnadknaacinaa.Ty
set_option linter.unusedVariables false
set_option maxHeartbeats 2000000

theorem isSpan_fn (a b lo hi : Int) : Cn Try.prog 143 [.agg #[.int .i64 a, .int .i64 b], .agg #[.int .i64 lo, .int .i64 hi]] [] (fun _ : Unit => .bool (isSpanB a b lo hi)) (fun _ => []) (fun _ => True) := by
  refine fn_intro (N := 19) Try.func143 rfl rfl rfl fun w0 => ?_
  refine okc_seq ?_
  refine okc_region ?_
  refine s_boxA rfl rfl rfl rfl rfl rfl (fun b1 => ?_)
  refine s_boxA rfl rfl rfl rfl rfl rfl (fun b2 => ?_)
  refine s_assign rfl rfl rfl rfl rfl rfl ?_
  refine okl_nil ?_
  change OkC Try.prog _ _ _ _ _ _ _
  refine okc_weak (l' := [(0, _), (1, _), (2, _), (3, _), (4, _)]) ⟨rfl, rfl, rfl, rfl, rfl, trivial⟩ ?_
  refine okc_seq ?_
  refine okc_region ?_
  refine s_field rfl rfl rfl rfl rfl rfl rfl rfl ?_
  refine s_load1 1 rfl rfl rfl rfl rfl rfl rfl rfl rfl ?_
  refine s_field rfl rfl rfl rfl rfl rfl rfl rfl ?_
  refine s_load1 1 rfl rfl rfl rfl rfl rfl rfl rfl rfl ?_
  refine s_cmpS rfl rfl rfl rfl rfl rfl rfl rfl (fun h3 => ?_) (fun h3 => ?_)
  · refine s_move rfl rfl rfl rfl rfl rfl ?_
    refine s_loadW 0 rfl rfl rfl rfl rfl rfl rfl rfl rfl rfl ?_
    refine s_field rfl rfl rfl rfl rfl rfl rfl rfl ?_
    refine s_load1 1 rfl rfl rfl rfl rfl rfl rfl rfl rfl ?_
    refine s_field rfl rfl rfl rfl rfl rfl rfl rfl ?_
    refine s_load1 1 rfl rfl rfl rfl rfl rfl rfl rfl rfl ?_
    refine s_slice2 rfl rfl rfl rfl rfl rfl rfl rfl rfl rfl rfl rfl (fun b4 => ?_)
    refine s_callb rfl rfl rfl rfl rfl rfl rfl c131 (within_fn _ _ [_, _] _ 2 (by simp)) (covers_own 0 rfl covers_nil) (fun h5 => ?_) (fun h5 => ?_)
    · refine s_pick_t rfl rfl rfl rfl rfl rfl rfl ?_
      refine s_assign rfl rfl rfl rfl rfl rfl ?_
      refine okl_nil ?_
      change OkC Try.prog _ _ _ _ _ _ _
      refine okc_weak (l' := [(0, _), (1, _), (2, _), (3, _), (4, _)]) ⟨rfl, rfl, rfl, rfl, rfl, trivial⟩ ?_
      refine okc_ret fun a w hs => ?_
      exact ret_v hs (run_results1 hs rfl (rv_tmp rfl)) (by clear hs; simp_all [isSpanB] <;> omega)
    · refine s_pick_t rfl rfl rfl rfl rfl rfl rfl ?_
      refine s_assign rfl rfl rfl rfl rfl rfl ?_
      refine okl_nil ?_
      change OkC Try.prog _ _ _ _ _ _ _
      refine okc_weak (l' := [(0, _), (1, _), (2, _), (3, _), (4, _)]) ⟨rfl, rfl, rfl, rfl, rfl, trivial⟩ ?_
      refine okc_ret fun a w hs => ?_
      exact ret_v hs (run_results1 hs rfl (rv_tmp rfl)) (by clear hs; simp_all [isSpanB] <;> omega)
  · refine s_move rfl rfl rfl rfl rfl rfl ?_
    refine okl_skip rfl rfl rfl rfl ?_
    refine okl_skip rfl rfl rfl rfl ?_
    refine okl_skip rfl rfl rfl rfl ?_
    refine okl_skip rfl rfl rfl rfl ?_
    refine okl_skip rfl rfl rfl rfl ?_
    refine okl_skip rfl rfl rfl rfl ?_
    refine okl_skip rfl rfl rfl rfl ?_
    refine s_pick_f rfl rfl rfl rfl rfl rfl rfl ?_
    refine s_assign rfl rfl rfl rfl rfl rfl ?_
    refine okl_nil ?_
    change OkC Try.prog _ _ _ _ _ _ _
    refine okc_weak (l' := [(0, _), (1, _), (2, _), (3, _), (4, _)]) ⟨rfl, rfl, rfl, rfl, rfl, trivial⟩ ?_
    refine okc_ret fun a w hs => ?_
    exact ret_v hs (run_results1 hs rfl (rv_tmp rfl)) (by clear hs; simp_all [isSpanB] <;> omega)

theorem isWeek_fn (s : Sp) (M : Args) (k : Int) (h1 : 1 ≤ s.weeks) (h2 : s.weeks ≤ 10) : Cn Try.prog 129 [spV s, .int .i64 k] M (fun _ : Unit => .bool (isWeekB s.weeks k)) (fun _ => []) (fun _ => True) := by
  refine fn_intro (N := 12) Try.func129 rfl rfl rfl fun w0 => ?_
  refine okc_seq ?_
  refine okc_region ?_
  refine s_boxA rfl rfl rfl rfl rfl rfl (fun b6 => ?_)
  refine s_assign rfl rfl rfl rfl rfl rfl ?_
  refine okl_nil ?_
  change OkC Try.prog _ _ _ _ _ _ _
  refine okc_weak (l' := [(0, _), (1, _), (2, _), (4, _)]) ⟨rfl, rfl, rfl, rfl, trivial⟩ ?_
  refine okc_seq ?_
  refine okc_region ?_
  refine s_field rfl rfl rfl rfl rfl rfl rfl rfl ?_
  refine s_load1 0 rfl rfl rfl rfl rfl rfl rfl rfl rfl ?_
  refine s_sub rfl rfl rfl rfl rfl rfl rfl (by omega) ?_
  refine s_callv rfl rfl rfl rfl rfl rfl rfl c85 (span_fn _ _) covers_nil ?_
  refine s_move rfl rfl rfl rfl rfl rfl ?_
  refine s_slice1 rfl rfl rfl rfl rfl rfl rfl rfl rfl rfl (fun b7 => ?_)
  refine s_callb rfl rfl rfl rfl rfl rfl rfl c131 (within_fn _ _ [_] _ 1 (by simp)) (covers_own 0 rfl covers_nil) (fun h8 => ?_) (fun h8 => ?_)
  · refine s_assign rfl rfl rfl rfl rfl rfl ?_
    refine okl_nil ?_
    change OkC Try.prog _ _ _ _ _ _ _
    refine okc_weak (l' := [(0, _), (1, _), (2, _), (4, _)]) ⟨rfl, rfl, rfl, rfl, trivial⟩ ?_
    refine okc_ret fun a w hs => ?_
    exact ret_v hs (run_results1 hs rfl (rv_tmp rfl)) (by clear hs; simp_all [isWeekB])
  · refine s_assign rfl rfl rfl rfl rfl rfl ?_
    refine okl_nil ?_
    change OkC Try.prog _ _ _ _ _ _ _
    refine okc_weak (l' := [(0, _), (1, _), (2, _), (4, _)]) ⟨rfl, rfl, rfl, rfl, trivial⟩ ?_
    refine okc_ret fun a w hs => ?_
    exact ret_v hs (run_results1 hs rfl (rv_tmp rfl)) (by clear hs; simp_all [isWeekB])

theorem validFrame_fn (s : Sp) (M : Args) : Cn Try.prog 140 [spV s] M (fun _ : Unit => .bool (frameB s)) (fun _ => []) (fun _ => True) := by
  refine fn_intro (N := 29) Try.func140 rfl rfl rfl fun w0 => ?_
  refine okc_seq ?_
  refine okc_region ?_
  refine s_boxA rfl rfl rfl rfl rfl rfl (fun b9 => ?_)
  refine s_assign rfl rfl rfl rfl rfl rfl ?_
  refine okl_nil ?_
  change OkC Try.prog _ _ _ _ _ _ _
  refine okc_weak (l' := [(0, _), (1, _), (2, _)]) ⟨rfl, rfl, rfl, trivial⟩ ?_
  refine okc_seq ?_
  refine dr_start [3, 4, 5, 6, 7, 8, 9, 10, 11, 12, 13, 14, 15, 16, 17, 18, 19, 20, 21, 22, 23, 24, 25, 26, 27, 28, 2] ?_
  refine d_callv [] rfl rfl rfl rfl rfl (fun ν => rfl) rfl (fun ν => rfl) (fun ν => rfl) c85 (fun ν => span_fn _ _) (fun ν => covers_nil) ?_
  refine d_field [] rfl rfl rfl rfl rfl (fun ν => rfl) rfl (fun ν => rfl) rfl rfl ?_
  refine d_load1 0 [1] rfl rfl rfl rfl rfl (fun ν => rfl) rfl rfl (fun ν => rfl) (fun ν => rfl) rfl ?_
  refine d_slice1 [2] rfl rfl rfl rfl rfl (fun ν => rfl) rfl (fun ν => rfl) rfl rfl rfl rfl ?_
  refine d_callb [0, 3] rfl rfl rfl rfl rfl (fun ν => rfl) rfl (fun ν => rfl) (fun ν => rfl) c131 (fun ν => within_fn _ _ [_] _ 1 (by simp)) (fun ν => (covers_own 0 rfl covers_nil)) (fun h11 => ?_) (fun h11 => ?_)
  · refine d_move [4] rfl rfl rfl rfl rfl (fun ν => rfl) rfl (fun ν => rfl) ?_
    refine d_callv [5] rfl rfl rfl rfl rfl (fun ν => rfl) rfl (fun ν => rfl) (fun ν => rfl) c85 (fun ν => span_fn _ _) (fun ν => covers_nil) ?_
    refine d_field [5] rfl rfl rfl rfl rfl (fun ν => rfl) rfl (fun ν => rfl) rfl rfl ?_
    refine d_load1 0 [7, 5] rfl rfl rfl rfl rfl (fun ν => rfl) rfl rfl (fun ν => rfl) (fun ν => rfl) rfl ?_
    refine d_field [5] rfl rfl rfl rfl rfl (fun ν => rfl) rfl (fun ν => rfl) rfl rfl ?_
    refine d_load1 0 [9, 5] rfl rfl rfl rfl rfl (fun ν => rfl) rfl rfl (fun ν => rfl) (fun ν => rfl) rfl ?_
    refine d_slice2 [8, 10, 5] rfl rfl rfl rfl rfl (fun ν => rfl) rfl (fun ν => rfl) (fun ν => rfl) rfl rfl rfl rfl rfl ?_
    refine d_callb [6, 11, 5] rfl rfl rfl rfl rfl (fun ν => rfl) rfl (fun ν => rfl) (fun ν => rfl) c131 (fun ν => within_fn _ _ [_, _] _ 2 (by simp)) (fun ν => (covers_own 0 rfl covers_nil)) (fun h13 => ?_) (fun h13 => ?_)
    · refine d_pick_t [5, 12] rfl rfl rfl rfl rfl (fun ν => rfl) rfl (fun ν => rfl) (fun ν => rfl) ?_
      refine d_move [13] rfl rfl rfl rfl rfl (fun ν => rfl) rfl (fun ν => rfl) ?_
      refine d_field [14] rfl rfl rfl rfl rfl (fun ν => rfl) rfl (fun ν => rfl) rfl rfl ?_
      refine d_loadP2 0 [15, 14] rfl rfl rfl rfl rfl (fun ν => rfl) rfl rfl (fun ν => rfl) (fun ν => rfl) rfl rfl rfl ?_
      refine d_callv [14] rfl rfl rfl rfl rfl (fun ν => rfl) rfl (fun ν => rfl) (fun ν => rfl) c85 (fun ν => span_fn _ _) (fun ν => covers_nil) ?_
      refine d_callb [16, 17, 14] rfl rfl rfl rfl rfl (fun ν => rfl) rfl (fun ν => rfl) (fun ν => rfl) c143 (fun ν => isSpan_fn _ _ _ _) (fun ν => covers_nil) (fun h14 => ?_) (fun h14 => ?_)
      · refine d_pick_t [14, 18] rfl rfl rfl rfl rfl (fun ν => rfl) rfl (fun ν => rfl) (fun ν => rfl) ?_
        refine d_move [19] rfl rfl rfl rfl rfl (fun ν => rfl) rfl (fun ν => rfl) ?_
        refine d_field [20] rfl rfl rfl rfl rfl (fun ν => rfl) rfl (fun ν => rfl) rfl rfl ?_
        refine d_loadP2 0 [21, 20] rfl rfl rfl rfl rfl (fun ν => rfl) rfl rfl (fun ν => rfl) (fun ν => rfl) rfl rfl rfl ?_
        refine d_callv [20] rfl rfl rfl rfl rfl (fun ν => rfl) rfl (fun ν => rfl) (fun ν => rfl) c85 (fun ν => span_fn _ _) (fun ν => covers_nil) ?_
        refine d_callb [22, 23, 20] rfl rfl rfl rfl rfl (fun ν => rfl) rfl (fun ν => rfl) (fun ν => rfl) c143 (fun ν => isSpan_fn _ _ _ _) (fun ν => covers_nil) (fun h15 => ?_) (fun h15 => ?_)
        · refine d_pick_t [20, 24] rfl rfl rfl rfl rfl (fun ν => rfl) rfl (fun ν => rfl) (fun ν => rfl) ?_
          refine d_assign [25] rfl rfl rfl rfl rfl (fun ν => rfl) rfl (fun ν => rfl) ?_
          refine dr_end [3, 4, 5, 6, 7, 8, 9, 10, 11, 12, 13, 14, 15, 16, 17, 18, 19, 20, 21, 22, 23, 24, 25, 26, 27, 28, 2] [26] 27 rfl rfl rfl rfl rfl rfl rfl rfl rfl (fun ν => ?_)
          refine okl_nil ?_
          change OkC Try.prog _ _ _ _ _ _ _
          refine okc_weak (l' := [(0, _), (1, _), (2, _)]) ⟨rfl, rfl, rfl, trivial⟩ ?_
          refine okc_ret fun a w hs => ?_
          exact ret_v hs (run_results1 hs rfl (rv_tmp rfl)) (by clear hs; simp_all [frameB])
        · refine d_pick_t [20, 24] rfl rfl rfl rfl rfl (fun ν => rfl) rfl (fun ν => rfl) (fun ν => rfl) ?_
          refine d_assign [25] rfl rfl rfl rfl rfl (fun ν => rfl) rfl (fun ν => rfl) ?_
          refine dr_end [3, 4, 5, 6, 7, 8, 9, 10, 11, 12, 13, 14, 15, 16, 17, 18, 19, 20, 21, 22, 23, 24, 25, 26, 27, 28, 2] [26] 27 rfl rfl rfl rfl rfl rfl rfl rfl rfl (fun ν => ?_)
          refine okl_nil ?_
          change OkC Try.prog _ _ _ _ _ _ _
          refine okc_weak (l' := [(0, _), (1, _), (2, _)]) ⟨rfl, rfl, rfl, trivial⟩ ?_
          refine okc_ret fun a w hs => ?_
          exact ret_v hs (run_results1 hs rfl (rv_tmp rfl)) (by clear hs; simp_all [frameB])
      · refine d_pick_t [14, 18] rfl rfl rfl rfl rfl (fun ν => rfl) rfl (fun ν => rfl) (fun ν => rfl) ?_
        refine d_move [19] rfl rfl rfl rfl rfl (fun ν => rfl) rfl (fun ν => rfl) ?_
        refine d_skip [20] rfl rfl rfl rfl rfl (fun ν => rfl) ?_
        refine d_skip [21, 20] rfl rfl rfl rfl rfl (fun ν => rfl) ?_
        refine d_skip [20] rfl rfl rfl rfl rfl (fun ν => rfl) ?_
        refine d_skip [22, 23, 20] rfl rfl rfl rfl rfl (fun ν => rfl) ?_
        refine d_pick_f [20, 24] rfl rfl rfl rfl rfl (fun ν => rfl) rfl (fun ν => rfl) (fun ν => rfl) ?_
        refine d_assign [25] rfl rfl rfl rfl rfl (fun ν => rfl) rfl (fun ν => rfl) ?_
        refine dr_end [3, 4, 5, 6, 7, 8, 9, 10, 11, 12, 13, 14, 15, 16, 17, 18, 19, 20, 21, 22, 23, 24, 25, 26, 27, 28, 2] [26] 27 rfl rfl rfl rfl rfl rfl rfl rfl rfl (fun ν => ?_)
        refine okl_nil ?_
        change OkC Try.prog _ _ _ _ _ _ _
        refine okc_weak (l' := [(0, _), (1, _), (2, _)]) ⟨rfl, rfl, rfl, trivial⟩ ?_
        refine okc_ret fun a w hs => ?_
        exact ret_v hs (run_results1 hs rfl (rv_tmp rfl)) (by clear hs; simp_all [frameB])
    · refine d_pick_t [5, 12] rfl rfl rfl rfl rfl (fun ν => rfl) rfl (fun ν => rfl) (fun ν => rfl) ?_
      refine d_move [13] rfl rfl rfl rfl rfl (fun ν => rfl) rfl (fun ν => rfl) ?_
      refine d_skip [14] rfl rfl rfl rfl rfl (fun ν => rfl) ?_
      refine d_skip [15, 14] rfl rfl rfl rfl rfl (fun ν => rfl) ?_
      refine d_skip [14] rfl rfl rfl rfl rfl (fun ν => rfl) ?_
      refine d_skip [16, 17, 14] rfl rfl rfl rfl rfl (fun ν => rfl) ?_
      refine d_pick_f [14, 18] rfl rfl rfl rfl rfl (fun ν => rfl) rfl (fun ν => rfl) (fun ν => rfl) ?_
      refine d_move [19] rfl rfl rfl rfl rfl (fun ν => rfl) rfl (fun ν => rfl) ?_
      refine d_skip [20] rfl rfl rfl rfl rfl (fun ν => rfl) ?_
      refine d_skip [21, 20] rfl rfl rfl rfl rfl (fun ν => rfl) ?_
      refine d_skip [20] rfl rfl rfl rfl rfl (fun ν => rfl) ?_
      refine d_skip [22, 23, 20] rfl rfl rfl rfl rfl (fun ν => rfl) ?_
      refine d_pick_f [20, 24] rfl rfl rfl rfl rfl (fun ν => rfl) rfl (fun ν => rfl) (fun ν => rfl) ?_
      refine d_assign [25] rfl rfl rfl rfl rfl (fun ν => rfl) rfl (fun ν => rfl) ?_
      refine dr_end [3, 4, 5, 6, 7, 8, 9, 10, 11, 12, 13, 14, 15, 16, 17, 18, 19, 20, 21, 22, 23, 24, 25, 26, 27, 28, 2] [26] 27 rfl rfl rfl rfl rfl rfl rfl rfl rfl (fun ν => ?_)
      refine okl_nil ?_
      change OkC Try.prog _ _ _ _ _ _ _
      refine okc_weak (l' := [(0, _), (1, _), (2, _)]) ⟨rfl, rfl, rfl, trivial⟩ ?_
      refine okc_ret fun a w hs => ?_
      exact ret_v hs (run_results1 hs rfl (rv_tmp rfl)) (by clear hs; simp_all [frameB])
  · refine d_move [4] rfl rfl rfl rfl rfl (fun ν => rfl) rfl (fun ν => rfl) ?_
    refine d_skip [5] rfl rfl rfl rfl rfl (fun ν => rfl) ?_
    refine d_skip [5] rfl rfl rfl rfl rfl (fun ν => rfl) ?_
    refine d_skip [7, 5] rfl rfl rfl rfl rfl (fun ν => rfl) ?_
    refine d_skip [5] rfl rfl rfl rfl rfl (fun ν => rfl) ?_
    refine d_skip [9, 5] rfl rfl rfl rfl rfl (fun ν => rfl) ?_
    refine d_skip [8, 10, 5] rfl rfl rfl rfl rfl (fun ν => rfl) ?_
    refine d_skip [6, 11, 5] rfl rfl rfl rfl rfl (fun ν => rfl) ?_
    refine d_pick_f [5, 12] rfl rfl rfl rfl rfl (fun ν => rfl) rfl (fun ν => rfl) (fun ν => rfl) ?_
    refine d_move [13] rfl rfl rfl rfl rfl (fun ν => rfl) rfl (fun ν => rfl) ?_
    refine d_skip [14] rfl rfl rfl rfl rfl (fun ν => rfl) ?_
    refine d_skip [15, 14] rfl rfl rfl rfl rfl (fun ν => rfl) ?_
    refine d_skip [14] rfl rfl rfl rfl rfl (fun ν => rfl) ?_
    refine d_skip [16, 17, 14] rfl rfl rfl rfl rfl (fun ν => rfl) ?_
    refine d_pick_f [14, 18] rfl rfl rfl rfl rfl (fun ν => rfl) rfl (fun ν => rfl) (fun ν => rfl) ?_
    refine d_move [19] rfl rfl rfl rfl rfl (fun ν => rfl) rfl (fun ν => rfl) ?_
    refine d_skip [20] rfl rfl rfl rfl rfl (fun ν => rfl) ?_
    refine d_skip [21, 20] rfl rfl rfl rfl rfl (fun ν => rfl) ?_
    refine d_skip [20] rfl rfl rfl rfl rfl (fun ν => rfl) ?_
    refine d_skip [22, 23, 20] rfl rfl rfl rfl rfl (fun ν => rfl) ?_
    refine d_pick_f [20, 24] rfl rfl rfl rfl rfl (fun ν => rfl) rfl (fun ν => rfl) (fun ν => rfl) ?_
    refine d_assign [25] rfl rfl rfl rfl rfl (fun ν => rfl) rfl (fun ν => rfl) ?_
    refine dr_end [3, 4, 5, 6, 7, 8, 9, 10, 11, 12, 13, 14, 15, 16, 17, 18, 19, 20, 21, 22, 23, 24, 25, 26, 27, 28, 2] [26] 27 rfl rfl rfl rfl rfl rfl rfl rfl rfl (fun ν => ?_)
    refine okl_nil ?_
    change OkC Try.prog _ _ _ _ _ _ _
    refine okc_weak (l' := [(0, _), (1, _), (2, _)]) ⟨rfl, rfl, rfl, trivial⟩ ?_
    refine okc_ret fun a w hs => ?_
    exact ret_v hs (run_results1 hs rfl (rv_tmp rfl)) (by clear hs; simp_all [frameB])

theorem validLine_fn (s : Sp) (M : Args) (x : Ln) (h1 : 1 ≤ s.weeks) (h2 : s.weeks ≤ 10) : Cn Try.prog 146 [spV s, lnV x] M (fun _ : Unit => .bool (lineB s.weeks x)) (fun _ => []) (fun _ => True) := by
  refine fn_intro (N := 21) Try.func146 rfl rfl rfl fun w0 => ?_
  refine okc_seq ?_
  refine okc_region ?_
  refine s_boxA rfl rfl rfl rfl rfl rfl (fun b16 => ?_)
  refine s_boxA rfl rfl rfl rfl rfl rfl (fun b17 => ?_)
  refine s_assign rfl rfl rfl rfl rfl rfl ?_
  refine okl_nil ?_
  change OkC Try.prog _ _ _ _ _ _ _
  refine okc_weak (l' := [(0, _), (1, _), (2, _), (3, _), (4, _)]) ⟨rfl, rfl, rfl, rfl, rfl, trivial⟩ ?_
  refine okc_seq ?_
  refine dr_start [5, 6, 7, 8, 9, 10, 11, 12, 13, 14, 15, 16, 17, 18, 19, 20, 4] ?_
  refine d_field [] rfl rfl rfl rfl rfl (fun ν => rfl) rfl (fun ν => rfl) rfl rfl ?_
  refine d_loadP2 0 [0] rfl rfl rfl rfl rfl (fun ν => rfl) rfl rfl (fun ν => rfl) (fun ν => rfl) rfl rfl rfl ?_
  refine d_callv [] rfl rfl rfl rfl rfl (fun ν => rfl) rfl (fun ν => rfl) (fun ν => rfl) c85 (fun ν => span_fn _ _) (fun ν => covers_nil) ?_
  refine d_callb [1, 2] rfl rfl rfl rfl rfl (fun ν => rfl) rfl (fun ν => rfl) (fun ν => rfl) c143 (fun ν => isSpan_fn _ _ _ _) (fun ν => covers_nil) (fun h18 => ?_) (fun h18 => ?_)
  · refine d_move [3] rfl rfl rfl rfl rfl (fun ν => rfl) rfl (fun ν => rfl) ?_
    refine d_loadW 1 [4] rfl rfl rfl rfl rfl (fun ν => rfl) rfl rfl (fun ν => rfl) (fun ν => rfl) rfl rfl ?_
    refine d_field [4] rfl rfl rfl rfl rfl (fun ν => rfl) rfl (fun ν => rfl) rfl rfl ?_
    refine d_load1 0 [6, 4] rfl rfl rfl rfl rfl (fun ν => rfl) rfl rfl (fun ν => rfl) (fun ν => rfl) rfl ?_
    refine d_callb [5, 7, 4] rfl rfl rfl rfl rfl (fun ν => rfl) rfl (fun ν => rfl) (fun ν => rfl) c129 (fun ν => isWeek_fn _ M _ (by assumption) (by assumption)) (fun ν => covers_all) (fun h19 => ?_) (fun h19 => ?_)
    · refine d_pick_t [4, 8] rfl rfl rfl rfl rfl (fun ν => rfl) rfl (fun ν => rfl) (fun ν => rfl) ?_
      refine d_move [9] rfl rfl rfl rfl rfl (fun ν => rfl) rfl (fun ν => rfl) ?_
      refine d_field [10] rfl rfl rfl rfl rfl (fun ν => rfl) rfl (fun ν => rfl) rfl rfl ?_
      refine d_loadP2 0 [11, 10] rfl rfl rfl rfl rfl (fun ν => rfl) rfl rfl (fun ν => rfl) (fun ν => rfl) rfl rfl rfl ?_
      refine d_callv [10] rfl rfl rfl rfl rfl (fun ν => rfl) rfl (fun ν => rfl) (fun ν => rfl) c85 (fun ν => span_fn _ _) (fun ν => covers_nil) ?_
      refine d_callb [12, 13, 10] rfl rfl rfl rfl rfl (fun ν => rfl) rfl (fun ν => rfl) (fun ν => rfl) c143 (fun ν => isSpan_fn _ _ _ _) (fun ν => covers_nil) (fun h20 => ?_) (fun h20 => ?_)
      · refine d_pick_t [10, 14] rfl rfl rfl rfl rfl (fun ν => rfl) rfl (fun ν => rfl) (fun ν => rfl) ?_
        refine d_assign [15] rfl rfl rfl rfl rfl (fun ν => rfl) rfl (fun ν => rfl) ?_
        refine dr_end [5, 6, 7, 8, 9, 10, 11, 12, 13, 14, 15, 16, 17, 18, 19, 20, 4] [16] 17 rfl rfl rfl rfl rfl rfl rfl rfl rfl (fun ν => ?_)
        refine okl_nil ?_
        change OkC Try.prog _ _ _ _ _ _ _
        refine okc_weak (l' := [(0, _), (1, _), (2, _), (3, _), (4, _)]) ⟨rfl, rfl, rfl, rfl, rfl, trivial⟩ ?_
        refine okc_ret fun a w hs => ?_
        exact ret_v hs (run_results1 hs rfl (rv_tmp rfl)) (by clear hs; simp_all [lineB])
      · refine d_pick_t [10, 14] rfl rfl rfl rfl rfl (fun ν => rfl) rfl (fun ν => rfl) (fun ν => rfl) ?_
        refine d_assign [15] rfl rfl rfl rfl rfl (fun ν => rfl) rfl (fun ν => rfl) ?_
        refine dr_end [5, 6, 7, 8, 9, 10, 11, 12, 13, 14, 15, 16, 17, 18, 19, 20, 4] [16] 17 rfl rfl rfl rfl rfl rfl rfl rfl rfl (fun ν => ?_)
        refine okl_nil ?_
        change OkC Try.prog _ _ _ _ _ _ _
        refine okc_weak (l' := [(0, _), (1, _), (2, _), (3, _), (4, _)]) ⟨rfl, rfl, rfl, rfl, rfl, trivial⟩ ?_
        refine okc_ret fun a w hs => ?_
        exact ret_v hs (run_results1 hs rfl (rv_tmp rfl)) (by clear hs; simp_all [lineB])
    · refine d_pick_t [4, 8] rfl rfl rfl rfl rfl (fun ν => rfl) rfl (fun ν => rfl) (fun ν => rfl) ?_
      refine d_move [9] rfl rfl rfl rfl rfl (fun ν => rfl) rfl (fun ν => rfl) ?_
      refine d_skip [10] rfl rfl rfl rfl rfl (fun ν => rfl) ?_
      refine d_skip [11, 10] rfl rfl rfl rfl rfl (fun ν => rfl) ?_
      refine d_skip [10] rfl rfl rfl rfl rfl (fun ν => rfl) ?_
      refine d_skip [12, 13, 10] rfl rfl rfl rfl rfl (fun ν => rfl) ?_
      refine d_pick_f [10, 14] rfl rfl rfl rfl rfl (fun ν => rfl) rfl (fun ν => rfl) (fun ν => rfl) ?_
      refine d_assign [15] rfl rfl rfl rfl rfl (fun ν => rfl) rfl (fun ν => rfl) ?_
      refine dr_end [5, 6, 7, 8, 9, 10, 11, 12, 13, 14, 15, 16, 17, 18, 19, 20, 4] [16] 17 rfl rfl rfl rfl rfl rfl rfl rfl rfl (fun ν => ?_)
      refine okl_nil ?_
      change OkC Try.prog _ _ _ _ _ _ _
      refine okc_weak (l' := [(0, _), (1, _), (2, _), (3, _), (4, _)]) ⟨rfl, rfl, rfl, rfl, rfl, trivial⟩ ?_
      refine okc_ret fun a w hs => ?_
      exact ret_v hs (run_results1 hs rfl (rv_tmp rfl)) (by clear hs; simp_all [lineB])
  · refine d_move [3] rfl rfl rfl rfl rfl (fun ν => rfl) rfl (fun ν => rfl) ?_
    refine d_skip [4] rfl rfl rfl rfl rfl (fun ν => rfl) ?_
    refine d_skip [4] rfl rfl rfl rfl rfl (fun ν => rfl) ?_
    refine d_skip [6, 4] rfl rfl rfl rfl rfl (fun ν => rfl) ?_
    refine d_skip [5, 7, 4] rfl rfl rfl rfl rfl (fun ν => rfl) ?_
    refine d_pick_f [4, 8] rfl rfl rfl rfl rfl (fun ν => rfl) rfl (fun ν => rfl) (fun ν => rfl) ?_
    refine d_move [9] rfl rfl rfl rfl rfl (fun ν => rfl) rfl (fun ν => rfl) ?_
    refine d_skip [10] rfl rfl rfl rfl rfl (fun ν => rfl) ?_
    refine d_skip [11, 10] rfl rfl rfl rfl rfl (fun ν => rfl) ?_
    refine d_skip [10] rfl rfl rfl rfl rfl (fun ν => rfl) ?_
    refine d_skip [12, 13, 10] rfl rfl rfl rfl rfl (fun ν => rfl) ?_
    refine d_pick_f [10, 14] rfl rfl rfl rfl rfl (fun ν => rfl) rfl (fun ν => rfl) (fun ν => rfl) ?_
    refine d_assign [15] rfl rfl rfl rfl rfl (fun ν => rfl) rfl (fun ν => rfl) ?_
    refine dr_end [5, 6, 7, 8, 9, 10, 11, 12, 13, 14, 15, 16, 17, 18, 19, 20, 4] [16] 17 rfl rfl rfl rfl rfl rfl rfl rfl rfl (fun ν => ?_)
    refine okl_nil ?_
    change OkC Try.prog _ _ _ _ _ _ _
    refine okc_weak (l' := [(0, _), (1, _), (2, _), (3, _), (4, _)]) ⟨rfl, rfl, rfl, rfl, rfl, trivial⟩ ?_
    refine okc_ret fun a w hs => ?_
    exact ret_v hs (run_results1 hs rfl (rv_tmp rfl)) (by clear hs; simp_all [lineB])

theorem validReading_fn (s : Sp) (M : Args) (x : Rd) (h1 : 1 ≤ s.weeks) (h2 : s.weeks ≤ 10) : Cn Try.prog 133 [spV s, rdV x] M (fun _ : Unit => .bool (readB s.weeks x)) (fun _ => []) (fun _ => True) := by
  refine fn_intro (N := 35) Try.func133 rfl rfl rfl fun w0 => ?_
  refine okc_seq ?_
  refine okc_region ?_
  refine s_boxA rfl rfl rfl rfl rfl rfl (fun b21 => ?_)
  refine s_boxA rfl rfl rfl rfl rfl rfl (fun b22 => ?_)
  refine s_assign rfl rfl rfl rfl rfl rfl ?_
  refine okl_nil ?_
  change OkC Try.prog _ _ _ _ _ _ _
  refine okc_weak (l' := [(0, _), (1, _), (2, _), (3, _), (4, _)]) ⟨rfl, rfl, rfl, rfl, rfl, trivial⟩ ?_
  refine okc_seq ?_
  refine dr_start [5, 6, 7, 8, 9, 10, 11, 12, 13, 14, 15, 16, 17, 18, 19, 20, 21, 22, 23, 24, 25, 26, 27, 28, 29, 30, 31, 32, 33, 34, 4] ?_
  refine d_callv [] rfl rfl rfl rfl rfl (fun ν => rfl) rfl (fun ν => rfl) (fun ν => rfl) c85 (fun ν => span_fn _ _) (fun ν => covers_nil) ?_
  refine d_field [] rfl rfl rfl rfl rfl (fun ν => rfl) rfl (fun ν => rfl) rfl rfl ?_
  refine d_load1 0 [1] rfl rfl rfl rfl rfl (fun ν => rfl) rfl rfl (fun ν => rfl) (fun ν => rfl) rfl ?_
  refine d_slice1 [2] rfl rfl rfl rfl rfl (fun ν => rfl) rfl (fun ν => rfl) rfl rfl rfl rfl ?_
  refine d_callb [0, 3] rfl rfl rfl rfl rfl (fun ν => rfl) rfl (fun ν => rfl) (fun ν => rfl) c131 (fun ν => within_fn _ _ [_] _ 1 (by simp)) (fun ν => (covers_own 0 rfl covers_nil)) (fun h24 => ?_) (fun h24 => ?_)
  · refine d_move [4] rfl rfl rfl rfl rfl (fun ν => rfl) rfl (fun ν => rfl) ?_
    refine d_loadW 1 [5] rfl rfl rfl rfl rfl (fun ν => rfl) rfl rfl (fun ν => rfl) (fun ν => rfl) rfl rfl ?_
    refine d_field [5] rfl rfl rfl rfl rfl (fun ν => rfl) rfl (fun ν => rfl) rfl rfl ?_
    refine d_load1 0 [7, 5] rfl rfl rfl rfl rfl (fun ν => rfl) rfl rfl (fun ν => rfl) (fun ν => rfl) rfl ?_
    refine d_callb [6, 8, 5] rfl rfl rfl rfl rfl (fun ν => rfl) rfl (fun ν => rfl) (fun ν => rfl) c129 (fun ν => isWeek_fn _ M _ (by assumption) (by assumption)) (fun ν => covers_all) (fun h25 => ?_) (fun h25 => ?_)
    · refine d_pick_t [5, 9] rfl rfl rfl rfl rfl (fun ν => rfl) rfl (fun ν => rfl) (fun ν => rfl) ?_
      refine d_move [10] rfl rfl rfl rfl rfl (fun ν => rfl) rfl (fun ν => rfl) ?_
      refine d_callv [11] rfl rfl rfl rfl rfl (fun ν => rfl) rfl (fun ν => rfl) (fun ν => rfl) c85 (fun ν => span_fn _ _) (fun ν => covers_nil) ?_
      refine d_field [11] rfl rfl rfl rfl rfl (fun ν => rfl) rfl (fun ν => rfl) rfl rfl ?_
      refine d_load1 0 [13, 11] rfl rfl rfl rfl rfl (fun ν => rfl) rfl rfl (fun ν => rfl) (fun ν => rfl) rfl ?_
      refine d_slice1 [14, 11] rfl rfl rfl rfl rfl (fun ν => rfl) rfl (fun ν => rfl) rfl rfl rfl rfl ?_
      refine d_callb [12, 15, 11] rfl rfl rfl rfl rfl (fun ν => rfl) rfl (fun ν => rfl) (fun ν => rfl) c131 (fun ν => within_fn _ _ [_] _ 1 (by simp)) (fun ν => (covers_own 0 rfl covers_nil)) (fun h27 => ?_) (fun h27 => ?_)
      · refine d_pick_t [11, 16] rfl rfl rfl rfl rfl (fun ν => rfl) rfl (fun ν => rfl) (fun ν => rfl) ?_
        refine d_move [17] rfl rfl rfl rfl rfl (fun ν => rfl) rfl (fun ν => rfl) ?_
        refine d_field [18] rfl rfl rfl rfl rfl (fun ν => rfl) rfl (fun ν => rfl) rfl rfl ?_
        refine d_loadP2 0 [19, 18] rfl rfl rfl rfl rfl (fun ν => rfl) rfl rfl (fun ν => rfl) (fun ν => rfl) rfl rfl rfl ?_
        refine d_callv [18] rfl rfl rfl rfl rfl (fun ν => rfl) rfl (fun ν => rfl) (fun ν => rfl) c85 (fun ν => span_fn _ _) (fun ν => covers_nil) ?_
        refine d_callb [20, 21, 18] rfl rfl rfl rfl rfl (fun ν => rfl) rfl (fun ν => rfl) (fun ν => rfl) c143 (fun ν => isSpan_fn _ _ _ _) (fun ν => covers_nil) (fun h28 => ?_) (fun h28 => ?_)
        · refine d_pick_t [18, 22] rfl rfl rfl rfl rfl (fun ν => rfl) rfl (fun ν => rfl) (fun ν => rfl) ?_
          refine d_move [23] rfl rfl rfl rfl rfl (fun ν => rfl) rfl (fun ν => rfl) ?_
          refine d_field [24] rfl rfl rfl rfl rfl (fun ν => rfl) rfl (fun ν => rfl) rfl rfl ?_
          refine d_field [25, 24] rfl rfl rfl rfl rfl (fun ν => rfl) rfl (fun ν => rfl) rfl rfl ?_
          refine d_load1 0 [26, 24] rfl rfl rfl rfl rfl (fun ν => rfl) rfl rfl (fun ν => rfl) (fun ν => rfl) rfl ?_
          refine d_cmpS [27, 24] rfl rfl rfl rfl rfl (fun ν => rfl) rfl (fun ν => rfl) (fun ν => rfl) rfl (fun h29 => ?_) (fun h29 => ?_)
          · refine d_pick_t [24, 28] rfl rfl rfl rfl rfl (fun ν => rfl) rfl (fun ν => rfl) (fun ν => rfl) ?_
            refine d_assign [29] rfl rfl rfl rfl rfl (fun ν => rfl) rfl (fun ν => rfl) ?_
            refine dr_end [5, 6, 7, 8, 9, 10, 11, 12, 13, 14, 15, 16, 17, 18, 19, 20, 21, 22, 23, 24, 25, 26, 27, 28, 29, 30, 31, 32, 33, 34, 4] [30] 31 rfl rfl rfl rfl rfl rfl rfl rfl rfl (fun ν => ?_)
            refine okl_nil ?_
            change OkC Try.prog _ _ _ _ _ _ _
            refine okc_weak (l' := [(0, _), (1, _), (2, _), (3, _), (4, _)]) ⟨rfl, rfl, rfl, rfl, rfl, trivial⟩ ?_
            refine okc_ret fun a w hs => ?_
            exact ret_v hs (run_results1 hs rfl (rv_tmp rfl)) (by clear hs; simp_all [readB])
          · refine d_pick_t [24, 28] rfl rfl rfl rfl rfl (fun ν => rfl) rfl (fun ν => rfl) (fun ν => rfl) ?_
            refine d_assign [29] rfl rfl rfl rfl rfl (fun ν => rfl) rfl (fun ν => rfl) ?_
            refine dr_end [5, 6, 7, 8, 9, 10, 11, 12, 13, 14, 15, 16, 17, 18, 19, 20, 21, 22, 23, 24, 25, 26, 27, 28, 29, 30, 31, 32, 33, 34, 4] [30] 31 rfl rfl rfl rfl rfl rfl rfl rfl rfl (fun ν => ?_)
            refine okl_nil ?_
            change OkC Try.prog _ _ _ _ _ _ _
            refine okc_weak (l' := [(0, _), (1, _), (2, _), (3, _), (4, _)]) ⟨rfl, rfl, rfl, rfl, rfl, trivial⟩ ?_
            refine okc_ret fun a w hs => ?_
            exact ret_v hs (run_results1 hs rfl (rv_tmp rfl)) (by clear hs; simp_all [readB])
        · refine d_pick_t [18, 22] rfl rfl rfl rfl rfl (fun ν => rfl) rfl (fun ν => rfl) (fun ν => rfl) ?_
          refine d_move [23] rfl rfl rfl rfl rfl (fun ν => rfl) rfl (fun ν => rfl) ?_
          refine d_skip [24] rfl rfl rfl rfl rfl (fun ν => rfl) ?_
          refine d_skip [25, 24] rfl rfl rfl rfl rfl (fun ν => rfl) ?_
          refine d_skip [26, 24] rfl rfl rfl rfl rfl (fun ν => rfl) ?_
          refine d_skip [27, 24] rfl rfl rfl rfl rfl (fun ν => rfl) ?_
          refine d_pick_f [24, 28] rfl rfl rfl rfl rfl (fun ν => rfl) rfl (fun ν => rfl) (fun ν => rfl) ?_
          refine d_assign [29] rfl rfl rfl rfl rfl (fun ν => rfl) rfl (fun ν => rfl) ?_
          refine dr_end [5, 6, 7, 8, 9, 10, 11, 12, 13, 14, 15, 16, 17, 18, 19, 20, 21, 22, 23, 24, 25, 26, 27, 28, 29, 30, 31, 32, 33, 34, 4] [30] 31 rfl rfl rfl rfl rfl rfl rfl rfl rfl (fun ν => ?_)
          refine okl_nil ?_
          change OkC Try.prog _ _ _ _ _ _ _
          refine okc_weak (l' := [(0, _), (1, _), (2, _), (3, _), (4, _)]) ⟨rfl, rfl, rfl, rfl, rfl, trivial⟩ ?_
          refine okc_ret fun a w hs => ?_
          exact ret_v hs (run_results1 hs rfl (rv_tmp rfl)) (by clear hs; simp_all [readB])
      · refine d_pick_t [11, 16] rfl rfl rfl rfl rfl (fun ν => rfl) rfl (fun ν => rfl) (fun ν => rfl) ?_
        refine d_move [17] rfl rfl rfl rfl rfl (fun ν => rfl) rfl (fun ν => rfl) ?_
        refine d_skip [18] rfl rfl rfl rfl rfl (fun ν => rfl) ?_
        refine d_skip [19, 18] rfl rfl rfl rfl rfl (fun ν => rfl) ?_
        refine d_skip [18] rfl rfl rfl rfl rfl (fun ν => rfl) ?_
        refine d_skip [20, 21, 18] rfl rfl rfl rfl rfl (fun ν => rfl) ?_
        refine d_pick_f [18, 22] rfl rfl rfl rfl rfl (fun ν => rfl) rfl (fun ν => rfl) (fun ν => rfl) ?_
        refine d_move [23] rfl rfl rfl rfl rfl (fun ν => rfl) rfl (fun ν => rfl) ?_
        refine d_skip [24] rfl rfl rfl rfl rfl (fun ν => rfl) ?_
        refine d_skip [25, 24] rfl rfl rfl rfl rfl (fun ν => rfl) ?_
        refine d_skip [26, 24] rfl rfl rfl rfl rfl (fun ν => rfl) ?_
        refine d_skip [27, 24] rfl rfl rfl rfl rfl (fun ν => rfl) ?_
        refine d_pick_f [24, 28] rfl rfl rfl rfl rfl (fun ν => rfl) rfl (fun ν => rfl) (fun ν => rfl) ?_
        refine d_assign [29] rfl rfl rfl rfl rfl (fun ν => rfl) rfl (fun ν => rfl) ?_
        refine dr_end [5, 6, 7, 8, 9, 10, 11, 12, 13, 14, 15, 16, 17, 18, 19, 20, 21, 22, 23, 24, 25, 26, 27, 28, 29, 30, 31, 32, 33, 34, 4] [30] 31 rfl rfl rfl rfl rfl rfl rfl rfl rfl (fun ν => ?_)
        refine okl_nil ?_
        change OkC Try.prog _ _ _ _ _ _ _
        refine okc_weak (l' := [(0, _), (1, _), (2, _), (3, _), (4, _)]) ⟨rfl, rfl, rfl, rfl, rfl, trivial⟩ ?_
        refine okc_ret fun a w hs => ?_
        exact ret_v hs (run_results1 hs rfl (rv_tmp rfl)) (by clear hs; simp_all [readB])
    · refine d_pick_t [5, 9] rfl rfl rfl rfl rfl (fun ν => rfl) rfl (fun ν => rfl) (fun ν => rfl) ?_
      refine d_move [10] rfl rfl rfl rfl rfl (fun ν => rfl) rfl (fun ν => rfl) ?_
      refine d_skip [11] rfl rfl rfl rfl rfl (fun ν => rfl) ?_
      refine d_skip [11] rfl rfl rfl rfl rfl (fun ν => rfl) ?_
      refine d_skip [13, 11] rfl rfl rfl rfl rfl (fun ν => rfl) ?_
      refine d_skip [14, 11] rfl rfl rfl rfl rfl (fun ν => rfl) ?_
      refine d_skip [12, 15, 11] rfl rfl rfl rfl rfl (fun ν => rfl) ?_
      refine d_pick_f [11, 16] rfl rfl rfl rfl rfl (fun ν => rfl) rfl (fun ν => rfl) (fun ν => rfl) ?_
      refine d_move [17] rfl rfl rfl rfl rfl (fun ν => rfl) rfl (fun ν => rfl) ?_
      refine d_skip [18] rfl rfl rfl rfl rfl (fun ν => rfl) ?_
      refine d_skip [19, 18] rfl rfl rfl rfl rfl (fun ν => rfl) ?_
      refine d_skip [18] rfl rfl rfl rfl rfl (fun ν => rfl) ?_
      refine d_skip [20, 21, 18] rfl rfl rfl rfl rfl (fun ν => rfl) ?_
      refine d_pick_f [18, 22] rfl rfl rfl rfl rfl (fun ν => rfl) rfl (fun ν => rfl) (fun ν => rfl) ?_
      refine d_move [23] rfl rfl rfl rfl rfl (fun ν => rfl) rfl (fun ν => rfl) ?_
      refine d_skip [24] rfl rfl rfl rfl rfl (fun ν => rfl) ?_
      refine d_skip [25, 24] rfl rfl rfl rfl rfl (fun ν => rfl) ?_
      refine d_skip [26, 24] rfl rfl rfl rfl rfl (fun ν => rfl) ?_
      refine d_skip [27, 24] rfl rfl rfl rfl rfl (fun ν => rfl) ?_
      refine d_pick_f [24, 28] rfl rfl rfl rfl rfl (fun ν => rfl) rfl (fun ν => rfl) (fun ν => rfl) ?_
      refine d_assign [29] rfl rfl rfl rfl rfl (fun ν => rfl) rfl (fun ν => rfl) ?_
      refine dr_end [5, 6, 7, 8, 9, 10, 11, 12, 13, 14, 15, 16, 17, 18, 19, 20, 21, 22, 23, 24, 25, 26, 27, 28, 29, 30, 31, 32, 33, 34, 4] [30] 31 rfl rfl rfl rfl rfl rfl rfl rfl rfl (fun ν => ?_)
      refine okl_nil ?_
      change OkC Try.prog _ _ _ _ _ _ _
      refine okc_weak (l' := [(0, _), (1, _), (2, _), (3, _), (4, _)]) ⟨rfl, rfl, rfl, rfl, rfl, trivial⟩ ?_
      refine okc_ret fun a w hs => ?_
      exact ret_v hs (run_results1 hs rfl (rv_tmp rfl)) (by clear hs; simp_all [readB])
  · refine d_move [4] rfl rfl rfl rfl rfl (fun ν => rfl) rfl (fun ν => rfl) ?_
    refine d_skip [5] rfl rfl rfl rfl rfl (fun ν => rfl) ?_
    refine d_skip [5] rfl rfl rfl rfl rfl (fun ν => rfl) ?_
    refine d_skip [7, 5] rfl rfl rfl rfl rfl (fun ν => rfl) ?_
    refine d_skip [6, 8, 5] rfl rfl rfl rfl rfl (fun ν => rfl) ?_
    refine d_pick_f [5, 9] rfl rfl rfl rfl rfl (fun ν => rfl) rfl (fun ν => rfl) (fun ν => rfl) ?_
    refine d_move [10] rfl rfl rfl rfl rfl (fun ν => rfl) rfl (fun ν => rfl) ?_
    refine d_skip [11] rfl rfl rfl rfl rfl (fun ν => rfl) ?_
    refine d_skip [11] rfl rfl rfl rfl rfl (fun ν => rfl) ?_
    refine d_skip [13, 11] rfl rfl rfl rfl rfl (fun ν => rfl) ?_
    refine d_skip [14, 11] rfl rfl rfl rfl rfl (fun ν => rfl) ?_
    refine d_skip [12, 15, 11] rfl rfl rfl rfl rfl (fun ν => rfl) ?_
    refine d_pick_f [11, 16] rfl rfl rfl rfl rfl (fun ν => rfl) rfl (fun ν => rfl) (fun ν => rfl) ?_
    refine d_move [17] rfl rfl rfl rfl rfl (fun ν => rfl) rfl (fun ν => rfl) ?_
    refine d_skip [18] rfl rfl rfl rfl rfl (fun ν => rfl) ?_
    refine d_skip [19, 18] rfl rfl rfl rfl rfl (fun ν => rfl) ?_
    refine d_skip [18] rfl rfl rfl rfl rfl (fun ν => rfl) ?_
    refine d_skip [20, 21, 18] rfl rfl rfl rfl rfl (fun ν => rfl) ?_
    refine d_pick_f [18, 22] rfl rfl rfl rfl rfl (fun ν => rfl) rfl (fun ν => rfl) (fun ν => rfl) ?_
    refine d_move [23] rfl rfl rfl rfl rfl (fun ν => rfl) rfl (fun ν => rfl) ?_
    refine d_skip [24] rfl rfl rfl rfl rfl (fun ν => rfl) ?_
    refine d_skip [25, 24] rfl rfl rfl rfl rfl (fun ν => rfl) ?_
    refine d_skip [26, 24] rfl rfl rfl rfl rfl (fun ν => rfl) ?_
    refine d_skip [27, 24] rfl rfl rfl rfl rfl (fun ν => rfl) ?_
    refine d_pick_f [24, 28] rfl rfl rfl rfl rfl (fun ν => rfl) rfl (fun ν => rfl) (fun ν => rfl) ?_
    refine d_assign [29] rfl rfl rfl rfl rfl (fun ν => rfl) rfl (fun ν => rfl) ?_
    refine dr_end [5, 6, 7, 8, 9, 10, 11, 12, 13, 14, 15, 16, 17, 18, 19, 20, 21, 22, 23, 24, 25, 26, 27, 28, 29, 30, 31, 32, 33, 34, 4] [30] 31 rfl rfl rfl rfl rfl rfl rfl rfl rfl (fun ν => ?_)
    refine okl_nil ?_
    change OkC Try.prog _ _ _ _ _ _ _
    refine okc_weak (l' := [(0, _), (1, _), (2, _), (3, _), (4, _)]) ⟨rfl, rfl, rfl, rfl, rfl, trivial⟩ ?_
    refine okc_ret fun a w hs => ?_
    exact ret_v hs (run_results1 hs rfl (rv_tmp rfl)) (by clear hs; simp_all [readB])

end Go.Proofs.Ytdpnadknaacinaa
end
