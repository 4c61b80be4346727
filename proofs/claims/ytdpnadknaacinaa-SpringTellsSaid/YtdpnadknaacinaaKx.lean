/-
  The rules with the seat's tables, for regions that draw their order and store in the middle.
  Conditions: none.
-/
import Derived.Test.YtdpnadknaacinaaK
import Derived.Test.YtdpnadknaacinaaDs
namespace Go.Proofs.Ytdpnadknaacinaa
open Go.Sx Go.Proofs.Ytdpnadknaacinaa.Ty
set_option linter.unusedVariables false

theorem mixed_try : Try.prog.follows .mixedOrders = true := by rfl

section
variable {N : Cx} {w0 : World} {l lb : Env} {S : Mst} {O : Blks} {A : Args} {o : Oper} {ops : Array Oper} {Q : Exit → Act → World → Prop} {i d id : Nat} {es : Ents}

theorem x_v (ds : List Nat) {x : Value} (hi : es.length = i) (ho : ops[i]? = some o) (hd : o.dst = some d) (hN : Nat.blt d N.n = true) (hds : depsB o i ds = true) (his : Nat.beq i S.s = false)
    (hg : ∀ ν, wantsB ops (envD es ν ds ++ lb) o = some true) (h : ∀ ν O', OpV Try.prog N w0 (envD es ν ds ++ lb) O' A o (pv x))
    (rest : Dd Try.prog N w0 id ops Q l lb S O A ((i, d, some (.inl x)) :: es)) : Dd Try.prog N w0 id ops Q l lb S O A es :=
  dd_step (e := some (.inl x)) ds hi ho hd hN hds his (fun _ ν => .inl ⟨hg ν, h ν _⟩) (fun _ ν => .inl ⟨hg ν, h ν _⟩) rest
theorem x_move {x : Operand} {v : Value} (ds : List Nat) (hi : es.length = i) (h0 : ops[i]? = some o) (hd : o.dst = some d) (hN : Nat.blt d N.n = true) (hds : depsB o i ds = true) (his : Nat.beq i S.s = false)
    (hg : ∀ ν, wantsB ops (envD es ν ds ++ lb) o = some true) (ho : o.op = .move x) (hx : ∀ ν, ev (envD es ν ds ++ lb) x = some v)
    (rest : Dd Try.prog N w0 id ops Q l lb S O A ((i, d, some (.inl v)) :: es)) : Dd Try.prog N w0 id ops Q l lb S O A es := x_v ds hi h0 hd hN hds his hg (fun ν _ => op_move ho (hx ν)) rest
theorem x_assign {x : Operand} {v : Value} (ds : List Nat) (hi : es.length = i) (h0 : ops[i]? = some o) (hd : o.dst = some d) (hN : Nat.blt d N.n = true) (hds : depsB o i ds = true) (his : Nat.beq i S.s = false)
    (hg : ∀ ν, wantsB ops (envD es ν ds ++ lb) o = some true) (ho : o.op = .assign x) (hx : ∀ ν, ev (envD es ν ds ++ lb) x = some v)
    (rest : Dd Try.prog N w0 id ops Q l lb S O A ((i, d, some (.inl v)) :: es)) : Dd Try.prog N w0 id ops Q l lb S O A es := x_v ds hi h0 hd hN hds his hg (fun ν _ => op_assign ho (hx ν)) rest
theorem x_add {T T' : TypeId} {x y : Operand} {p q : Int} (ds : List Nat) (hi : es.length = i) (h0 : ops[i]? = some o) (hd : o.dst = some d) (hN : Nat.blt d N.n = true) (hds : depsB o i ds = true) (his : Nat.beq i S.s = false)
    (hg : ∀ ν, wantsB ops (envD es ν ds ++ lb) o = some true) (ho : o.op = .binOp .add T x y T') (hx : ∀ ν, ev (envD es ν ds ++ lb) x = some (.int .i64 p)) (hy : ∀ ν, ev (envD es ν ds ++ lb) y = some (.int .i64 q)) (hr : -9223372036854775808 ≤ p + q ∧ p + q ≤ 9223372036854775807)
    (rest : Dd Try.prog N w0 id ops Q l lb S O A ((i, d, some (.inl (.int .i64 (p + q)))) :: es)) : Dd Try.prog N w0 id ops Q l lb S O A es := x_v ds hi h0 hd hN hds his hg (fun ν _ => op_add ho (hx ν) (hy ν) hr) rest
theorem x_sub {T T' : TypeId} {x y : Operand} {p q : Int} (ds : List Nat) (hi : es.length = i) (h0 : ops[i]? = some o) (hd : o.dst = some d) (hN : Nat.blt d N.n = true) (hds : depsB o i ds = true) (his : Nat.beq i S.s = false)
    (hg : ∀ ν, wantsB ops (envD es ν ds ++ lb) o = some true) (ho : o.op = .binOp .sub T x y T') (hx : ∀ ν, ev (envD es ν ds ++ lb) x = some (.int .i64 p)) (hy : ∀ ν, ev (envD es ν ds ++ lb) y = some (.int .i64 q)) (hr : -9223372036854775808 ≤ p - q ∧ p - q ≤ 9223372036854775807)
    (rest : Dd Try.prog N w0 id ops Q l lb S O A ((i, d, some (.inl (.int .i64 (p - q)))) :: es)) : Dd Try.prog N w0 id ops Q l lb S O A es := x_v ds hi h0 hd hN hds his hg (fun ν _ => op_sub ho (hx ν) (hy ν) hr) rest
theorem x_max {ts : Array TypeId} {x y : Operand} {k : IntKind} {p q : Int} (ds : List Nat) (hi : es.length = i) (h0 : ops[i]? = some o) (hd : o.dst = some d) (hN : Nat.blt d N.n = true) (hds : depsB o i ds = true) (his : Nat.beq i S.s = false)
    (hg : ∀ ν, wantsB ops (envD es ν ds ++ lb) o = some true) (ho : o.op = .call { callee := .builtin .max, args := #[x, y], argTypes := ts }) (hx : ∀ ν, ev (envD es ν ds ++ lb) x = some (.int k p)) (hy : ∀ ν, ev (envD es ν ds ++ lb) y = some (.int k q))
    (rest : Dd Try.prog N w0 id ops Q l lb S O A ((i, d, some (.inl (.int k (max p q)))) :: es)) : Dd Try.prog N w0 id ops Q l lb S O A es := x_v ds hi h0 hd hN hds his hg (fun ν _ => op_max ho (hx ν) (hy ν)) rest
theorem x_min {ts : Array TypeId} {x y : Operand} {k : IntKind} {p q : Int} (ds : List Nat) (hi : es.length = i) (h0 : ops[i]? = some o) (hd : o.dst = some d) (hN : Nat.blt d N.n = true) (hds : depsB o i ds = true) (his : Nat.beq i S.s = false)
    (hg : ∀ ν, wantsB ops (envD es ν ds ++ lb) o = some true) (ho : o.op = .call { callee := .builtin .min, args := #[x, y], argTypes := ts }) (hx : ∀ ν, ev (envD es ν ds ++ lb) x = some (.int k p)) (hy : ∀ ν, ev (envD es ν ds ++ lb) y = some (.int k q))
    (rest : Dd Try.prog N w0 id ops Q l lb S O A ((i, d, some (.inl (.int k (min p q)))) :: es)) : Dd Try.prog N w0 id ops Q l lb S O A es := x_v ds hi h0 hd hN hds his hg (fun ν _ => op_min ho (hx ν) (hy ν)) rest
theorem x_field {St' k δ b off : Nat} {x : Operand} {fs : List (Option Nat)} (ds : List Nat) (hi : es.length = i) (h0 : ops[i]? = some o) (hd : o.dst = some d) (hN : Nat.blt d N.n = true) (hds : depsB o i ds = true) (his : Nat.beq i S.s = false)
    (hg : ∀ ν, wantsB ops (envD es ν ds ++ lb) o = some true) (ho : o.op = .fieldAddr St' x k) (hx : ∀ ν, ev (envD es ν ds ++ lb) x = some (.pointer (some ⟨b, off, none⟩))) (hl : lookT offL St' = some fs) (hj : nth fs k = some (some δ))
    (rest : Dd Try.prog N w0 id ops Q l lb S O A ((i, d, some (.inl (.pointer (some ⟨b, off + δ, none⟩)))) :: es)) : Dd Try.prog N w0 id ops Q l lb S O A es := x_v ds hi h0 hd hN hds his hg (fun ν _ => k_field ho (hx ν) hl hj) rest
theorem x_indexA {T e n m k : Nat} (j : Nat) {b off : Nat} {q : Int} {x y : Operand} (ds : List Nat) (hi : es.length = i) (h0 : ops[i]? = some o) (hd : o.dst = some d) (hN : Nat.blt d N.n = true) (hds : depsB o i ds = true) (his : Nat.beq i S.s = false)
    (hg : ∀ ν, wantsB ops (envD es ν ds ++ lb) o = some true) (ho : o.op = .indexAddr T x y) (hx : ∀ ν, ev (envD es ν ds ++ lb) x = some (.pointer (some ⟨b, off, none⟩))) (hy : ∀ ν, ev (envD es ν ds ++ lb) y = some (.int .i64 q)) (hT : nth arL T = some (some (n, e))) (hm : nth sizL e = some (some m)) (hq : q = (j : Int)) (hlt : j < n) (hk : off + j * m = k)
    (rest : Dd Try.prog N w0 id ops Q l lb S O A ((i, d, some (.inl (.pointer (some ⟨b, k, none⟩)))) :: es)) : Dd Try.prog N w0 id ops Q l lb S O A es := x_v ds hi h0 hd hN hds his hg (fun ν _ => k_indexA ho (hx ν) (hy ν) hT hm hq hlt hk) rest
theorem x_build {T : Nat} {parts : Array (Nat × Operand)} {ps : List (Nat × Value)} {zs cs : List Value} {pl : List (Nat × Nat)} (ds : List Nat) (hi : es.length = i) (h0 : ops[i]? = some o) (hd : o.dst = some d) (hN : Nat.blt d N.n = true) (hds : depsB o i ds = true) (his : Nat.beq i S.s = false)
    (hg : ∀ ν, wantsB ops (envD es ν ds ++ lb) o = some true) (ho : o.op = .build T parts) (hps : ∀ ν, evParts (envD es ν ds ++ lb) parts.toList = some ps) (hz : lookT zerL T = some zs) (hpl : lookT plaL T = some pl) (hf : fillL pl zs (ps.map fun p => (p.1, p.2.cells.toList)) = some cs)
    (rest : Dd Try.prog N w0 id ops Q l lb S O A ((i, d, some (.inl (.agg cs.toArray))) :: es)) : Dd Try.prog N w0 id ops Q l lb S O A es := x_v ds hi h0 hd hN hds his hg (fun ν _ => k_build ho (hps ν) hz hpl hf) rest
/-- A load that may come ahead of the store or behind it. -/
theorem x_load1 (j : Nat) {b off Ty : Nat} {T T' : TypeId} {cs cs' : List Value} {x : Operand} {v : Value} (ds : List Nat) (hi : es.length = i) (h0 : ops[i]? = some o) (hd : o.dst = some d) (hN : Nat.blt d N.n = true) (hds : depsB o i ds = true) (his : Nat.beq i S.s = false)
    (hg : ∀ ν, wantsB ops (envD es ν ds ++ lb) o = some true) (ho : o.op = .load Ty x) (ha : nth aggL Ty = some (some false)) (hx : ∀ ν, ev (envD es ν ds ++ lb) x = some (.pointer (some ⟨b, off, none⟩)))
    (hj : ∀ ν, (blkD es ν ds ++ O)[j]? = some (b, cs, T)) (hv : cs[off]? = some v) (hj' : ∀ ν, (blkD es ν ds ++ O.set S.q (S.b, S.cs', S.T))[j]? = some (b, cs', T')) (hv' : cs'[off]? = some v)
    (rest : Dd Try.prog N w0 id ops Q l lb S O A ((i, d, some (.inl v)) :: es)) : Dd Try.prog N w0 id ops Q l lb S O A es :=
  dd_step (e := some (.inl v)) ds hi h0 hd hN hds his (fun _ ν => .inl ⟨hg ν, k_load1 j ho (hx ν) (hj ν) ha hv⟩) (fun _ ν => .inl ⟨hg ν, k_load1 j ho (hx ν) (hj' ν) ha hv'⟩) rest
/-- A load that the store comes behind. -/
theorem x_loadF (j : Nat) {b off Ty : Nat} {T : TypeId} {cs : List Value} {x : Operand} {v : Value} (ds : List Nat) (hi : es.length = i) (h0 : ops[i]? = some o) (hd : o.dst = some d) (hN : Nat.blt d N.n = true) (hds : depsB o i ds = true) (his : Nat.beq i S.s = false) (hm : mayT ops S.s i = false)
    (hg : ∀ ν, wantsB ops (envD es ν ds ++ lb) o = some true) (ho : o.op = .load Ty x) (ha : nth aggL Ty = some (some false)) (hx : ∀ ν, ev (envD es ν ds ++ lb) x = some (.pointer (some ⟨b, off, none⟩)))
    (hj : ∀ ν, (blkD es ν ds ++ O)[j]? = some (b, cs, T)) (hv : cs[off]? = some v)
    (rest : Dd Try.prog N w0 id ops Q l lb S O A ((i, d, some (.inl v)) :: es)) : Dd Try.prog N w0 id ops Q l lb S O A es :=
  dd_step (e := some (.inl v)) ds hi h0 hd hN hds his (fun _ ν => .inl ⟨hg ν, k_load1 j ho (hx ν) (hj ν) ha hv⟩) (fun h => by rw [hm] at h; cases h) rest
theorem x_store (ds : List Nat) (d : Nat) {off Ty n : Nat} {vs : List Value} {x y : Operand} {v : Value} (hi : es.length = i) (ho : ops[i]? = some o) (hd : o.dst = none) (hds : depsB o i ds = true) (his : i = S.s)
    (hg : ∀ ν, wantsB ops (envD es ν ds ++ lb) o = some true) (hop : o.op = .store Ty x y) (hx : ∀ ν, ev (envD es ν ds ++ lb) x = some (.pointer (some ⟨S.b, off, none⟩))) (hy : ∀ ν, ev (envD es ν ds ++ lb) y = some v)
    (hv : v.cells = vs.toArray) (hn : nth sizL Ty = some (some n)) (hl : vs.length = n) (hfit : off + n ≤ S.cs.length) (h1 : flat vs = true) (hcs : S.cs' = setL S.cs off vs) (hq : O[S.q]? = some (S.b, S.cs, S.T))
    (rest : Dd Try.prog N w0 id ops Q l lb S O A ((i, d, none) :: es)) : Dd Try.prog N w0 id ops Q l lb S O A es := dd_store ds hi ho hd hds his hg hop hx hy hv (siz_of hn) hl hfit h1 hcs hq rest
theorem x_end (ds keep : List Nat) (n : Nat) (hl : lb = dropK ds l) (hlen : es.length = n) (hb : backA ops = true) (hle : Nat.ble n ops.size = true) (ht : tailB ops n = true) (hn : nodupB (slots es) = true) (hin : inB (slots es) ds = true)
    (hk : nodupB keep = true) (hkn : allBelow keep n = true) (hq : O[S.q]? = some (S.b, S.cs, S.T)) (hsn : Nat.blt S.s n = true)
    (rest : ∀ ν, OkL Try.prog N w0 ops Q (List.range' n (ops.size - n)) (envD es ν keep ++ lb) (blkD es ν keep ++ O.set S.q (S.b, S.cs', S.T)) A) : Dd Try.prog N w0 id ops Q l lb S O A es :=
  dd_end ds keep n mixed_try hl hlen hb hle ht hn hin hk hkn hq hsn rest
end
end Go.Proofs.Ytdpnadknaacinaa
