/-
  Structs of integers compared, cell by cell.
  Conditions: none.
-/
import Derived.Test.YtdpnadknaacinaaKa
import Derived.Laws.StructEq
namespace Go.Sx
open Go.RowKit
/-- Two aggregates are alike, says the model. -/
def EqA (P : Program) (T : TypeId) (d : Nat) (xs ys : List Value) (r : Bool) : Prop := ∀ w, (Op.equalIn d T (.agg xs.toArray) (.agg ys.toArray)).run P w = .ok r w
/-- One part. -/
def EqF (P : Program) (d : Nat) (xs ys : List Value) (T : TypeId) (off : Nat) (r : Bool) : Prop :=
  ∃ a b, (∀ w, (part T xs.toArray off).run P w = .ok a w) ∧ (∀ w, (part T ys.toArray off).run P w = .ok b w) ∧ ∀ w, (Op.equalIn d T a b).run P w = .ok r w

section
variable {P : Program} {N : Cx} {w0 : World} {l : Env} {O : Blks} {A : Args} {o : Oper}

theorem eqFields_list {d : Nat} {xs ys : List Value} : ∀ (fs : List (Field × Bool)), (∀ p ∈ fs, p.1.name ≠ "_" ∧ EqF P d xs ys p.1.type p.1.offset p.2) → ∀ w, (Op.eqFields d xs.toArray ys.toArray (fs.map (·.1))).run P w = .ok (fs.all (·.2)) w
  | [], _, w => by simp [Op.eqFields]
  | (f, r) :: fs, h, w => by
    obtain ⟨hn, a, b, h1, h2, h3⟩ := h (f, r) (by simp)
    have ih := eqFields_list fs (fun p hp => h p (by simp [hp])) w
    simp only [List.map_cons, Op.eqFields]
    rw [if_pos hn]
    simp only [Sem.run_bind, h1, h2, h3, Result.andThen_ok, List.all_cons]
    cases r
    · simp
    · simp [ih]

theorem eqA_of {d : Nat} {T : TypeId} {xs ys : List Value} {fs : Array Field} (hu : P.underlying T = some (.struct fs)) (hp : P.stoodInHeld T = false) (ps : List (Field × Bool)) (hps : ps.map (·.1) = fs.toList)
    (h : ∀ p ∈ ps, p.1.name ≠ "_" ∧ EqF P d xs ys p.1.type p.1.offset p.2) : EqA P T (d + 1) xs ys (ps.all (·.2)) := by
  intro w
  have hf : P.fieldsOf T = fs := by simp [Program.fieldsOf, hu]
  rw [run_equalIn_struct w d T _ _ (by rw [hf]; exact hu) hp, hf, ← hps]
  exact eqFields_list ps h w

theorem eqF_int {d off : Nat} {T : TypeId} {xs ys : List Value} {i j : Int} (hu : P.underlying T = some (.int .i64)) (ha : isAggB P T = some false) (hx : xs[off]? = some (.int .i64 i)) (hy : ys[off]? = some (.int .i64 j)) : EqF P (d + 1) xs ys T off (decide (i = j)) := by
  refine ⟨.int .i64 i, .int .i64 j, fun w => ?_, fun w => ?_, fun w => ?_⟩
  · simp [part, run_isAgg ha, hx]
  · simp [part, run_isAgg ha, hy]
  · rw [run_equalIn_int w d T .i64 .i64 i j hu]
    congr 1

theorem eqF_agg {d off n : Nat} {T : TypeId} {xs ys us vs : List Value} {r : Bool} (ha : isAggB P T = some true) (hn : sizeB P T = some n) (hx : (xs.drop off).take n = us) (hy : (ys.drop off).take n = vs) (h : EqA P T d us vs r) : EqF P d xs ys T off r := by
  have e : ∀ zs : List Value, zs.toArray.extract off (off + n) = ((zs.drop off).take n).toArray := fun zs => by
    apply Array.ext'
    simp [List.take_drop]
  refine ⟨.agg us.toArray, .agg vs.toArray, fun w => ?_, fun w => ?_, h⟩
  · simp only [part, Sem.run_bind, run_isAgg ha, Result.andThen_ok, if_true, run_sizeOf hn, Sem.run_pure, e, hx]
  · simp only [part, Sem.run_bind, run_isAgg ha, Result.andThen_ok, if_true, run_sizeOf hn, Sem.run_pure, e, hy]

theorem op_eqlA {T T' : TypeId} {x y : Operand} {xs ys : List Value} {r : Bool} (ho : o.op = .binOp .eql T x y T') (hx : ev l x = some (.agg xs.toArray)) (hy : ev l y = some (.agg ys.toArray)) (hg : P.eqGuardType P.depth T = false) (h : EqA P T 10000 xs ys r) :
    OpV P N w0 l O A o (pv (.bool r)) :=
  opv_run fun a w hs => by
    simp only [execOp, ho, hs.eval hx, hs.eval hy, Sem.run_bind, run_eqGuard_agg w _ T _ _ _ _ hg, Result.andThen_ok, run_eql_struct, h w, Sem.run_pure]
theorem op_neqA {T T' : TypeId} {x y : Operand} {xs ys : List Value} {r : Bool} (ho : o.op = .binOp .neq T x y T') (hx : ev l x = some (.agg xs.toArray)) (hy : ev l y = some (.agg ys.toArray)) (hg : P.eqGuardType P.depth T = false) (h : EqA P T 10000 xs ys r) :
    OpV P N w0 l O A o (pv (.bool (!r))) :=
  opv_run fun a w hs => by
    simp only [execOp, ho, hs.eval hx, hs.eval hy, Sem.run_bind, run_eqGuard_agg w _ T _ _ _ _ hg, Result.andThen_ok, run_neq_struct, h w, Sem.run_pure]
end
end Go.Sx

namespace Go.Proofs.Ytdpnadknaacinaa
open Go.Sx Go.Proofs.Ytdpnadknaacinaa.Ty
abbrev spanC (a b : Int) : List Value := [.int .i64 a, .int .i64 b]
theorem s_b {N : Cx} {w0 : World} {l : Env} {O : Blks} {A : Args} {o : Oper} {ops : Array Oper} {Q : Exit → Act → World → Prop} {is : List Nat} {i d : Nat} {r : Bool} (h0 : ops[i]? = some o) (hg : wantsB ops l o = some true) (hd : o.dst = some d) (hN : Nat.blt d N.n = true) (h : OpV Try.prog N w0 l O A o (pv (.bool r)))
    (ht : r = true → OkL Try.prog N w0 ops Q is ((d, .bool true) :: l) O A) (hf : r = false → OkL Try.prog N w0 ops Q is ((d, .bool false) :: l) O A) : OkL Try.prog N w0 ops Q (i :: is) l O A := by
  cases r with
  | true => exact okl_v h0 hg hd hN h (ht rfl)
  | false => exact okl_v h0 hg hd hN h (hf rfl)
theorem d_build {N : Cx} {w0 : World} {l lb : Env} {O : Blks} {A : Args} {o : Oper} {ops : Array Oper} {Q : Exit → Act → World → Prop} {i d id : Nat} {es : Ents} {T : Nat} {parts : Array (Nat × Operand)} {ps : List (Nat × Value)} {zs cs : List Value} {pl : List (Nat × Nat)} (ds : List Nat) (hi : es.length = i) (h0 : ops[i]? = some o) (hd : o.dst = some d) (hN : Nat.blt d N.n = true) (hds : depsB o i ds = true)
    (hg : ∀ ν, wantsB ops (envD es ν ds ++ lb) o = some true) (ho : o.op = .build T parts) (hps : ∀ ν, evParts (envD es ν ds ++ lb) parts.toList = some ps) (hz : lookT zerL T = some zs) (hpl : lookT plaL T = some pl) (hf : fillL pl zs (ps.map fun p => (p.1, p.2.cells.toList)) = some cs)
    (rest : Dr Try.prog N w0 id ops Q l lb O A ((i, d, some (.inl (.agg cs.toArray))) :: es)) : Dr Try.prog N w0 id ops Q l lb O A es := d_v ds hi h0 hd hN hds hg (fun ν => k_build ho (hps ν) hz hpl hf) rest
theorem d_loadAP {N : Cx} {w0 : World} {l lb : Env} {O : Blks} {A : Args} {o : Oper} {ops : Array Oper} {Q : Exit → Act → World → Prop} {i d id : Nat} {es : Ents} (j : Nat) {b off Ty n : Nat} {cs vs : List Value} {x : Operand} (ds : List Nat) (hi : es.length = i) (h0 : ops[i]? = some o) (hd : o.dst = some d) (hN : Nat.blt d N.n = true) (hds : depsB o i ds = true)
    (hg : ∀ ν, wantsB ops (envD es ν ds ++ lb) o = some true) (ho : o.op = .load Ty x) (ha : nth aggL Ty = some (some true)) (hx : ∀ ν, ev (envD es ν ds ++ lb) x = some (.pointer (some ⟨b, off, none⟩)))
    (hj : A[j]? = some (b, cs)) (hn : nth sizL Ty = some (some n)) (hvs : sub cs off n = vs) (hl : vs.length = n) (hpos : Nat.blt 0 n = true)
    (rest : Dr Try.prog N w0 id ops Q l lb O A ((i, d, some (.inl (.agg vs.toArray))) :: es)) : Dr Try.prog N w0 id ops Q l lb O A es := d_v ds hi h0 hd hN hds hg (fun ν => op_loadAP ho (hx ν) hj (agg_of ha) (siz_of hn) hvs hl (by simpa [Nat.blt_eq] using hpos)) rest
theorem bool4 : Try.prog.underlying 4 = some .bool := by kernel_rfl
theorem op_eqlB {N : Cx} {w0 : World} {l : Env} {O : Blks} {A : Args} {o : Oper} {T T' : TypeId} {x y : Operand} {a b : Bool} (ho : o.op = .binOp .eql T x y T') (hx : ev l x = some (.bool a)) (hy : ev l y = some (.bool b)) (hu : Try.prog.underlying T = some .bool) :
    OpV Try.prog N w0 l O A o (pv (.bool (a == b))) :=
  opv_run fun a_1 w hs => by
    have h := run_equalIn_bool' (P := Try.prog) w 9999 T a b hu
    simp [execOp, ho, hs.eval hx, hs.eval hy, eqGuard, binOp, Op.equal, Op.maxDepth, h]
theorem int3 : Try.prog.underlying 3 = some (.int .i64) := by kernel_rfl
theorem eq23 (d : Nat) (a b c e : Int) : EqA Try.prog 23 (d + 2) (spanC a b) (spanC c e) (decide (a = c) && decide (b = e)) := by
  have h := eqA_of (d := d + 1) (xs := spanC a b) (ys := spanC c e) Try.underlying23 (by kernel_rfl) [(_, decide (a = c)), (_, decide (b = e))] rfl (by
    intro p hp
    simp only [List.mem_cons, List.not_mem_nil, or_false] at hp
    rcases hp with rfl | rfl
    · exact ⟨by simp, eqF_int int3 (agg_of rfl) rfl rfl⟩
    · exact ⟨by simp, eqF_int int3 (agg_of rfl) rfl rfl⟩)
  simpa using h
theorem eq76 (d : Nat) (a1 a2 a3 a4 a5 b1 b2 b3 b4 b5 : Int) : EqA Try.prog 76 (d + 3) [.int .i64 a1, .int .i64 a2, .int .i64 a3, .int .i64 a4, .int .i64 a5] [.int .i64 b1, .int .i64 b2, .int .i64 b3, .int .i64 b4, .int .i64 b5]
    (decide (a1 = b1) && decide (a2 = b2) && (decide (a3 = b3) && (decide (a4 = b4) && decide (a5 = b5)))) := by
  have h := eqA_of (d := d + 2) (xs := [.int .i64 a1, .int .i64 a2, .int .i64 a3, .int .i64 a4, .int .i64 a5]) (ys := [.int .i64 b1, .int .i64 b2, .int .i64 b3, .int .i64 b4, .int .i64 b5]) Try.underlying76 (by kernel_rfl)
    [(_, decide (a1 = b1) && decide (a2 = b2)), (_, decide (a3 = b3)), (_, decide (a4 = b4) && decide (a5 = b5))] rfl (by
    intro p hp
    simp only [List.mem_cons, List.not_mem_nil, or_false] at hp
    rcases hp with rfl | rfl | rfl
    · exact ⟨by simp, eqF_agg (agg_of rfl) (siz_of rfl) rfl rfl (eq23 d a1 a2 b1 b2)⟩
    · exact ⟨by simp, eqF_int int3 (agg_of rfl) rfl rfl⟩
    · exact ⟨by simp, eqF_agg (agg_of rfl) (siz_of rfl) rfl rfl (eq23 d a4 a5 b4 b5)⟩)
  simpa using h
theorem eq69 (d : Nat) (a1 a2 a3 a4 a5 b1 b2 b3 b4 b5 : Int) : EqA Try.prog 69 (d + 3) [.int .i64 a1, .int .i64 a2, .int .i64 a3, .int .i64 a4, .int .i64 a5] [.int .i64 b1, .int .i64 b2, .int .i64 b3, .int .i64 b4, .int .i64 b5]
    (decide (a1 = b1) && (decide (a2 = b2) && (decide (a3 = b3) && (decide (a4 = b4) && decide (a5 = b5))))) := by
  have h := eqA_of (d := d + 2) (xs := [.int .i64 a1, .int .i64 a2, .int .i64 a3, .int .i64 a4, .int .i64 a5]) (ys := [.int .i64 b1, .int .i64 b2, .int .i64 b3, .int .i64 b4, .int .i64 b5]) Try.underlying69 (by kernel_rfl)
    [(_, decide (a1 = b1)), (_, decide (a2 = b2)), (_, decide (a3 = b3)), (_, decide (a4 = b4) && decide (a5 = b5))] rfl (by
    intro p hp
    simp only [List.mem_cons, List.not_mem_nil, or_false] at hp
    rcases hp with rfl | rfl | rfl | rfl
    · exact ⟨by simp, eqF_int int3 (agg_of rfl) rfl rfl⟩
    · exact ⟨by simp, eqF_int int3 (agg_of rfl) rfl rfl⟩
    · exact ⟨by simp, eqF_int int3 (agg_of rfl) rfl rfl⟩
    · exact ⟨by simp, eqF_agg (agg_of rfl) (siz_of rfl) rfl rfl (eq23 d a4 a5 b4 b5)⟩)
  simpa using h
theorem g76 : Try.prog.eqGuardType Try.prog.depth 76 = false := by kernel_rfl
theorem g69 : Try.prog.eqGuardType Try.prog.depth 69 = false := by kernel_rfl
theorem g23 : Try.prog.eqGuardType Try.prog.depth 23 = false := by kernel_rfl
end Go.Proofs.Ytdpnadknaacinaa
