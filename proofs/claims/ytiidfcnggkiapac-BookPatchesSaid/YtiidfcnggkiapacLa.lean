/-
  What the functions of the law return.
  Conditions: none.
-/
import Derived.Test.YtiidfcnggkiapacEv4
import Derived.Test.YtiidfcnggkiapacProg
import Derived.Shelf.Pu.Clone

section
namespace Go.Proofs.Ytiidfcnggkiapac
open Go.Ev
set_option linter.unusedVariables false
set_option linter.unusedSimpArgs false
set_option maxRecDepth 100000
set_option maxHeartbeats 4000000
noncomputable abbrev Pr := Try.prog
theorem hmix : Pr.follows .mixedOrders = true := by rfl
/- function 13 -/
noncomputable def st13 : Ev.St := []
noncomputable def s13 (call : CallF) (a0 a1 : Value) (h : Tr Ob) (N : Nat) : OpR :=
  (obind (Ev.iadS 1 a0 (.int .i64 (.ofNat 0))) (fun v0 => (obind (Ev.ld1 h v0) (fun v1 => (obind (Ev.lenS a0) (fun v2 => (lpR (α := C5) (fun v3 v4 v5 v6 v7 d8 h9 N10 => none) (fun g11 v12 v13 v14 v15 v16 d17 h18 N19 => (obind (Ev.iop .lss v16 v15) (fun v20 => (Ev.cnd v20 (obind (Ev.iadS 1 v14 v16) (fun v21 => (obind (Ev.ld1 h18 v21) (fun v22 => (orun (Ev.callW [] call v12 [v22, v13] h18 N19) (fun v23 h24 N25 => (jnR (α := C5) (fun v26 v27 v28 v29 v30 d31 h32 N33 => (obind (Ev.iop .add v30 (.int .i64 (.ofNat 1))) (fun v34 => (g11 v26 v27 v28 v29 v34 d31 h32 N33)))) (fun g35 => (Ev.cnd v23 (g35 v12 v22 v14 v15 v16 d17 h24 N25) (g35 v12 v13 v14 v15 v16 d17 h24 N25)))))))))) (obind (Ev.unmark d17 h18) (fun h36 => (some (v13, (h36, N19))))))))) a1 v1 a0 v2 (.int .i64 (.ofNat 0)) [] h N)))))))
noncomputable def F13 : Ev.Fs := fun call args h N => ar2 args fun a0 a1 => s13 call a0 a1 h N
theorem o13 : FOk Pr 13 F13 := ar2_ok (F := cFn Pr st13 13 (.s .n (.s .n (.s (.s .n (.s (.j [1, 5, 11, 12, 13] (.s .n (.s .n (.s (.s (.s .n (.s .n (.j [1, 5, 11, 12, 13] .n .n))) .n) .n))) .n) .n)) .n)))) (s := s13) (fun call a0 a1 h N => by kernel_rfl) (cFn_ok hmix (st := st13) StOk.nil 13 (.s .n (.s .n (.s (.s .n (.s (.j [1, 5, 11, 12, 13] (.s .n (.s .n (.s (.s (.s .n (.s .n (.j [1, 5, 11, 12, 13] .n .n))) .n) .n))) .n) .n)) .n))))
/- function 14 -/
noncomputable def st14 : Ev.St := []
noncomputable def s14 (call : CallF) (a0 a1 : Value) (h : Tr Ob) (N : Nat) : OpR :=
  (obind (Ev.evLen Pr h 9 a0) (fun v0 => (obind (Ev.evLen Pr h 9 a1) (fun v1 => (obind (Ev.iop .lss v0 v1) (fun v2 => (some (v2, (h, N)))))))))
noncomputable def F14 : Ev.Fs := fun call args h N => ar2 args fun a0 a1 => s14 call a0 a1 h N
theorem o14 : FOk Pr 14 F14 := ar2_ok (F := cFn Pr st14 14 .n) (s := s14) (fun call a0 a1 h N => by kernel_rfl) (cFn_ok hmix (st := st14) StOk.nil 14 .n)
/- function 11 -/
noncomputable def st11 : Ev.St := [(13, F13), (14, F14)]
noncomputable def s11 (call : CallF) (a0 a1 : Value) (h : Tr Ob) (N : Nat) : OpR :=
  (fN (.succ N) (fun N0 => (fN (.succ N0) (fun N1 => (orun (Ev.evBuildSlice Pr 40 2 [(0, a0), (1, a1)] (Tr.set (Tr.set h (some (.c [(.int .i64 (.ofNat 0)), (.int .i64 (.ofNat 0))] 37)) N) (some (.c [(.int .i64 (.ofNat 0)), (.int .i64 (.ofNat 0))] 37)) N0) N1) (fun v2 h3 N4 => (orun (s13 call v2 (.func (.func 14) ⟨[]⟩ ⟨[]⟩) h3 N4) (fun v5 h6 N7 => (obind (Ev.evLen Pr h6 9 v5) (fun v8 => (lpR (α := C6) (fun v9 v10 v11 v12 v13 v14 d15 h16 N17 => none) (fun g18 v19 v20 v21 v22 v23 v24 d25 h26 N27 => (obind (Ev.iop .lss v24 (.int .i64 (.ofNat 2))) (fun v28 => (Ev.cnd v28 (jnR (α := C6) (fun v29 v30 v31 v32 v33 v34 d35 h36 N37 => (obind (Ev.iop .add v34 (.int .i64 (.ofNat 1))) (fun v38 => (g18 v29 v30 v31 v32 v33 v38 d35 h36 N37)))) (fun g39 => (obind (Ev.iadA 2 1 v22 (.int .i64 (.ofNat 0))) (fun v40 => (obind (Ev.ld1 h26 v40) (fun v41 => (obind (Ev.iop .sub v23 v41) (fun v42 => (lpR (α := C9) (fun v43 v44 v45 v46 v47 v48 v49 v50 v51 d52 h53 N54 => none) (fun g55 v56 v57 v58 v59 v60 v61 v62 v63 v64 d65 h66 N67 => (obind (Ev.iop .lss v64 v63) (fun v68 => (Ev.cnd v68 (obind (Ev.iop .eql v61 (.int .i64 (.ofNat 1))) (fun v69 => (jnR (α := C11) (fun v70 v71 v72 v73 v74 v75 v76 v77 v78 v79 v80 d81 h82 N83 => (obind (Ev.evIdx Pr 9 v70 v76) (fun v84 => (obind (Ev.evIdx Pr 9 v71 v77) (fun v85 => (obind (Ev.evBin Pr .neq 5 (.tmp 42) (.tmp 45) v84 v85) (fun v86 => (Ev.cnd v86 (g39 v70 v71 v72 v73 v74 v78 d81 h82 N83) (obind (Ev.iadA 2 1 v73 v75) (fun v87 => (obind (Ev.ld1 h82 v87) (fun v88 => (obind (Ev.iop .add v88 (.int .i64 (.ofNat 1))) (fun v89 => (obind (Ev.iadA 2 1 v73 v75) (fun v90 => (obind (Ev.sto 1 v90 v89 h82) (fun h91 => (obind (Ev.iop .add v80 (.int .i64 (.ofNat 1))) (fun v92 => (g55 v70 v71 v72 v73 v74 v75 v78 v79 v92 d81 h91 N83))))))))))))))))))))) (fun g93 => (Ev.cnd v69 (obind (Ev.evLen Pr h66 9 v56) (fun v94 => (obind (Ev.iop .sub v94 (.int .i64 (.ofNat 1))) (fun v95 => (obind (Ev.iop .sub v95 v64) (fun v96 => (obind (Ev.evLen Pr h66 9 v57) (fun v97 => (obind (Ev.iop .sub v97 (.int .i64 (.ofNat 1))) (fun v98 => (obind (Ev.iop .sub v98 v64) (fun v99 => (g93 v56 v57 v58 v59 v60 v61 v96 v99 v62 v63 v64 d65 h66 N67))))))))))))) (g93 v56 v57 v58 v59 v60 v61 v64 v64 v62 v63 v64 d65 h66 N67)))))) (g39 v56 v57 v58 v59 v60 v62 d65 h66 N67))))) v19 v20 v21 v22 v23 v24 v24 v42 (.int .i64 (.ofNat 0)) d25 h26 N27))))))))) (obind (Ev.ldN 2 h26 v22) (fun v100 => (obind (Ev.sto 2 v21 v100 h26) (fun h101 => (obind (Ev.unmark d25 h101) (fun h102 => (obind (Ev.ldN 2 h102 v21) (fun v103 => (some (v103, (h102, N27))))))))))))))) a0 a1 (.pointer (some ⟨N, 0, none⟩)) (.pointer (some ⟨N0, 0, none⟩)) v8 (.int .i64 (.ofNat 0)) [] h6 N7)))))))))))
noncomputable def F11 : Ev.Fs := fun call args h N => ar2 args fun a0 a1 => s11 call a0 a1 h N
theorem o11 : FOk Pr 11 F11 := ar2_ok (F := cFn Pr st11 11 (.s .n (.s .n (.s .n (.s .n (.s (.s .n (.s (.j [0, 1, 4, 5, 6, 16] (.s .n (.s .n (.s (.j [0, 1, 4, 5, 6, 16] (.s .n (.s .n (.s (.j [0, 1, 4, 5, 6, 7, 16, 22, 23] (.s .n (.s .n (.s (.s (.s .n (.s .n (.s (.s .n (.j [0, 1, 4, 5, 6, 7, 9, 10, 16, 22, 23] .n .n)) .n))) .n) .n))) .n) .n))) .n) .n))) .n) .n)) .n)))))) (s := s11) (fun call a0 a1 h N => by kernel_rfl) (cFn_ok hmix (st := st11) (StOk.cons o13 (StOk.cons o14 StOk.nil)) 11 (.s .n (.s .n (.s .n (.s .n (.s (.s .n (.s (.j [0, 1, 4, 5, 6, 16] (.s .n (.s .n (.s (.j [0, 1, 4, 5, 6, 16] (.s .n (.s .n (.s (.j [0, 1, 4, 5, 6, 7, 16, 22, 23] (.s .n (.s .n (.s (.s (.s .n (.s .n (.s (.s .n (.j [0, 1, 4, 5, 6, 7, 9, 10, 16, 22, 23] .n .n)) .n))) .n) .n))) .n) .n))) .n) .n))) .n) .n)) .n))))))
end Go.Proofs.Ytiidfcnggkiapac
end

section
namespace Go.Proofs.Ytiidfcnggkiapac
open Go.Ev Go.RowKit
set_option linter.unusedVariables false
set_option linter.unusedSimpArgs false
set_option maxRecDepth 100000
set_option maxHeartbeats 4000000
def rho : Go.Shelf.Ren := ⟨fun x => if x = 25 then 12 else x, fun x => if x = 37 then 42 else if x = 47 then 43 else x, fun x => x⟩
theorem laysClone : LaysPu.n25 Pr rho := by
  constructor
  all_goals first | rfl | (intro w; rfl)
theorem cal12 : Go.Sx.callable Pr 12 := ⟨_, rfl, rfl, rfl⟩
noncomputable def g12 (args : List Value) : Option Value :=
  match args with
  | [.string s] => if s.size ≤ 281474976710656 then some (.string s) else none
  | _ => none
noncomputable def F12 : Ev.Fs := fun _ args h N => obind (g12 args) fun v => some (v, h, N)
theorem o12 : FOk Pr 12 F12 := FOk.ofScal cal12 g12 (by
  intro args v hv
  unfold g12 at hv
  split at hv
  · rename_i s
    split at hv
    · rename_i hs
      cases hv
      exact ⟨by intro x hx; rw [List.mem_singleton] at hx; subst hx; rfl, rfl, fun w => AnyPu.stringslite_Clone laysClone s w hs⟩
    · cases hv
  · cases hv)
end Go.Proofs.Ytiidfcnggkiapac
end

section
namespace Go.Proofs.Ytiidfcnggkiapac
open Go.Ev Go.RowKit
set_option linter.unusedVariables false
set_option linter.unusedSimpArgs false
set_option maxRecDepth 100000
set_option maxHeartbeats 4000000
theorem u9 : Pr.underlying 9 = some .string := by rfl
theorem b1 (x y : Operand) (s t : ByteArray) : evBin Pr .eql 9 x y (.string s) (.string t) = some (.bool (s.toList == t.toList)) := by
  rfl
theorem b2 (x y : Operand) (s t : ByteArray) (h : s.size + t.size ≤ 9223372036854775807) : evBin Pr .add 9 x y (.string s) (.string t) = some (.string (s ++ t)) := by
  have e : Op.stringOp .add s t = (pure (.string (s ++ t)) : Sem Value) := by
    unfold Op.stringOp
    simp only []
    rw [if_neg (by simp [IntKind.max, IntKind.bits]; omega)]
  show oor (ocond true (ocond true (obind (still Pr (Op.stringOp .add s t)) fun r => ocond (scal r) (some r)))) _ = _
  rw [e]
  rfl
theorem u23 : Pr.underlying 23 = some (.struct #[⟨"At", 3, 0, false, "", "", 0⟩, ⟨"Cut", 3, 1, false, "", "", 8⟩, ⟨"Add", 9, 2, false, "", "", 16⟩]) := by rfl
theorem eqI (i j : Int) : ∀ d, still Pr (Op.equalIn (d + 1) 3 (.int .i64 i) (.int .i64 j)) = some (i == j) := fun d => by rfl
theorem eqS (s t : ByteArray) : ∀ d, still Pr (Op.equalIn (d + 1) 9 (.string s) (.string t)) = some (s == t) := fun d => by rfl
theorem b3e (i j i' j' : Int) (s t : ByteArray) : still Pr (Op.equalIn (9999 + 1) 23 (.agg ⟨[.int .i64 i, .int .i64 j, .string s]⟩) (.agg ⟨[.int .i64 i', .int .i64 j', .string t]⟩)) = some (i == i' && (j == j' && s == t)) := by
  rw [Op.equalIn, still_bnd, still_undl u23, obind_s]
  simp only []
  rw [still_bnd, show still Pr program = some Pr from rfl, obind_s]
  have hst : Pr.stoodInHeld 23 = false := by kernel_rfl
  simp only [hst, Bool.false_eq_true, if_false]
  simp only [List.forIn_toArray, List.forIn_cons, List.forIn_nil, bind_assoc]
  simp only [ne_eq, String.reduceEq, not_false_eq_true, if_true]
  simp only [bind_assoc, pure_bind, still_bnd]
  have p0 : ∀ (i j : Int) (s : ByteArray), still Pr (part 3 ⟨[Value.int .i64 i, .int .i64 j, .string s]⟩ 0) = some (.int .i64 i) := fun _ _ _ => rfl
  have p1 : ∀ (i j : Int) (s : ByteArray), still Pr (part 3 ⟨[Value.int .i64 i, .int .i64 j, .string s]⟩ 1) = some (.int .i64 j) := fun _ _ _ => rfl
  have p2 : ∀ (i j : Int) (s : ByteArray), still Pr (part 9 ⟨[Value.int .i64 i, .int .i64 j, .string s]⟩ 2) = some (.string s) := fun _ _ _ => rfl
  cases h1 : (i == i') <;> cases h2 : (j == j') <;> cases h3 : (s == t) <;>
    simp only [p0, p1, p2, obind_s, eqI _ _ 9998, eqS _ _ 9998, h1, h2, h3, Bool.not_true, Bool.not_false, Bool.false_eq_true, if_true, if_false, still_pure, still_bnd, Bool.and_true, Bool.and_false]

theorem b3 (x y : Operand) (i j i' j' : Int) (s t : ByteArray) : evBin Pr .eql 23 x y (.agg ⟨[.int .i64 i, .int .i64 j, .string s]⟩) (.agg ⟨[.int .i64 i', .int .i64 j', .string t]⟩) = some (.bool (i == i' && (j == j' && s == t))) := by
  have e := b3e i j i' j' s t
  have g : still Pr (do eqGuard .eql 23 x y (.agg ⟨[.int .i64 i, .int .i64 j, .string s]⟩) (.agg ⟨[.int .i64 i', .int .i64 j', .string t]⟩); binOp .eql 23 (.agg ⟨[.int .i64 i, .int .i64 j, .string s]⟩) (.agg ⟨[.int .i64 i', .int .i64 j', .string t]⟩)) = some (.bool (i == i' && (j == j' && s == t))) := by
    rw [still_bnd, show still Pr (eqGuard .eql 23 x y (.agg ⟨[.int .i64 i, .int .i64 j, .string s]⟩) (.agg ⟨[.int .i64 i', .int .i64 j', .string t]⟩)) = some () from (by kernel_rfl), obind_s]
    show still Pr (Value.bool <$> Op.equalIn (9999 + 1) 23 _ _) = _
    rw [map_eq_pure_bind, still_bnd, e]
    rfl
  show oor (ocond true (ocond true (obind (still Pr _) fun r => ocond (scal r) (some r)))) _ = _
  rw [g]
  rfl
theorem b4 (i j : Int) (s : ByteArray) : evBuild Pr 23 [(0, .int .i64 i), (1, .int .i64 j), (2, .string s)] = some (.agg ⟨[.int .i64 i, .int .i64 j, .string s]⟩) := by rfl
theorem b5 (a b : Int) : mxV Pr ⟨[3, 3]⟩ 3 [.int .i64 a, .int .i64 b] = some (.int .i64 (if a < b then b else a)) := by rfl
noncomputable def lp11_0 (g39 : C6) : C9 → C9 :=
  (fun g55 v56 v57 v58 v59 v60 v61 v62 v63 v64 d65 h66 N67 => (obind (Ev.iop .lss v64 v63) (fun v68 => (Ev.cnd v68 (obind (Ev.iop .eql v61 (.int .i64 (.ofNat 1))) (fun v69 => (jnR (α := C11) (fun v70 v71 v72 v73 v74 v75 v76 v77 v78 v79 v80 d81 h82 N83 => (obind (Ev.evIdx Pr 9 v70 v76) (fun v84 => (obind (Ev.evIdx Pr 9 v71 v77) (fun v85 => (obind (Ev.evBin Pr .neq 5 (.tmp 42) (.tmp 45) v84 v85) (fun v86 => (Ev.cnd v86 (g39 v70 v71 v72 v73 v74 v78 d81 h82 N83) (obind (Ev.iadA 2 1 v73 v75) (fun v87 => (obind (Ev.ld1 h82 v87) (fun v88 => (obind (Ev.iop .add v88 (.int .i64 (.ofNat 1))) (fun v89 => (obind (Ev.iadA 2 1 v73 v75) (fun v90 => (obind (Ev.sto 1 v90 v89 h82) (fun h91 => (obind (Ev.iop .add v80 (.int .i64 (.ofNat 1))) (fun v92 => (g55 v70 v71 v72 v73 v74 v75 v78 v79 v92 d81 h91 N83))))))))))))))))))))) (fun g93 => (Ev.cnd v69 (obind (Ev.evLen Pr h66 9 v56) (fun v94 => (obind (Ev.iop .sub v94 (.int .i64 (.ofNat 1))) (fun v95 => (obind (Ev.iop .sub v95 v64) (fun v96 => (obind (Ev.evLen Pr h66 9 v57) (fun v97 => (obind (Ev.iop .sub v97 (.int .i64 (.ofNat 1))) (fun v98 => (obind (Ev.iop .sub v98 v64) (fun v99 => (g93 v56 v57 v58 v59 v60 v61 v96 v99 v62 v63 v64 d65 h66 N67))))))))))))) (g93 v56 v57 v58 v59 v60 v61 v64 v64 v62 v63 v64 d65 h66 N67)))))) (g39 v56 v57 v58 v59 v60 v62 d65 h66 N67)))))

noncomputable def lp11_1  : C6 → C6 :=
  (fun g18 v19 v20 v21 v22 v23 v24 d25 h26 N27 => (obind (Ev.iop .lss v24 (.int .i64 (.ofNat 2))) (fun v28 => (Ev.cnd v28 (jnR (α := C6) (fun v29 v30 v31 v32 v33 v34 d35 h36 N37 => (obind (Ev.iop .add v34 (.int .i64 (.ofNat 1))) (fun v38 => (g18 v29 v30 v31 v32 v33 v38 d35 h36 N37)))) (fun g39 => (obind (Ev.iadA 2 1 v22 (.int .i64 (.ofNat 0))) (fun v40 => (obind (Ev.ld1 h26 v40) (fun v41 => (obind (Ev.iop .sub v23 v41) (fun v42 => (lpR (α := C9) (fun v43 v44 v45 v46 v47 v48 v49 v50 v51 d52 h53 N54 => none) (lp11_0 g39) v19 v20 v21 v22 v23 v24 v24 v42 (.int .i64 (.ofNat 0)) d25 h26 N27))))))))) (obind (Ev.ldN 2 h26 v22) (fun v100 => (obind (Ev.sto 2 v21 v100 h26) (fun h101 => (obind (Ev.unmark d25 h101) (fun h102 => (obind (Ev.ldN 2 h102 v21) (fun v103 => (some (v103, (h102, N27)))))))))))))))

theorem s11_eq (call : CallF) (a0 a1 : Value) (h : Tr Ob) (N : Nat) : s11 call a0 a1 h N =
  (fN (.succ N) (fun N0 => (fN (.succ N0) (fun N1 => (orun (Ev.evBuildSlice Pr 40 2 [(0, a0), (1, a1)] (Tr.set (Tr.set h (some (.c [(.int .i64 (.ofNat 0)), (.int .i64 (.ofNat 0))] 37)) N) (some (.c [(.int .i64 (.ofNat 0)), (.int .i64 (.ofNat 0))] 37)) N0) N1) (fun v2 h3 N4 => (orun (s13 call v2 (.func (.func 14) ⟨[]⟩ ⟨[]⟩) h3 N4) (fun v5 h6 N7 => (obind (Ev.evLen Pr h6 9 v5) (fun v8 => (lpR (α := C6) (fun v9 v10 v11 v12 v13 v14 d15 h16 N17 => none) (lp11_1) a0 a1 (.pointer (some ⟨N, 0, none⟩)) (.pointer (some ⟨N0, 0, none⟩)) v8 (.int .i64 (.ofNat 0)) [] h6 N7))))))))))) := rfl

abbrev nS (n : Nat) : Value := .int .i64 (n : Int)
abbrev pS (i : Nat) : Value := .pointer (some ⟨i, 0, none⟩)
theorem iA (m k : Nat) (hk : k < 2) : iadA 2 1 (pS m) (nS k) = some (.pointer (some ⟨m, k, none⟩)) := by
  rw [iadA_p hk]; simp
theorem add1 {k : Nat} (hk : k < 9223372036854775807) : iop .add (nS k) (.int .i64 (.ofNat 1)) = some (nS (k + 1)) := by
  rw [iop_add (by constructor <;> show _ ≤ _ <;> simp <;> omega)]
  rfl
/-- The round at the front. -/
theorem inner0 (g : C6) (a b : ByteArray) (r m sh lim N : Nat) (c1 : Value) (ha : lim ≤ a.size) (hb : lim ≤ b.size) (hL : lim < 1000000) (d : List Nat) (z : C9) : ∀ (n k : Nat) (h : Tr Ob) (fuel : Nat), k + n = lim → n < fuel → h.get m = some (.c [nS k, c1] 37) →
    ∃ h', lpN z (lp11_0 g) fuel (.string a) (.string b) (pS r) (pS m) (nS sh) (nS 0) (nS 0) (nS lim) (nS k) d h N = g (.string a) (.string b) (pS r) (pS m) (nS sh) (nS 0) d h' N ∧
      h'.get m = some (.c [nS (adv (fun i => bt a i == bt b i) n k), c1] 37) ∧ ∀ j, j ≠ m → h'.get j = h.get j := by
  intro n
  induction n with
  | zero =>
    intro k h fuel hk hf hm
    obtain ⟨fuel, rfl⟩ : ∃ f, fuel = f + 1 := ⟨fuel - 1, by omega⟩
    refine ⟨h, ?_, hm, fun j _ => rfl⟩
    rw [lpN_succ]
    unfold lp11_0
    simp only [iop_lss, obind_s, cnd_d]
    rw [if_neg (by omega)]
  | succ n ih =>
    intro k h fuel hk hf hm
    obtain ⟨fuel, rfl⟩ : ∃ f, fuel = f + 1 := ⟨fuel - 1, by omega⟩
    rw [lpN_succ]
    obtain ⟨L, hL2⟩ : ∃ L, L = lpN z (lp11_0 g) fuel := ⟨_, rfl⟩
    rw [← hL2]
    unfold lp11_0
    simp only [iop_lss, obind_s, cnd_d]
    rw [if_pos (by omega)]
    simp only [iop_eql, obind_s, jnR_eq, cnd_d]
    rw [if_neg (by simp)]
    rw [evIdx_bt u9 a (by omega), obind_s, evIdx_bt u9 b (by omega), obind_s, bin_u8_neq, obind_s]
    cases hp : (bt a k == bt b k) with
    | false =>
      refine ⟨h, ?_, ?_, fun j _ => rfl⟩
      · rw [bne, hp]; rfl
      · rw [adv_f (p := fun i => bt a i == bt b i) hp]; exact hm
    | true =>
      rw [bne, hp]
      simp only [Bool.not_true, cnd_f]
      rw [iA m 0 (by omega), obind_s, ld1_c hm]
      show ∃ h', (obind (some (nS k)) _) = _ ∧ _
      rw [obind_s, add1 (by omega), obind_s, obind_s, sto_c (v := nS (k + 1)) (m := 1) hm rfl rfl (by simp), obind_s, obind_s]
      have e : lay [nS k, c1] (cel (nS (k + 1))) 0 = [nS (k + 1), c1] := rfl
      rw [e]
      obtain ⟨h', q1, q2, q3⟩ := ih (k + 1) (h.set (some (.c [nS (k + 1), c1] 37)) m) fuel (by omega) (by omega) (by rw [Tr.get_same])
      refine ⟨h', by rw [hL2]; exact q1, ?_, fun j hj => ?_⟩
      · rw [adv_t (p := fun i => bt a i == bt b i) hp]; exact q2
      · rw [q3 j hj, Tr.get_other _ _ hj]
/-- The round at the back. -/
theorem inner1 (g : C6) (a b : ByteArray) (r m sh lim N : Nat) (c0 : Value) (ha : lim ≤ a.size) (hb : lim ≤ b.size) (hA : a.size < 1000000) (hB : b.size < 1000000) (d : List Nat) (z : C9) : ∀ (n k : Nat) (h : Tr Ob) (fuel : Nat), k + n = lim → n < fuel → h.get m = some (.c [c0, nS k] 37) →
    ∃ h', lpN z (lp11_0 g) fuel (.string a) (.string b) (pS r) (pS m) (nS sh) (nS 1) (nS 1) (nS lim) (nS k) d h N = g (.string a) (.string b) (pS r) (pS m) (nS sh) (nS 1) d h' N ∧
      h'.get m = some (.c [c0, nS (adv (fun i => bt a (a.size - 1 - i) == bt b (b.size - 1 - i)) n k)] 37) ∧ ∀ j, j ≠ m → h'.get j = h.get j := by
  intro n
  induction n with
  | zero =>
    intro k h fuel hk hf hm
    obtain ⟨fuel, rfl⟩ : ∃ f, fuel = f + 1 := ⟨fuel - 1, by omega⟩
    refine ⟨h, ?_, hm, fun j _ => rfl⟩
    rw [lpN_succ]
    unfold lp11_0
    simp only [iop_lss, obind_s, cnd_d]
    rw [if_neg (by omega)]
  | succ n ih =>
    intro k h fuel hk hf hm
    obtain ⟨fuel, rfl⟩ : ∃ f, fuel = f + 1 := ⟨fuel - 1, by omega⟩
    rw [lpN_succ]
    obtain ⟨L, hL2⟩ : ∃ L, L = lpN z (lp11_0 g) fuel := ⟨_, rfl⟩
    rw [← hL2]
    unfold lp11_0
    simp only [iop_lss, obind_s, cnd_d]
    rw [if_pos (by omega)]
    simp only [iop_eql, obind_s, jnR_eq, cnd_d]
    rw [if_pos (by simp)]
    have e1 : ∀ s : ByteArray, k < s.size → s.size < 1000000 → iop .sub (.int .i64 (s.size : Int)) (.int .i64 (.ofNat 1)) = some (nS (s.size - 1)) := by
      intro s h1 h2
      rw [iop_sub (by constructor <;> simp <;> omega)]
      congr 2
      simp
      omega
    have e2 : ∀ s : ByteArray, k < s.size → s.size < 1000000 → iop .sub (nS (s.size - 1)) (nS k) = some (nS (s.size - 1 - k)) := by
      intro s h1 h2
      rw [iop_sub (by constructor <;> omega)]
      congr 2
      omega
    rw [evLen_str u9, obind_s, e1 a (by omega) hA, obind_s, e2 a (by omega) hA, obind_s, evLen_str u9, obind_s, e1 b (by omega) hB, obind_s, e2 b (by omega) hB, obind_s]
    rw [evIdx_bt u9 a (by omega), obind_s, evIdx_bt u9 b (by omega), obind_s, bin_u8_neq, obind_s]
    cases hp : (bt a (a.size - 1 - k) == bt b (b.size - 1 - k)) with
    | false =>
      refine ⟨h, ?_, ?_, fun j _ => rfl⟩
      · rw [bne, hp]; rfl
      · rw [adv_f (p := fun i => bt a (a.size - 1 - i) == bt b (b.size - 1 - i)) hp]; exact hm
    | true =>
      rw [bne, hp]
      simp only [Bool.not_true, cnd_f]
      rw [iA m 1 (by omega), obind_s, ld1_c hm]
      show ∃ h', (obind (some (nS k)) _) = _ ∧ _
      rw [obind_s, add1 (by omega), obind_s, obind_s, sto_c (v := nS (k + 1)) (m := 1) hm rfl rfl (by simp), obind_s, obind_s]
      have e : lay [c0, nS k] (cel (nS (k + 1))) 1 = [c0, nS (k + 1)] := rfl
      rw [e]
      obtain ⟨h', q1, q2, q3⟩ := ih (k + 1) (h.set (some (.c [c0, nS (k + 1)] 37)) m) fuel (by omega) (by omega) (by rw [Tr.get_same])
      refine ⟨h', by rw [hL2]; exact q1, ?_, fun j hj => ?_⟩
      · rw [adv_t (p := fun i => bt a (a.size - 1 - i) == bt b (b.size - 1 - i)) hp]; exact q2
      · rw [q3 j hj, Tr.get_other _ _ hj]
/-- Where both agree no more, and how far they agree from the back, behind that. -/
def atF (a b : ByteArray) : Nat := adv (fun i => bt a i == bt b i) (min a.size b.size) 0
def atB (a b : ByteArray) : Nat := adv (fun i => bt a (a.size - 1 - i) == bt b (b.size - 1 - i)) (min a.size b.size - atF a b) 0
noncomputable def lp13_0 (call : CallF) : C5 → C5 :=
  (fun g11 v12 v13 v14 v15 v16 d17 h18 N19 => (obind (Ev.iop .lss v16 v15) (fun v20 => (Ev.cnd v20 (obind (Ev.iadS 1 v14 v16) (fun v21 => (obind (Ev.ld1 h18 v21) (fun v22 => (orun (Ev.callW [] call v12 [v22, v13] h18 N19) (fun v23 h24 N25 => (jnR (α := C5) (fun v26 v27 v28 v29 v30 d31 h32 N33 => (obind (Ev.iop .add v30 (.int .i64 (.ofNat 1))) (fun v34 => (g11 v26 v27 v28 v29 v34 d31 h32 N33)))) (fun g35 => (Ev.cnd v23 (g35 v12 v22 v14 v15 v16 d17 h24 N25) (g35 v12 v13 v14 v15 v16 d17 h24 N25)))))))))) (obind (Ev.unmark d17 h18) (fun h36 => (some (v13, (h36, N19)))))))))

theorem s13_eq (call : CallF) (a0 a1 : Value) (h : Tr Ob) (N : Nat) : s13 call a0 a1 h N =
  (obind (Ev.iadS 1 a0 (.int .i64 (.ofNat 0))) (fun v0 => (obind (Ev.ld1 h v0) (fun v1 => (obind (Ev.lenS a0) (fun v2 => (lpR (α := C5) (fun v3 v4 v5 v6 v7 d8 h9 N10 => none) (lp13_0 call) a1 v1 a0 v2 (.int .i64 (.ofNat 0)) [] h N))))))) := rfl

noncomputable def c14 : CallF := cAll Pr (lookS [(14, F14)]) (fun _ _ _ => none) 2
theorem c14_ok : CallOk Pr c14 := cAll_ok hmix (fun f F h => (StOk.cons o14 StOk.nil) _ (lookS_ok h)) (fun nt asg body F h => by cases h) 2
theorem c14_eq (x y : ByteArray) (h : Tr Ob) (N : Nat) : callW [] c14 (.func (.func 14) ⟨[]⟩ ⟨[]⟩) [.string x, .string y] h N = some (.bool (decide (x.size < y.size)), h, N) := by
  show s14 (cAll Pr (lookS [(14, F14)]) (fun _ _ _ => none) 1) (.string x) (.string y) h N = _
  unfold s14
  rw [evLen_str u9, obind_s, evLen_str u9, obind_s, iop_lss, obind_s]
  congr 3
  simp
theorem step13 (L : C5) (x y : ByteArray) (i T c N n k : Nat) (xs : List Value) (h : Tr Ob) (hi : h.get i = some (.c xs T)) (hx : nth xs k = some (.string x)) (hk : k < n) (hn : n < 1000000) :
    lp13_0 c14 L (.func (.func 14) ⟨[]⟩ ⟨[]⟩) (.string y) (.slice (some ⟨i, 0, none⟩) n c) (nS n) (nS k) [] h N =
      L (.func (.func 14) ⟨[]⟩ ⟨[]⟩) (.string (if x.size < y.size then x else y)) (.slice (some ⟨i, 0, none⟩) n c) (nS n) (nS (k + 1)) [] h N := by
  unfold lp13_0
  simp only [iop_lss, obind_s, cnd_d]
  rw [if_pos (by omega), iadS_p hk, obind_s, ld1_c hi]
  have e : 0 + k * 1 = k := by omega
  rw [e, hx, obind_s, c14_eq, orun_s, jnR_eq, cnd_d]
  by_cases hab : x.size < y.size
  · rw [if_pos hab, if_pos hab]
    show obind (iop .add (nS k) _) _ = _
    rw [add1 (by omega), obind_s]
  · rw [if_neg hab, if_neg hab]
    show obind (iop .add (nS k) _) _ = _
    rw [add1 (by omega), obind_s]
theorem end13 (L : C5) (f y s : Value) (N n : Nat) (h : Tr Ob) : lp13_0 c14 L f y s (nS n) (nS n) [] h N = some (y, h, N) := by
  unfold lp13_0
  simp only [iop_lss, obind_s, cnd_d]
  rw [if_neg (by omega), unmark_nil, obind_s]
theorem first13 (a b : ByteArray) (i T c N : Nat) (h : Tr Ob) (hi : h.get i = some (.c [.string a, .string b] T)) : s13 c14 (.slice (some ⟨i, 0, none⟩) 2 c) (.func (.func 14) ⟨[]⟩ ⟨[]⟩) h N = some (.string (if b.size < a.size then b else a), h, N) := by
  rw [s13_eq]
  have hz : (Value.int .i64 (.ofNat 0)) = nS 0 := rfl
  rw [hz, iadS_p (by omega), obind_s, ld1_c hi]
  show obind (some (Value.string a)) _ = _
  rw [obind_s, lenS_s, obind_s, lpR_eq]
  have e : rounds = 999997 + 1 + 1 + 1 := rfl
  rw [e, lpN_succ, step13 _ a a i T c N 2 0 _ h hi rfl (by omega) (by omega), lpN_succ, step13 _ b _ i T c N 2 1 _ h hi rfl (by omega) (by omega), lpN_succ, end13]
  rw [if_neg (by omega : ¬ a.size < a.size)]
noncomputable def nx11 (L : C6) : C6 := fun v29 v30 v31 v32 v33 v34 d35 h36 N37 => obind (iop .add v34 (.int .i64 (.ofNat 1))) fun v38 => L v29 v30 v31 v32 v33 v38 d35 h36 N37
theorem outer11 (L : C6) (a b : ByteArray) (r m sh e x N : Nat) (h : Tr Ob) (c1 : Value) (hm : h.get m = some (.c [nS x, c1] 37)) (he : e < 2) (hx : x ≤ sh) (hsh : sh < 1000000) :
    lp11_1 L (.string a) (.string b) (pS r) (pS m) (nS sh) (nS e) [] h N =
      lpN (fun v43 v44 v45 v46 v47 v48 v49 v50 v51 d52 h53 N54 => none) (lp11_0 (nx11 L)) rounds (.string a) (.string b) (pS r) (pS m) (nS sh) (nS e) (nS e) (nS (sh - x)) (nS 0) [] h N := by
  unfold lp11_1
  have hz : (Value.int .i64 (.ofNat 0)) = nS 0 := rfl
  have h2 : (Value.int .i64 (.ofNat 2)) = nS 2 := rfl
  rw [h2]
  simp only [iop_lss, obind_s, cnd_d]
  rw [if_pos (by omega), jnR_eq, hz, iA m 0 (by omega), obind_s, ld1_c hm]
  show obind (some (nS x)) _ = _
  rw [obind_s, iop_sub (by constructor <;> omega), obind_s]
  have e3 : ((sh : Int) - (x : Int)) = ((sh - x : Nat) : Int) := by omega
  rw [e3, lpR_eq]
  rfl
theorem exit11 (L : C6) (a b : ByteArray) (r m sh x y N : Nat) (h : Tr Ob) (c0 c1 : Value) (hm : h.get m = some (.c [nS x, nS y] 37)) (hr : h.get r = some (.c [c0, c1] 37)) (hmr : r ≠ m) :
    ∃ h', lp11_1 L (.string a) (.string b) (pS r) (pS m) (nS sh) (nS 2) [] h N = some (.agg ⟨[nS x, nS y]⟩, h', N) := by
  unfold lp11_1
  have h2 : (Value.int .i64 (.ofNat 2)) = nS 2 := rfl
  rw [h2]
  simp only [iop_lss, obind_s, cnd_d]
  rw [if_neg (by omega), ldN_c hm (by simp), obind_s]
  have e : Value.agg ⟨(([nS x, nS y] : List Value).drop 0).take 2⟩ = .agg ⟨[nS x, nS y]⟩ := rfl
  rw [e, sto_c (v := .agg ⟨[nS x, nS y]⟩) (m := 2) hr rfl rfl (by simp), obind_s, unmark_nil, obind_s]
  have e2 : lay [c0, c1] (cel (.agg ⟨[nS x, nS y]⟩)) 0 = [nS x, nS y] := rfl
  rw [e2, ldN_c (T := 37) (xs := [nS x, nS y]) (by rw [Tr.get_same]) (by simp), obind_s]
  exact ⟨_, rfl⟩
/-- The function itself. -/
theorem common11 (a b : ByteArray) (hA : a.size < 1000000) (hB : b.size < 1000000) : ∃ h' N', s11 c14 (.string a) (.string b) .nil 0 = some (.agg ⟨[nS (atF a b), nS (atB a b)]⟩, h', N') := by
  rw [s11_eq]
  simp only [fN_eq]
  have e1 : ∀ h N, evBuildSlice Pr 40 2 [(0, .string a), (1, .string b)] h N = some (.slice (some ⟨N, 0, none⟩) 2 2, h.set (some (.c [.string a, .string b] 9)) N, Nat.succ N) := fun h N => by rfl
  rw [e1, orun_s, first13 a b 2 9 2 3 _ (by rw [Tr.get_same]), orun_s, evLen_str u9, obind_s, lpR_eq]
  generalize hs : (if b.size < a.size then b else a).size = sh
  have hsh : sh = min a.size b.size := by rw [← hs]; split <;> omega
  have hz : (Value.int .i64 (.ofNat 0)) = nS 0 := rfl
  rw [hz]
  generalize hh : Tr.set (Tr.set (Tr.set (Tr.nil : Tr Ob) (some (.c [nS 0, nS 0] 37)) 0) (some (.c [nS 0, nS 0] 37)) (Nat.succ 0)) (some (.c [.string a, .string b] 9)) (Nat.succ (Nat.succ 0)) = h0
  have g1 : h0.get 1 = some (.c [nS 0, nS 0] 37) := by rw [← hh, Tr.get_other _ _ (by decide), Tr.get_same]
  have g0 : h0.get 0 = some (.c [nS 0, nS 0] 37) := by rw [← hh, Tr.get_other _ _ (by decide), Tr.get_other _ _ (by decide), Tr.get_same]
  have e : rounds = 999997 + 1 + 1 + 1 := rfl
  rw [e, lpN_succ, outer11 _ a b 0 1 sh 0 0 3 h0 _ g1 (by omega) (by omega) (by omega)]
  obtain ⟨h1, q1, q2, q3⟩ := inner0 (nx11 (lpN (fun v9 v10 v11 v12 v13 v14 d15 h16 N17 => none) lp11_1 (999997 + 1 + 1))) a b 0 1 sh (sh - 0) 3 (nS 0) (by omega) (by omega) (by omega) [] (fun v43 v44 v45 v46 v47 v48 v49 v50 v51 d52 h53 N54 => none) (sh - 0) 0 h0 rounds (by omega) (by show _ < 1000000; omega) g1
  rw [q1]
  have hat : adv (fun i => bt a i == bt b i) (sh - 0) 0 = atF a b := by rw [hsh]; rfl
  rw [hat] at q2
  have hle : atF a b ≤ sh := by rw [hsh]; have := (adv_le (fun i => bt a i == bt b i) (min a.size b.size) 0).2; unfold atF; omega
  show ∃ h' N', obind (iop .add (nS 0) _) _ = _
  rw [add1 (by omega), obind_s, lpN_succ, outer11 _ a b 0 1 sh 1 (atF a b) 3 h1 _ q2 (by omega) hle (by omega)]
  obtain ⟨h2, r1, r2, r3⟩ := inner1 (nx11 (lpN (fun v9 v10 v11 v12 v13 v14 d15 h16 N17 => none) lp11_1 (999997 + 1))) a b 0 1 sh (sh - atF a b) 3 (nS (atF a b)) (by omega) (by omega) hA hB [] (fun v43 v44 v45 v46 v47 v48 v49 v50 v51 d52 h53 N54 => none) (sh - atF a b) 0 h1 rounds (by omega) (by show _ < 1000000; omega) q2
  rw [r1]
  have hab : adv (fun i => bt a (a.size - 1 - i) == bt b (b.size - 1 - i)) (sh - atF a b) 0 = atB a b := by rw [hsh]; rfl
  rw [hab] at r2
  show ∃ h' N', obind (iop .add (nS 1) _) _ = _
  rw [add1 (by omega), obind_s, lpN_succ]
  obtain ⟨h3, p1⟩ := exit11 (lpN (fun v9 v10 v11 v12 v13 v14 d15 h16 N17 => none) lp11_1 999997) a b 0 1 sh (atF a b) (atB a b) 3 h2 _ _ r2 (by rw [r3 0 (by decide), q3 0 (by decide)]; exact g0) (by decide)
  exact ⟨h3, 3, p1⟩
noncomputable def g11 (args : List Value) : Option Value :=
  match args with
  | [.string a, .string b] => if a.size < 1000000 ∧ b.size < 1000000 then some (.agg ⟨[nS (atF a b), nS (atB a b)]⟩) else none
  | _ => none
noncomputable def G11 : Ev.Fs := fun _ args h N => obind (g11 args) fun v => some (v, h, N)
theorem p11 : FOk Pr 11 G11 := FOk.pureF o11 c14_ok ⟨_, rfl, rfl, rfl⟩ g11 (by
  intro args v hv
  unfold g11 at hv
  split at hv
  · rename_i a b
    split at hv
    · rename_i hs
      cases hv
      exact ⟨by intro x hx; simp only [List.mem_cons, List.not_mem_nil, or_false] at hx; rcases hx with rfl | rfl <;> rfl, rfl, common11 a b hs.1 hs.2⟩
    · cases hv
  · cases hv)
end Go.Proofs.Ytiidfcnggkiapac
end

section
namespace Go.Proofs.Ytiidfcnggkiapac
open Go.Ev Go.RowKit
set_option linter.unusedVariables false
set_option linter.unusedSimpArgs false
set_option maxRecDepth 100000
set_option maxHeartbeats 4000000
noncomputable abbrev t11 (call : CallF) (a0 a1 : Value) (h : Tr Ob) (N : Nat) : OpR := G11 call [a0, a1] h N
noncomputable abbrev t12 (call : CallF) (a0 : Value) (h : Tr Ob) (N : Nat) : OpR := F12 call [a0] h N
/- function 10 -/
noncomputable def st10 : Ev.St := [(12, F12)]
noncomputable def s10 (call : CallF) (a0 : Value) (h : Tr Ob) (N : Nat) : OpR :=
  (orun (t12 call a0 h N) (fun v0 h1 N2 => (some (v0, (h1, N2)))))
noncomputable def F10 : Ev.Fs := fun call args h N => ar1 args fun a0 => s10 call a0 h N
theorem o10 : FOk Pr 10 F10 := ar1_ok (F := cFn Pr st10 10 .n) (s := s10) (fun call a0 h N => by kernel_rfl) (cFn_ok hmix (st := st10) (StOk.cons o12 StOk.nil) 10 .n)
/- function 8 -/
noncomputable def st8 : Ev.St := [(11, G11), (10, F10)]
noncomputable def s8 (call : CallF) (a0 a1 : Value) (h : Tr Ob) (N : Nat) : OpR :=
  (fN (.succ N) (fun N0 => (orun (t11 call a0 a1 (Tr.set h (some (.c [(.int .i64 (.ofNat 0)), (.int .i64 (.ofNat 0)), (.string ({ data := { toList := [] } }))] 23)) N) N0) (fun v1 h2 N3 => (fN (.succ N3) (fun N4 => (obind (Ev.sto 2 (.pointer (some ⟨N3, 0, none⟩)) v1 (Tr.set h2 (some (.c [(.int .i64 (.ofNat 0)), (.int .i64 (.ofNat 0))] 37)) N3)) (fun h5 => (obind (Ev.iadA 2 1 (.pointer (some ⟨N3, 0, none⟩)) (.int .i64 (.ofNat 0))) (fun v6 => (obind (Ev.ld1 h5 v6) (fun v7 => (obind (Ev.evLen Pr .nil 9 a0) (fun v8 => (obind (Ev.iadA 2 1 (.pointer (some ⟨N3, 0, none⟩)) (.int .i64 (.ofNat 1))) (fun v9 => (obind (Ev.ld1 h5 v9) (fun v10 => (obind (Ev.iop .sub v8 v10) (fun v11 => (obind (Ev.iop .sub v11 v7) (fun v12 => (obind (Ev.evLen Pr .nil 9 a1) (fun v13 => (obind (Ev.iadA 2 1 (.pointer (some ⟨N3, 0, none⟩)) (.int .i64 (.ofNat 1))) (fun v14 => (obind (Ev.ld1 h5 v14) (fun v15 => (obind (Ev.iop .sub v13 v15) (fun v16 => (obind (Ev.evSlice Pr 9 a1 (some v7) (some v16) none) (fun v17 => (ocond (Ev.agL1 h5 v14 v15) (ocond (Ev.agL1 h5 v9 v10) (orun (s10 call v17 h5 N4) (fun v18 h19 N20 => (obind (Ev.evBuild Pr 23 [(0, v7), (1, v12), (2, v18)]) (fun v21 => (ocond (Ev.again Pr h19 (.mk 17 (.mk (some 29) (.build 23 ⟨[(0, (.tmp 12)), (1, (.tmp 19)), (2, (.tmp 28))]⟩) 23 "patch.go:46" ⟨[(.mk 0 .data), (.mk 7 .data), (.mk 16 .data)]⟩ none) (Tr.set (Tr.set (Tr.set (.e 32) (some v18) 28) (some v12) 19) (some v7) 12) v21 N20 false)) (ocond (Ev.agL1 h19 v9 v10) (obind (Ev.sto 3 (.pointer (some ⟨N, 0, none⟩)) v21 h19) (fun h22 => (obind (Ev.ldN 3 h22 (.pointer (some ⟨N, 0, none⟩))) (fun v23 => (some (v23, (h22, N20)))))))))))))))))))))))))))))))))))))))))))))))
noncomputable def F8 : Ev.Fs := fun call args h N => ar2 args fun a0 a1 => s8 call a0 a1 h N
theorem o8 : FOk Pr 8 F8 := ar2_ok (F := cFn Pr st8 8 .n) (s := s8) (fun call a0 a1 h N => by kernel_rfl) (cFn_ok hmix (st := st8) (StOk.cons p11 (StOk.cons o10 StOk.nil)) 8 .n)
/- function 4 -/
noncomputable def st4 : Ev.St := [(8, F8)]
noncomputable def s4 (call : CallF) (a0 a1 : Value) (h : Tr Ob) (N : Nat) : OpR :=
  (fN (.succ N) (fun N0 => (obind (Ev.evLen Pr (Tr.set h (some (.c [(.int .i64 (.ofNat 0)), (.int .i64 (.ofNat 0)), (.string ({ data := { toList := [] } }))] 23)) N) 9 a0) (fun v1 => (obind (Ev.evLen Pr (Tr.set h (some (.c [(.int .i64 (.ofNat 0)), (.int .i64 (.ofNat 0)), (.string ({ data := { toList := [] } }))] 23)) N) 9 a1) (fun v2 => (obind (Ev.mxV Pr ⟨[3, 3]⟩ 3 [v1, v2]) (fun v3 => (obind (Ev.iop .gtr v3 (.int .i64 (.ofNat 960))) (fun v4 => (Ev.cnd v4 (obind (Ev.sto 3 (.pointer (some ⟨N, 0, none⟩)) (.agg ⟨[(.int .i64 (.ofNat 0)), (.int .i64 (.ofNat 0)), (.string ({ data := { toList := [] } }))]⟩) (Tr.set h (some (.c [(.int .i64 (.ofNat 0)), (.int .i64 (.ofNat 0)), (.string ({ data := { toList := [] } }))] 23)) N)) (fun h5 => (obind (Ev.ldN 3 h5 (.pointer (some ⟨N, 0, none⟩))) (fun v6 => (some ((.tuple ⟨[v6, (.int .i64 (.ofNat 113))]⟩), (h5, N0))))))) (orun (s8 call a0 a1 (Tr.set h (some (.c [(.int .i64 (.ofNat 0)), (.int .i64 (.ofNat 0)), (.string ({ data := { toList := [] } }))] 23)) N) N0) (fun v7 h8 N9 => (obind (Ev.sto 3 (.pointer (some ⟨N, 0, none⟩)) v7 h8) (fun h10 => (obind (Ev.ldN 3 h10 (.pointer (some ⟨N, 0, none⟩))) (fun v11 => (some ((.tuple ⟨[v11, (.int .i64 (.ofNat 0))]⟩), (h10, N9))))))))))))))))))))
noncomputable def F4 : Ev.Fs := fun call args h N => ar2 args fun a0 a1 => s4 call a0 a1 h N
theorem o4 : FOk Pr 4 F4 := ar2_ok (F := cFn Pr st4 4 .n) (s := s4) (fun call a0 a1 h N => by kernel_rfl) (cFn_ok hmix (st := st4) (StOk.cons o8 StOk.nil) 4 .n)
/- function 5 -/
noncomputable def st5 : Ev.St := []
noncomputable def s5 (call : CallF) (a0 a1 : Value) (h : Tr Ob) (N : Nat) : OpR :=
  (fN (.succ N) (fun N0 => (obind (Ev.evLen Pr (Tr.set h (some (.c [(.int .i64 (.ofNat 0)), (.int .i64 (.ofNat 0)), (.string ({ data := { toList := [] } }))] 23)) N) 9 a0) (fun v1 => (obind (Ev.iop .gtr v1 (.int .i64 (.ofNat 960))) (fun v2 => (obind (Ev.wntV v2 false) (fun v3 => (orun (Bool.rec (motive := fun _ => OpR) (some ((.tuple ⟨[]⟩), ((Tr.set h (some (.c [(.int .i64 (.ofNat 0)), (.int .i64 (.ofNat 0)), (.string ({ data := { toList := [] } }))] 23)) N), N0))) (some (a1, ((Tr.set h (some (.c [(.int .i64 (.ofNat 0)), (.int .i64 (.ofNat 0)), (.string ({ data := { toList := [] } }))] 23)) N), N0))) v3) (fun v4 h5 N6 => (obind (Ev.wntV v2 false) (fun v7 => (orun (Bool.rec (motive := fun _ => OpR) (some ((.tuple ⟨[]⟩), (h5, N6))) (obind (Ev.evLen Pr h5 9 v4) (fun v8 => (some (v8, (h5, N6))))) v7) (fun v9 h10 N11 => (obind (Ev.wntV v2 false) (fun v12 => (orun (Bool.rec (motive := fun _ => OpR) (some ((.tuple ⟨[]⟩), (h10, N11))) (obind (Ev.iop .gtr v9 (.int .i64 (.ofNat 960))) (fun v13 => (some (v13, (h10, N11))))) v12) (fun v14 h15 N16 => (obind (Ev.pck v2 (some (.bool true)) (some v14)) (fun v17 => (Ev.cnd v17 (obind (Ev.sto 3 (.pointer (some ⟨N, 0, none⟩)) (.agg ⟨[(.int .i64 (.ofNat 0)), (.int .i64 (.ofNat 0)), (.string ({ data := { toList := [] } }))]⟩) h15) (fun h18 => (obind (Ev.ldN 3 h18 (.pointer (some ⟨N, 0, none⟩))) (fun v19 => (some ((.tuple ⟨[v19, (.int .i64 (.ofNat 113))]⟩), (h18, N16))))))) (lpR (α := C4) (fun v20 v21 v22 v23 d24 h25 N26 => none) (fun g27 v28 v29 v30 v31 d32 h33 N34 => (obind (Ev.evLen Pr .nil 9 v28) (fun v35 => (obind (Ev.iop .lss v31 v35) (fun v36 => (obind (Ev.wntV v36 true) (fun v37 => (orun (Bool.rec (motive := fun _ => OpR) (some ((.tuple ⟨[]⟩), (h33, N34))) (some (v31, (h33, N34))) v37) (fun v38 h39 N40 => (obind (Ev.wntV v36 true) (fun v41 => (orun (Bool.rec (motive := fun _ => OpR) (some ((.tuple ⟨[]⟩), (h39, N40))) (some (v29, (h39, N40))) v41) (fun v42 h43 N44 => (obind (Ev.wntV v36 true) (fun v45 => (orun (Bool.rec (motive := fun _ => OpR) (some ((.tuple ⟨[]⟩), (h43, N44))) (obind (Ev.evLen Pr .nil 9 v42) (fun v46 => (some (v46, (h43, N44))))) v45) (fun v47 h48 N49 => (obind (Ev.wntV v36 true) (fun v50 => (orun (Bool.rec (motive := fun _ => OpR) (some ((.tuple ⟨[]⟩), (h48, N49))) (obind (Ev.iop .lss v38 v47) (fun v51 => (some (v51, (h48, N49))))) v50) (fun v52 h53 N54 => (obind (Ev.pck v36 (some v52) (some (.bool false))) (fun v55 => (obind (Ev.wntV v55 true) (fun v56 => (orun (Bool.rec (motive := fun _ => OpR) (some ((.tuple ⟨[]⟩), (h53, N54))) (some (v28, (h53, N54))) v56) (fun v57 h58 N59 => (obind (Ev.wntV v55 true) (fun v60 => (orun (Bool.rec (motive := fun _ => OpR) (some ((.tuple ⟨[]⟩), (h58, N59))) (some (v31, (h58, N59))) v60) (fun v61 h62 N63 => (obind (Ev.wntV v55 true) (fun v64 => (orun (Bool.rec (motive := fun _ => OpR) (some ((.tuple ⟨[]⟩), (h62, N63))) (obind (Ev.evIdx Pr 9 v57 v61) (fun v65 => (some (v65, (h62, N63))))) v64) (fun v66 h67 N68 => (obind (Ev.wntV v55 true) (fun v69 => (orun (Bool.rec (motive := fun _ => OpR) (some ((.tuple ⟨[]⟩), (h67, N68))) (some (v29, (h67, N68))) v69) (fun v70 h71 N72 => (obind (Ev.wntV v55 true) (fun v73 => (orun (Bool.rec (motive := fun _ => OpR) (some ((.tuple ⟨[]⟩), (h71, N72))) (some (v31, (h71, N72))) v73) (fun v74 h75 N76 => (obind (Ev.wntV v55 true) (fun v77 => (orun (Bool.rec (motive := fun _ => OpR) (some ((.tuple ⟨[]⟩), (h75, N76))) (obind (Ev.evIdx Pr 9 v70 v74) (fun v78 => (some (v78, (h75, N76))))) v77) (fun v79 h80 N81 => (obind (Ev.wntV v55 true) (fun v82 => (orun (Bool.rec (motive := fun _ => OpR) (some ((.tuple ⟨[]⟩), (h80, N81))) (obind (Ev.evBin Pr .eql 5 (.tmp 31) (.tmp 34) v66 v79) (fun v83 => (some (v83, (h80, N81))))) v82) (fun v84 h85 N86 => (obind (Ev.pck v55 (some v84) (some (.bool false))) (fun v87 => (Ev.cnd v87 (obind (Ev.iop .add v31 (.int .i64 (.ofNat 1))) (fun v88 => (g27 v28 v29 v30 v88 d32 h85 N86))) (obind (Ev.evLen Pr h85 9 v28) (fun v89 => (obind (Ev.evLen Pr h85 9 v29) (fun v90 => (lpR (α := C6) (fun v91 v92 v93 v94 v95 v96 d97 h98 N99 => none) (fun g100 v101 v102 v103 v104 v105 v106 d107 h108 N109 => (obind (Ev.iop .gtr v105 v104) (fun v110 => (obind (Ev.wntV v110 true) (fun v111 => (orun (Bool.rec (motive := fun _ => OpR) (some ((.tuple ⟨[]⟩), (h108, N109))) (some (v106, (h108, N109))) v111) (fun v112 h113 N114 => (obind (Ev.wntV v110 true) (fun v115 => (orun (Bool.rec (motive := fun _ => OpR) (some ((.tuple ⟨[]⟩), (h113, N114))) (some (v104, (h113, N114))) v115) (fun v116 h117 N118 => (obind (Ev.wntV v110 true) (fun v119 => (orun (Bool.rec (motive := fun _ => OpR) (some ((.tuple ⟨[]⟩), (h117, N118))) (obind (Ev.iop .gtr v112 v116) (fun v120 => (some (v120, (h117, N118))))) v119) (fun v121 h122 N123 => (obind (Ev.pck v110 (some v121) (some (.bool false))) (fun v124 => (obind (Ev.wntV v124 true) (fun v125 => (orun (Bool.rec (motive := fun _ => OpR) (some ((.tuple ⟨[]⟩), (h122, N123))) (some (v101, (h122, N123))) v125) (fun v126 h127 N128 => (obind (Ev.wntV v124 true) (fun v129 => (orun (Bool.rec (motive := fun _ => OpR) (some ((.tuple ⟨[]⟩), (h127, N128))) (some (v105, (h127, N128))) v129) (fun v130 h131 N132 => (obind (Ev.wntV v124 true) (fun v133 => (orun (Bool.rec (motive := fun _ => OpR) (some ((.tuple ⟨[]⟩), (h131, N132))) (obind (Ev.iop .sub v130 (.int .i64 (.ofNat 1))) (fun v134 => (some (v134, (h131, N132))))) v133) (fun v135 h136 N137 => (obind (Ev.wntV v124 true) (fun v138 => (orun (Bool.rec (motive := fun _ => OpR) (some ((.tuple ⟨[]⟩), (h136, N137))) (obind (Ev.evIdx Pr 9 v126 v135) (fun v139 => (some (v139, (h136, N137))))) v138) (fun v140 h141 N142 => (obind (Ev.wntV v124 true) (fun v143 => (orun (Bool.rec (motive := fun _ => OpR) (some ((.tuple ⟨[]⟩), (h141, N142))) (some (v102, (h141, N142))) v143) (fun v144 h145 N146 => (obind (Ev.wntV v124 true) (fun v147 => (orun (Bool.rec (motive := fun _ => OpR) (some ((.tuple ⟨[]⟩), (h145, N146))) (some (v106, (h145, N146))) v147) (fun v148 h149 N150 => (obind (Ev.wntV v124 true) (fun v151 => (orun (Bool.rec (motive := fun _ => OpR) (some ((.tuple ⟨[]⟩), (h149, N150))) (obind (Ev.iop .sub v148 (.int .i64 (.ofNat 1))) (fun v152 => (some (v152, (h149, N150))))) v151) (fun v153 h154 N155 => (obind (Ev.wntV v124 true) (fun v156 => (orun (Bool.rec (motive := fun _ => OpR) (some ((.tuple ⟨[]⟩), (h154, N155))) (obind (Ev.evIdx Pr 9 v144 v153) (fun v157 => (some (v157, (h154, N155))))) v156) (fun v158 h159 N160 => (obind (Ev.wntV v124 true) (fun v161 => (orun (Bool.rec (motive := fun _ => OpR) (some ((.tuple ⟨[]⟩), (h159, N160))) (obind (Ev.evBin Pr .eql 5 (.tmp 55) (.tmp 59) v140 v158) (fun v162 => (some (v162, (h159, N160))))) v161) (fun v163 h164 N165 => (obind (Ev.pck v124 (some v163) (some (.bool false))) (fun v166 => (Ev.cnd v166 (obind (Ev.iop .sub v105 (.int .i64 (.ofNat 1))) (fun v167 => (obind (Ev.iop .sub v106 (.int .i64 (.ofNat 1))) (fun v168 => (g100 v101 v102 v103 v104 v167 v168 d107 h164 N165))))) (obind (Ev.iop .sub v105 v104) (fun v169 => (obind (Ev.evSlice Pr 9 v102 (some v104) (some v106) none) (fun v170 => (obind (Ev.evBuild Pr 23 [(0, v104), (1, v169), (2, v170)]) (fun v171 => (obind (Ev.sto 3 v103 v171 h164) (fun h172 => (obind (Ev.unmark d107 h172) (fun h173 => (obind (Ev.ldN 3 h173 v103) (fun v174 => (some ((.tuple ⟨[v174, (.int .i64 (.ofNat 0))]⟩), (h173, N165))))))))))))))))))))))))))))))))))))))))))))))))))))))))))))))))))))))) v28 v29 v30 v31 v89 v90 d32 h85 N86))))))))))))))))))))))))))))))))))))))))))))))))))))))))))) a0 a1 (.pointer (some ⟨N, 0, none⟩)) (.int .i64 (.ofNat 0)) [] h15 N16))))))))))))))))))))))
noncomputable def F5 : Ev.Fs := fun call args h N => ar2 args fun a0 a1 => s5 call a0 a1 h N
theorem o5 : FOk Pr 5 F5 := ar2_ok (F := cFn Pr st5 5 (.s .n (.s .n (.s .n (.s (.s (.j [0, 1, 4, 6] .n .n) .n) (.s .n (.s (.s (.j [0, 1, 4, 6, 7, 8] .n .n) .n) .n))))))) (s := s5) (fun call a0 a1 h N => by kernel_rfl) (cFn_ok hmix (st := st5) StOk.nil 5 (.s .n (.s .n (.s .n (.s (.s (.j [0, 1, 4, 6] .n .n) .n) (.s .n (.s (.s (.j [0, 1, 4, 6, 7, 8] .n .n) .n) .n)))))))
/- function 9 -/
noncomputable def st9 : Ev.St := []
noncomputable def s9 (call : CallF) (a0 a1 : Value) (h : Tr Ob) (N : Nat) : OpR :=
  (fN (.succ N) (fun N0 => (fN (.succ N0) (fun N1 => (obind (Ev.fad 0 (.pointer (some ⟨N, 0, none⟩))) (fun v2 => (obind (Ev.ld1 (Tr.set (Tr.set h (some (.c (Ev.cel a0) 23)) N) (some (.c [(.int .i64 (.ofNat 0)), (.int .i64 (.ofNat 0)), (.string ({ data := { toList := [] } }))] 23)) N0) v2) (fun v3 => (obind (Ev.mnV Pr ⟨[3, 3]⟩ 3 [v3, a1]) (fun v4 => (obind (Ev.mxV Pr ⟨[3, 3]⟩ 3 [(.int .i64 (.ofNat 0)), v4]) (fun v5 => (obind (Ev.fad 0 (.pointer (some ⟨N, 0, none⟩))) (fun v6 => (obind (Ev.sto 1 v6 v5 (Tr.set (Tr.set h (some (.c (Ev.cel a0) 23)) N) (some (.c [(.int .i64 (.ofNat 0)), (.int .i64 (.ofNat 0)), (.string ({ data := { toList := [] } }))] 23)) N0)) (fun h7 => (obind (Ev.fad 1 (.pointer (some ⟨N, 0, none⟩))) (fun v8 => (obind (Ev.ld1 h7 v8) (fun v9 => (obind (Ev.fad 0 (.pointer (some ⟨N, 0, none⟩))) (fun v10 => (obind (Ev.ld1 h7 v10) (fun v11 => (obind (Ev.iop .sub a1 v11) (fun v12 => (obind (Ev.mnV Pr ⟨[3, 3]⟩ 3 [v9, v12]) (fun v13 => (obind (Ev.mxV Pr ⟨[3, 3]⟩ 3 [(.int .i64 (.ofNat 0)), v13]) (fun v14 => (obind (Ev.fad 1 (.pointer (some ⟨N, 0, none⟩))) (fun v15 => (obind (Ev.sto 1 v15 v14 h7) (fun h16 => (obind (Ev.ldN 3 h16 (.pointer (some ⟨N, 0, none⟩))) (fun v17 => (obind (Ev.sto 3 (.pointer (some ⟨N0, 0, none⟩)) v17 h16) (fun h18 => (obind (Ev.ldN 3 h18 (.pointer (some ⟨N0, 0, none⟩))) (fun v19 => (some (v19, (h18, N1)))))))))))))))))))))))))))))))))))))))))))
noncomputable def F9 : Ev.Fs := fun call args h N => ar2 args fun a0 a1 => s9 call a0 a1 h N
theorem o9 : FOk Pr 9 F9 := ar2_ok (F := cFn Pr st9 9 .n) (s := s9) (fun call a0 a1 h N => by kernel_rfl) (cFn_ok hmix (st := st9) StOk.nil 9 .n)
/- function 6 -/
noncomputable def st6 : Ev.St := [(9, F9), (10, F10)]
noncomputable def s6 (call : CallF) (a0 a1 : Value) (h : Tr Ob) (N : Nat) : OpR :=
  (fN (.succ N) (fun N0 => (obind (Ev.evLen Pr (Tr.set h (some (.c (Ev.cel a1) 23)) N) 9 a0) (fun v1 => (obind (Ev.iop .gtr v1 (.int .i64 (.ofNat 960))) (fun v2 => (Ev.cnd v2 (some ((.tuple ⟨[(.string ({ data := { toList := [] } })), (.int .i64 (.ofNat 113))]⟩), ((Tr.set h (some (.c (Ev.cel a1) 23)) N), N0))) (obind (Ev.ldN 3 (Tr.set h (some (.c (Ev.cel a1) 23)) N) (.pointer (some ⟨N, 0, none⟩))) (fun v3 => (obind (Ev.ldN 3 (Tr.set h (some (.c (Ev.cel a1) 23)) N) (.pointer (some ⟨N, 0, none⟩))) (fun v4 => (obind (Ev.evLen Pr .nil 9 a0) (fun v5 => (ocond (Ev.agLN 3 (Tr.set h (some (.c (Ev.cel a1) 23)) N) (.pointer (some ⟨N, 0, none⟩)) v4) (ocond (Ev.agLN 3 (Tr.set h (some (.c (Ev.cel a1) 23)) N) (.pointer (some ⟨N, 0, none⟩)) v3) (orun (s9 call v4 v5 (Tr.set h (some (.c (Ev.cel a1) 23)) N) N0) (fun v6 h7 N8 => (obind (Ev.evBin Pr .neq 23 (.tmp 9) (.tmp 13) v3 v6) (fun v9 => (ocond (Ev.agLN 3 h7 (.pointer (some ⟨N, 0, none⟩)) v3) (Ev.cnd v9 (some ((.tuple ⟨[(.string ({ data := { toList := [] } })), (.int .i64 (.ofNat 116))]⟩), (h7, N8))) (obind (Ev.evLen Pr h7 9 a0) (fun v10 => (obind (Ev.fad 1 (.pointer (some ⟨N, 0, none⟩))) (fun v11 => (obind (Ev.ld1 h7 v11) (fun v12 => (obind (Ev.iop .sub v10 v12) (fun v13 => (obind (Ev.fad 2 (.pointer (some ⟨N, 0, none⟩))) (fun v14 => (obind (Ev.ld1 h7 v14) (fun v15 => (obind (Ev.evLen Pr h7 9 v15) (fun v16 => (obind (Ev.iop .add v13 v16) (fun v17 => (obind (Ev.iop .gtr v17 (.int .i64 (.ofNat 960))) (fun v18 => (Ev.cnd v18 (some ((.tuple ⟨[(.string ({ data := { toList := [] } })), (.int .i64 (.ofNat 113))]⟩), (h7, N8))) (obind (Ev.fad 0 (.pointer (some ⟨N, 0, none⟩))) (fun v19 => (obind (Ev.ld1 h7 v19) (fun v20 => (obind (Ev.evSlice Pr 9 a0 none (some v20) none) (fun v21 => (obind (Ev.fad 2 (.pointer (some ⟨N, 0, none⟩))) (fun v22 => (obind (Ev.ld1 h7 v22) (fun v23 => (obind (Ev.evBin Pr .add 9 (.tmp 28) (.tmp 30) v21 v23) (fun v24 => (obind (Ev.fad 0 (.pointer (some ⟨N, 0, none⟩))) (fun v25 => (obind (Ev.ld1 h7 v25) (fun v26 => (obind (Ev.fad 1 (.pointer (some ⟨N, 0, none⟩))) (fun v27 => (obind (Ev.ld1 h7 v27) (fun v28 => (obind (Ev.iop .add v26 v28) (fun v29 => (obind (Ev.evSlice Pr 9 a0 (some v29) none none) (fun v30 => (obind (Ev.evBin Pr .add 9 (.tmp 31) (.tmp 38) v24 v30) (fun v31 => (ocond (Ev.agL1 h7 v27 v28) (ocond (Ev.agL1 h7 v25 v26) (ocond (Ev.agL1 h7 v22 v23) (ocond (Ev.agL1 h7 v19 v20) (orun (s10 call v31 h7 N8) (fun v32 h33 N34 => (some ((.tuple ⟨[v32, (.int .i64 (.ofNat 0))]⟩), (h33, N34)))))))))))))))))))))))))))))))))))))))))))))))))))))))))))))))))))))))))))
noncomputable def F6 : Ev.Fs := fun call args h N => ar2 args fun a0 a1 => s6 call a0 a1 h N
theorem o6 : FOk Pr 6 F6 := ar2_ok (F := cFn Pr st6 6 .n) (s := s6) (fun call a0 a1 h N => by kernel_rfl) (cFn_ok hmix (st := st6) (StOk.cons o9 (StOk.cons o10 StOk.nil)) 6 .n)
/- function 7 -/
noncomputable def st7 : Ev.St := []
noncomputable def s7 (call : CallF) (a0 a1 : Value) (h : Tr Ob) (N : Nat) : OpR :=
  (fN (.succ N) (fun N0 => (obind (Ev.evLen Pr (Tr.set h (some (.c (Ev.cel a1) 23)) N) 9 a0) (fun v1 => (obind (Ev.iop .gtr v1 (.int .i64 (.ofNat 960))) (fun v2 => (Ev.cnd v2 (some ((.tuple ⟨[(.string ({ data := { toList := [] } })), (.int .i64 (.ofNat 113))]⟩), ((Tr.set h (some (.c (Ev.cel a1) 23)) N), N0))) (obind (Ev.fad 0 (.pointer (some ⟨N, 0, none⟩))) (fun v3 => (obind (Ev.ld1 (Tr.set h (some (.c (Ev.cel a1) 23)) N) v3) (fun v4 => (obind (Ev.iop .lss v4 (.int .i64 (.ofNat 0))) (fun v5 => (obind (Ev.wntV v5 false) (fun v6 => (orun (Bool.rec (motive := fun _ => OpR) (some ((.tuple ⟨[]⟩), ((Tr.set h (some (.c (Ev.cel a1) 23)) N), N0))) (obind (Ev.fad 0 (.pointer (some ⟨N, 0, none⟩))) (fun v7 => (some (v7, ((Tr.set h (some (.c (Ev.cel a1) 23)) N), N0))))) v6) (fun v8 h9 N10 => (obind (Ev.wntV v5 false) (fun v11 => (orun (Bool.rec (motive := fun _ => OpR) (some ((.tuple ⟨[]⟩), (h9, N10))) (obind (Ev.ld1 h9 v8) (fun v12 => (some (v12, (h9, N10))))) v11) (fun v13 h14 N15 => (obind (Ev.wntV v5 false) (fun v16 => (orun (Bool.rec (motive := fun _ => OpR) (some ((.tuple ⟨[]⟩), (h14, N15))) (some (a0, (h14, N15))) v16) (fun v17 h18 N19 => (obind (Ev.wntV v5 false) (fun v20 => (orun (Bool.rec (motive := fun _ => OpR) (some ((.tuple ⟨[]⟩), (h18, N19))) (obind (Ev.evLen Pr h18 9 v17) (fun v21 => (some (v21, (h18, N19))))) v20) (fun v22 h23 N24 => (obind (Ev.wntV v5 false) (fun v25 => (orun (Bool.rec (motive := fun _ => OpR) (some ((.tuple ⟨[]⟩), (h23, N24))) (obind (Ev.iop .gtr v13 v22) (fun v26 => (some (v26, (h23, N24))))) v25) (fun v27 h28 N29 => (obind (Ev.pck v5 (some (.bool true)) (some v27)) (fun v30 => (obind (Ev.wntV v30 false) (fun v31 => (orun (Bool.rec (motive := fun _ => OpR) (some ((.tuple ⟨[]⟩), (h28, N29))) (obind (Ev.fad 1 (.pointer (some ⟨N, 0, none⟩))) (fun v32 => (some (v32, (h28, N29))))) v31) (fun v33 h34 N35 => (obind (Ev.wntV v30 false) (fun v36 => (orun (Bool.rec (motive := fun _ => OpR) (some ((.tuple ⟨[]⟩), (h34, N35))) (obind (Ev.ld1 h34 v33) (fun v37 => (some (v37, (h34, N35))))) v36) (fun v38 h39 N40 => (obind (Ev.wntV v30 false) (fun v41 => (orun (Bool.rec (motive := fun _ => OpR) (some ((.tuple ⟨[]⟩), (h39, N40))) (obind (Ev.iop .lss v38 (.int .i64 (.ofNat 0))) (fun v42 => (some (v42, (h39, N40))))) v41) (fun v43 h44 N45 => (obind (Ev.pck v30 (some (.bool true)) (some v43)) (fun v46 => (obind (Ev.wntV v46 false) (fun v47 => (orun (Bool.rec (motive := fun _ => OpR) (some ((.tuple ⟨[]⟩), (h44, N45))) (obind (Ev.fad 1 (.pointer (some ⟨N, 0, none⟩))) (fun v48 => (some (v48, (h44, N45))))) v47) (fun v49 h50 N51 => (obind (Ev.wntV v46 false) (fun v52 => (orun (Bool.rec (motive := fun _ => OpR) (some ((.tuple ⟨[]⟩), (h50, N51))) (obind (Ev.ld1 h50 v49) (fun v53 => (some (v53, (h50, N51))))) v52) (fun v54 h55 N56 => (obind (Ev.wntV v46 false) (fun v57 => (orun (Bool.rec (motive := fun _ => OpR) (some ((.tuple ⟨[]⟩), (h55, N56))) (some (a0, (h55, N56))) v57) (fun v58 h59 N60 => (obind (Ev.wntV v46 false) (fun v61 => (orun (Bool.rec (motive := fun _ => OpR) (some ((.tuple ⟨[]⟩), (h59, N60))) (obind (Ev.evLen Pr h59 9 v58) (fun v62 => (some (v62, (h59, N60))))) v61) (fun v63 h64 N65 => (obind (Ev.wntV v46 false) (fun v66 => (orun (Bool.rec (motive := fun _ => OpR) (some ((.tuple ⟨[]⟩), (h64, N65))) (obind (Ev.fad 0 (.pointer (some ⟨N, 0, none⟩))) (fun v67 => (some (v67, (h64, N65))))) v66) (fun v68 h69 N70 => (obind (Ev.wntV v46 false) (fun v71 => (orun (Bool.rec (motive := fun _ => OpR) (some ((.tuple ⟨[]⟩), (h69, N70))) (obind (Ev.ld1 h69 v68) (fun v72 => (some (v72, (h69, N70))))) v71) (fun v73 h74 N75 => (obind (Ev.wntV v46 false) (fun v76 => (orun (Bool.rec (motive := fun _ => OpR) (some ((.tuple ⟨[]⟩), (h74, N75))) (obind (Ev.iop .sub v63 v73) (fun v77 => (some (v77, (h74, N75))))) v76) (fun v78 h79 N80 => (obind (Ev.wntV v46 false) (fun v81 => (orun (Bool.rec (motive := fun _ => OpR) (some ((.tuple ⟨[]⟩), (h79, N80))) (obind (Ev.iop .gtr v54 v78) (fun v82 => (some (v82, (h79, N80))))) v81) (fun v83 h84 N85 => (obind (Ev.pck v46 (some (.bool true)) (some v83)) (fun v86 => (Ev.cnd v86 (some ((.tuple ⟨[(.string ({ data := { toList := [] } })), (.int .i64 (.ofNat 116))]⟩), (h84, N85))) (obind (Ev.evLen Pr h84 9 a0) (fun v87 => (obind (Ev.fad 1 (.pointer (some ⟨N, 0, none⟩))) (fun v88 => (obind (Ev.ld1 h84 v88) (fun v89 => (obind (Ev.iop .sub v87 v89) (fun v90 => (obind (Ev.fad 2 (.pointer (some ⟨N, 0, none⟩))) (fun v91 => (obind (Ev.ld1 h84 v91) (fun v92 => (obind (Ev.evLen Pr h84 9 v92) (fun v93 => (obind (Ev.iop .add v90 v93) (fun v94 => (obind (Ev.iop .gtr v94 (.int .i64 (.ofNat 960))) (fun v95 => (Ev.cnd v95 (some ((.tuple ⟨[(.string ({ data := { toList := [] } })), (.int .i64 (.ofNat 113))]⟩), (h84, N85))) (obind (Ev.fad 0 (.pointer (some ⟨N, 0, none⟩))) (fun v96 => (obind (Ev.ld1 h84 v96) (fun v97 => (obind (Ev.evSlice Pr 9 a0 none (some v97) none) (fun v98 => (obind (Ev.fad 2 (.pointer (some ⟨N, 0, none⟩))) (fun v99 => (obind (Ev.ld1 h84 v99) (fun v100 => (obind (Ev.evBin Pr .add 9 (.tmp 47) (.tmp 49) v98 v100) (fun v101 => (obind (Ev.fad 0 (.pointer (some ⟨N, 0, none⟩))) (fun v102 => (obind (Ev.ld1 h84 v102) (fun v103 => (obind (Ev.fad 1 (.pointer (some ⟨N, 0, none⟩))) (fun v104 => (obind (Ev.ld1 h84 v104) (fun v105 => (obind (Ev.iop .add v103 v105) (fun v106 => (obind (Ev.evSlice Pr 9 a0 (some v106) none none) (fun v107 => (obind (Ev.evBin Pr .add 9 (.tmp 50) (.tmp 57) v101 v107) (fun v108 => (ocond (Ev.agL1 h84 v104 v105) (ocond (Ev.agL1 h84 v102 v103) (ocond (Ev.agL1 h84 v99 v100) (ocond (Ev.agL1 h84 v96 v97) (some ((.tuple ⟨[v108, (.int .i64 (.ofNat 0))]⟩), (h84, N85))))))))))))))))))))))))))))))))))))))))))))))))))))))))))))))))))))))))))))))))))))))))))))))))))))))))))))))))))))))))))))))))))))))))
noncomputable def F7 : Ev.Fs := fun call args h N => ar2 args fun a0 a1 => s7 call a0 a1 h N
theorem o7 : FOk Pr 7 F7 := ar2_ok (F := cFn Pr st7 7 .n) (s := s7) (fun call a0 a1 h N => by kernel_rfl) (cFn_ok hmix (st := st7) StOk.nil 7 .n)
/- function 3 -/
noncomputable def st3 : Ev.St := [(4, F4), (5, F5), (6, F6), (7, F7)]
noncomputable def s3 (call : CallF) (a0 a1 a2 : Value) (h : Tr Ob) (N : Nat) : OpR :=
  (fN (.succ N) (fun N0 => (obind (Ev.evLen Pr (Tr.set h (some (.c (Ev.cel a2) 23)) N) 9 a0) (fun v1 => (obind (Ev.iop .gtr v1 (.int .i64 (.ofNat 2000))) (fun v2 => (obind (Ev.wntV v2 false) (fun v3 => (orun (Bool.rec (motive := fun _ => OpR) (some ((.tuple ⟨[]⟩), ((Tr.set h (some (.c (Ev.cel a2) 23)) N), N0))) (some (a1, ((Tr.set h (some (.c (Ev.cel a2) 23)) N), N0))) v3) (fun v4 h5 N6 => (obind (Ev.wntV v2 false) (fun v7 => (orun (Bool.rec (motive := fun _ => OpR) (some ((.tuple ⟨[]⟩), (h5, N6))) (obind (Ev.evLen Pr h5 9 v4) (fun v8 => (some (v8, (h5, N6))))) v7) (fun v9 h10 N11 => (obind (Ev.wntV v2 false) (fun v12 => (orun (Bool.rec (motive := fun _ => OpR) (some ((.tuple ⟨[]⟩), (h10, N11))) (obind (Ev.iop .gtr v9 (.int .i64 (.ofNat 2000))) (fun v13 => (some (v13, (h10, N11))))) v12) (fun v14 h15 N16 => (obind (Ev.pck v2 (some (.bool true)) (some v14)) (fun v17 => (obind (Ev.wntV v17 false) (fun v18 => (orun (Bool.rec (motive := fun _ => OpR) (some ((.tuple ⟨[]⟩), (h15, N16))) (obind (Ev.fad 2 (.pointer (some ⟨N, 0, none⟩))) (fun v19 => (some (v19, (h15, N16))))) v18) (fun v20 h21 N22 => (obind (Ev.wntV v17 false) (fun v23 => (orun (Bool.rec (motive := fun _ => OpR) (some ((.tuple ⟨[]⟩), (h21, N22))) (obind (Ev.ld1 h21 v20) (fun v24 => (some (v24, (h21, N22))))) v23) (fun v25 h26 N27 => (obind (Ev.wntV v17 false) (fun v28 => (orun (Bool.rec (motive := fun _ => OpR) (some ((.tuple ⟨[]⟩), (h26, N27))) (obind (Ev.evLen Pr h26 9 v25) (fun v29 => (some (v29, (h26, N27))))) v28) (fun v30 h31 N32 => (obind (Ev.wntV v17 false) (fun v33 => (orun (Bool.rec (motive := fun _ => OpR) (some ((.tuple ⟨[]⟩), (h31, N32))) (obind (Ev.iop .gtr v30 (.int .i64 (.ofNat 2000))) (fun v34 => (some (v34, (h31, N32))))) v33) (fun v35 h36 N37 => (obind (Ev.pck v17 (some (.bool true)) (some v35)) (fun v38 => (Ev.cnd v38 (some ((.bool true), (h36, N37))) (orun (s4 call a0 a1 h36 N37) (fun v39 h40 N41 => (obind (Ev.extr 0 v39) (fun v42 => (obind (Ev.extr 1 v39) (fun v43 => (fN (.succ N41) (fun N44 => (obind (Ev.sto 3 (.pointer (some ⟨N41, 0, none⟩)) v42 (Tr.set h40 (some (.c [(.int .i64 (.ofNat 0)), (.int .i64 (.ofNat 0)), (.string ({ data := { toList := [] } }))] 23)) N41)) (fun h45 => (orun (s5 call a0 a1 h45 N44) (fun v46 h47 N48 => (obind (Ev.extr 0 v46) (fun v49 => (obind (Ev.extr 1 v46) (fun v50 => (fN (.succ N48) (fun N51 => (obind (Ev.sto 3 (.pointer (some ⟨N48, 0, none⟩)) v49 (Tr.set h47 (some (.c [(.int .i64 (.ofNat 0)), (.int .i64 (.ofNat 0)), (.string ({ data := { toList := [] } }))] 23)) N48)) (fun h52 => (obind (Ev.ldN 3 h52 (.pointer (some ⟨N, 0, none⟩))) (fun v53 => (orun (s6 call a0 v53 h52 N51) (fun v54 h55 N56 => (obind (Ev.extr 0 v54) (fun v57 => (obind (Ev.extr 1 v54) (fun v58 => (obind (Ev.ldN 3 h55 (.pointer (some ⟨N, 0, none⟩))) (fun v59 => (orun (s7 call a0 v59 h55 N56) (fun v60 h61 N62 => (obind (Ev.extr 0 v60) (fun v63 => (obind (Ev.extr 1 v60) (fun v64 => (obind (Ev.ldN 3 h61 (.pointer (some ⟨N41, 0, none⟩))) (fun v65 => (obind (Ev.ldN 3 h61 (.pointer (some ⟨N48, 0, none⟩))) (fun v66 => (obind (Ev.evBin Pr .eql 23 (.tmp 53) (.tmp 54) v65 v66) (fun v67 => (obind (Ev.wntV v67 true) (fun v68 => (orun (Bool.rec (motive := fun _ => OpR) (some ((.tuple ⟨[]⟩), (h61, N62))) (some (v43, (h61, N62))) v68) (fun v69 h70 N71 => (obind (Ev.wntV v67 true) (fun v72 => (orun (Bool.rec (motive := fun _ => OpR) (some ((.tuple ⟨[]⟩), (h70, N71))) (some (v50, (h70, N71))) v72) (fun v73 h74 N75 => (obind (Ev.wntV v67 true) (fun v76 => (orun (Bool.rec (motive := fun _ => OpR) (some ((.tuple ⟨[]⟩), (h74, N75))) (obind (Ev.iop .eql v69 v73) (fun v77 => (some (v77, (h74, N75))))) v76) (fun v78 h79 N80 => (obind (Ev.pck v67 (some v78) (some (.bool false))) (fun v81 => (obind (Ev.wntV v81 true) (fun v82 => (orun (Bool.rec (motive := fun _ => OpR) (some ((.tuple ⟨[]⟩), (h79, N80))) (some (v57, (h79, N80))) v82) (fun v83 h84 N85 => (obind (Ev.wntV v81 true) (fun v86 => (orun (Bool.rec (motive := fun _ => OpR) (some ((.tuple ⟨[]⟩), (h84, N85))) (some (v63, (h84, N85))) v86) (fun v87 h88 N89 => (obind (Ev.wntV v81 true) (fun v90 => (orun (Bool.rec (motive := fun _ => OpR) (some ((.tuple ⟨[]⟩), (h88, N89))) (obind (Ev.evBin Pr .eql 9 (.tmp 62) (.tmp 63) v83 v87) (fun v91 => (some (v91, (h88, N89))))) v90) (fun v92 h93 N94 => (obind (Ev.pck v81 (some v92) (some (.bool false))) (fun v95 => (obind (Ev.wntV v95 true) (fun v96 => (orun (Bool.rec (motive := fun _ => OpR) (some ((.tuple ⟨[]⟩), (h93, N94))) (some (v58, (h93, N94))) v96) (fun v97 h98 N99 => (obind (Ev.wntV v95 true) (fun v100 => (orun (Bool.rec (motive := fun _ => OpR) (some ((.tuple ⟨[]⟩), (h98, N99))) (some (v64, (h98, N99))) v100) (fun v101 h102 N103 => (obind (Ev.wntV v95 true) (fun v104 => (orun (Bool.rec (motive := fun _ => OpR) (some ((.tuple ⟨[]⟩), (h102, N103))) (obind (Ev.iop .eql v97 v101) (fun v105 => (some (v105, (h102, N103))))) v104) (fun v106 h107 N108 => (obind (Ev.pck v95 (some v106) (some (.bool false))) (fun v109 => (some (v109, (h107, N108))))))))))))))))))))))))))))))))))))))))))))))))))))))))))))))))))))))))))))))))))))))))))))))))))))))))))))))))))))))))))))))
noncomputable def F3 : Ev.Fs := fun call args h N => ar3 args fun a0 a1 a2 => s3 call a0 a1 a2 h N
theorem o3 : FOk Pr 3 F3 := ar3_ok (F := cFn Pr st3 3 .n) (s := s3) (fun call a0 a1 a2 h N => by kernel_rfl) (cFn_ok hmix (st := st3) (StOk.cons o4 (StOk.cons o5 (StOk.cons o6 (StOk.cons o7 StOk.nil)))) 3 .n)

end Go.Proofs.Ytiidfcnggkiapac
end

section
namespace Go.Proofs.Ytiidfcnggkiapac
open Go.Ev Go.RowKit
set_option linter.unusedVariables false
set_option linter.unusedSimpArgs false
set_option maxRecDepth 100000
set_option maxHeartbeats 4000000
theorem clone10 (call : CallF) (s : ByteArray) (hs : s.size ≤ 281474976710656) (h : Tr Ob) (N : Nat) : s10 call (.string s) h N = some (.string s, h, N) := by
  unfold s10
  show orun (obind (if s.size ≤ 281474976710656 then some (Value.string s) else none) fun v => some (v, h, N)) _ = _
  rw [if_pos hs]
  rfl
theorem mn2 (a b : Int) : mnV Pr ⟨[3, 3]⟩ 3 [.int .i64 a, .int .i64 b] = some (.int .i64 (if b < a then b else a)) := by rfl
theorem mx2' (a b : Int) : mxV Pr ⟨[3, 3]⟩ 3 [.int .i64 a, .int .i64 b] = some (.int .i64 (if a < b then b else a)) := by rfl
theorem e0 : ({ data := { toList := [] } } : ByteArray) = ByteArray.empty := rfl
def clampI (a : Int) (n : Nat) : Int := if 0 < (if (n : Int) < a then (n : Int) else a) then (if (n : Int) < a then (n : Int) else a) else 0
theorem clampI_nat (a : Int) (n : Nat) : ∃ k : Nat, clampI a n = (k : Int) ∧ k ≤ n ∧ (a = (k : Int) ↔ 0 ≤ a ∧ a ≤ n) := by
  unfold clampI
  by_cases h1 : (n : Int) < a
  · rw [if_pos h1]
    by_cases h2 : (0 : Int) < n
    · rw [if_pos h2]; exact ⟨n, rfl, Nat.le_refl _, by omega⟩
    · rw [if_neg h2]; exact ⟨0, rfl, by omega, by omega⟩
  · rw [if_neg h1]
    by_cases h2 : (0 : Int) < a
    · rw [if_pos h2]; exact ⟨a.toNat, by omega, by omega, by omega⟩
    · rw [if_neg h2]; exact ⟨0, rfl, by omega, by omega⟩
/-- A patch that fits. -/
theorem fitted9 (call : CallF) (i j : Int) (s : ByteArray) (n : Nat) (hn : n ≤ 1000) (h : Tr Ob) (N : Nat) : ∃ x y : Nat, ∃ h' N', s9 call (.agg ⟨[.int .i64 i, .int .i64 j, .string s]⟩) (nS n) h N = some (.agg ⟨[nS x, nS y, .string s]⟩, h', N') ∧
    Gr h N h' N' ∧ x ≤ n ∧ y ≤ n - x ∧ (i = (x : Int) ↔ 0 ≤ i ∧ i ≤ n) ∧ (j = (y : Int) ↔ 0 ≤ j ∧ j ≤ ((n - x : Nat) : Int)) := by
  obtain ⟨x, hx1, hx2, hx3⟩ := clampI_nat i n
  obtain ⟨y, hy1, hy2, hy3⟩ := clampI_nat j (n - x)
  refine ⟨x, y, ?_⟩
  unfold s9
  simp only [fN_eq, fad_p, obind_s]
  have c0 : cel (.agg ⟨[.int .i64 i, .int .i64 j, .string s]⟩) = [.int .i64 i, .int .i64 j, .string s] := rfl
  rw [c0]
  generalize hh : (Tr.set (Tr.set h (some (.c [.int .i64 i, .int .i64 j, .string s] 23)) N) (some (.c [(.int .i64 (.ofNat 0)), (.int .i64 (.ofNat 0)), (.string ({ data := { toList := [] } }))] 23)) N.succ) = h1
  have g0 : h1.get N = some (.c [.int .i64 i, .int .i64 j, .string s] 23) := by rw [← hh, Tr.get_other _ _ (by omega), Tr.get_same]
  have g1 : h1.get (N + 1) = some (.c [(.int .i64 (.ofNat 0)), (.int .i64 (.ofNat 0)), (.string ({ data := { toList := [] } }))] 23) := by rw [← hh, Tr.get_same]
  have gr : Gr h N h1 (N + 2) := by
    rw [← hh]
    exact ((Gr.refl h N).set (Nat.le_refl _) (by omega : N ≤ N + 1) _).set (by omega) (by omega) _
  have n0 : ∀ a b c : Value, nth [a, b, c] 0 = some a := fun _ _ _ => rfl
  have n1 : ∀ a b c : Value, nth [a, b, c] 1 = some b := fun _ _ _ => rfl
  rw [ld1_c g0, n0, obind_s, mn2, obind_s, mx2', obind_s]
  have ex : (if (Int.ofNat 0) < (if (n : Int) < i then (n : Int) else i) then (if (n : Int) < i then (n : Int) else i) else (Int.ofNat 0)) = (x : Int) := hx1
  rw [ex, sto_c (v := nS x) (m := 1) g0 rfl rfl (by simp), obind_s]
  have l0 : lay [.int .i64 i, .int .i64 j, .string s] (cel (nS x)) (0 + 0) = [nS x, .int .i64 j, .string s] := rfl
  rw [l0]
  generalize hh2 : h1.set (some (.c [nS x, .int .i64 j, .string s] 23)) N = h2
  have k0 : h2.get N = some (.c [nS x, .int .i64 j, .string s] 23) := by rw [← hh2, Tr.get_same]
  have k1 : h2.get (N + 1) = some (.c [(.int .i64 (.ofNat 0)), (.int .i64 (.ofNat 0)), (.string ({ data := { toList := [] } }))] 23) := by rw [← hh2, Tr.get_other _ _ (by omega)]; exact g1
  rw [ld1_c k0, n1, obind_s, ld1_c k0, n0, obind_s, iop_sub (by constructor <;> omega), obind_s]
  have ns : ((n : Int) - (x : Int)) = ((n - x : Nat) : Int) := by omega
  rw [ns, mn2, obind_s, mx2', obind_s]
  have ey : (if (Int.ofNat 0) < (if ((n - x : Nat) : Int) < j then ((n - x : Nat) : Int) else j) then (if ((n - x : Nat) : Int) < j then ((n - x : Nat) : Int) else j) else (Int.ofNat 0)) = (y : Int) := hy1
  rw [ey, sto_c (v := nS y) (m := 1) k0 rfl rfl (by simp), obind_s]
  have l1 : lay [nS x, .int .i64 j, .string s] (cel (nS y)) (0 + 1) = [nS x, nS y, .string s] := rfl
  rw [l1]
  generalize hh3 : h2.set (some (.c [nS x, nS y, .string s] 23)) N = h3
  have m0 : h3.get N = some (.c [nS x, nS y, .string s] 23) := by rw [← hh3, Tr.get_same]
  have m1 : h3.get (N + 1) = some (.c [(.int .i64 (.ofNat 0)), (.int .i64 (.ofNat 0)), (.string ({ data := { toList := [] } }))] 23) := by rw [← hh3, Tr.get_other _ _ (by omega)]; exact k1
  rw [ldN_c m0 (by simp), obind_s]
  have tk : Value.agg ⟨(([nS x, nS y, .string s] : List Value).drop 0).take 3⟩ = .agg ⟨[nS x, nS y, .string s]⟩ := rfl
  rw [tk, sto_c (v := .agg ⟨[nS x, nS y, .string s]⟩) (m := 3) m1 rfl rfl (by simp), obind_s]
  have l2 : lay [(.int .i64 (.ofNat 0)), (.int .i64 (.ofNat 0)), (.string ({ data := { toList := [] } }))] (cel (.agg ⟨[nS x, nS y, .string s]⟩)) 0 = [nS x, nS y, .string s] := rfl
  rw [l2, ldN_c (T := 23) (xs := [nS x, nS y, .string s]) (by rw [Tr.get_same]) (by simp), obind_s, tk]
  refine ⟨_, _, rfl, ?_, hx2, hy2, hx3, hy3⟩
  rw [← hh3, ← hh2]
  exact ((gr.set (Nat.le_refl _) (Nat.le_refl _) _).set (Nat.le_refl _) (Nat.le_refl _) _).set (by omega) (Nat.le_refl _) _
end Go.Proofs.Ytiidfcnggkiapac
end

section
namespace Go.Proofs.Ytiidfcnggkiapac
open Go.Ev Go.RowKit
set_option linter.unusedVariables false
set_option linter.unusedSimpArgs false
set_option maxRecDepth 100000
set_option maxHeartbeats 4000000
abbrev noS : Value := .string ({ data := { toList := [] } })
abbrev zS : Value := .int .i64 (.ofNat 0)
theorem atF_le (a b : ByteArray) : atF a b ≤ min a.size b.size := by have := (adv_le (fun i => bt a i == bt b i) (min a.size b.size) 0).2; unfold atF; omega
theorem atB_le (a b : ByteArray) : atB a b ≤ min a.size b.size - atF a b := by have := (adv_le (fun i => bt a (a.size - 1 - i) == bt b (b.size - 1 - i)) (min a.size b.size - atF a b) 0).2; unfold atB; omega
abbrev patchV (a b : ByteArray) : Value := .agg ⟨[nS (atF a b), nS (a.size - atB a b - atF a b), .string (b.extract (atF a b) (b.size - atB a b))]⟩
theorem again8 (h : Tr Ob) (i j : Int) (s : ByteArray) (N : Nat) : Ev.again Pr h (.mk 17 (.mk (some 29) (.build 23 ⟨[(0, (.tmp 12)), (1, (.tmp 19)), (2, (.tmp 28))]⟩) 23 "patch.go:46" ⟨[(.mk 0 .data), (.mk 7 .data), (.mk 16 .data)]⟩ none) (Tr.set (Tr.set (Tr.set (.e 32) (some (.string s)) 28) (some (.int .i64 j)) 19) (some (.int .i64 i)) 12) (.agg ⟨[.int .i64 i, .int .i64 j, .string s]⟩) N false) = true := by
  show band (valEq 3 (.agg ⟨[.int .i64 i, .int .i64 j, .string s]⟩) (.agg ⟨[.int .i64 i, .int .i64 j, .string s]⟩)) (nob false) = true
  rw [valEq_cons (d := 2) (valEq_int 1 _ _) (valEq_cons (d := 2) (valEq_int 1 _ _) (valEq_cons (d := 2) (valEq_str 1 _) (valEq_nil 1)))]
  rfl
theorem patch8 (call : CallF) (a b : ByteArray) (hA : a.size ≤ 2000) (hB : b.size ≤ 2000) (h : Tr Ob) (N : Nat) : ∃ h' N', s8 call (.string a) (.string b) h N = some (patchV a b, h', N') ∧ Gr h N h' N' := by
  have f1 := atF_le a b
  have f2 := atB_le a b
  unfold s8
  simp only [fN_eq]
  have hg : ∀ h N, t11 call (.string a) (.string b) h N = some (.agg ⟨[nS (atF a b), nS (atB a b)]⟩, h, N) := fun h N => by
    show obind (if a.size < 1000000 ∧ b.size < 1000000 then some (Value.agg ⟨[nS (atF a b), nS (atB a b)]⟩) else none) _ = _
    rw [if_pos (by omega)]
    rfl
  rw [hg, orun_s]
  generalize hh : Tr.set h (some (.c [zS, zS, noS] 23)) N = h1
  have g0 : h1.get N = some (.c [zS, zS, noS] 23) := by rw [← hh, Tr.get_same]
  have gr : Gr h N h1 (N + 1) := by rw [← hh]; exact (Gr.refl h N).set (Nat.le_refl _) (by omega) _
  rw [sto_c (T := 37) (xs := [zS, zS]) (v := .agg ⟨[nS (atF a b), nS (atB a b)]⟩) (m := 2) (by rw [Tr.get_same]) rfl rfl (by simp), obind_s]
  have l0 : lay [zS, zS] (cel (.agg ⟨[nS (atF a b), nS (atB a b)]⟩)) 0 = [nS (atF a b), nS (atB a b)] := rfl
  rw [l0]
  generalize hh2 : Tr.set (Tr.set h1 (some (.c [zS, zS] 37)) N.succ) (some (.c [nS (atF a b), nS (atB a b)] 37)) N.succ = h2
  have k1 : h2.get (N + 1) = some (.c [nS (atF a b), nS (atB a b)] 37) := by rw [← hh2, Tr.get_same]
  have k0 : h2.get N = some (.c [zS, zS, noS] 23) := by rw [← hh2, Tr.get_other _ _ (by omega), Tr.get_other _ _ (by omega)]; exact g0
  have gr2 : Gr h N h2 (N + 2) := by rw [← hh2]; exact (gr.set (by omega) (by omega : N + 1 ≤ N + 2) _).set (by omega) (by omega) _
  have i0 : iadA 2 1 (.pointer (some ⟨N.succ, 0, none⟩)) (.int .i64 (.ofNat 0)) = some (.pointer (some ⟨N + 1, 0, none⟩)) := iA (N + 1) 0 (by omega)
  have i1 : iadA 2 1 (.pointer (some ⟨N.succ, 0, none⟩)) (.int .i64 (.ofNat 1)) = some (.pointer (some ⟨N + 1, 1, none⟩)) := iA (N + 1) 1 (by omega)
  have v0 : nth [nS (atF a b), nS (atB a b)] 0 = some (nS (atF a b)) := rfl
  have v1 : nth [nS (atF a b), nS (atB a b)] 1 = some (nS (atB a b)) := rfl
  simp only [i0, i1, obind_s]
  simp only [ld1_c k1, v0, v1, obind_s, evLen_str u9]
  rw [iop_sub (by constructor <;> omega), obind_s, iop_sub (by constructor <;> omega), obind_s, iop_sub (by constructor <;> omega), obind_s]
  have e1 : ((a.size : Int) - (atB a b : Int) - (atF a b : Int)) = ((a.size - atB a b - atF a b : Nat) : Int) := by omega
  have e2 : ((b.size : Int) - (atB a b : Int)) = ((b.size - atB a b : Nat) : Int) := by omega
  rw [e1, e2, evSlice_str u9 b (by omega) (by omega), obind_s, agL1_c k1 v1 (valEq_int 2 _ _), ocond_t, ocond_t, clone10 _ _ (by rw [ByteArray.size_extract]; omega), orun_s, b4, obind_s, again8, ocond_t, agL1_c k1 v1 (valEq_int 2 _ _), ocond_t]
  rw [sto_c (v := patchV a b) (m := 3) k0 rfl rfl (by simp), obind_s]
  have l2 : lay [zS, zS, noS] (cel (patchV a b)) 0 = [nS (atF a b), nS (a.size - atB a b - atF a b), .string (b.extract (atF a b) (b.size - atB a b))] := rfl
  rw [l2, ldN_c (T := 23) (xs := [nS (atF a b), nS (a.size - atB a b - atF a b), .string (b.extract (atF a b) (b.size - atB a b))]) (by rw [Tr.get_same]) (by simp), obind_s]
  exact ⟨_, _, rfl, gr2.set (Nat.le_refl _) (Nat.le_refl _) _⟩
def isLong (a b : ByteArray) : Prop := 960 < a.size ∨ 960 < b.size
instance (a b : ByteArray) : Decidable (isLong a b) := by unfold isLong; infer_instance
theorem diff4 (call : CallF) (a b : ByteArray) (hA : a.size ≤ 2000) (hB : b.size ≤ 2000) (h : Tr Ob) (N : Nat) : ∃ h' N', s4 call (.string a) (.string b) h N = some (if isLong a b then .tuple ⟨[.agg ⟨[zS, zS, noS]⟩, nS 113]⟩ else .tuple ⟨[patchV a b, nS 0]⟩, h', N') ∧ Gr h N h' N' := by
  unfold s4
  simp only [fN_eq]
  rw [evLen_str u9, obind_s, evLen_str u9, obind_s, mx2', obind_s, iop_gtr, obind_s, cnd_d]
  generalize hh : Tr.set h (some (.c [zS, zS, noS] 23)) N = h1
  have g0 : h1.get N = some (.c [zS, zS, noS] 23) := by rw [← hh, Tr.get_same]
  have gr : Gr h N h1 (N + 1) := by rw [← hh]; exact (Gr.refl h N).set (Nat.le_refl _) (by omega) _
  have tk : ∀ x y z : Value, Value.agg ⟨(([x, y, z] : List Value).drop 0).take 3⟩ = .agg ⟨[x, y, z]⟩ := fun _ _ _ => rfl
  by_cases hl : isLong a b
  · have hl' : 960 < a.size ∨ 960 < b.size := hl
    rw [if_pos hl, if_pos (by simp; split <;> omega), sto_c (v := .agg ⟨[zS, zS, noS]⟩) (m := 3) g0 rfl rfl (by simp), obind_s]
    have l2 : lay [zS, zS, noS] (cel (.agg ⟨[zS, zS, noS]⟩)) 0 = [zS, zS, noS] := rfl
    rw [l2, ldN_c (T := 23) (xs := [zS, zS, noS]) (by rw [Tr.get_same]) (by simp), obind_s, tk]
    exact ⟨_, _, rfl, gr.set (Nat.le_refl _) (Nat.le_refl _) _⟩
  · have hl' : ¬ (960 < a.size ∨ 960 < b.size) := hl
    obtain ⟨h2, N2, p1, p2⟩ := patch8 call a b hA hB h1 (N + 1)
    rw [if_neg hl, if_neg (by simp; split <;> omega)]
    show ∃ h' N', orun (s8 call (.string a) (.string b) h1 (N + 1)) _ = _ ∧ _
    have k0 : h2.get N = some (.c [zS, zS, noS] 23) := by rw [p2.old N (by omega)]; exact g0
    rw [p1, orun_s, sto_c (v := patchV a b) (m := 3) k0 rfl rfl (by simp), obind_s]
    have l2 : lay [zS, zS, noS] (cel (patchV a b)) 0 = [nS (atF a b), nS (a.size - atB a b - atF a b), .string (b.extract (atF a b) (b.size - atB a b))] := rfl
    rw [l2, ldN_c (T := 23) (xs := [nS (atF a b), nS (a.size - atB a b - atF a b), .string (b.extract (atF a b) (b.size - atB a b))]) (by rw [Tr.get_same]) (by simp), obind_s, tk]
    exact ⟨_, _, rfl, (gr.trans p2).set (Nat.le_refl _) (Nat.le_refl _) _⟩
noncomputable def lp5_0  : C6 → C6 :=
  (fun g100 v101 v102 v103 v104 v105 v106 d107 h108 N109 => (obind (Ev.iop .gtr v105 v104) (fun v110 => (obind (Ev.wntV v110 true) (fun v111 => (orun (Bool.rec (motive := fun _ => OpR) (some ((.tuple ⟨[]⟩), (h108, N109))) (some (v106, (h108, N109))) v111) (fun v112 h113 N114 => (obind (Ev.wntV v110 true) (fun v115 => (orun (Bool.rec (motive := fun _ => OpR) (some ((.tuple ⟨[]⟩), (h113, N114))) (some (v104, (h113, N114))) v115) (fun v116 h117 N118 => (obind (Ev.wntV v110 true) (fun v119 => (orun (Bool.rec (motive := fun _ => OpR) (some ((.tuple ⟨[]⟩), (h117, N118))) (obind (Ev.iop .gtr v112 v116) (fun v120 => (some (v120, (h117, N118))))) v119) (fun v121 h122 N123 => (obind (Ev.pck v110 (some v121) (some (.bool false))) (fun v124 => (obind (Ev.wntV v124 true) (fun v125 => (orun (Bool.rec (motive := fun _ => OpR) (some ((.tuple ⟨[]⟩), (h122, N123))) (some (v101, (h122, N123))) v125) (fun v126 h127 N128 => (obind (Ev.wntV v124 true) (fun v129 => (orun (Bool.rec (motive := fun _ => OpR) (some ((.tuple ⟨[]⟩), (h127, N128))) (some (v105, (h127, N128))) v129) (fun v130 h131 N132 => (obind (Ev.wntV v124 true) (fun v133 => (orun (Bool.rec (motive := fun _ => OpR) (some ((.tuple ⟨[]⟩), (h131, N132))) (obind (Ev.iop .sub v130 (.int .i64 (.ofNat 1))) (fun v134 => (some (v134, (h131, N132))))) v133) (fun v135 h136 N137 => (obind (Ev.wntV v124 true) (fun v138 => (orun (Bool.rec (motive := fun _ => OpR) (some ((.tuple ⟨[]⟩), (h136, N137))) (obind (Ev.evIdx Pr 9 v126 v135) (fun v139 => (some (v139, (h136, N137))))) v138) (fun v140 h141 N142 => (obind (Ev.wntV v124 true) (fun v143 => (orun (Bool.rec (motive := fun _ => OpR) (some ((.tuple ⟨[]⟩), (h141, N142))) (some (v102, (h141, N142))) v143) (fun v144 h145 N146 => (obind (Ev.wntV v124 true) (fun v147 => (orun (Bool.rec (motive := fun _ => OpR) (some ((.tuple ⟨[]⟩), (h145, N146))) (some (v106, (h145, N146))) v147) (fun v148 h149 N150 => (obind (Ev.wntV v124 true) (fun v151 => (orun (Bool.rec (motive := fun _ => OpR) (some ((.tuple ⟨[]⟩), (h149, N150))) (obind (Ev.iop .sub v148 (.int .i64 (.ofNat 1))) (fun v152 => (some (v152, (h149, N150))))) v151) (fun v153 h154 N155 => (obind (Ev.wntV v124 true) (fun v156 => (orun (Bool.rec (motive := fun _ => OpR) (some ((.tuple ⟨[]⟩), (h154, N155))) (obind (Ev.evIdx Pr 9 v144 v153) (fun v157 => (some (v157, (h154, N155))))) v156) (fun v158 h159 N160 => (obind (Ev.wntV v124 true) (fun v161 => (orun (Bool.rec (motive := fun _ => OpR) (some ((.tuple ⟨[]⟩), (h159, N160))) (obind (Ev.evBin Pr .eql 5 (.tmp 55) (.tmp 59) v140 v158) (fun v162 => (some (v162, (h159, N160))))) v161) (fun v163 h164 N165 => (obind (Ev.pck v124 (some v163) (some (.bool false))) (fun v166 => (Ev.cnd v166 (obind (Ev.iop .sub v105 (.int .i64 (.ofNat 1))) (fun v167 => (obind (Ev.iop .sub v106 (.int .i64 (.ofNat 1))) (fun v168 => (g100 v101 v102 v103 v104 v167 v168 d107 h164 N165))))) (obind (Ev.iop .sub v105 v104) (fun v169 => (obind (Ev.evSlice Pr 9 v102 (some v104) (some v106) none) (fun v170 => (obind (Ev.evBuild Pr 23 [(0, v104), (1, v169), (2, v170)]) (fun v171 => (obind (Ev.sto 3 v103 v171 h164) (fun h172 => (obind (Ev.unmark d107 h172) (fun h173 => (obind (Ev.ldN 3 h173 v103) (fun v174 => (some ((.tuple ⟨[v174, (.int .i64 (.ofNat 0))]⟩), (h173, N165)))))))))))))))))))))))))))))))))))))))))))))))))))))))))))))))))))))))

noncomputable def lp5_1  : C4 → C4 :=
  (fun g27 v28 v29 v30 v31 d32 h33 N34 => (obind (Ev.evLen Pr .nil 9 v28) (fun v35 => (obind (Ev.iop .lss v31 v35) (fun v36 => (obind (Ev.wntV v36 true) (fun v37 => (orun (Bool.rec (motive := fun _ => OpR) (some ((.tuple ⟨[]⟩), (h33, N34))) (some (v31, (h33, N34))) v37) (fun v38 h39 N40 => (obind (Ev.wntV v36 true) (fun v41 => (orun (Bool.rec (motive := fun _ => OpR) (some ((.tuple ⟨[]⟩), (h39, N40))) (some (v29, (h39, N40))) v41) (fun v42 h43 N44 => (obind (Ev.wntV v36 true) (fun v45 => (orun (Bool.rec (motive := fun _ => OpR) (some ((.tuple ⟨[]⟩), (h43, N44))) (obind (Ev.evLen Pr .nil 9 v42) (fun v46 => (some (v46, (h43, N44))))) v45) (fun v47 h48 N49 => (obind (Ev.wntV v36 true) (fun v50 => (orun (Bool.rec (motive := fun _ => OpR) (some ((.tuple ⟨[]⟩), (h48, N49))) (obind (Ev.iop .lss v38 v47) (fun v51 => (some (v51, (h48, N49))))) v50) (fun v52 h53 N54 => (obind (Ev.pck v36 (some v52) (some (.bool false))) (fun v55 => (obind (Ev.wntV v55 true) (fun v56 => (orun (Bool.rec (motive := fun _ => OpR) (some ((.tuple ⟨[]⟩), (h53, N54))) (some (v28, (h53, N54))) v56) (fun v57 h58 N59 => (obind (Ev.wntV v55 true) (fun v60 => (orun (Bool.rec (motive := fun _ => OpR) (some ((.tuple ⟨[]⟩), (h58, N59))) (some (v31, (h58, N59))) v60) (fun v61 h62 N63 => (obind (Ev.wntV v55 true) (fun v64 => (orun (Bool.rec (motive := fun _ => OpR) (some ((.tuple ⟨[]⟩), (h62, N63))) (obind (Ev.evIdx Pr 9 v57 v61) (fun v65 => (some (v65, (h62, N63))))) v64) (fun v66 h67 N68 => (obind (Ev.wntV v55 true) (fun v69 => (orun (Bool.rec (motive := fun _ => OpR) (some ((.tuple ⟨[]⟩), (h67, N68))) (some (v29, (h67, N68))) v69) (fun v70 h71 N72 => (obind (Ev.wntV v55 true) (fun v73 => (orun (Bool.rec (motive := fun _ => OpR) (some ((.tuple ⟨[]⟩), (h71, N72))) (some (v31, (h71, N72))) v73) (fun v74 h75 N76 => (obind (Ev.wntV v55 true) (fun v77 => (orun (Bool.rec (motive := fun _ => OpR) (some ((.tuple ⟨[]⟩), (h75, N76))) (obind (Ev.evIdx Pr 9 v70 v74) (fun v78 => (some (v78, (h75, N76))))) v77) (fun v79 h80 N81 => (obind (Ev.wntV v55 true) (fun v82 => (orun (Bool.rec (motive := fun _ => OpR) (some ((.tuple ⟨[]⟩), (h80, N81))) (obind (Ev.evBin Pr .eql 5 (.tmp 31) (.tmp 34) v66 v79) (fun v83 => (some (v83, (h80, N81))))) v82) (fun v84 h85 N86 => (obind (Ev.pck v55 (some v84) (some (.bool false))) (fun v87 => (Ev.cnd v87 (obind (Ev.iop .add v31 (.int .i64 (.ofNat 1))) (fun v88 => (g27 v28 v29 v30 v88 d32 h85 N86))) (obind (Ev.evLen Pr h85 9 v28) (fun v89 => (obind (Ev.evLen Pr h85 9 v29) (fun v90 => (lpR (α := C6) (fun v91 v92 v93 v94 v95 v96 d97 h98 N99 => none) (lp5_0) v28 v29 v30 v31 v89 v90 d32 h85 N86)))))))))))))))))))))))))))))))))))))))))))))))))))))))))))

theorem s5_eq (call : CallF) (a0 a1 : Value) (h : Tr Ob) (N : Nat) : s5 call a0 a1 h N =
  (fN (.succ N) (fun N0 => (obind (Ev.evLen Pr (Tr.set h (some (.c [(.int .i64 (.ofNat 0)), (.int .i64 (.ofNat 0)), (.string ({ data := { toList := [] } }))] 23)) N) 9 a0) (fun v1 => (obind (Ev.iop .gtr v1 (.int .i64 (.ofNat 960))) (fun v2 => (obind (Ev.wntV v2 false) (fun v3 => (orun (Bool.rec (motive := fun _ => OpR) (some ((.tuple ⟨[]⟩), ((Tr.set h (some (.c [(.int .i64 (.ofNat 0)), (.int .i64 (.ofNat 0)), (.string ({ data := { toList := [] } }))] 23)) N), N0))) (some (a1, ((Tr.set h (some (.c [(.int .i64 (.ofNat 0)), (.int .i64 (.ofNat 0)), (.string ({ data := { toList := [] } }))] 23)) N), N0))) v3) (fun v4 h5 N6 => (obind (Ev.wntV v2 false) (fun v7 => (orun (Bool.rec (motive := fun _ => OpR) (some ((.tuple ⟨[]⟩), (h5, N6))) (obind (Ev.evLen Pr h5 9 v4) (fun v8 => (some (v8, (h5, N6))))) v7) (fun v9 h10 N11 => (obind (Ev.wntV v2 false) (fun v12 => (orun (Bool.rec (motive := fun _ => OpR) (some ((.tuple ⟨[]⟩), (h10, N11))) (obind (Ev.iop .gtr v9 (.int .i64 (.ofNat 960))) (fun v13 => (some (v13, (h10, N11))))) v12) (fun v14 h15 N16 => (obind (Ev.pck v2 (some (.bool true)) (some v14)) (fun v17 => (Ev.cnd v17 (obind (Ev.sto 3 (.pointer (some ⟨N, 0, none⟩)) (.agg ⟨[(.int .i64 (.ofNat 0)), (.int .i64 (.ofNat 0)), (.string ({ data := { toList := [] } }))]⟩) h15) (fun h18 => (obind (Ev.ldN 3 h18 (.pointer (some ⟨N, 0, none⟩))) (fun v19 => (some ((.tuple ⟨[v19, (.int .i64 (.ofNat 113))]⟩), (h18, N16))))))) (lpR (α := C4) (fun v20 v21 v22 v23 d24 h25 N26 => none) (lp5_1) a0 a1 (.pointer (some ⟨N, 0, none⟩)) (.int .i64 (.ofNat 0)) [] h15 N16)))))))))))))))))))))) := rfl

end Go.Proofs.Ytiidfcnggkiapac
end

section
namespace Go.Proofs.Ytiidfcnggkiapac
open Go.Ev Go.RowKit
set_option linter.unusedVariables false
set_option linter.unusedSimpArgs false
set_option maxRecDepth 100000
set_option maxHeartbeats 4000000
theorem wnt_tt : wntV (.bool true) true = some true := rfl
theorem wnt_tf : wntV (.bool true) false = some false := rfl
theorem wnt_ft : wntV (.bool false) true = some false := rfl
theorem wnt_ff : wntV (.bool false) false = some true := rfl
theorem pck_t (x y : Option Value) : pck (.bool true) x y = x := by cases x <;> rfl
theorem pck_f (x y : Option Value) : pck (.bool false) x y = y := by cases y <;> rfl
theorem br_t {α : Type} (x y : α) : Bool.rec (motive := fun _ => α) x y true = y := rfl
theorem br_f {α : Type} (x y : α) : Bool.rec (motive := fun _ => α) x y false = x := rfl
theorem sub1 {k : Nat} (h1 : 0 < k) (h2 : k < 1000000) : iop .sub (nS k) (.int .i64 (.ofNat 1)) = some (nS (k - 1)) := by
  rw [iop_sub (by constructor <;> simp <;> omega)]
  congr 2
  simp
  omega
/-- From the back. -/
theorem back5 (a b : ByteArray) (p T x N : Nat) (c0 c1 c2 : Value) (h : Tr Ob) (hp : h.get p = some (.c [c0, c1, c2] T)) (hA : a.size < 1000000) (hB : b.size < 1000000) (hx : x ≤ min a.size b.size) (z : C6) : ∀ (n k fuel : Nat), k + n = min a.size b.size - x → n < fuel →
    lpN z lp5_0 fuel (.string a) (.string b) (pS p) (nS x) (nS (a.size - k)) (nS (b.size - k)) [] h N =
      some (.tuple ⟨[.agg ⟨[nS x, nS (a.size - adv (fun i => bt a (a.size - 1 - i) == bt b (b.size - 1 - i)) n k - x), .string (b.extract x (b.size - adv (fun i => bt a (a.size - 1 - i) == bt b (b.size - 1 - i)) n k))]⟩, nS 0]⟩,
        h.set (some (.c [nS x, nS (a.size - adv (fun i => bt a (a.size - 1 - i) == bt b (b.size - 1 - i)) n k - x), .string (b.extract x (b.size - adv (fun i => bt a (a.size - 1 - i) == bt b (b.size - 1 - i)) n k))] T)) p, N) := by
  -- how it ends
  have fin : ∀ m : Nat, m ≤ min a.size b.size - x → (obind (Ev.iop .sub (nS (a.size - m)) (nS x)) (fun v169 => (obind (Ev.evSlice Pr 9 (.string b) (some (nS x)) (some (nS (b.size - m))) none) (fun v170 => (obind (Ev.evBuild Pr 23 [(0, nS x), (1, v169), (2, v170)]) (fun v171 => (obind (Ev.sto 3 (pS p) v171 h) (fun h172 => (obind (Ev.unmark [] h172) (fun h173 => (obind (Ev.ldN 3 h173 (pS p)) (fun v174 => (some ((.tuple ⟨[v174, (.int .i64 (.ofNat 0))]⟩), (h173, N)) : OpR))))))))))))) =
      some (.tuple ⟨[.agg ⟨[nS x, nS (a.size - m - x), .string (b.extract x (b.size - m))]⟩, nS 0]⟩, h.set (some (.c [nS x, nS (a.size - m - x), .string (b.extract x (b.size - m))] T)) p, N) := by
    intro m hm
    rw [iop_sub (by constructor <;> omega), obind_s]
    have e1 : (((a.size - m : Nat) : Int) - (x : Int)) = ((a.size - m - x : Nat) : Int) := by omega
    rw [e1, evSlice_str u9 b (by omega) (by omega), obind_s, b4, obind_s, sto_c (v := Value.agg ⟨[nS x, nS (a.size - m - x), .string (b.extract x (b.size - m))]⟩) (m := 3) hp rfl rfl (by simp), obind_s, unmark_nil, obind_s]
    have l2 : lay [c0, c1, c2] (cel (.agg ⟨[nS x, nS (a.size - m - x), .string (b.extract x (b.size - m))]⟩)) 0 = [nS x, nS (a.size - m - x), .string (b.extract x (b.size - m))] := rfl
    rw [l2, ldN_c (T := T) (xs := [nS x, nS (a.size - m - x), .string (b.extract x (b.size - m))]) (by rw [Tr.get_same]) (by simp), obind_s]
    rfl
  intro n
  induction n with
  | zero =>
    intro k fuel hk hf
    obtain ⟨fuel, rfl⟩ : ∃ f, fuel = f + 1 := ⟨fuel - 1, by omega⟩
    rw [lpN_succ]
    unfold lp5_0
    by_cases d1 : x < a.size - k
    · have d2 : ¬ x < b.size - k := by omega
      have d1' : decide ((x : Int) < ((a.size - k : Nat) : Int)) = true := decide_eq_true (by omega)
      have d2' : decide ((x : Int) < ((b.size - k : Nat) : Int)) = false := decide_eq_false (by omega)
      simp only [iop_gtr, d1', d2', obind_s, wnt_tt, wnt_ft, br_t, br_f, orun_s, pck_t, pck_f, cnd_f]
      exact fin k (by omega)
    · have d1' : decide ((x : Int) < ((a.size - k : Nat) : Int)) = false := decide_eq_false (by omega)
      simp only [iop_gtr, d1', obind_s, wnt_tt, wnt_ft, br_t, br_f, orun_s, pck_t, pck_f, cnd_f]
      exact fin k (by omega)
  | succ n ih =>
    intro k fuel hk hf
    obtain ⟨fuel, rfl⟩ : ∃ f, fuel = f + 1 := ⟨fuel - 1, by omega⟩
    rw [lpN_succ]
    obtain ⟨L, hL2⟩ : ∃ L, L = lpN z lp5_0 fuel := ⟨_, rfl⟩
    rw [← hL2]
    unfold lp5_0
    have d1' : decide ((x : Int) < ((a.size - k : Nat) : Int)) = true := decide_eq_true (by omega)
    have d2' : decide ((x : Int) < ((b.size - k : Nat) : Int)) = true := decide_eq_true (by omega)
    have s1 : iop .sub (nS (a.size - k)) (.int .i64 (.ofNat 1)) = some (nS (a.size - k - 1)) := sub1 (by omega) (by omega)
    have s2 : iop .sub (nS (b.size - k)) (.int .i64 (.ofNat 1)) = some (nS (b.size - k - 1)) := sub1 (by omega) (by omega)
    have x1 : evIdx Pr 9 (.string a) (nS (a.size - k - 1)) = some (.int .u8 (bt a (a.size - 1 - k))) := by rw [evIdx_bt u9 a (by omega)]; congr 3; omega
    have x2 : evIdx Pr 9 (.string b) (nS (b.size - k - 1)) = some (.int .u8 (bt b (b.size - 1 - k))) := by rw [evIdx_bt u9 b (by omega)]; congr 3; omega
    cases hq : (bt a (a.size - 1 - k) == bt b (b.size - 1 - k)) with
    | false =>
      simp only [iop_gtr, d1', d2', obind_s, wnt_tt, wnt_ft, br_t, br_f, orun_s, pck_t, pck_f, cnd_f, s1, s2, x1, x2, bin_u8_eql, hq]
      rw [adv_f (p := fun i => bt a (a.size - 1 - i) == bt b (b.size - 1 - i)) hq]
      exact fin k (by omega)
    | true =>
      simp only [iop_gtr, d1', d2', obind_s, wnt_tt, wnt_ft, br_t, br_f, orun_s, pck_t, pck_f, cnd_t, s1, s2, x1, x2, bin_u8_eql, hq]
      rw [adv_t (p := fun i => bt a (a.size - 1 - i) == bt b (b.size - 1 - i)) hq, hL2]
      have e1 : a.size - k - 1 = a.size - (k + 1) := by omega
      have e2 : b.size - k - 1 = b.size - (k + 1) := by omega
      rw [e1, e2]
      exact ih (k + 1) fuel (by omega) (by omega)
/-- From the front. -/
theorem front5 (a b : ByteArray) (p N : Nat) (h : Tr Ob) (hA : a.size < 1000000) (hB : b.size < 1000000) (z : C4) : ∀ (n k fuel : Nat), k + n = min a.size b.size → n < fuel →
    lpN z lp5_1 fuel (.string a) (.string b) (pS p) (nS k) [] h N =
      lpN (fun v91 v92 v93 v94 v95 v96 d97 h98 N99 => none) lp5_0 rounds (.string a) (.string b) (pS p) (nS (adv (fun i => bt a i == bt b i) n k)) (nS (a.size - 0)) (nS (b.size - 0)) [] h N := by
  intro n
  induction n with
  | zero =>
    intro k fuel hk hf
    obtain ⟨fuel, rfl⟩ : ∃ f, fuel = f + 1 := ⟨fuel - 1, by omega⟩
    rw [lpN_succ]
    unfold lp5_1
    by_cases d1 : k < a.size
    · have d1' : decide ((k : Int) < (a.size : Int)) = true := decide_eq_true (by omega)
      have d2' : decide ((k : Int) < (b.size : Int)) = false := decide_eq_false (by omega)
      simp only [evLen_str u9, iop_lss, d1', d2', obind_s, wnt_tt, wnt_ft, br_t, br_f, orun_s, pck_t, pck_f, cnd_f, lpR_eq]
      rfl
    · have d1' : decide ((k : Int) < (a.size : Int)) = false := decide_eq_false (by omega)
      simp only [evLen_str u9, iop_lss, d1', obind_s, wnt_tt, wnt_ft, br_t, br_f, orun_s, pck_t, pck_f, cnd_f, lpR_eq]
      rfl
  | succ n ih =>
    intro k fuel hk hf
    obtain ⟨fuel, rfl⟩ : ∃ f, fuel = f + 1 := ⟨fuel - 1, by omega⟩
    rw [lpN_succ]
    obtain ⟨L, hL2⟩ : ∃ L, L = lpN z lp5_1 fuel := ⟨_, rfl⟩
    rw [← hL2]
    unfold lp5_1
    have d1' : decide ((k : Int) < (a.size : Int)) = true := decide_eq_true (by omega)
    have d2' : decide ((k : Int) < (b.size : Int)) = true := decide_eq_true (by omega)
    have x1 : evIdx Pr 9 (.string a) (nS k) = some (.int .u8 (bt a k)) := evIdx_bt u9 a (by omega)
    have x2 : evIdx Pr 9 (.string b) (nS k) = some (.int .u8 (bt b k)) := evIdx_bt u9 b (by omega)
    cases hq : (bt a k == bt b k) with
    | false =>
      simp only [evLen_str u9, iop_lss, d1', d2', obind_s, wnt_tt, wnt_ft, br_t, br_f, orun_s, pck_t, pck_f, cnd_f, x1, x2, bin_u8_eql, hq, lpR_eq]
      rw [adv_f (p := fun i => bt a i == bt b i) hq]
      rfl
    | true =>
      simp only [evLen_str u9, iop_lss, d1', d2', obind_s, wnt_tt, wnt_ft, br_t, br_f, orun_s, pck_t, pck_f, cnd_t, x1, x2, bin_u8_eql, hq, add1 (show k < 9223372036854775807 by omega)]
      rw [adv_t (p := fun i => bt a i == bt b i) hq, hL2]
      exact ih (k + 1) fuel (by omega) (by omega)
theorem rdiff5 (call : CallF) (a b : ByteArray) (hA : a.size ≤ 2000) (hB : b.size ≤ 2000) (h : Tr Ob) (N : Nat) : ∃ h' N', s5 call (.string a) (.string b) h N = some (if isLong a b then .tuple ⟨[.agg ⟨[zS, zS, noS]⟩, nS 113]⟩ else .tuple ⟨[patchV a b, nS 0]⟩, h', N') ∧ Gr h N h' N' := by
  rw [s5_eq]
  simp only [fN_eq]
  generalize hh : Tr.set h (some (.c [zS, zS, noS] 23)) N = h1
  have g0 : h1.get N = some (.c [zS, zS, noS] 23) := by rw [← hh, Tr.get_same]
  have gr : Gr h N h1 (N + 1) := by rw [← hh]; exact (Gr.refl h N).set (Nat.le_refl _) (by omega) _
  have tk : ∀ x y z : Value, Value.agg ⟨(([x, y, z] : List Value).drop 0).take 3⟩ = .agg ⟨[x, y, z]⟩ := fun _ _ _ => rfl
  have long : (obind (Ev.sto 3 (pS N) (.agg ⟨[zS, zS, noS]⟩) h1) (fun h18 => (obind (Ev.ldN 3 h18 (pS N)) (fun v19 => (some ((.tuple ⟨[v19, (.int .i64 (.ofNat 113))]⟩), (h18, N + 1)) : OpR))))) = some (.tuple ⟨[.agg ⟨[zS, zS, noS]⟩, nS 113]⟩, h1.set (some (.c [zS, zS, noS] 23)) N, N + 1) := by
    rw [sto_c (v := .agg ⟨[zS, zS, noS]⟩) (m := 3) g0 rfl rfl (by simp), obind_s]
    have l2 : lay [zS, zS, noS] (cel (.agg ⟨[zS, zS, noS]⟩)) 0 = [zS, zS, noS] := rfl
    rw [l2, ldN_c (T := 23) (xs := [zS, zS, noS]) (by rw [Tr.get_same]) (by simp), obind_s, tk]
    rfl
  by_cases h1a : 960 < a.size
  · have d1' : decide ((Int.ofNat 960) < (a.size : Int)) = true := decide_eq_true (by simp; omega)
    rw [if_pos (show isLong a b from .inl h1a)]
    simp only [evLen_str u9, iop_gtr, d1', obind_s, wnt_tf, br_t, br_f, orun_s, pck_t, cnd_t]
    exact ⟨_, _, long, gr.set (Nat.le_refl _) (Nat.le_refl _) _⟩
  · have d1' : decide ((Int.ofNat 960) < (a.size : Int)) = false := decide_eq_false (by simp; omega)
    by_cases h1b : 960 < b.size
    · have d2' : decide ((Int.ofNat 960) < (b.size : Int)) = true := decide_eq_true (by simp; omega)
      rw [if_pos (show isLong a b from .inr h1b)]
      simp only [evLen_str u9, iop_gtr, d1', d2', obind_s, wnt_ff, br_t, br_f, orun_s, pck_f, cnd_t]
      exact ⟨_, _, long, gr.set (Nat.le_refl _) (Nat.le_refl _) _⟩
    · have d2' : decide ((Int.ofNat 960) < (b.size : Int)) = false := decide_eq_false (by simp; omega)
      rw [if_neg (show ¬ isLong a b from fun e => by rcases e with e | e; exact h1a e; exact h1b e)]
      simp only [evLen_str u9, iop_gtr, d1', d2', obind_s, wnt_ff, br_t, br_f, orun_s, pck_f, cnd_f, lpR_eq]
      have q := front5 a b N (N + 1) h1 (by omega) (by omega) (fun v20 v21 v22 v23 d24 h25 N26 => none) (min a.size b.size) 0 rounds (by omega) (by show _ < 1000000; omega)
      have q2 := back5 a b N 23 (atF a b) (N + 1) zS zS noS h1 g0 (by omega) (by omega) (atF_le a b) (fun v91 v92 v93 v94 v95 v96 d97 h98 N99 => none) (min a.size b.size - atF a b) 0 rounds (by omega) (by show _ < 1000000; omega)
      refine ⟨_, _, q.trans q2, gr.set (Nat.le_refl _) (Nat.le_refl _) _⟩
end Go.Proofs.Ytiidfcnggkiapac
end

section
namespace Go.Proofs.Ytiidfcnggkiapac
open Go.Ev Go.RowKit
set_option linter.unusedVariables false
set_option linter.unusedSimpArgs false
set_option maxRecDepth 100000
set_option maxHeartbeats 4000000
theorem b3n (x y : Operand) (i j i' j' : Int) (s t : ByteArray) : evBin Pr .neq 23 x y (.agg ⟨[.int .i64 i, .int .i64 j, .string s]⟩) (.agg ⟨[.int .i64 i', .int .i64 j', .string t]⟩) = some (.bool (!(i == i' && (j == j' && s == t)))) := by
  have g : still Pr (do eqGuard .neq 23 x y (.agg ⟨[.int .i64 i, .int .i64 j, .string s]⟩) (.agg ⟨[.int .i64 i', .int .i64 j', .string t]⟩); binOp .neq 23 (.agg ⟨[.int .i64 i, .int .i64 j, .string s]⟩) (.agg ⟨[.int .i64 i', .int .i64 j', .string t]⟩)) = some (.bool (!(i == i' && (j == j' && s == t)))) := by
    rw [still_bnd, show still Pr (eqGuard .neq 23 x y (.agg ⟨[.int .i64 i, .int .i64 j, .string s]⟩) (.agg ⟨[.int .i64 i', .int .i64 j', .string t]⟩)) = some () from (by kernel_rfl), obind_s]
    show still Pr ((fun b => Value.bool !b) <$> Op.equalIn (9999 + 1) 23 _ _) = _
    rw [map_eq_pure_bind, still_bnd, b3e]
    rfl
  show oor (ocond true (ocond true (obind (still Pr _) fun r => ocond (scal r) (some r)))) _ = _
  rw [g]
  rfl
def fits (a : ByteArray) (i j : Int) : Prop := 0 ≤ i ∧ i ≤ a.size ∧ 0 ≤ j ∧ j ≤ a.size - i
instance (a : ByteArray) (i j : Int) : Decidable (fits a i j) := by unfold fits; infer_instance
abbrev applyV (a : ByteArray) (i j : Int) (s : ByteArray) : Value :=
  if 960 < a.size then .tuple ⟨[noS, nS 113]⟩ else if fits a i j then (if (960 : Int) < a.size - j + s.size then .tuple ⟨[noS, nS 113]⟩ else .tuple ⟨[.string (a.extract 0 i.toNat ++ s ++ a.extract (i.toNat + j.toNat) a.size), nS 0]⟩) else .tuple ⟨[noS, nS 116]⟩
abbrev pV (i j : Int) (s : ByteArray) : Value := .agg ⟨[.int .i64 i, .int .i64 j, .string s]⟩
theorem pV_eq (i j : Int) (s : ByteArray) : valEq 3 (pV i j s) (pV i j s) = true :=
  valEq_cons (d := 2) (valEq_int 1 _ _) (valEq_cons (d := 2) (valEq_int 1 _ _) (valEq_cons (d := 2) (valEq_str 1 _) (valEq_nil 1)))
theorem apply6 (call : CallF) (a : ByteArray) (i j : Int) (s : ByteArray) (hA : a.size ≤ 2000) (hs : s.size ≤ 2000) (h : Tr Ob) (N : Nat) : ∃ h' N', s6 call (.string a) (pV i j s) h N = some (applyV a i j s, h', N') ∧ Gr h N h' N' := by
  unfold s6
  simp only [fN_eq, fad_p, obind_s]
  have c0 : cel (pV i j s) = [.int .i64 i, .int .i64 j, .string s] := rfl
  rw [c0]
  generalize hh : Tr.set h (some (.c [.int .i64 i, .int .i64 j, .string s] 23)) N = h1
  have g0 : h1.get N = some (.c [.int .i64 i, .int .i64 j, .string s] 23) := by rw [← hh, Tr.get_same]
  have gr : Gr h N h1 (N + 1) := by rw [← hh]; exact (Gr.refl h N).set (Nat.le_refl _) (by omega) _
  have tk : ∀ x y z : Value, Value.agg ⟨(([x, y, z] : List Value).drop 0).take 3⟩ = .agg ⟨[x, y, z]⟩ := fun _ _ _ => rfl
  rw [evLen_str u9, obind_s, iop_gtr, obind_s, cnd_d]
  by_cases hl : 960 < a.size
  · rw [if_pos (by simp; omega)]
    refine ⟨_, _, ?_, gr⟩
    rw [applyV, if_pos hl]
    rfl
  · rw [if_neg (by simp; omega)]
    have ld : ldN 3 h1 (.pointer (some ⟨N, 0, none⟩)) = some (pV i j s) := by rw [ldN_c g0 (by simp), tk]
    obtain ⟨x, y, h2, N2, p1, p2, p3, p4, p5, p6⟩ := fitted9 call i j s a.size (by omega) h1 (N + 1)
    rw [ld, obind_s, obind_s, evLen_str u9, obind_s, agLN_c g0 (by simp) (tk _ _ _) (pV_eq i j s), ocond_t, ocond_t, p1, orun_s, b3n, obind_s]
    have k0 : h2.get N = some (.c [.int .i64 i, .int .i64 j, .string s] 23) := by rw [p2.old N (by omega)]; exact g0
    have gr2 : Gr h N h2 N2 := gr.trans p2
    rw [agLN_c k0 (by simp) (tk _ _ _) (pV_eq i j s), ocond_t]
    by_cases hf : fits a i j
    · have hf' : 0 ≤ i ∧ i ≤ a.size ∧ 0 ≤ j ∧ j ≤ a.size - i := hf
      have ex : i = (x : Int) := p5.2 ⟨hf'.1, hf'.2.1⟩
      have ey : j = (y : Int) := p6.2 ⟨hf'.2.2.1, by have := hf'.2.2.2; omega⟩
      subst ex; subst ey
      have hself : ∀ z : ByteArray, (z == z) = true := fun z => by rcases z with ⟨d⟩; show (d == d) = true; exact beq_self_eq_true d
      simp only [beq_self_eq_true, hself, Bool.and_self, Bool.not_true, cnd_f]
      have n0 : ∀ a b c : Value, nth [a, b, c] 0 = some a := fun _ _ _ => rfl
      have n1 : ∀ a b c : Value, nth [a, b, c] 1 = some b := fun _ _ _ => rfl
      have n2 : ∀ a b c : Value, nth [a, b, c] 2 = some c := fun _ _ _ => rfl
      simp only [evLen_str u9, obind_s, ld1_c k0, Nat.zero_add, n0, n1, n2]
      rw [iop_sub (by constructor <;> omega), obind_s, iop_add (by constructor <;> omega), obind_s, iop_gtr, obind_s, cnd_d]
      rw [applyV, if_neg hl, if_pos hf]
      by_cases hb : (960 : Int) < a.size - (y : Int) + s.size
      · rw [if_pos hb, if_pos (show Int.ofNat 960 < _ from hb)]
        exact ⟨_, _, rfl, gr2⟩
      · rw [if_neg hb, if_neg (show ¬ Int.ofNat 960 < _ from hb)]
        rw [evSlice_hi u9 a (by omega), obind_s, b2 _ _ _ _ (by rw [ByteArray.size_extract]; omega), obind_s, iop_add (by constructor <;> omega), obind_s]
        have e1 : ((x : Int) + (y : Int)) = ((x + y : Nat) : Int) := by omega
        rw [e1, evSlice_lo u9 a (by omega), obind_s, b2 _ _ _ _ (by rw [ByteArray.size_append, ByteArray.size_extract, ByteArray.size_extract]; omega), obind_s]
        rw [agL1_c k0 (n1 _ _ _) (valEq_int 2 _ _), ocond_t, agL1_c k0 (n0 _ _ _) (valEq_int 2 _ _), ocond_t, agL1_c k0 (n2 _ _ _) (valEq_str 2 _), ocond_t, ocond_t, clone10 _ _ (by rw [ByteArray.size_append, ByteArray.size_append, ByteArray.size_extract, ByteArray.size_extract]; omega), orun_s]
        exact ⟨_, _, rfl, gr2⟩
    · have hne : (!(i == (x : Int) && (j == (y : Int) && s == s))) = true := by
        cases h1 : (i == (x : Int)) with
        | false => rfl
        | true =>
          cases h2 : (j == (y : Int)) with
          | false => rfl
          | true =>
            exfalso
            have e1 := p5.1 (by simpa using h1)
            have e2 := p6.1 (by simpa using h2)
            have e3 : i = (x : Int) := by simpa using h1
            exact hf ⟨e1.1, e1.2, e2.1, by have := e2.2; omega⟩
      rw [hne, cnd_t, applyV, if_neg hl, if_neg hf]
      exact ⟨_, _, rfl, gr2⟩
theorem rapply7 (call : CallF) (a : ByteArray) (i j : Int) (s : ByteArray) (hA : a.size ≤ 2000) (hs : s.size ≤ 2000) (h : Tr Ob) (N : Nat) : ∃ h' N', s7 call (.string a) (pV i j s) h N = some (applyV a i j s, h', N') ∧ Gr h N h' N' := by
  unfold s7
  simp only [fN_eq, fad_p, obind_s, Nat.zero_add]
  have c0 : cel (pV i j s) = [.int .i64 i, .int .i64 j, .string s] := rfl
  rw [c0]
  generalize hh : Tr.set h (some (.c [.int .i64 i, .int .i64 j, .string s] 23)) N = h1
  have g0 : h1.get N = some (.c [.int .i64 i, .int .i64 j, .string s] 23) := by rw [← hh, Tr.get_same]
  have gr : Gr h N h1 (N + 1) := by rw [← hh]; exact (Gr.refl h N).set (Nat.le_refl _) (by omega) _
  have n0 : ∀ a b c : Value, nth [a, b, c] 0 = some a := fun _ _ _ => rfl
  have n1 : ∀ a b c : Value, nth [a, b, c] 1 = some b := fun _ _ _ => rfl
  have n2 : ∀ a b c : Value, nth [a, b, c] 2 = some c := fun _ _ _ => rfl
  rw [evLen_str u9, obind_s, iop_gtr, obind_s, cnd_d]
  by_cases hl : 960 < a.size
  · rw [if_pos (by simp; omega)]
    refine ⟨_, _, ?_, gr⟩
    rw [applyV, if_pos hl]
    rfl
  · rw [if_neg (by simp; omega), applyV, if_neg hl]
    have bad : ¬ fits a i j → (∃ h' N', (some ((.tuple ⟨[(.string ({ data := { toList := [] } })), (.int .i64 (.ofNat 116))]⟩), (h1, N.succ)) : OpR) = some (if fits a i j then (if (960 : Int) < a.size - j + s.size then .tuple ⟨[noS, nS 113]⟩ else .tuple ⟨[.string (a.extract 0 i.toNat ++ s ++ a.extract (i.toNat + j.toNat) a.size), nS 0]⟩) else .tuple ⟨[noS, nS 116]⟩, h', N') ∧ Gr h N h' N') := by
      intro hf
      rw [if_neg hf]
      exact ⟨_, _, rfl, gr⟩
    by_cases d1 : i < 0
    · have d1' : decide (i < Int.ofNat 0) = true := decide_eq_true d1
      simp only [ld1_c g0, n0, n1, obind_s, iop_lss, d1', wnt_tf, br_f, orun_s, pck_t, cnd_t]
      exact bad fun hf => by have : 0 ≤ i := hf.1; omega
    · have d1' : decide (i < Int.ofNat 0) = false := decide_eq_false d1
      by_cases d2 : (a.size : Int) < i
      · have d2' : decide ((a.size : Int) < i) = true := decide_eq_true d2
        simp only [ld1_c g0, n0, n1, obind_s, iop_lss, iop_gtr, evLen_str u9, d1', d2', wnt_tf, wnt_ff, br_f, br_t, orun_s, pck_f, pck_t, cnd_t]
        exact bad fun hf => by have : i ≤ a.size := hf.2.1; omega
      · have d2' : decide ((a.size : Int) < i) = false := decide_eq_false d2
        by_cases d3 : j < 0
        · have d3' : decide (j < Int.ofNat 0) = true := decide_eq_true d3
          simp only [ld1_c g0, n0, n1, obind_s, iop_lss, iop_gtr, evLen_str u9, d1', d2', d3', wnt_tf, wnt_ff, br_f, br_t, orun_s, pck_f, pck_t, cnd_t]
          exact bad fun hf => by have : 0 ≤ j := hf.2.2.1; omega
        · have d3' : decide (j < Int.ofNat 0) = false := decide_eq_false d3
          have sb : iop .sub (.int .i64 (a.size : Int)) (.int .i64 i) = some (.int .i64 ((a.size : Int) - i)) := iop_sub (by constructor <;> omega)
          by_cases d4 : (a.size : Int) - i < j
          · have d4' : decide ((a.size : Int) - i < j) = true := decide_eq_true d4
            simp only [ld1_c g0, n0, n1, obind_s, iop_lss, iop_gtr, evLen_str u9, d1', d2', d3', d4', sb, wnt_tf, wnt_ff, br_f, br_t, orun_s, pck_f, pck_t, cnd_t]
            exact bad fun hf => by have : j ≤ a.size - i := hf.2.2.2; omega
          · have d4' : decide ((a.size : Int) - i < j) = false := decide_eq_false d4
            have hf : fits a i j := ⟨by omega, by omega, by omega, by omega⟩
            have sc : iop .sub (.int .i64 (a.size : Int)) (.int .i64 j) = some (.int .i64 ((a.size : Int) - j)) := iop_sub (by constructor <;> omega)
            have ad : iop .add (.int .i64 ((a.size : Int) - j)) (.int .i64 (s.size : Int)) = some (.int .i64 ((a.size : Int) - j + s.size)) := iop_add (by constructor <;> omega)
            simp only [ld1_c g0, n0, n1, n2, obind_s, iop_lss, iop_gtr, evLen_str u9, d1', d2', d3', d4', sb, sc, ad, wnt_tf, wnt_ff, br_f, br_t, orun_s, pck_f, pck_t, cnd_f, cnd_d]
            rw [if_pos hf]
            by_cases hb : (960 : Int) < a.size - j + s.size
            · rw [if_pos hb, if_pos (show Int.ofNat 960 < _ from hb)]
              exact ⟨_, _, rfl, gr⟩
            · rw [if_neg hb, if_neg (show ¬ Int.ofNat 960 < _ from hb)]
              obtain ⟨x, rfl⟩ : ∃ x : Nat, i = (x : Int) := ⟨i.toNat, by omega⟩
              obtain ⟨y, rfl⟩ : ∃ y : Nat, j = (y : Int) := ⟨j.toNat, by omega⟩
              rw [evSlice_hi u9 a (by omega), obind_s, b2 _ _ _ _ (by rw [ByteArray.size_extract]; omega), obind_s, iop_add (by constructor <;> omega), obind_s]
              have e1 : ((x : Int) + (y : Int)) = ((x + y : Nat) : Int) := by omega
              rw [e1, evSlice_lo u9 a (by omega), obind_s, b2 _ _ _ _ (by rw [ByteArray.size_append, ByteArray.size_extract, ByteArray.size_extract]; omega), obind_s]
              rw [agL1_c g0 (n1 _ _ _) (valEq_int 2 _ _), ocond_t, agL1_c g0 (n0 _ _ _) (valEq_int 2 _ _), ocond_t, agL1_c g0 (n2 _ _ _) (valEq_str 2 _), ocond_t, ocond_t]
              exact ⟨_, _, rfl, gr⟩
/-- The law. -/
theorem law3 (call : CallF) (a b : ByteArray) (i j : Int) (s : ByteArray) : ∃ h' N', s3 call (.string a) (.string b) (pV i j s) .nil 0 = some (.bool true, h', N') := by
  unfold s3
  simp only [fN_eq, fad_p, obind_s, Nat.zero_add]
  have c0 : cel (pV i j s) = [.int .i64 i, .int .i64 j, .string s] := rfl
  rw [c0]
  generalize hh : Tr.set (Tr.nil : Tr Ob) (some (.c [.int .i64 i, .int .i64 j, .string s] 23)) 0 = h1
  have g0 : h1.get 0 = some (.c [.int .i64 i, .int .i64 j, .string s] 23) := by rw [← hh, Tr.get_same]
  have n2 : ∀ a b c : Value, nth [a, b, c] 2 = some c := fun _ _ _ => rfl
  by_cases hA : 2000 < a.size
  · have d1' : decide (Int.ofNat 2000 < (a.size : Int)) = true := decide_eq_true (by simp; omega)
    simp only [evLen_str u9, iop_gtr, d1', obind_s, wnt_tf, br_f, orun_s, pck_t, cnd_t]
    exact ⟨_, _, rfl⟩
  · have d1' : decide (Int.ofNat 2000 < (a.size : Int)) = false := decide_eq_false (by simp; omega)
    by_cases hB : 2000 < b.size
    · have d2' : decide (Int.ofNat 2000 < (b.size : Int)) = true := decide_eq_true (by simp; omega)
      simp only [evLen_str u9, iop_gtr, d1', d2', obind_s, wnt_tf, wnt_ff, br_f, br_t, orun_s, pck_t, pck_f, cnd_t]
      exact ⟨_, _, rfl⟩
    · have d2' : decide (Int.ofNat 2000 < (b.size : Int)) = false := decide_eq_false (by simp; omega)
      by_cases hS : 2000 < s.size
      · have d3' : decide (Int.ofNat 2000 < (s.size : Int)) = true := decide_eq_true (by simp; omega)
        simp only [evLen_str u9, iop_gtr, d1', d2', d3', ld1_c g0, n2, obind_s, wnt_tf, wnt_ff, br_f, br_t, orun_s, pck_t, pck_f, cnd_t]
        exact ⟨_, _, rfl⟩
      · have d3' : decide (Int.ofNat 2000 < (s.size : Int)) = false := decide_eq_false (by simp; omega)
        simp only [evLen_str u9, iop_gtr, d1', d2', d3', ld1_c g0, n2, obind_s, wnt_tf, wnt_ff, br_f, br_t, orun_s, pck_t, pck_f, cnd_f]
        obtain ⟨D, e, hD, hDe, hDq, hDc⟩ : ∃ D : Value, ∃ e : Nat, (if isLong a b then Value.tuple ⟨[.agg ⟨[zS, zS, noS]⟩, nS 113]⟩ else .tuple ⟨[patchV a b, nS 0]⟩) = .tuple ⟨[D, nS e]⟩ ∧ (∃ p q u, D = pV p q u) ∧ (∀ x y, evBin Pr .eql 23 x y D D = some (.bool true)) ∧ True := by
          have hself : ∀ z : ByteArray, (z == z) = true := fun z => by rcases z with ⟨d⟩; show (d == d) = true; exact beq_self_eq_true d
          by_cases hl : isLong a b
          · exact ⟨_, 113, if_pos hl, ⟨_, _, _, rfl⟩, fun x y => by rw [b3, hself, beq_self_eq_true]; rfl, trivial⟩
          · exact ⟨_, 0, if_neg hl, ⟨_, _, _, rfl⟩, fun x y => by rw [b3, hself, beq_self_eq_true, beq_self_eq_true]; rfl, trivial⟩
        obtain ⟨p, q, u, rfl⟩ := hDe
        obtain ⟨V, f, hV⟩ : ∃ V : ByteArray, ∃ f : Nat, applyV a i j s = .tuple ⟨[.string V, nS f]⟩ := by
          unfold applyV
          by_cases h1 : 960 < a.size
          · exact ⟨_, 113, if_pos h1⟩
          · by_cases h2 : fits a i j
            · by_cases h3 : (960 : Int) < a.size - j + s.size
              · exact ⟨_, 113, by rw [if_neg h1, if_pos h2, if_pos h3]⟩
              · exact ⟨_, 0, by rw [if_neg h1, if_pos h2, if_neg h3]⟩
            · exact ⟨_, 116, by rw [if_neg h1, if_neg h2]⟩
        have tk : ∀ x y z : Value, Value.agg ⟨(([x, y, z] : List Value).drop 0).take 3⟩ = .agg ⟨[x, y, z]⟩ := fun _ _ _ => rfl
        have cp : cel (pV p q u) = [.int .i64 p, .int .i64 q, .string u] := rfl
        have ly : ∀ x y z : Value, lay [x, y, z] [.int .i64 p, .int .i64 q, .string u] 0 = [.int .i64 p, .int .i64 q, .string u] := fun _ _ _ => rfl
        have x0 : ∀ (A B : Value), extr 0 (.tuple ⟨[A, B]⟩) = some A := fun _ _ => rfl
        have x1 : ∀ (A B : Value), extr 1 (.tuple ⟨[A, B]⟩) = some B := fun _ _ => rfl
        obtain ⟨h2, N2, p1, p2⟩ := diff4 call a b (by omega) (by omega) h1 1
        rw [p1, hD, orun_s, x0, obind_s, x1, obind_s, sto_c (T := 23) (xs := [zS, zS, noS]) (v := pV p q u) (m := 3) (by rw [Tr.get_same]) rfl rfl (by simp), obind_s, cp, ly]
        generalize hh3 : (Tr.set (Tr.set h2 (some (.c [zS, zS, noS] 23)) N2) (some (.c [.int .i64 p, .int .i64 q, .string u] 23)) N2) = h3
        have k3 : h3.get N2 = some (.c [.int .i64 p, .int .i64 q, .string u] 23) := by rw [← hh3, Tr.get_same]
        have o3 : h3.get 0 = some (.c [.int .i64 i, .int .i64 j, .string s] 23) := by
          have := p2.le
          rw [← hh3, Tr.get_other _ _ (by omega), Tr.get_other _ _ (by omega), p2.old 0 (by omega)]; exact g0
        obtain ⟨h4, N4, q1, q2⟩ := rdiff5 call a b (by omega) (by omega) h3 (N2 + 1)
        rw [q1, hD, orun_s, x0, obind_s, x1, obind_s, sto_c (T := 23) (xs := [zS, zS, noS]) (v := pV p q u) (m := 3) (by rw [Tr.get_same]) rfl rfl (by simp), obind_s, cp, ly]
        have l2 := p2.le
        have l4 := q2.le
        generalize hh5 : (Tr.set (Tr.set h4 (some (.c [zS, zS, noS] 23)) N4) (some (.c [.int .i64 p, .int .i64 q, .string u] 23)) N4) = h5
        have k5 : h5.get N4 = some (.c [.int .i64 p, .int .i64 q, .string u] 23) := by rw [← hh5, Tr.get_same]
        have j5 : h5.get N2 = some (.c [.int .i64 p, .int .i64 q, .string u] 23) := by rw [← hh5, Tr.get_other _ _ (by omega), Tr.get_other _ _ (by omega), q2.old N2 (by omega)]; exact k3
        have o5 : h5.get 0 = some (.c [.int .i64 i, .int .i64 j, .string s] 23) := by rw [← hh5, Tr.get_other _ _ (by omega), Tr.get_other _ _ (by omega), q2.old 0 (by omega)]; exact o3
        rw [ldN_c o5 (by simp), obind_s, tk]
        obtain ⟨h6, N6, r1, r2⟩ := apply6 call a i j s (by omega) (by omega) h5 (N4 + 1)
        rw [r1, hV, orun_s, x0, obind_s, x1, obind_s]
        have o6 : h6.get 0 = some (.c [.int .i64 i, .int .i64 j, .string s] 23) := by rw [r2.old 0 (by omega)]; exact o5
        rw [ldN_c o6 (by simp), obind_s, tk]
        obtain ⟨h7, N7, t1, t2⟩ := rapply7 call a i j s (by omega) (by omega) h6 N6
        rw [t1, hV, orun_s, x0, obind_s, x1, obind_s]
        have l6 := r2.le
        have j7 : h7.get N2 = some (.c [.int .i64 p, .int .i64 q, .string u] 23) := by rw [t2.old N2 (by omega), r2.old N2 (by omega)]; exact j5
        have k7 : h7.get N4 = some (.c [.int .i64 p, .int .i64 q, .string u] 23) := by rw [t2.old N4 (by omega), r2.old N4 (by omega)]; exact k5
        rw [ldN_c j7 (by simp), obind_s, ldN_c k7 (by simp), obind_s, tk, hDq, obind_s]
        have de : ∀ z : Int, decide (z = z) = true := fun z => decide_eq_true rfl
        simp only [wnt_tt, obind_s, br_t, orun_s, iop_eql, decide_true, pck_t, b1, beq_self_eq_true]
        exact ⟨_, _, rfl⟩
end Go.Proofs.Ytiidfcnggkiapac
end
