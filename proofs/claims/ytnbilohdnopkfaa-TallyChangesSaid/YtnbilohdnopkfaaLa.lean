/-
  What the functions of the law return.
  Conditions: none.
-/
import Derived.Test.YtnbilohdnopkfaaEv4
import Derived.Test.YtnbilohdnopkfaaProg
import Derived.Deep.Slices
import Derived.ProofKit

section
namespace Go.Proofs.Ytnbilohdnopkfaa
open Go.Ev
set_option linter.unusedVariables false
set_option maxRecDepth 100000
set_option maxHeartbeats 4000000
noncomputable abbrev Pr := Try.prog
theorem hmix : Pr.follows .mixedOrders = true := by rfl
/- function 4 -/
noncomputable def st4 : Ev.St := []
noncomputable def s4 (call : CallF) (a0 : Value) (h : Tr Ob) (N : Nat) : OpR :=
  (fN (.succ N) (fun N0 => (obind (Ev.fad 2 (.pointer (some ⟨N, 0, none⟩))) (fun v1 => (obind (Ev.ld1 (Tr.set h (some (.c (Ev.cel a0) 24)) N) v1) (fun v2 => (obind (Ev.lenS v2) (fun v3 => (obind (Ev.iop .gtr v3 (.int .i64 (.ofNat 30))) (fun v4 => (obind (Ev.wntV v4 false) (fun v5 => (orun (Bool.rec (motive := fun _ => OpR) (some ((.tuple ⟨[]⟩), ((Tr.set h (some (.c (Ev.cel a0) 24)) N), N0))) (obind (Ev.fad 3 (.pointer (some ⟨N, 0, none⟩))) (fun v6 => (some (v6, ((Tr.set h (some (.c (Ev.cel a0) 24)) N), N0))))) v5) (fun v7 h8 N9 => (obind (Ev.wntV v4 false) (fun v10 => (orun (Bool.rec (motive := fun _ => OpR) (some ((.tuple ⟨[]⟩), (h8, N9))) (obind (Ev.ld1 h8 v7) (fun v11 => (some (v11, (h8, N9))))) v10) (fun v12 h13 N14 => (obind (Ev.wntV v4 false) (fun v15 => (orun (Bool.rec (motive := fun _ => OpR) (some ((.tuple ⟨[]⟩), (h13, N14))) (obind (Ev.lenS v12) (fun v16 => (some (v16, (h13, N14))))) v15) (fun v17 h18 N19 => (obind (Ev.wntV v4 false) (fun v20 => (orun (Bool.rec (motive := fun _ => OpR) (some ((.tuple ⟨[]⟩), (h18, N19))) (obind (Ev.iop .gtr v17 (.int .i64 (.ofNat 30))) (fun v21 => (some (v21, (h18, N19))))) v20) (fun v22 h23 N24 => (obind (Ev.pck v4 (some (.bool true)) (some v22)) (fun v25 => (some (v25, (h23, N24)))))))))))))))))))))))))))))))
noncomputable def F4 : Ev.Fs := fun call args h N => ar1 args fun a0 => s4 call a0 h N
theorem o4 : FOk Pr 4 F4 := ar1_ok (F := cFn Pr st4 4 .n) (s := s4) (fun call a0 h N => by kernel_rfl) (cFn_ok hmix (st := st4) StOk.nil 4 .n)
/- function 5 -/
noncomputable def st5 : Ev.St := []
noncomputable def s5 (call : CallF) (a0 : Value) (h : Tr Ob) (N : Nat) : OpR :=
  (fN (.succ N) (fun N0 => (fN (.succ N0) (fun N1 => (orun (Ev.evBuildSlice Pr 22 0 [] (Tr.set (Tr.set h (some (.c (Ev.cel a0) 24)) N) (some (.c [(.int .i64 (.ofNat 0)), (.int .i64 (.ofNat 0)), (.slice none 0 0), (.slice none 0 0)] 24)) N0) N1) (fun v2 h3 N4 => (obind (Ev.fad 2 (.pointer (some ⟨N, 0, none⟩))) (fun v5 => (obind (Ev.ld1 h3 v5) (fun v6 => (orun (Ev.evBuildSlice Pr 22 0 [] h3 N4) (fun v7 h8 N9 => (obind (Ev.fad 3 (.pointer (some ⟨N, 0, none⟩))) (fun v10 => (obind (Ev.ld1 h8 v10) (fun v11 => (ocond (Ev.agL1 h8 v10 v11) (ocond (Ev.again Pr h8 (.mk 4 (.mk (some 7) (.buildSlice 22 0 ⟨[]⟩) 22 "ref.go:492" ⟨[]⟩ none) (.e 32) v7 N4 true)) (ocond (Ev.agL1 h8 v5 v6) (ocond (Ev.again Pr h8 (.mk 0 (.mk (some 3) (.buildSlice 22 0 ⟨[]⟩) 22 "ref.go:492" ⟨[]⟩ none) (.e 32) v2 N1 true)) (orun (Ev.evAppend Pr 22 v2 v6 h8 N9) (fun v12 h13 N14 => (obind (Ev.fad 2 (.pointer (some ⟨N, 0, none⟩))) (fun v15 => (ocond (Ev.agL1 h13 v10 v11) (ocond (Ev.again Pr h13 (.mk 4 (.mk (some 7) (.buildSlice 22 0 ⟨[]⟩) 22 "ref.go:492" ⟨[]⟩ none) (.e 32) v7 N4 true)) (orun (Ev.evAppend Pr 22 v7 v11 h13 N14) (fun v16 h17 N18 => (obind (Ev.sto 1 v15 v12 h17) (fun h19 => (obind (Ev.fad 3 (.pointer (some ⟨N, 0, none⟩))) (fun v20 => (obind (Ev.sto 1 v20 v16 h19) (fun h21 => (obind (Ev.ldN 4 h21 (.pointer (some ⟨N, 0, none⟩))) (fun v22 => (obind (Ev.sto 4 (.pointer (some ⟨N0, 0, none⟩)) v22 h21) (fun h23 => (obind (Ev.ldN 4 h23 (.pointer (some ⟨N0, 0, none⟩))) (fun v24 => (some (v24, (h23, N18)))))))))))))))))))))))))))))))))))))))))))
noncomputable def F5 : Ev.Fs := fun call args h N => ar1 args fun a0 => s5 call a0 h N
theorem o5 : FOk Pr 5 F5 := ar1_ok (F := cFn Pr st5 5 .n) (s := s5) (fun call a0 h N => by kernel_rfl) (cFn_ok hmix (st := st5) StOk.nil 5 .n)
/- function 22 -/
noncomputable def st22 : Ev.St := []
noncomputable def s22 (call : CallF) (a0 : Value) (h : Tr Ob) (N : Nat) : OpR :=
  (fN (.succ N) (fun N0 => (obind (Ev.fad 0 (.pointer (some ⟨N, 0, none⟩))) (fun v1 => (obind (Ev.ld1 (Tr.set h (some (.c (Ev.cel a0) 46)) N) v1) (fun v2 => (obind (Ev.lenS v2) (fun v3 => (obind (Ev.iop .leq v3 (.int .i64 (.ofNat 6))) (fun v4 => (some (v4, ((Tr.set h (some (.c (Ev.cel a0) 46)) N), N0)))))))))))))
noncomputable def F22 : Ev.Fs := fun call args h N => ar1 args fun a0 => s22 call a0 h N
theorem o22 : FOk Pr 22 F22 := ar1_ok (F := cFn Pr st22 22 .n) (s := s22) (fun call a0 h N => by kernel_rfl) (cFn_ok hmix (st := st22) StOk.nil 22 .n)
/- function 31 -/
noncomputable def st31 : Ev.St := []
noncomputable def s31 (call : CallF) (a0 a1 : Value) (h : Tr Ob) (N : Nat) : OpR :=
  (fN (.succ N) (fun N0 => (obind (Ev.evBuild Pr 67 [(0, a0), (1, a1)]) (fun v1 => (obind (Ev.sto 2 (.pointer (some ⟨N, 0, none⟩)) v1 (Tr.set h (some (.c [(.int .i64 (.ofNat 0)), (.int .i64 (.ofNat 0))] 67)) N)) (fun h2 => (obind (Ev.ldN 2 h2 (.pointer (some ⟨N, 0, none⟩))) (fun v3 => (some (v3, (h2, N0)))))))))))
noncomputable def F31 : Ev.Fs := fun call args h N => ar2 args fun a0 a1 => s31 call a0 a1 h N
theorem o31 : FOk Pr 31 F31 := ar2_ok (F := cFn Pr st31 31 .n) (s := s31) (fun call a0 a1 h N => by kernel_rfl) (cFn_ok hmix (st := st31) StOk.nil 31 .n)
/- function 30 -/
noncomputable def st30 : Ev.St := []
noncomputable def s30 (call : CallF) (a0 a1 : Value) (h : Tr Ob) (N : Nat) : OpR :=
  (fN (.succ N) (fun N0 => (obind (Ev.lenS a1) (fun v1 => (lpR (α := C4) (fun v2 v3 v4 v5 d6 h7 N8 => none) (fun g9 v10 v11 v12 v13 d14 h15 N16 => (obind (Ev.iop .lss v13 v12) (fun v17 => (Ev.cnd v17 (obind (Ev.iadS 1 v11 v13) (fun v18 => (obind (Ev.ld1 h15 v18) (fun v19 => (obind (Ev.fad 0 v10) (fun v20 => (obind (Ev.ld1 h15 v20) (fun v21 => (obind (Ev.iop .lss v19 v21) (fun v22 => (obind (Ev.wntV v22 false) (fun v23 => (orun (Bool.rec (motive := fun _ => OpR) (some ((.tuple ⟨[]⟩), (h15, N16))) (some (v19, (h15, N16))) v23) (fun v24 h25 N26 => (obind (Ev.wntV v22 false) (fun v27 => (orun (Bool.rec (motive := fun _ => OpR) (some ((.tuple ⟨[]⟩), (h25, N26))) (obind (Ev.fad 1 v10) (fun v28 => (some (v28, (h25, N26))))) v27) (fun v29 h30 N31 => (obind (Ev.wntV v22 false) (fun v32 => (orun (Bool.rec (motive := fun _ => OpR) (some ((.tuple ⟨[]⟩), (h30, N31))) (obind (Ev.ld1 h30 v29) (fun v33 => (some (v33, (h30, N31))))) v32) (fun v34 h35 N36 => (obind (Ev.wntV v22 false) (fun v37 => (orun (Bool.rec (motive := fun _ => OpR) (some ((.tuple ⟨[]⟩), (h35, N36))) (obind (Ev.iop .gtr v24 v34) (fun v38 => (some (v38, (h35, N36))))) v37) (fun v39 h40 N41 => (obind (Ev.pck v22 (some (.bool true)) (some v39)) (fun v42 => (Ev.cnd v42 (obind (Ev.unmark d14 h40) (fun h43 => (some ((.bool false), (h43, N41))))) (obind (Ev.iop .add v13 (.int .i64 (.ofNat 1))) (fun v44 => (g9 v10 v11 v12 v44 d14 h40 N41)))))))))))))))))))))))))))))))) (obind (Ev.unmark d14 h15) (fun h45 => (some ((.bool true), (h45, N16))))))))) (.pointer (some ⟨N, 0, none⟩)) a1 v1 (.int .i64 (.ofNat 0)) [] (Tr.set h (some (.c (Ev.cel a0) 67)) N) N0)))))
noncomputable def F30 : Ev.Fs := fun call args h N => ar2 args fun a0 a1 => s30 call a0 a1 h N
theorem o30 : FOk Pr 30 F30 := ar2_ok (F := cFn Pr st30 30 (.s .n (.s (.s .n (.s (.j [2, 7, 8, 9] .n .n) .n)) .n))) (s := s30) (fun call a0 a1 h N => by kernel_rfl) (cFn_ok hmix (st := st30) StOk.nil 30 (.s .n (.s (.s .n (.s (.j [2, 7, 8, 9] .n .n) .n)) .n)))
/- function 28 -/
noncomputable def st28 : Ev.St := [(31, F31), (30, F30)]
noncomputable def s28 (call : CallF) (a0 : Value) (h : Tr Ob) (N : Nat) : OpR :=
  (orun (s31 call (.int .i64 (.ofNat 1)) (.int .i64 (.ofNat 4)) h N) (fun v0 h1 N2 => (orun (s30 call v0 a0 h1 N2) (fun v3 h4 N5 => (some (v3, (h4, N5)))))))
noncomputable def F28 : Ev.Fs := fun call args h N => ar1 args fun a0 => s28 call a0 h N
theorem o28 : FOk Pr 28 F28 := ar1_ok (F := cFn Pr st28 28 .n) (s := s28) (fun call a0 h N => by kernel_rfl) (cFn_ok hmix (st := st28) (StOk.cons o31 (StOk.cons o30 StOk.nil)) 28 .n)
/- function 46 -/
noncomputable def st46 : Ev.St := [(28, F28)]
noncomputable def s46 (call : CallF) (a0 : Value) (h : Tr Ob) (N : Nat) : OpR :=
  (obind (Ev.lenS a0) (fun v0 => (obind (Ev.iop .leq v0 (.int .i64 (.ofNat 12))) (fun v1 => (obind (Ev.wntV v1 true) (fun v2 => (orun (Bool.rec (motive := fun _ => OpR) (some ((.tuple ⟨[]⟩), (h, N))) (some (a0, (h, N))) v2) (fun v3 h4 N5 => (obind (Ev.wntV v1 true) (fun v6 => (orun (Bool.rec (motive := fun _ => OpR) (some ((.tuple ⟨[]⟩), (h4, N5))) (orun (s28 call v3 h4 N5) (fun v7 h8 N9 => (some (v7, (h8, N9))))) v6) (fun v10 h11 N12 => (obind (Ev.pck v1 (some v10) (some (.bool false))) (fun v13 => (some (v13, (h11, N12)))))))))))))))))
noncomputable def F46 : Ev.Fs := fun call args h N => ar1 args fun a0 => s46 call a0 h N
theorem o46 : FOk Pr 46 F46 := ar1_ok (F := cFn Pr st46 46 .n) (s := s46) (fun call a0 h N => by kernel_rfl) (cFn_ok hmix (st := st46) (StOk.cons o28 StOk.nil) 46 .n)
/- function 42 -/
noncomputable def st42 : Ev.St := [(31, F31), (30, F30), (46, F46)]
noncomputable def s42 (call : CallF) (a0 : Value) (h : Tr Ob) (N : Nat) : OpR :=
  (fN (.succ N) (fun N0 => (obind (Ev.fad 0 (.pointer (some ⟨N, 0, none⟩))) (fun v1 => (obind (Ev.ld1 (Tr.set h (some (.c (Ev.cel a0) 24)) N) v1) (fun v2 => (obind (Ev.fad 1 (.pointer (some ⟨N, 0, none⟩))) (fun v3 => (obind (Ev.ld1 (Tr.set h (some (.c (Ev.cel a0) 24)) N) v3) (fun v4 => (orun (Ev.evBuildSlice Pr 22 2 [(0, v2), (1, v4)] (Tr.set h (some (.c (Ev.cel a0) 24)) N) N0) (fun v5 h6 N7 => (ocond (Ev.again Pr h6 (.mk 5 (.mk (some 8) (.buildSlice 22 2 ⟨[(0, (.tmp 5)), (1, (.tmp 7))]⟩) 22 "valid.go:25" ⟨[(.mk 2 .data), (.mk 4 .data)]⟩ none) (Tr.set (Tr.set (.e 32) (some v4) 7) (some v2) 5) v5 N0 true)) (ocond (Ev.agL1 h6 v3 v4) (ocond (Ev.agL1 h6 v1 v2) (orun (s31 call (.int .i64 (.ofNat 1)) (.int .i64 (.ofNat 9999)) h6 N7) (fun v8 h9 N10 => (ocond (Ev.again Pr h9 (.mk 5 (.mk (some 8) (.buildSlice 22 2 ⟨[(0, (.tmp 5)), (1, (.tmp 7))]⟩) 22 "valid.go:25" ⟨[(.mk 2 .data), (.mk 4 .data)]⟩ none) (Tr.set (Tr.set (.e 32) (some v4) 7) (some v2) 5) v5 N0 true)) (ocond (Ev.agL1 h9 v3 v4) (ocond (Ev.agL1 h9 v1 v2) (orun (s30 call v8 v5 h9 N10) (fun v11 h12 N13 => (obind (Ev.wntV v11 true) (fun v14 => (orun (Bool.rec (motive := fun _ => OpR) (some ((.tuple ⟨[]⟩), (h12, N13))) (obind (Ev.fad 2 (.pointer (some ⟨N, 0, none⟩))) (fun v15 => (some (v15, (h12, N13))))) v14) (fun v16 h17 N18 => (obind (Ev.wntV v11 true) (fun v19 => (orun (Bool.rec (motive := fun _ => OpR) (some ((.tuple ⟨[]⟩), (h17, N18))) (obind (Ev.ld1 h17 v16) (fun v20 => (some (v20, (h17, N18))))) v19) (fun v21 h22 N23 => (obind (Ev.wntV v11 true) (fun v24 => (orun (Bool.rec (motive := fun _ => OpR) (some ((.tuple ⟨[]⟩), (h22, N23))) (ocond (Ev.impB v19 (Ev.agL1 h22 v16 v21)) (orun (s46 call v21 h22 N23) (fun v25 h26 N27 => (some (v25, (h26, N27)))))) v24) (fun v28 h29 N30 => (obind (Ev.pck v11 (some v28) (some (.bool false))) (fun v31 => (obind (Ev.wntV v31 true) (fun v32 => (orun (Bool.rec (motive := fun _ => OpR) (some ((.tuple ⟨[]⟩), (h29, N30))) (obind (Ev.fad 3 (.pointer (some ⟨N, 0, none⟩))) (fun v33 => (some (v33, (h29, N30))))) v32) (fun v34 h35 N36 => (obind (Ev.wntV v31 true) (fun v37 => (orun (Bool.rec (motive := fun _ => OpR) (some ((.tuple ⟨[]⟩), (h35, N36))) (obind (Ev.ld1 h35 v34) (fun v38 => (some (v38, (h35, N36))))) v37) (fun v39 h40 N41 => (obind (Ev.wntV v31 true) (fun v42 => (orun (Bool.rec (motive := fun _ => OpR) (some ((.tuple ⟨[]⟩), (h40, N41))) (ocond (Ev.impB v37 (Ev.agL1 h40 v34 v39)) (ocond (Ev.impB (Ev.offB v19 v24) (Ev.agL1 h40 v16 v21)) (orun (s46 call v39 h40 N41) (fun v43 h44 N45 => (some (v43, (h44, N45))))))) v42) (fun v46 h47 N48 => (obind (Ev.pck v31 (some v46) (some (.bool false))) (fun v49 => (ocond (Ev.impB (Ev.offB v37 v42) (Ev.agL1 h47 v34 v39)) (ocond (Ev.impB (Ev.offB (Ev.offB v19 v24) v42) (Ev.agL1 h47 v16 v21)) (some (v49, (h47, N48)))))))))))))))))))))))))))))))))))))))))))))))))))))))
noncomputable def F42 : Ev.Fs := fun call args h N => ar1 args fun a0 => s42 call a0 h N
theorem o42 : FOk Pr 42 F42 := ar1_ok (F := cFn Pr st42 42 .n) (s := s42) (fun call a0 h N => by kernel_rfl) (cFn_ok hmix (st := st42) (StOk.cons o31 (StOk.cons o30 (StOk.cons o46 StOk.nil))) 42 .n)
/- function 24 -/
noncomputable def st24 : Ev.St := [(42, F42)]
noncomputable def s24 (call : CallF) (a0 : Value) (h : Tr Ob) (N : Nat) : OpR :=
  (obind (Ev.lenS a0) (fun v0 => (lpR (α := C3) (fun v1 v2 v3 d4 h5 N6 => none) (fun g7 v8 v9 v10 d11 h12 N13 => (obind (Ev.iop .lss v10 v9) (fun v14 => (Ev.cnd v14 (obind (Ev.iadS 4 v8 v10) (fun v15 => (obind (Ev.ldN 4 h12 v15) (fun v16 => (fN (.succ N13) (fun N17 => (obind (Ev.sto 4 (.pointer (some ⟨N13, 0, none⟩)) v16 (Tr.set h12 (some (.c [(.int .i64 (.ofNat 0)), (.int .i64 (.ofNat 0)), (.slice none 0 0), (.slice none 0 0)] 24)) N13)) (fun h18 => (obind (Ev.ldN 4 h18 (.pointer (some ⟨N13, 0, none⟩))) (fun v19 => (orun (s42 call v19 h18 N17) (fun v20 h21 N22 => (obind (Ev.unV Pr .not v20) (fun v23 => (Ev.cnd v23 (obind (Ev.unmark d11 h21) (fun h24 => (some ((.bool false), (h24, N22))))) (obind (Ev.iop .add v10 (.int .i64 (.ofNat 1))) (fun v25 => (g7 v8 v9 v25 d11 h21 N22)))))))))))))))))) (obind (Ev.unmark d11 h12) (fun h26 => (some ((.bool true), (h26, N13))))))))) a0 v0 (.int .i64 (.ofNat 0)) [] h N)))
noncomputable def F24 : Ev.Fs := fun call args h N => ar1 args fun a0 => s24 call a0 h N
theorem o24 : FOk Pr 24 F24 := ar1_ok (F := cFn Pr st24 24 (.s .n (.s (.s .n (.s (.j [5, 6, 7] .n .n) .n)) .n))) (s := s24) (fun call a0 h N => by kernel_rfl) (cFn_ok hmix (st := st24) (StOk.cons o42 StOk.nil) 24 (.s .n (.s (.s .n (.s (.j [5, 6, 7] .n .n) .n)) .n)))
/- function 23 -/
noncomputable def st23 : Ev.St := [(24, F24)]
noncomputable def s23 (call : CallF) (a0 : Value) (h : Tr Ob) (N : Nat) : OpR :=
  (fN (.succ N) (fun N0 => (obind (Ev.fad 0 (.pointer (some ⟨N, 0, none⟩))) (fun v1 => (obind (Ev.ld1 (Tr.set h (some (.c (Ev.cel a0) 46)) N) v1) (fun v2 => (orun (s24 call v2 (Tr.set h (some (.c (Ev.cel a0) 46)) N) N0) (fun v3 h4 N5 => (some (v3, (h4, N5)))))))))))
noncomputable def F23 : Ev.Fs := fun call args h N => ar1 args fun a0 => s23 call a0 h N
theorem o23 : FOk Pr 23 F23 := ar1_ok (F := cFn Pr st23 23 .n) (s := s23) (fun call a0 h N => by kernel_rfl) (cFn_ok hmix (st := st23) (StOk.cons o24 StOk.nil) 23 .n)
/- function 26 -/
noncomputable def st26 : Ev.St := [(31, F31), (30, F30)]
noncomputable def s26 (call : CallF) (a0 : Value) (h : Tr Ob) (N : Nat) : OpR :=
  (fN (.succ N) (fun N0 => (obind (Ev.fad 0 (.pointer (some ⟨N, 0, none⟩))) (fun v1 => (obind (Ev.ld1 (Tr.set h (some (.c (Ev.cel a0) 44)) N) v1) (fun v2 => (obind (Ev.fad 1 (.pointer (some ⟨N, 0, none⟩))) (fun v3 => (obind (Ev.ld1 (Tr.set h (some (.c (Ev.cel a0) 44)) N) v3) (fun v4 => (obind (Ev.fad 2 (.pointer (some ⟨N, 0, none⟩))) (fun v5 => (obind (Ev.ld1 (Tr.set h (some (.c (Ev.cel a0) 44)) N) v5) (fun v6 => (obind (Ev.fad 3 (.pointer (some ⟨N, 0, none⟩))) (fun v7 => (obind (Ev.ld1 (Tr.set h (some (.c (Ev.cel a0) 44)) N) v7) (fun v8 => (orun (Ev.evBuildSlice Pr 22 4 [(0, v2), (1, v4), (2, v6), (3, v8)] (Tr.set h (some (.c (Ev.cel a0) 44)) N) N0) (fun v9 h10 N11 => (ocond (Ev.again Pr h10 (.mk 9 (.mk (some 12) (.buildSlice 22 4 ⟨[(0, (.tmp 5)), (1, (.tmp 7)), (2, (.tmp 9)), (3, (.tmp 11))]⟩) 22 "valid.go:38" ⟨[(.mk 2 .data), (.mk 4 .data), (.mk 6 .data), (.mk 8 .data)]⟩ none) (Tr.set (Tr.set (Tr.set (Tr.set (.e 32) (some v8) 11) (some v6) 9) (some v4) 7) (some v2) 5) v9 N0 true)) (ocond (Ev.agL1 h10 v7 v8) (ocond (Ev.agL1 h10 v5 v6) (ocond (Ev.agL1 h10 v3 v4) (ocond (Ev.agL1 h10 v1 v2) (orun (s31 call (.int .i64 (.ofNat 0)) (.int .i64 (.ofNat 1000)) h10 N11) (fun v12 h13 N14 => (ocond (Ev.again Pr h13 (.mk 9 (.mk (some 12) (.buildSlice 22 4 ⟨[(0, (.tmp 5)), (1, (.tmp 7)), (2, (.tmp 9)), (3, (.tmp 11))]⟩) 22 "valid.go:38" ⟨[(.mk 2 .data), (.mk 4 .data), (.mk 6 .data), (.mk 8 .data)]⟩ none) (Tr.set (Tr.set (Tr.set (Tr.set (.e 32) (some v8) 11) (some v6) 9) (some v4) 7) (some v2) 5) v9 N0 true)) (ocond (Ev.agL1 h13 v7 v8) (ocond (Ev.agL1 h13 v5 v6) (ocond (Ev.agL1 h13 v3 v4) (ocond (Ev.agL1 h13 v1 v2) (orun (s30 call v12 v9 h13 N14) (fun v15 h16 N17 => (some (v15, (h16, N17)))))))))))))))))))))))))))))))))))))
noncomputable def F26 : Ev.Fs := fun call args h N => ar1 args fun a0 => s26 call a0 h N
theorem o26 : FOk Pr 26 F26 := ar1_ok (F := cFn Pr st26 26 .n) (s := s26) (fun call a0 h N => by kernel_rfl) (cFn_ok hmix (st := st26) (StOk.cons o31 (StOk.cons o30 StOk.nil)) 26 .n)
/- function 25 -/
noncomputable def st25 : Ev.St := [(26, F26)]
noncomputable def s25 (call : CallF) (a0 : Value) (h : Tr Ob) (N : Nat) : OpR :=
  (fN (.succ N) (fun N0 => (obind (Ev.fad 2 (.pointer (some ⟨N, 0, none⟩))) (fun v1 => (obind (Ev.ldN 4 (Tr.set h (some (.c (Ev.cel a0) 46)) N) v1) (fun v2 => (orun (s26 call v2 (Tr.set h (some (.c (Ev.cel a0) 46)) N) N0) (fun v3 h4 N5 => (some (v3, (h4, N5)))))))))))
noncomputable def F25 : Ev.Fs := fun call args h N => ar1 args fun a0 => s25 call a0 h N
theorem o25 : FOk Pr 25 F25 := ar1_ok (F := cFn Pr st25 25 .n) (s := s25) (fun call a0 h N => by kernel_rfl) (cFn_ok hmix (st := st25) (StOk.cons o26 StOk.nil) 25 .n)
/- function 27 -/
noncomputable def st27 : Ev.St := [(28, F28)]
noncomputable def s27 (call : CallF) (a0 : Value) (h : Tr Ob) (N : Nat) : OpR :=
  (fN (.succ N) (fun N0 => (obind (Ev.fad 1 (.pointer (some ⟨N, 0, none⟩))) (fun v1 => (obind (Ev.ld1 (Tr.set h (some (.c (Ev.cel a0) 46)) N) v1) (fun v2 => (orun (Ev.evBuildSlice Pr 22 1 [(0, v2)] (Tr.set h (some (.c (Ev.cel a0) 46)) N) N0) (fun v3 h4 N5 => (orun (s28 call v3 h4 N5) (fun v6 h7 N8 => (some (v6, (h7, N8)))))))))))))
noncomputable def F27 : Ev.Fs := fun call args h N => ar1 args fun a0 => s27 call a0 h N
theorem o27 : FOk Pr 27 F27 := ar1_ok (F := cFn Pr st27 27 .n) (s := s27) (fun call a0 h N => by kernel_rfl) (cFn_ok hmix (st := st27) (StOk.cons o28 StOk.nil) 27 .n)
/- function 29 -/
noncomputable def st29 : Ev.St := [(31, F31), (30, F30)]
noncomputable def s29 (call : CallF) (a0 : Value) (h : Tr Ob) (N : Nat) : OpR :=
  (fN (.succ N) (fun N0 => (obind (Ev.fad 0 (.pointer (some ⟨N, 0, none⟩))) (fun v1 => (obind (Ev.ld1 (Tr.set h (some (.c (Ev.cel a0) 46)) N) v1) (fun v2 => (obind (Ev.iadS 4 v2 (.int .i64 (.ofNat 0))) (fun v3 => (obind (Ev.fad 2 v3) (fun v4 => (obind (Ev.ld1 (Tr.set h (some (.c (Ev.cel a0) 46)) N) v4) (fun v5 => (obind (Ev.lenS v5) (fun v6 => (obind (Ev.fad 6 (.pointer (some ⟨N, 0, none⟩))) (fun v7 => (obind (Ev.ld1 (Tr.set h (some (.c (Ev.cel a0) 46)) N) v7) (fun v8 => (orun (Ev.evBuildSlice Pr 22 1 [(0, v8)] (Tr.set h (some (.c (Ev.cel a0) 46)) N) N0) (fun v9 h10 N11 => (ocond (Ev.again Pr h10 (.mk 9 (.mk (some 12) (.buildSlice 22 1 ⟨[(0, (.tmp 11))]⟩) 22 "ask.go:37" ⟨[(.mk 8 .data)]⟩ none) (Tr.set (.e 32) (some v8) 11) v9 N0 true)) (ocond (Ev.agL1 h10 v7 v8) (ocond (Ev.agL1 h10 v4 v5) (ocond (Ev.agL1 h10 v1 v2) (orun (s31 call (.int .i64 (.ofNat 0)) v6 h10 N11) (fun v12 h13 N14 => (ocond (Ev.again Pr h13 (.mk 9 (.mk (some 12) (.buildSlice 22 1 ⟨[(0, (.tmp 11))]⟩) 22 "ask.go:37" ⟨[(.mk 8 .data)]⟩ none) (Tr.set (.e 32) (some v8) 11) v9 N0 true)) (ocond (Ev.agL1 h13 v7 v8) (orun (s30 call v12 v9 h13 N14) (fun v15 h16 N17 => (some (v15, (h16, N17)))))))))))))))))))))))))))))))))
noncomputable def F29 : Ev.Fs := fun call args h N => ar1 args fun a0 => s29 call a0 h N
theorem o29 : FOk Pr 29 F29 := ar1_ok (F := cFn Pr st29 29 .n) (s := s29) (fun call a0 h N => by kernel_rfl) (cFn_ok hmix (st := st29) (StOk.cons o31 (StOk.cons o30 StOk.nil)) 29 .n)
/- function 32 -/
noncomputable def st32 : Ev.St := [(31, F31), (30, F30)]
noncomputable def s32 (call : CallF) (a0 : Value) (h : Tr Ob) (N : Nat) : OpR :=
  (fN (.succ N) (fun N0 => (obind (Ev.fad 0 (.pointer (some ⟨N, 0, none⟩))) (fun v1 => (obind (Ev.ld1 (Tr.set h (some (.c (Ev.cel a0) 46)) N) v1) (fun v2 => (obind (Ev.iadS 4 v2 (.int .i64 (.ofNat 0))) (fun v3 => (obind (Ev.fad 3 v3) (fun v4 => (obind (Ev.ld1 (Tr.set h (some (.c (Ev.cel a0) 46)) N) v4) (fun v5 => (obind (Ev.lenS v5) (fun v6 => (obind (Ev.fad 7 (.pointer (some ⟨N, 0, none⟩))) (fun v7 => (obind (Ev.ld1 (Tr.set h (some (.c (Ev.cel a0) 46)) N) v7) (fun v8 => (orun (Ev.evBuildSlice Pr 22 1 [(0, v8)] (Tr.set h (some (.c (Ev.cel a0) 46)) N) N0) (fun v9 h10 N11 => (ocond (Ev.again Pr h10 (.mk 9 (.mk (some 12) (.buildSlice 22 1 ⟨[(0, (.tmp 11))]⟩) 22 "ask.go:38" ⟨[(.mk 8 .data)]⟩ none) (Tr.set (.e 32) (some v8) 11) v9 N0 true)) (ocond (Ev.agL1 h10 v7 v8) (ocond (Ev.agL1 h10 v4 v5) (ocond (Ev.agL1 h10 v1 v2) (orun (s31 call (.int .i64 (.ofNat 0)) v6 h10 N11) (fun v12 h13 N14 => (ocond (Ev.again Pr h13 (.mk 9 (.mk (some 12) (.buildSlice 22 1 ⟨[(0, (.tmp 11))]⟩) 22 "ask.go:38" ⟨[(.mk 8 .data)]⟩ none) (Tr.set (.e 32) (some v8) 11) v9 N0 true)) (ocond (Ev.agL1 h13 v7 v8) (orun (s30 call v12 v9 h13 N14) (fun v15 h16 N17 => (some (v15, (h16, N17)))))))))))))))))))))))))))))))))
noncomputable def F32 : Ev.Fs := fun call args h N => ar1 args fun a0 => s32 call a0 h N
theorem o32 : FOk Pr 32 F32 := ar1_ok (F := cFn Pr st32 32 .n) (s := s32) (fun call a0 h N => by kernel_rfl) (cFn_ok hmix (st := st32) (StOk.cons o31 (StOk.cons o30 StOk.nil)) 32 .n)
/- function 34 -/
noncomputable def st34 : Ev.St := []
noncomputable def s34 (call : CallF) (a0 : Value) (h : Tr Ob) (N : Nat) : OpR :=
  (obind (Ev.lenS a0) (fun v0 => (lpR (α := C5) (fun v1 v2 v3 v4 v5 d6 h7 N8 => none) (fun g9 v10 v11 v12 v13 v14 d15 h16 N17 => (obind (Ev.iop .lss v14 v13) (fun v18 => (Ev.cnd v18 (obind (Ev.iadS 4 v12 v14) (fun v19 => (obind (Ev.ldN 4 h16 v19) (fun v20 => (fN (.succ N17) (fun N21 => (obind (Ev.sto 4 (.pointer (some ⟨N17, 0, none⟩)) v20 (Tr.set h16 (some (.c [(.int .i64 (.ofNat 0)), (.int .i64 (.ofNat 0)), (.slice none 0 0), (.slice none 0 0)] 24)) N17)) (fun h22 => (obind (Ev.fad 2 (.pointer (some ⟨N17, 0, none⟩))) (fun v23 => (obind (Ev.ld1 h22 v23) (fun v24 => (obind (Ev.lenS v24) (fun v25 => (obind (Ev.iop .add v10 v25) (fun v26 => (obind (Ev.fad 3 (.pointer (some ⟨N17, 0, none⟩))) (fun v27 => (obind (Ev.ld1 h22 v27) (fun v28 => (obind (Ev.lenS v28) (fun v29 => (obind (Ev.iop .add v11 v29) (fun v30 => (obind (Ev.iop .add v14 (.int .i64 (.ofNat 1))) (fun v31 => (g9 v26 v30 v12 v13 v31 d15 h22 N21))))))))))))))))))))))))))) (obind (Ev.mxV Pr ⟨[3, 3]⟩ 3 [v10, v11]) (fun v32 => (obind (Ev.iop .leq v32 (.int .i64 (.ofNat 12))) (fun v33 => (obind (Ev.unmark d15 h16) (fun h34 => (some (v33, (h34, N17))))))))))))) (.int .i64 (.ofNat 0)) (.int .i64 (.ofNat 0)) a0 v0 (.int .i64 (.ofNat 0)) [] h N)))
noncomputable def F34 : Ev.Fs := fun call args h N => ar1 args fun a0 => s34 call a0 h N
theorem o34 : FOk Pr 34 F34 := ar1_ok (F := cFn Pr st34 34 (.s .n (.s .n (.s (.s .n (.s (.j [3, 4, 7, 8, 9] .n .n) .n)) .n)))) (s := s34) (fun call a0 h N => by kernel_rfl) (cFn_ok hmix (st := st34) StOk.nil 34 (.s .n (.s .n (.s (.s .n (.s (.j [3, 4, 7, 8, 9] .n .n) .n)) .n))))
/- function 33 -/
noncomputable def st33 : Ev.St := [(34, F34)]
noncomputable def s33 (call : CallF) (a0 : Value) (h : Tr Ob) (N : Nat) : OpR :=
  (fN (.succ N) (fun N0 => (obind (Ev.fad 0 (.pointer (some ⟨N, 0, none⟩))) (fun v1 => (obind (Ev.ld1 (Tr.set h (some (.c (Ev.cel a0) 46)) N) v1) (fun v2 => (orun (s34 call v2 (Tr.set h (some (.c (Ev.cel a0) 46)) N) N0) (fun v3 h4 N5 => (some (v3, (h4, N5)))))))))))
noncomputable def F33 : Ev.Fs := fun call args h N => ar1 args fun a0 => s33 call a0 h N
theorem o33 : FOk Pr 33 F33 := ar1_ok (F := cFn Pr st33 33 .n) (s := s33) (fun call a0 h N => by kernel_rfl) (cFn_ok hmix (st := st33) (StOk.cons o34 StOk.nil) 33 .n)
/- function 19 -/
noncomputable def st19 : Ev.St := [(22, F22), (23, F23), (25, F25), (27, F27), (29, F29), (32, F32), (33, F33)]
noncomputable def s19 (call : CallF) (h : Tr Ob) (N : Nat) : OpR :=
  (fN (.succ N) (fun N0 => (obind (Ev.sto 14 (.pointer (some ⟨N, 0, none⟩)) (.agg ⟨[(.func (.func 22) ⟨[]⟩ ⟨[]⟩), (.int .i64 (.ofNat 2)), (.func (.func 23) ⟨[]⟩ ⟨[]⟩), (.int .i64 (.ofNat 70)), (.func (.func 25) ⟨[]⟩ ⟨[]⟩), (.int .i64 (.ofNat 71)), (.func (.func 27) ⟨[]⟩ ⟨[]⟩), (.int .i64 (.ofNat 72)), (.func (.func 29) ⟨[]⟩ ⟨[]⟩), (.int .i64 (.ofNat 73)), (.func (.func 32) ⟨[]⟩ ⟨[]⟩), (.int .i64 (.ofNat 73)), (.func (.func 33) ⟨[]⟩ ⟨[]⟩), (.int .i64 (.ofNat 9))]⟩) (Tr.set h (some (.c [.nilFunc, (.int .i64 (.ofNat 0)), .nilFunc, (.int .i64 (.ofNat 0)), .nilFunc, (.int .i64 (.ofNat 0)), .nilFunc, (.int .i64 (.ofNat 0)), .nilFunc, (.int .i64 (.ofNat 0)), .nilFunc, (.int .i64 (.ofNat 0)), .nilFunc, (.int .i64 (.ofNat 0))] 57)) N)) (fun h1 => (obind (Ev.ldN 14 h1 (.pointer (some ⟨N, 0, none⟩))) (fun v2 => (some (v2, (h1, N0)))))))))
noncomputable def F19 : Ev.Fs := fun call args h N => ar0 args (s19 call h N)
theorem o19 : FOk Pr 19 F19 := ar0_ok (F := cFn Pr st19 19 .n) (s := s19) (fun call  h N => by kernel_rfl) (cFn_ok hmix (st := st19) (StOk.cons o22 (StOk.cons o23 (StOk.cons o25 (StOk.cons o27 (StOk.cons o29 (StOk.cons o32 (StOk.cons o33 StOk.nil))))))) 19 .n)
/- function 36 -/
noncomputable def st36 : Ev.St := []
noncomputable def s36 (call : CallF) (a0 : Value) (h : Tr Ob) (N : Nat) : OpR :=
  (fN (.succ N) (fun N0 => (fN (.succ N0) (fun N1 => (obind (Ev.fad 0 (.pointer (some ⟨N, 0, none⟩))) (fun v2 => (obind (Ev.fad 2 v2) (fun v3 => (obind (Ev.ld1 (Tr.set (Tr.set h (some (.c (Ev.cel a0) 39)) N) (some (.c [(.int .i64 (.ofNat 0)), (.int .i64 (.ofNat 0))] 71)) N0) v3) (fun v4 => (obind (Ev.lenS v4) (fun v5 => (obind (Ev.fad 0 (.pointer (some ⟨N, 0, none⟩))) (fun v6 => (obind (Ev.fad 3 v6) (fun v7 => (obind (Ev.ld1 (Tr.set (Tr.set h (some (.c (Ev.cel a0) 39)) N) (some (.c [(.int .i64 (.ofNat 0)), (.int .i64 (.ofNat 0))] 71)) N0) v7) (fun v8 => (obind (Ev.lenS v8) (fun v9 => (obind (Ev.evBuild Pr 71 [(0, v5), (1, v9)]) (fun v10 => (obind (Ev.sto 2 (.pointer (some ⟨N0, 0, none⟩)) v10 (Tr.set (Tr.set h (some (.c (Ev.cel a0) 39)) N) (some (.c [(.int .i64 (.ofNat 0)), (.int .i64 (.ofNat 0))] 71)) N0)) (fun h11 => (obind (Ev.ldN 2 h11 (.pointer (some ⟨N0, 0, none⟩))) (fun v12 => (some (v12, (h11, N1)))))))))))))))))))))))))))))
noncomputable def F36 : Ev.Fs := fun call args h N => ar1 args fun a0 => s36 call a0 h N
theorem o36 : FOk Pr 36 F36 := ar1_ok (F := cFn Pr st36 36 .n) (s := s36) (fun call a0 h N => by kernel_rfl) (cFn_ok hmix (st := st36) StOk.nil 36 .n)
/- function 43 -/
noncomputable def st43 : Ev.St := []
noncomputable def s43 (call : CallF) (a0 a1 a2 a3 : Value) (h : Tr Ob) (N : Nat) : OpR :=
  (fN (.succ N) (fun N0 => (obind (Ev.ld1 (Tr.set h (some (.c (Ev.cel a0) 71)) N) a1) (fun v1 => (obind (Ev.ldN 2 (Tr.set h (some (.c (Ev.cel a0) 71)) N) (.pointer (some ⟨N, 0, none⟩))) (fun v2 => (obind (Ev.evLookup Pr 84 v1 v2 true (Tr.set h (some (.c (Ev.cel a0) 71)) N)) (fun v3 => (obind (Ev.extr 0 v3) (fun v4 => (obind (Ev.extr 1 v3) (fun v5 => (obind (Ev.unV Pr .not v5) (fun v6 => (jnR (α := C1) (fun v7 d8 h9 N10 => (obind (Ev.unmark d8 h9) (fun h11 => (some (v7, (h11, N10)))))) (fun g12 => (Ev.cnd v6 (obind (Ev.ld1 (Tr.set h (some (.c (Ev.cel a0) 71)) N) a2) (fun v13 => (obind (Ev.ldN 2 (Tr.set h (some (.c (Ev.cel a0) 71)) N) (.pointer (some ⟨N, 0, none⟩))) (fun v14 => (obind (Ev.ld1 (Tr.set h (some (.c (Ev.cel a0) 71)) N) a3) (fun v15 => (orun (Ev.callW [] call v13 [v14, v15] (Tr.set h (some (.c (Ev.cel a0) 71)) N) N0) (fun v16 h17 N18 => (obind (Ev.ld1 h17 a1) (fun v19 => (obind (Ev.ldN 2 h17 (.pointer (some ⟨N, 0, none⟩))) (fun v20 => (orun (Ev.evMapPut Pr 84 v19 v20 v16 h17 N18) (fun v21 h22 N23 => (g12 v16 [] h22 N23))))))))))))))) (g12 v4 [] (Tr.set h (some (.c (Ev.cel a0) 71)) N) N0))))))))))))))))))
noncomputable def F43 : Ev.Fs := fun call args h N => ar4 args fun a0 a1 a2 a3 => s43 call a0 a1 a2 a3 h N
theorem o43 : FOk Pr 43 F43 := ar4_ok (F := cFn Pr st43 43 (.s .n (.s .n (.s (.s .n (.j [6] .n .n)) .n)))) (s := s43) (fun call a0 a1 a2 a3 h N => by kernel_rfl) (cFn_ok hmix (st := st43) StOk.nil 43 (.s .n (.s .n (.s (.s .n (.j [6] .n .n)) .n))))
/- function 35 -/
noncomputable def st35 : Ev.St := [(43, F43)]
noncomputable def s35 (call : CallF) (a0 a1 : Value) (h : Tr Ob) (N : Nat) : OpR :=
  (fN (.succ N) (fun N0 => (fN (.succ N0) (fun N1 => (fN (.succ N1) (fun N2 => (obind (Ev.ldN 2 (Tr.set (Tr.set (Tr.set h (some (.c (Ev.cel a0) 71)) N) (some (.c (Ev.cel a1) 83)) N0) (some (.m [] 0)) N1) (.pointer (some ⟨N, 0, none⟩))) (fun v3 => (orun (Ev.evMapPut Pr 84 (.map (some N1)) v3 (.int .i64 (.ofNat 0)) (Tr.set (Tr.set (Tr.set h (some (.c (Ev.cel a0) 71)) N) (some (.c (Ev.cel a1) 83)) N0) (some (.m [] 0)) N1) N2) (fun v4 h5 N6 => (fN (.succ N6) (fun N7 => (obind (Ev.sto 1 (.pointer (some ⟨N6, 0, none⟩)) (.map (some N1)) (Tr.set h5 (some (.c [(.map none)] 84)) N6)) (fun h8 => (fN (.succ N7) (fun N9 => (obind (Ev.sto 1 (.pointer (some ⟨N7, 0, none⟩)) (.func (.func 43) ⟨[]⟩ ⟨[(.pointer (some ⟨N6, 0, none⟩)), (.pointer (some ⟨N0, 0, none⟩)), (.pointer (some ⟨N7, 0, none⟩))]⟩) (Tr.set h8 (some (.c [.nilFunc] 37)) N7)) (fun h10 => (obind (Ev.ld1 h10 (.pointer (some ⟨N7, 0, none⟩))) (fun v11 => (some (v11, (h10, N9)))))))))))))))))))))))
noncomputable def F35 : Ev.Fs := fun call args h N => ar2 args fun a0 a1 => s35 call a0 a1 h N
theorem o35 : FOk Pr 35 F35 := ar2_ok (F := cFn Pr st35 35 .n) (s := s35) (fun call a0 a1 h N => by kernel_rfl) (cFn_ok hmix (st := st35) (StOk.cons o43 StOk.nil) 35 .n)
/- function 44 -/
noncomputable def st44 : Ev.St := []
noncomputable def s44 (call : CallF) (a0 a1 : Value) (h : Tr Ob) (N : Nat) : OpR :=
  (obind (Ev.lenS a0) (fun v0 => (obind (Ev.iop .eql a1 v0) (fun v1 => (Ev.cnd v1 (some ((.int .i64 (.ofNat 0)), (h, N))) (obind (Ev.iadS 1 a0 a1) (fun v2 => (obind (Ev.ld1 h v2) (fun v3 => (some (v3, (h, N))))))))))))
noncomputable def F44 : Ev.Fs := fun call args h N => ar2 args fun a0 a1 => s44 call a0 a1 h N
theorem o44 : FOk Pr 44 F44 := ar2_ok (F := cFn Pr st44 44 .n) (s := s44) (fun call a0 a1 h N => by kernel_rfl) (cFn_ok hmix (st := st44) StOk.nil 44 .n)
/- function 45 -/
noncomputable def st45 : Ev.St := []
noncomputable def s45 (call : CallF) (a0 a1 a2 : Value) (h : Tr Ob) (N : Nat) : OpR :=
  (obind (Ev.ldN 21 h a1) (fun v0 => (lpR (α := C4) (fun v1 v2 v3 v4 d5 h6 N7 => none) (fun g8 v9 v10 v11 v12 d13 h14 N15 => (obind (Ev.iop .lss v12 (.int .i64 (.ofNat 3))) (fun v16 => (Ev.cnd v16 (obind (Ev.evIdx Pr 87 v11 v12) (fun v17 => (fN (.succ N15) (fun N18 => (obind (Ev.sto 7 (.pointer (some ⟨N15, 0, none⟩)) v17 (Tr.set h14 (some (.c [(.int .i64 (.ofNat 0)), (.int .i64 (.ofNat 0)), (.int .i64 (.ofNat 0)), (.int .i64 (.ofNat 0)), (.int .i64 (.ofNat 0)), (.int .i64 (.ofNat 0)), (.int .i64 (.ofNat 0))] 77)) N15)) (fun h19 => (obind (Ev.fad 0 (.pointer (some ⟨N15, 0, none⟩))) (fun v20 => (obind (Ev.iadA 2 1 v20 (.int .i64 (.ofNat 0))) (fun v21 => (obind (Ev.ld1 h19 v21) (fun v22 => (obind (Ev.iadA 2 1 v10 (.int .i64 (.ofNat 0))) (fun v23 => (obind (Ev.ld1 h19 v23) (fun v24 => (obind (Ev.iop .leq v22 v24) (fun v25 => (obind (Ev.wntV v25 true) (fun v26 => (orun (Bool.rec (motive := fun _ => OpR) (some ((.tuple ⟨[]⟩), (h19, N18))) (obind (Ev.fad 0 (.pointer (some ⟨N15, 0, none⟩))) (fun v27 => (some (v27, (h19, N18))))) v26) (fun v28 h29 N30 => (obind (Ev.wntV v25 true) (fun v31 => (orun (Bool.rec (motive := fun _ => OpR) (some ((.tuple ⟨[]⟩), (h29, N30))) (obind (Ev.iadA 2 1 v28 (.int .i64 (.ofNat 1))) (fun v32 => (some (v32, (h29, N30))))) v31) (fun v33 h34 N35 => (obind (Ev.wntV v25 true) (fun v36 => (orun (Bool.rec (motive := fun _ => OpR) (some ((.tuple ⟨[]⟩), (h34, N35))) (obind (Ev.ld1 h34 v33) (fun v37 => (some (v37, (h34, N35))))) v36) (fun v38 h39 N40 => (obind (Ev.wntV v25 true) (fun v41 => (orun (Bool.rec (motive := fun _ => OpR) (some ((.tuple ⟨[]⟩), (h39, N40))) (obind (Ev.iadA 2 1 v10 (.int .i64 (.ofNat 1))) (fun v42 => (some (v42, (h39, N40))))) v41) (fun v43 h44 N45 => (obind (Ev.wntV v25 true) (fun v46 => (orun (Bool.rec (motive := fun _ => OpR) (some ((.tuple ⟨[]⟩), (h44, N45))) (obind (Ev.ld1 h44 v43) (fun v47 => (some (v47, (h44, N45))))) v46) (fun v48 h49 N50 => (obind (Ev.wntV v25 true) (fun v51 => (orun (Bool.rec (motive := fun _ => OpR) (some ((.tuple ⟨[]⟩), (h49, N50))) (obind (Ev.iop .leq v38 v48) (fun v52 => (some (v52, (h49, N50))))) v51) (fun v53 h54 N55 => (obind (Ev.pck v25 (some v53) (some (.bool false))) (fun v56 => (obind (Ev.wntV v56 true) (fun v57 => (orun (Bool.rec (motive := fun _ => OpR) (some ((.tuple ⟨[]⟩), (h54, N55))) (some (v9, (h54, N55))) v57) (fun v58 h59 N60 => (obind (Ev.wntV v56 true) (fun v61 => (orun (Bool.rec (motive := fun _ => OpR) (some ((.tuple ⟨[]⟩), (h59, N60))) (obind (Ev.ldN 7 h59 (.pointer (some ⟨N15, 0, none⟩))) (fun v62 => (some (v62, (h59, N60))))) v61) (fun v63 h64 N65 => (obind (Ev.wntV v56 true) (fun v66 => (orun (Bool.rec (motive := fun _ => OpR) (some ((.tuple ⟨[]⟩), (h64, N65))) (orun (Ev.callW [] call v58 [v63] h64 N65) (fun v67 h68 N69 => (some (v67, (h68, N69))))) v66) (fun v70 h71 N72 => (obind (Ev.wntV v56 true) (fun v73 => (orun (Bool.rec (motive := fun _ => OpR) (some ((.tuple ⟨[]⟩), (h71, N72))) (obind (Ev.unV Pr .not v70) (fun v74 => (some (v74, (h71, N72))))) v73) (fun v75 h76 N77 => (obind (Ev.pck v56 (some v75) (some (.bool false))) (fun v78 => (Ev.cnd v78 (obind (Ev.unmark d13 h76) (fun h79 => (some ((.tuple ⟨[]⟩), (h79, N77))))) (obind (Ev.iop .add v12 (.int .i64 (.ofNat 1))) (fun v80 => (g8 v9 v10 v11 v80 d13 h76 N77)))))))))))))))))))))))))))))))))))))))))))))))))))))))))))))))))) (obind (Ev.unmark d13 h14) (fun h81 => (some ((.tuple ⟨[]⟩), (h81, N15))))))))) a0 a2 v0 (.int .i64 (.ofNat 0)) [] h N)))
noncomputable def F45 : Ev.Fs := fun call args h N => ar3 args fun a0 a1 a2 => s45 call a0 a1 a2 h N
theorem o45 : FOk Pr 45 F45 := ar3_ok (F := cFn Pr st45 45 (.s .n (.s (.j [0, 2, 6, 7] .n .n) .n))) (s := s45) (fun call a0 a1 a2 h N => by kernel_rfl) (cFn_ok hmix (st := st45) StOk.nil 45 (.s .n (.s (.j [0, 2, 6, 7] .n .n) .n)))
/- function 39 -/
noncomputable def st39 : Ev.St := [(44, F44), (36, F36), (45, F45)]
noncomputable def s39 (call : CallF) (a0 a1 : Value) (h : Tr Ob) (N : Nat) : OpR :=
  (fN (.succ N) (fun N0 => (fN (.succ N0) (fun N1 => (obind (Ev.fad 0 (.pointer (some ⟨N, 0, none⟩))) (fun v2 => (obind (Ev.fad 2 v2) (fun v3 => (obind (Ev.ld1 (Tr.set (Tr.set h (some (.c (Ev.cel a0) 39)) N) (some (.c (Ev.cel a1) 71)) N0) v3) (fun v4 => (obind (Ev.iadA 2 1 (.pointer (some ⟨N0, 0, none⟩)) (.int .i64 (.ofNat 0))) (fun v5 => (obind (Ev.ld1 (Tr.set (Tr.set h (some (.c (Ev.cel a0) 39)) N) (some (.c (Ev.cel a1) 71)) N0) v5) (fun v6 => (obind (Ev.fad 0 (.pointer (some ⟨N, 0, none⟩))) (fun v7 => (obind (Ev.fad 3 v7) (fun v8 => (obind (Ev.ld1 (Tr.set (Tr.set h (some (.c (Ev.cel a0) 39)) N) (some (.c (Ev.cel a1) 71)) N0) v8) (fun v9 => (obind (Ev.iadA 2 1 (.pointer (some ⟨N0, 0, none⟩)) (.int .i64 (.ofNat 1))) (fun v10 => (obind (Ev.ld1 (Tr.set (Tr.set h (some (.c (Ev.cel a0) 39)) N) (some (.c (Ev.cel a1) 71)) N0) v10) (fun v11 => (ocond (Ev.agL1 (Tr.set (Tr.set h (some (.c (Ev.cel a0) 39)) N) (some (.c (Ev.cel a1) 71)) N0) v10 v11) (ocond (Ev.agL1 (Tr.set (Tr.set h (some (.c (Ev.cel a0) 39)) N) (some (.c (Ev.cel a1) 71)) N0) v8 v9) (ocond (Ev.agL1 (Tr.set (Tr.set h (some (.c (Ev.cel a0) 39)) N) (some (.c (Ev.cel a1) 71)) N0) v5 v6) (ocond (Ev.agL1 (Tr.set (Tr.set h (some (.c (Ev.cel a0) 39)) N) (some (.c (Ev.cel a1) 71)) N0) v3 v4) (orun (s44 call v4 v6 (Tr.set (Tr.set h (some (.c (Ev.cel a0) 39)) N) (some (.c (Ev.cel a1) 71)) N0) N1) (fun v12 h13 N14 => (ocond (Ev.agL1 h13 v10 v11) (ocond (Ev.agL1 h13 v8 v9) (orun (s44 call v9 v11 h13 N14) (fun v15 h16 N17 => (obind (Ev.iadA 2 1 (.pointer (some ⟨N0, 0, none⟩)) (.int .i64 (.ofNat 1))) (fun v18 => (obind (Ev.ld1 h16 v18) (fun v19 => (obind (Ev.evBuild Pr 75 [(0, (.int .i64 (.ofNat 3))), (1, v19), (2, v15)]) (fun v20 => (fN (.succ N17) (fun N21 => (obind (Ev.sto 3 (.pointer (some ⟨N17, 0, none⟩)) v20 (Tr.set h16 (some (.c [(.int .i64 (.ofNat 0)), (.int .i64 (.ofNat 0)), (.int .i64 (.ofNat 0))] 75)) N17)) (fun h22 => (obind (Ev.iop .eql v12 v15) (fun v23 => (jnR (α := C5) (fun v24 v25 v26 v27 v28 d29 h30 N31 => (obind (Ev.iadA 2 1 v25 (.int .i64 (.ofNat 0))) (fun v32 => (obind (Ev.ld1 h30 v32) (fun v33 => (obind (Ev.iop .add v33 (.int .i64 (.ofNat 1))) (fun v34 => (obind (Ev.iadA 2 1 v25 (.int .i64 (.ofNat 1))) (fun v35 => (obind (Ev.ld1 h30 v35) (fun v36 => (obind (Ev.iop .add v36 (.int .i64 (.ofNat 1))) (fun v37 => (obind (Ev.evBuild Pr 71 [(0, v34), (1, v37)]) (fun v38 => (obind (Ev.ldN 3 h30 v28) (fun v39 => (obind (Ev.evBuild Pr 70 [(0, v26), (1, v27)]) (fun v40 => (obind (Ev.evBuild Pr 77 [(0, v38), (1, v39), (2, v40)]) (fun v41 => (obind (Ev.iadA 2 1 v25 (.int .i64 (.ofNat 0))) (fun v42 => (obind (Ev.ld1 h30 v42) (fun v43 => (obind (Ev.iop .add v43 (.int .i64 (.ofNat 1))) (fun v44 => (obind (Ev.iadA 2 1 v25 (.int .i64 (.ofNat 1))) (fun v45 => (obind (Ev.ld1 h30 v45) (fun v46 => (obind (Ev.evBuild Pr 71 [(0, v44), (1, v46)]) (fun v47 => (obind (Ev.iadA 2 1 v25 (.int .i64 (.ofNat 1))) (fun v48 => (obind (Ev.ld1 h30 v48) (fun v49 => (obind (Ev.evBuild Pr 75 [(0, (.int .i64 (.ofNat 1))), (1, v49)]) (fun v50 => (obind (Ev.evBuild Pr 70 [(0, v26), (1, (.int .i64 (.ofNat 0)))]) (fun v51 => (obind (Ev.evBuild Pr 77 [(0, v47), (1, v50), (2, v51)]) (fun v52 => (obind (Ev.iadA 2 1 v25 (.int .i64 (.ofNat 0))) (fun v53 => (obind (Ev.ld1 h30 v53) (fun v54 => (obind (Ev.iadA 2 1 v25 (.int .i64 (.ofNat 1))) (fun v55 => (obind (Ev.ld1 h30 v55) (fun v56 => (obind (Ev.iop .add v56 (.int .i64 (.ofNat 1))) (fun v57 => (obind (Ev.evBuild Pr 71 [(0, v54), (1, v57)]) (fun v58 => (obind (Ev.iadA 2 1 v25 (.int .i64 (.ofNat 1))) (fun v59 => (obind (Ev.ld1 h30 v59) (fun v60 => (obind (Ev.evBuild Pr 75 [(0, (.int .i64 (.ofNat 2))), (1, v60), (2, v27)]) (fun v61 => (obind (Ev.evBuild Pr 70 [(0, (.int .i64 (.ofNat 0))), (1, v27)]) (fun v62 => (obind (Ev.evBuild Pr 77 [(0, v58), (1, v61), (2, v62)]) (fun v63 => (obind (Ev.evBuild Pr 87 [(0, v41), (1, v52), (2, v63)]) (fun v64 => (fN (.succ N31) (fun N65 => (obind (Ev.sto 21 (.pointer (some ⟨N31, 0, none⟩)) v64 (Tr.set h30 (some (.c [(.int .i64 (.ofNat 0)), (.int .i64 (.ofNat 0)), (.int .i64 (.ofNat 0)), (.int .i64 (.ofNat 0)), (.int .i64 (.ofNat 0)), (.int .i64 (.ofNat 0)), (.int .i64 (.ofNat 0)), (.int .i64 (.ofNat 0)), (.int .i64 (.ofNat 0)), (.int .i64 (.ofNat 0)), (.int .i64 (.ofNat 0)), (.int .i64 (.ofNat 0)), (.int .i64 (.ofNat 0)), (.int .i64 (.ofNat 0)), (.int .i64 (.ofNat 0)), (.int .i64 (.ofNat 0)), (.int .i64 (.ofNat 0)), (.int .i64 (.ofNat 0)), (.int .i64 (.ofNat 0)), (.int .i64 (.ofNat 0)), (.int .i64 (.ofNat 0))] 87)) N31)) (fun h66 => (obind (Ev.ldN 5 h66 v24) (fun v67 => (orun (s36 call v67 h66 N65) (fun v68 h69 N70 => (fN (.succ N70) (fun N71 => (obind (Ev.sto 2 (.pointer (some ⟨N70, 0, none⟩)) v68 (Tr.set h69 (some (.c [(.int .i64 (.ofNat 0)), (.int .i64 (.ofNat 0))] 71)) N70)) (fun h72 => (obind (Ev.unmark d29 h72) (fun h73 => (some ((.func (.func 45) ⟨[]⟩ ⟨[(.pointer (some ⟨N31, 0, none⟩)), (.pointer (some ⟨N70, 0, none⟩))]⟩), (h73, N71)))))))))))))))))))))))))))))))))))))))))))))))))))))))))))))))))))))))))))))))))))) (fun g74 => (Ev.cnd v23 (obind (Ev.sto 3 (.pointer (some ⟨N17, 0, none⟩)) (.agg ⟨[(.int .i64 (.ofNat 0)), (.int .i64 (.ofNat 0)), (.int .i64 (.ofNat 0))]⟩) h22) (fun h75 => (g74 (.pointer (some ⟨N, 0, none⟩)) (.pointer (some ⟨N0, 0, none⟩)) v12 v15 (.pointer (some ⟨N17, 0, none⟩)) [] h75 N21))) (g74 (.pointer (some ⟨N, 0, none⟩)) (.pointer (some ⟨N0, 0, none⟩)) v12 v15 (.pointer (some ⟨N17, 0, none⟩)) [] h22 N21))))))))))))))))))))))))))))))))))))))))))))))))))
noncomputable def F39 : Ev.Fs := fun call args h N => ar2 args fun a0 a1 => s39 call a0 a1 h N
theorem o39 : FOk Pr 39 F39 := ar2_ok (F := cFn Pr st39 39 (.s .n (.s .n (.s .n (.s (.s .n (.j [2, 3, 5, 6, 7] .n .n)) .n))))) (s := s39) (fun call a0 a1 h N => by kernel_rfl) (cFn_ok hmix (st := st39) (StOk.cons o44 (StOk.cons o36 (StOk.cons o45 StOk.nil))) 39 (.s .n (.s .n (.s .n (.s (.s .n (.j [2, 3, 5, 6, 7] .n .n)) .n)))))
/- function 38 -/
noncomputable def st38 : Ev.St := [(31, F31)]
noncomputable def s38 (call : CallF) (a0 a1 : Value) (h : Tr Ob) (N : Nat) : OpR :=
  (fN (.succ N) (fun N0 => (fN (.succ N0) (fun N1 => (orun (s31 call (.int .i64 (.ofNat 9223372036854775807)) (.int .i64 (.negSucc 9223372036854775807)) (Tr.set (Tr.set h (some (.c (Ev.cel a1) 82)) N) (some (.c [(.int .i64 (.ofNat 0)), (.int .i64 (.ofNat 0))] 67)) N0) N1) (fun v2 h3 N4 => (fN (.succ N4) (fun N5 => (obind (Ev.sto 2 (.pointer (some ⟨N4, 0, none⟩)) v2 (Tr.set h3 (some (.c [(.int .i64 (.ofNat 0)), (.int .i64 (.ofNat 0))] 67)) N4)) (fun h6 => (jnR (α := C2) (fun v7 v8 d9 h10 N11 => (obind (Ev.ldN 2 h10 v8) (fun v12 => (obind (Ev.sto 2 v7 v12 h10) (fun h13 => (obind (Ev.unmark d9 h13) (fun h14 => (obind (Ev.ldN 2 h14 v7) (fun v15 => (some (v15, (h14, N11)))))))))))) (fun g16 => (ocond (Ev.isFn a0) (fN (.succ N5) (fun N17 => (fN (.succ N17) (fun N18 => (orun (Ev.callW [(31, F31)] call a0 [(.func (.yield N17) ⟨[]⟩ ⟨[]⟩)] (Tr.set (Tr.set h6 (some .d) N5) (some (.l .ready .n 26 (Tr.set (Tr.set (.e 32) (some (.pointer (some ⟨N4, 0, none⟩))) 5) (some (.pointer (some ⟨N, 0, none⟩))) 3) [10] (rgA Pr 38 0) (rgB Pr 38 0) N5)) N17) N18) (fun v19 h20 N21 => (Ev.rEnd (fun h22 => (g16 (.pointer (some ⟨N0, 0, none⟩)) (.pointer (some ⟨N4, 0, none⟩)) [N5] h22 N21)) (fun i23 h24 => (Bool.rec (motive := fun _ => OpR) none (g16 (.pointer (some ⟨N0, 0, none⟩)) (.pointer (some ⟨N4, 0, none⟩)) [N5] h24 N21) (Nat.beq i23 0))) (fun h25 => (obind (Ev.unmark [N5] h25) (fun h26 => (obind (Ev.ldN 2 h26 (.pointer (some ⟨N0, 0, none⟩))) (fun v27 => (some (v27, (h26, N21)))))))) N17 h20))))))))))))))))))))
noncomputable def F38 : Ev.Fs := fun call args h N => ar2 args fun a0 a1 => s38 call a0 a1 h N
theorem o38 : FOk Pr 38 F38 := ar2_ok (F := cFn Pr st38 38 (.s .n (.s .n (.s (.s .n (.j [4, 5] (.s (.j [3, 5] .n .n) .n) .n)) .n)))) (s := s38) (fun call a0 a1 h N => by kernel_rfl) (cFn_ok hmix (st := st38) (StOk.cons o31 StOk.nil) 38 (.s .n (.s .n (.s (.s .n (.j [4, 5] (.s (.j [3, 5] .n .n) .n) .n)) .n))))
noncomputable def r38_0 (call : CallF) (l : Nat) (e : Tr Value) (h : Tr Ob) (N : Nat) : OpR :=
  (obind (Tr.get e 3) (fun v0 => (obind (Tr.get e 5) (fun v1 => (obind (Tr.get e 10) (fun v2 => (fN (.succ N) (fun N3 => (obind (Ev.sto 7 (.pointer (some ⟨N, 0, none⟩)) v2 (Tr.set h (some (.c [(.int .i64 (.ofNat 0)), (.int .i64 (.ofNat 0)), (.int .i64 (.ofNat 0)), (.int .i64 (.ofNat 0)), (.int .i64 (.ofNat 0)), (.int .i64 (.ofNat 0)), (.int .i64 (.ofNat 0))] 77)) N)) (fun h4 => (obind (Ev.setSt h4 l Go.Ev.isReady .busy none) (fun h5 => (obind (Ev.ld1 h5 v0) (fun v6 => (obind (Ev.ldN 7 h5 (.pointer (some ⟨N, 0, none⟩))) (fun v7 => (orun (Ev.callW [(31, F31)] call v6 [v7] h5 N3) (fun v8 h9 N10 => (fN (.succ N10) (fun N11 => (obind (Ev.sto 2 (.pointer (some ⟨N10, 0, none⟩)) v8 (Tr.set h9 (some (.c [(.int .i64 (.ofNat 0)), (.int .i64 (.ofNat 0))] 67)) N10)) (fun h12 => (obind (Ev.fad 0 v1) (fun v13 => (obind (Ev.ld1 h12 v13) (fun v14 => (obind (Ev.fad 0 (.pointer (some ⟨N10, 0, none⟩))) (fun v15 => (obind (Ev.ld1 h12 v15) (fun v16 => (obind (Ev.mnV Pr ⟨[3, 3]⟩ 3 [v14, v16]) (fun v17 => (obind (Ev.fad 1 v1) (fun v18 => (obind (Ev.ld1 h12 v18) (fun v19 => (obind (Ev.fad 1 (.pointer (some ⟨N10, 0, none⟩))) (fun v20 => (obind (Ev.ld1 h12 v20) (fun v21 => (obind (Ev.mxV Pr ⟨[3, 3]⟩ 3 [v19, v21]) (fun v22 => (orun (s31 call v17 v22 h12 N11) (fun v23 h24 N25 => (obind (Ev.sto 2 v1 v23 h24) (fun h26 => (obind (Ev.setSt h26 l Go.Ev.anySt .ready (some .n)) (fun h27 => (some ((.bool true), (h27, N25)))))))))))))))))))))))))))))))))))))))))))))))))))
theorem q38_0 : ROk Pr 26 (rgA Pr 38 0) (rgB Pr 38 0) r38_0 := ROk.congr (F := fun call l e h N => cRnd Pr st38 call 26 l (rgA Pr 38 0) (rgB Pr 38 0) (.j [3, 5, 10] .n .n) e h N) (fun call l e h N => by kernel_rfl) (cRnd_ok hmix (st := st38) (StOk.cons o31 StOk.nil) 26 _ _ (.j [3, 5, 10] .n .n))
/- function 41 -/
noncomputable def st41 : Ev.St := []
noncomputable def s41 (call : CallF) (a0 : Value) (h : Tr Ob) (N : Nat) : OpR :=
  (fN (.succ N) (fun N0 => (obind (Ev.fad 2 (.pointer (some ⟨N, 0, none⟩))) (fun v1 => (obind (Ev.ldN 3 (Tr.set h (some (.c (Ev.cel a0) 77)) N) v1) (fun v2 => (obind (Ev.evBin Pr .eql 75 (.tmp 4) (.tmp 5) v2 (.agg ⟨[(.int .i64 (.ofNat 0)), (.int .i64 (.ofNat 0)), (.int .i64 (.ofNat 0))]⟩)) (fun v3 => (Ev.cnd v3 (some ((.int .i64 (.ofNat 0)), ((Tr.set h (some (.c (Ev.cel a0) 77)) N), N0))) (some ((.int .i64 (.ofNat 1)), ((Tr.set h (some (.c (Ev.cel a0) 77)) N), N0))))))))))))
noncomputable def F41 : Ev.Fs := fun call args h N => ar1 args fun a0 => s41 call a0 h N
theorem o41 : FOk Pr 41 F41 := ar1_ok (F := cFn Pr st41 41 .n) (s := s41) (fun call a0 h N => by kernel_rfl) (cFn_ok hmix (st := st41) StOk.nil 41 .n)
/- function 40 -/
noncomputable def st40 : Ev.St := [(41, F41), (31, F31)]
noncomputable def s40 (call : CallF) (a0 a1 : Value) (h : Tr Ob) (N : Nat) : OpR :=
  (fN (.succ N) (fun N0 => (fN (.succ N0) (fun N1 => (obind (Ev.ldN 7 (Tr.set (Tr.set h (some (.c (Ev.cel a0) 77)) N) (some (.c [(.int .i64 (.ofNat 0)), (.int .i64 (.ofNat 0))] 67)) N0) (.pointer (some ⟨N, 0, none⟩))) (fun v2 => (obind (Ev.ld1 (Tr.set (Tr.set h (some (.c (Ev.cel a0) 77)) N) (some (.c [(.int .i64 (.ofNat 0)), (.int .i64 (.ofNat 0))] 67)) N0) a1) (fun v3 => (obind (Ev.fad 0 (.pointer (some ⟨N, 0, none⟩))) (fun v4 => (obind (Ev.ldN 2 (Tr.set (Tr.set h (some (.c (Ev.cel a0) 77)) N) (some (.c [(.int .i64 (.ofNat 0)), (.int .i64 (.ofNat 0))] 67)) N0) v4) (fun v5 => (ocond (Ev.agLN 2 (Tr.set (Tr.set h (some (.c (Ev.cel a0) 77)) N) (some (.c [(.int .i64 (.ofNat 0)), (.int .i64 (.ofNat 0))] 67)) N0) v4 v5) (ocond (Ev.agL1 (Tr.set (Tr.set h (some (.c (Ev.cel a0) 77)) N) (some (.c [(.int .i64 (.ofNat 0)), (.int .i64 (.ofNat 0))] 67)) N0) a1 v3) (ocond (Ev.agLN 7 (Tr.set (Tr.set h (some (.c (Ev.cel a0) 77)) N) (some (.c [(.int .i64 (.ofNat 0)), (.int .i64 (.ofNat 0))] 67)) N0) (.pointer (some ⟨N, 0, none⟩)) v2) (orun (s41 call v2 (Tr.set (Tr.set h (some (.c (Ev.cel a0) 77)) N) (some (.c [(.int .i64 (.ofNat 0)), (.int .i64 (.ofNat 0))] 67)) N0) N1) (fun v6 h7 N8 => (ocond (Ev.agLN 2 h7 v4 v5) (ocond (Ev.agL1 h7 a1 v3) (orun (Ev.callW [(41, F41), (31, F31)] call v3 [v5] h7 N8) (fun v9 h10 N11 => (obind (Ev.iop .add v6 v9) (fun v12 => (orun (s31 call v12 v12 h10 N11) (fun v13 h14 N15 => (obind (Ev.sto 2 (.pointer (some ⟨N0, 0, none⟩)) v13 h14) (fun h16 => (obind (Ev.ldN 2 h16 (.pointer (some ⟨N0, 0, none⟩))) (fun v17 => (some (v17, (h16, N15))))))))))))))))))))))))))))))))
noncomputable def F40 : Ev.Fs := fun call args h N => ar2 args fun a0 a1 => s40 call a0 a1 h N
theorem o40 : FOk Pr 40 F40 := ar2_ok (F := cFn Pr st40 40 .n) (s := s40) (fun call a0 a1 h N => by kernel_rfl) (cFn_ok hmix (st := st40) (StOk.cons o41 (StOk.cons o31 StOk.nil)) 40 .n)
/- function 37 -/
noncomputable def st37 : Ev.St := [(39, F39), (38, F38), (40, F40)]
noncomputable def s37 (call : CallF) (a0 a1 a2 : Value) (h : Tr Ob) (N : Nat) : OpR :=
  (fN (.succ N) (fun N0 => (fN (.succ N0) (fun N1 => (obind (Ev.ldN 5 (Tr.set (Tr.set h (some (.c (Ev.cel a0) 71)) N) (some (.c (Ev.cel a1) 37)) N0) a2) (fun v2 => (obind (Ev.ldN 2 (Tr.set (Tr.set h (some (.c (Ev.cel a0) 71)) N) (some (.c (Ev.cel a1) 37)) N0) (.pointer (some ⟨N, 0, none⟩))) (fun v3 => (orun (s39 call v2 v3 (Tr.set (Tr.set h (some (.c (Ev.cel a0) 71)) N) (some (.c (Ev.cel a1) 37)) N0) N1) (fun v4 h5 N6 => (orun (s38 call v4 (.func (.func 40) ⟨[]⟩ ⟨[(.pointer (some ⟨N0, 0, none⟩))]⟩) h5 N6) (fun v7 h8 N9 => (obind (Ev.fl1 0 v7) (fun v10 => (some (v10, (h8, N9)))))))))))))))))
noncomputable def F37 : Ev.Fs := fun call args h N => ar3 args fun a0 a1 a2 => s37 call a0 a1 a2 h N
theorem o37 : FOk Pr 37 F37 := ar3_ok (F := cFn Pr st37 37 .n) (s := s37) (fun call a0 a1 a2 h N => by kernel_rfl) (cFn_ok hmix (st := st37) (StOk.cons o39 (StOk.cons o38 (StOk.cons o40 StOk.nil))) 37 .n)
/- function 20 -/
noncomputable def st20 : Ev.St := [(36, F36), (35, F35), (37, F37)]
noncomputable def s20 (call : CallF) (a0 : Value) (h : Tr Ob) (N : Nat) : OpR :=
  (fN (.succ N) (fun N0 => (fN (.succ N0) (fun N1 => (obind (Ev.ldN 4 (Tr.set (Tr.set h (some (.c (Ev.cel a0) 24)) N) (some (.c [(.int .i64 (.ofNat 0)), (.int .i64 (.ofNat 0)), (.slice none 0 0), (.slice none 0 0), .nilFunc] 39)) N0) (.pointer (some ⟨N, 0, none⟩))) (fun v2 => (obind (Ev.evBuild Pr 39 [(0, v2)]) (fun v3 => (fN (.succ N1) (fun N4 => (obind (Ev.sto 5 (.pointer (some ⟨N1, 0, none⟩)) v3 (Tr.set (Tr.set (Tr.set h (some (.c (Ev.cel a0) 24)) N) (some (.c [(.int .i64 (.ofNat 0)), (.int .i64 (.ofNat 0)), (.slice none 0 0), (.slice none 0 0), .nilFunc] 39)) N0) (some (.c [(.int .i64 (.ofNat 0)), (.int .i64 (.ofNat 0)), (.slice none 0 0), (.slice none 0 0), .nilFunc] 39)) N1)) (fun h5 => (obind (Ev.ldN 5 h5 (.pointer (some ⟨N1, 0, none⟩))) (fun v6 => (orun (s36 call v6 h5 N4) (fun v7 h8 N9 => (orun (s35 call v7 (.func (.func 37) ⟨[]⟩ ⟨[(.pointer (some ⟨N1, 0, none⟩))]⟩) h8 N9) (fun v10 h11 N12 => (obind (Ev.fad 4 (.pointer (some ⟨N1, 0, none⟩))) (fun v13 => (obind (Ev.sto 1 v13 v10 h11) (fun h14 => (obind (Ev.ldN 5 h14 (.pointer (some ⟨N1, 0, none⟩))) (fun v15 => (obind (Ev.sto 5 (.pointer (some ⟨N0, 0, none⟩)) v15 h14) (fun h16 => (obind (Ev.ldN 5 h16 (.pointer (some ⟨N0, 0, none⟩))) (fun v17 => (some (v17, (h16, N12)))))))))))))))))))))))))))))))
noncomputable def F20 : Ev.Fs := fun call args h N => ar1 args fun a0 => s20 call a0 h N
theorem o20 : FOk Pr 20 F20 := ar1_ok (F := cFn Pr st20 20 .n) (s := s20) (fun call a0 h N => by kernel_rfl) (cFn_ok hmix (st := st20) (StOk.cons o36 (StOk.cons o35 (StOk.cons o37 StOk.nil))) 20 .n)
/- function 15 -/
noncomputable def st15 : Ev.St := [(19, F19), (20, F20)]
noncomputable def s15 (call : CallF) (a0 a1 : Value) (h : Tr Ob) (N : Nat) : OpR :=
  (fN (.succ N) (fun N0 => (orun (s19 call  (Tr.set h (some (.c (Ev.cel a0) 46)) N) N0) (fun v1 h2 N3 => (fN (.succ N3) (fun N4 => (obind (Ev.sto 14 (.pointer (some ⟨N3, 0, none⟩)) v1 (Tr.set h2 (some (.c [.nilFunc, (.int .i64 (.ofNat 0)), .nilFunc, (.int .i64 (.ofNat 0)), .nilFunc, (.int .i64 (.ofNat 0)), .nilFunc, (.int .i64 (.ofNat 0)), .nilFunc, (.int .i64 (.ofNat 0)), .nilFunc, (.int .i64 (.ofNat 0)), .nilFunc, (.int .i64 (.ofNat 0))] 57)) N3)) (fun h5 => (orun (Ev.evBuildSlice Pr 22 2 [(0, (.int .i64 (.ofNat 0))), (1, (.int .i64 (.ofNat 1)))] h5 N4) (fun v6 h7 N8 => (orun (Ev.evAppend Pr 22 v6 a1 h7 N8) (fun v9 h10 N11 => (obind (Ev.lenS v9) (fun v12 => (lpR (α := C5) (fun v13 v14 v15 v16 v17 d18 h19 N20 => none) (fun g21 v22 v23 v24 v25 v26 d27 h28 N29 => (obind (Ev.iop .lss v26 v25) (fun v30 => (Ev.cnd v30 (obind (Ev.iadS 1 v24 v26) (fun v31 => (obind (Ev.ld1 h28 v31) (fun v32 => (obind (Ev.iadA 7 2 v23 v32) (fun v33 => (obind (Ev.ldN 2 h28 v33) (fun v34 => (fN (.succ N29) (fun N35 => (obind (Ev.sto 2 (.pointer (some ⟨N29, 0, none⟩)) v34 (Tr.set h28 (some (.c [.nilFunc, (.int .i64 (.ofNat 0))] 56)) N29)) (fun h36 => (obind (Ev.fad 0 (.pointer (some ⟨N29, 0, none⟩))) (fun v37 => (obind (Ev.ld1 h36 v37) (fun v38 => (obind (Ev.ldN 8 h36 v22) (fun v39 => (orun (Ev.callW [(19, F19), (20, F20)] call v38 [v39] h36 N35) (fun v40 h41 N42 => (obind (Ev.unV Pr .not v40) (fun v43 => (Ev.cnd v43 (obind (Ev.fad 1 (.pointer (some ⟨N29, 0, none⟩))) (fun v44 => (obind (Ev.ld1 h41 v44) (fun v45 => (ocond (Ev.agL1 h41 v44 v45) (obind (Ev.unmark d27 h41) (fun h46 => (some ((.tuple ⟨[(.slice none 0 0), v45]⟩), (h46, N42)))))))))) (obind (Ev.iop .add v26 (.int .i64 (.ofNat 1))) (fun v47 => (g21 v22 v23 v24 v25 v47 d27 h41 N42)))))))))))))))))))))))))) (obind (Ev.fad 0 v22) (fun v48 => (obind (Ev.ld1 h28 v48) (fun v49 => (obind (Ev.lenS v49) (fun v50 => (lpR (α := C4) (fun v51 v52 v53 v54 d55 h56 N57 => none) (fun g58 v59 v60 v61 v62 d63 h64 N65 => (obind (Ev.iop .lss v62 v61) (fun v66 => (Ev.cnd v66 (obind (Ev.iadS 4 v60 v62) (fun v67 => (obind (Ev.ldN 4 h64 v67) (fun v68 => (fN (.succ N65) (fun N69 => (obind (Ev.sto 4 (.pointer (some ⟨N65, 0, none⟩)) v68 (Tr.set h64 (some (.c [(.int .i64 (.ofNat 0)), (.int .i64 (.ofNat 0)), (.slice none 0 0), (.slice none 0 0)] 24)) N65)) (fun h70 => (obind (Ev.ldN 4 h70 (.pointer (some ⟨N65, 0, none⟩))) (fun v71 => (orun (s20 call v71 h70 N69) (fun v72 h73 N74 => (orun (Ev.evBuildSlice Pr 48 1 [(0, v72)] h73 N74) (fun v75 h76 N77 => (orun (Ev.evAppend Pr 48 v59 v75 h76 N77) (fun v78 h79 N80 => (obind (Ev.iop .add v62 (.int .i64 (.ofNat 1))) (fun v81 => (g58 v78 v60 v61 v81 d63 h79 N80))))))))))))))))))) (obind (Ev.unmark d63 h64) (fun h82 => (some ((.tuple ⟨[v59, (.int .i64 (.ofNat 0))]⟩), (h82, N65))))))))) (.slice none 0 0) v49 v50 (.int .i64 (.ofNat 0)) d27 h28 N29))))))))))) (.pointer (some ⟨N, 0, none⟩)) (.pointer (some ⟨N3, 0, none⟩)) v9 v12 (.int .i64 (.ofNat 0)) [] h10 N11)))))))))))))))
noncomputable def F15 : Ev.Fs := fun call args h N => ar2 args fun a0 a1 => s15 call a0 a1 h N
theorem o15 : FOk Pr 15 F15 := ar2_ok (F := cFn Pr st15 15 (.s .n (.s .n (.s (.s .n (.s (.j [2, 6, 16, 17, 18] .n .n) .n)) (.s .n (.s (.s .n (.s (.j [10, 34, 35, 36] .n .n) .n)) .n)))))) (s := s15) (fun call a0 a1 h N => by kernel_rfl) (cFn_ok hmix (st := st15) (StOk.cons o19 (StOk.cons o20 StOk.nil)) 15 (.s .n (.s .n (.s (.s .n (.s (.j [2, 6, 16, 17, 18] .n .n) .n)) (.s .n (.s (.s .n (.s (.j [10, 34, 35, 36] .n .n) .n)) .n))))))
/- function 12 -/
noncomputable def st12 : Ev.St := [(15, F15)]
noncomputable def s12 (call : CallF) (a0 a1 a2 : Value) (h : Tr Ob) (N : Nat) : OpR :=
  (fN (.succ N) (fun N0 => (fN (.succ N0) (fun N1 => (fN (.succ N1) (fun N2 => (obind (Ev.ldN 4 (Tr.set (Tr.set (Tr.set h (some (.c (Ev.cel a0) 24)) N) (some (.c (Ev.cel a1) 46)) N0) (some (.c [(.int .i64 (.ofNat 0)), (.int .i64 (.ofNat 0)), (.slice none 0 0), (.slice none 0 0), .nilFunc] 39)) N1) (.pointer (some ⟨N, 0, none⟩))) (fun v3 => (orun (Ev.evBuildSlice Pr 42 1 [(0, v3)] (Tr.set (Tr.set (Tr.set h (some (.c (Ev.cel a0) 24)) N) (some (.c (Ev.cel a1) 46)) N0) (some (.c [(.int .i64 (.ofNat 0)), (.int .i64 (.ofNat 0)), (.slice none 0 0), (.slice none 0 0), .nilFunc] 39)) N1) N2) (fun v4 h5 N6 => (obind (Ev.fad 0 (.pointer (some ⟨N0, 0, none⟩))) (fun v7 => (obind (Ev.sto 1 v7 v4 h5) (fun h8 => (obind (Ev.ldN 8 h8 (.pointer (some ⟨N0, 0, none⟩))) (fun v9 => (orun (s15 call v9 a2 h8 N6) (fun v10 h11 N12 => (obind (Ev.extr 0 v10) (fun v13 => (obind (Ev.extr 1 v10) (fun v14 => (obind (Ev.iop .neq v14 (.int .i64 (.ofNat 0))) (fun v15 => (Ev.cnd v15 (obind (Ev.sto 5 (.pointer (some ⟨N1, 0, none⟩)) (.agg ⟨[(.int .i64 (.ofNat 0)), (.int .i64 (.ofNat 0)), (.slice none 0 0), (.slice none 0 0), .nilFunc]⟩) h11) (fun h16 => (obind (Ev.ldN 5 h16 (.pointer (some ⟨N1, 0, none⟩))) (fun v17 => (some ((.tuple ⟨[v17, v14]⟩), (h16, N12))))))) (obind (Ev.iadS 5 v13 (.int .i64 (.ofNat 0))) (fun v18 => (obind (Ev.ldN 5 h11 v18) (fun v19 => (obind (Ev.sto 5 (.pointer (some ⟨N1, 0, none⟩)) v19 h11) (fun h20 => (obind (Ev.ldN 5 h20 (.pointer (some ⟨N1, 0, none⟩))) (fun v21 => (some ((.tuple ⟨[v21, (.int .i64 (.ofNat 0))]⟩), (h20, N12))))))))))))))))))))))))))))))))))))
noncomputable def F12 : Ev.Fs := fun call args h N => ar3 args fun a0 a1 a2 => s12 call a0 a1 a2 h N
theorem o12 : FOk Pr 12 F12 := ar3_ok (F := cFn Pr st12 12 .n) (s := s12) (fun call a0 a1 a2 h N => by kernel_rfl) (cFn_ok hmix (st := st12) (StOk.cons o15 StOk.nil) 12 .n)
/- function 21 -/
noncomputable def st21 : Ev.St := []
noncomputable def s21 (call : CallF) (a0 a1 : Value) (h : Tr Ob) (N : Nat) : OpR :=
  (obind (Ev.iop .lss a1 (.int .i64 (.ofNat 0))) (fun v0 => (jnR (α := C2) (fun v1 v2 d3 h4 N5 => (obind (Ev.capS v1) (fun v6 => (obind (Ev.lenS v1) (fun v7 => (obind (Ev.iop .sub v6 v7) (fun v8 => (obind (Ev.iop .sub v2 v8) (fun v9 => (obind (Ev.iop .gtr v9 (.int .i64 (.ofNat 0))) (fun v10 => (jnR (α := C1) (fun v11 d12 h13 N14 => (obind (Ev.unmark d12 h13) (fun h15 => (some (v11, (h15, N14)))))) (fun g16 => (Ev.cnd v10 (obind (Ev.capS v1) (fun v17 => (obind (Ev.evSlice Pr 22 v1 none (some v17) none) (fun v18 => (orun (Ev.evGrowZ Pr 22 3 v18 v9 h4 N5) (fun v19 h20 N21 => (obind (Ev.lenS v1) (fun v22 => (obind (Ev.evSlice Pr 22 v19 none (some v22) none) (fun v23 => (g16 v23 d3 h20 N21))))))))))) (g16 v1 d3 h4 N5))))))))))))))) (fun g24 => (Ev.cnd v0 (orun (none : OpR) (fun v25 h26 N27 => (orun (none : OpR) (fun v28 h29 N30 => (g24 a0 a1 [] h29 N30))))) (g24 a0 a1 [] h N))))))
noncomputable def F21 : Ev.Fs := fun call args h N => ar2 args fun a0 a1 => s21 call a0 a1 h N
theorem o21 : FOk Pr 21 F21 := ar2_ok (F := cFn Pr st21 21 (.s .n (.s (.s .n (.j [0, 1] .n .n)) (.s (.s .n (.s .n (.j [0] .n .n))) .n)))) (s := s21) (fun call a0 a1 h N => by kernel_rfl) (cFn_ok hmix (st := st21) StOk.nil 21 (.s .n (.s (.s .n (.j [0, 1] .n .n)) (.s (.s .n (.s .n (.j [0] .n .n))) .n))))
noncomputable def X21 : Ev.Fs := splitF F21
theorem x21 : FOk Pr 21 X21 := splitF_ok o21
/- function 16 -/
noncomputable def st16 : Ev.St := [(21, X21)]
noncomputable def s16 (call : CallF) (a0 : Value) (h : Tr Ob) (N : Nat) : OpR :=
  (obind (Ev.lenS a0) (fun v0 => (lpR (α := C5) (fun v1 v2 v3 v4 v5 d6 h7 N8 => none) (fun g9 v10 v11 v12 v13 v14 d15 h16 N17 => (obind (Ev.iop .lss v14 v13) (fun v18 => (Ev.cnd v18 (obind (Ev.iadS 1 v12 v14) (fun v19 => (obind (Ev.ld1 h16 v19) (fun v20 => (obind (Ev.lenS v20) (fun v21 => (obind (Ev.iop .add v11 v21) (fun v22 => (obind (Ev.iop .lss v22 (.int .i64 (.ofNat 0))) (fun v23 => (jnR (α := C5) (fun v24 v25 v26 v27 v28 d29 h30 N31 => (obind (Ev.iop .add v28 (.int .i64 (.ofNat 1))) (fun v32 => (g9 v24 v25 v26 v27 v32 d29 h30 N31)))) (fun g33 => (Ev.cnd v23 (orun (none : OpR) (fun v34 h35 N36 => (orun (none : OpR) (fun v37 h38 N39 => (g33 v10 v22 v12 v13 v14 d15 h38 N39))))) (g33 v10 v22 v12 v13 v14 d15 h16 N17)))))))))))))) (orun (X21 call [(.slice none 0 0), v11] h16 N17) (fun v40 h41 N42 => (obind (Ev.lenS v10) (fun v43 => (lpR (α := C4) (fun v44 v45 v46 v47 d48 h49 N50 => none) (fun g51 v52 v53 v54 v55 d56 h57 N58 => (obind (Ev.iop .lss v55 v54) (fun v59 => (Ev.cnd v59 (obind (Ev.iadS 1 v53 v55) (fun v60 => (obind (Ev.ld1 h57 v60) (fun v61 => (orun (Ev.evAppend Pr 22 v52 v61 h57 N58) (fun v62 h63 N64 => (obind (Ev.iop .add v55 (.int .i64 (.ofNat 1))) (fun v65 => (g51 v62 v53 v54 v65 d56 h63 N64))))))))) (obind (Ev.unmark d56 h57) (fun h66 => (some (v52, (h66, N58))))))))) v40 v10 v43 (.int .i64 (.ofNat 0)) d15 h41 N42))))))))) a0 (.int .i64 (.ofNat 0)) a0 v0 (.int .i64 (.ofNat 0)) [] h N)))
noncomputable def F16 : Ev.Fs := fun call args h N => ar1 args fun a0 => s16 call a0 h N
theorem o16 : FOk Pr 16 F16 := ar1_ok (F := cFn Pr st16 16 (.s .n (.s .n (.s (.s .n (.s (.j [0, 3, 9, 10, 11] (.s .n (.s .n (.s (.s (.s .n (.s .n (.s .n (.j [0, 3, 9, 10, 11] .n .n)))) .n) .n))) .n) .n)) (.s .n (.s (.s .n (.s (.j [6, 25, 26, 27] .n .n) .n)) .n)))))) (s := s16) (fun call a0 h N => by kernel_rfl) (cFn_ok hmix (st := st16) (StOk.cons x21 StOk.nil) 16 (.s .n (.s .n (.s (.s .n (.s (.j [0, 3, 9, 10, 11] (.s .n (.s .n (.s (.s (.s .n (.s .n (.s .n (.j [0, 3, 9, 10, 11] .n .n)))) .n) .n))) .n) .n)) (.s .n (.s (.s .n (.s (.j [6, 25, 26, 27] .n .n) .n)) .n))))))
/- function 8 -/
noncomputable def st8 : Ev.St := [(15, F15), (16, F16)]
noncomputable def s8 (call : CallF) (a0 a1 : Value) (h : Tr Ob) (N : Nat) : OpR :=
  (fN (.succ N) (fun N0 => (fN (.succ N0) (fun N1 => (fN (.succ N1) (fun N2 => (obind (Ev.ldN 4 (Tr.set (Tr.set (Tr.set h (some (.c (Ev.cel a0) 24)) N) (some (.c (Ev.cel a1) 24)) N0) (some (.c [(.int .i64 (.ofNat 0)), (.int .i64 (.ofNat 0)), (.slice none 0 0), (.slice none 0 0)] 24)) N1) (.pointer (some ⟨N, 0, none⟩))) (fun v3 => (obind (Ev.ldN 4 (Tr.set (Tr.set (Tr.set h (some (.c (Ev.cel a0) 24)) N) (some (.c (Ev.cel a1) 24)) N0) (some (.c [(.int .i64 (.ofNat 0)), (.int .i64 (.ofNat 0)), (.slice none 0 0), (.slice none 0 0)] 24)) N1) (.pointer (some ⟨N0, 0, none⟩))) (fun v4 => (orun (Ev.evBuildSlice Pr 42 2 [(0, v3), (1, v4)] (Tr.set (Tr.set (Tr.set h (some (.c (Ev.cel a0) 24)) N) (some (.c (Ev.cel a1) 24)) N0) (some (.c [(.int .i64 (.ofNat 0)), (.int .i64 (.ofNat 0)), (.slice none 0 0), (.slice none 0 0)] 24)) N1) N2) (fun v5 h6 N7 => (obind (Ev.evBuild Pr 46 [(0, v5)]) (fun v8 => (orun (Ev.evBuildSlice Pr 22 1 [(0, (.int .i64 (.ofNat 6)))] h6 N7) (fun v9 h10 N11 => (orun (s15 call v8 v9 h10 N11) (fun v12 h13 N14 => (obind (Ev.extr 0 v12) (fun v15 => (obind (Ev.extr 1 v12) (fun v16 => (obind (Ev.iop .neq v16 (.int .i64 (.ofNat 0))) (fun v17 => (Ev.cnd v17 (obind (Ev.sto 4 (.pointer (some ⟨N1, 0, none⟩)) (.agg ⟨[(.int .i64 (.ofNat 0)), (.int .i64 (.ofNat 0)), (.slice none 0 0), (.slice none 0 0)]⟩) h13) (fun h18 => (obind (Ev.ldN 4 h18 (.pointer (some ⟨N1, 0, none⟩))) (fun v19 => (some ((.tuple ⟨[v19, v16]⟩), (h18, N14))))))) (obind (Ev.fad 2 (.pointer (some ⟨N, 0, none⟩))) (fun v20 => (obind (Ev.ld1 h13 v20) (fun v21 => (obind (Ev.fad 2 (.pointer (some ⟨N0, 0, none⟩))) (fun v22 => (obind (Ev.ld1 h13 v22) (fun v23 => (orun (Ev.evBuildSlice Pr 60 2 [(0, v21), (1, v23)] h13 N14) (fun v24 h25 N26 => (orun (s16 call v24 h25 N26) (fun v27 h28 N29 => (obind (Ev.fad 2 (.pointer (some ⟨N, 0, none⟩))) (fun v30 => (obind (Ev.sto 1 v30 v27 h28) (fun h31 => (obind (Ev.fad 3 (.pointer (some ⟨N, 0, none⟩))) (fun v32 => (obind (Ev.ld1 h31 v32) (fun v33 => (obind (Ev.fad 3 (.pointer (some ⟨N0, 0, none⟩))) (fun v34 => (obind (Ev.ld1 h31 v34) (fun v35 => (orun (Ev.evBuildSlice Pr 60 2 [(0, v33), (1, v35)] h31 N29) (fun v36 h37 N38 => (orun (s16 call v36 h37 N38) (fun v39 h40 N41 => (obind (Ev.fad 3 (.pointer (some ⟨N, 0, none⟩))) (fun v42 => (obind (Ev.sto 1 v42 v39 h40) (fun h43 => (obind (Ev.ldN 4 h43 (.pointer (some ⟨N, 0, none⟩))) (fun v44 => (obind (Ev.sto 4 (.pointer (some ⟨N1, 0, none⟩)) v44 h43) (fun h45 => (obind (Ev.ldN 4 h45 (.pointer (some ⟨N1, 0, none⟩))) (fun v46 => (some ((.tuple ⟨[v46, (.int .i64 (.ofNat 0))]⟩), (h45, N41))))))))))))))))))))))))))))))))))))))))))))))))))))))))))))))))))
noncomputable def F8 : Ev.Fs := fun call args h N => ar2 args fun a0 a1 => s8 call a0 a1 h N
theorem o8 : FOk Pr 8 F8 := ar2_ok (F := cFn Pr st8 8 .n) (s := s8) (fun call a0 a1 h N => by kernel_rfl) (cFn_ok hmix (st := st8) (StOk.cons o15 (StOk.cons o16 StOk.nil)) 8 .n)
/- function 6 -/
noncomputable def st6 : Ev.St := [(12, F12), (8, F8)]
noncomputable def s6 (call : CallF) (a0 a1 : Value) (h : Tr Ob) (N : Nat) : OpR :=
  (fN (.succ N) (fun N0 => (fN (.succ N0) (fun N1 => (obind (Ev.ldN 4 (Tr.set (Tr.set h (some (.c (Ev.cel a0) 24)) N) (some (.c [(.int .i64 (.ofNat 0)), (.int .i64 (.ofNat 0)), (.slice none 0 0), (.slice none 0 0)] 24)) N0) (.pointer (some ⟨N, 0, none⟩))) (fun v2 => (obind (Ev.evBuild Pr 46 [(1, a1)]) (fun v3 => (orun (Ev.evBuildSlice Pr 22 1 [(0, (.int .i64 (.ofNat 3)))] (Tr.set (Tr.set h (some (.c (Ev.cel a0) 24)) N) (some (.c [(.int .i64 (.ofNat 0)), (.int .i64 (.ofNat 0)), (.slice none 0 0), (.slice none 0 0)] 24)) N0) N1) (fun v4 h5 N6 => (orun (s12 call v2 v3 v4 h5 N6) (fun v7 h8 N9 => (obind (Ev.extr 0 v7) (fun v10 => (obind (Ev.extr 1 v7) (fun v11 => (fN (.succ N9) (fun N12 => (obind (Ev.sto 5 (.pointer (some ⟨N9, 0, none⟩)) v10 (Tr.set h8 (some (.c [(.int .i64 (.ofNat 0)), (.int .i64 (.ofNat 0)), (.slice none 0 0), (.slice none 0 0), .nilFunc] 39)) N9)) (fun h13 => (obind (Ev.iop .neq v11 (.int .i64 (.ofNat 0))) (fun v14 => (Ev.cnd v14 (obind (Ev.sto 4 (.pointer (some ⟨N0, 0, none⟩)) (.agg ⟨[(.int .i64 (.ofNat 0)), (.int .i64 (.ofNat 0)), (.slice none 0 0), (.slice none 0 0)]⟩) h13) (fun h15 => (obind (Ev.ldN 4 h15 (.pointer (some ⟨N0, 0, none⟩))) (fun v16 => (some ((.tuple ⟨[v16, v11]⟩), (h15, N12))))))) (obind (Ev.ldN 4 h13 (.pointer (some ⟨N, 0, none⟩))) (fun v17 => (fN (.succ N12) (fun N18 => (obind (Ev.sto 4 (.pointer (some ⟨N12, 0, none⟩)) v17 (Tr.set h13 (some (.c [(.int .i64 (.ofNat 0)), (.int .i64 (.ofNat 0)), (.slice none 0 0), (.slice none 0 0)] 24)) N12)) (fun h19 => (orun (Ev.evBuildSlice Pr 22 1 [(0, a1)] h19 N18) (fun v20 h21 N22 => (orun (Ev.evBuildSlice Pr 22 1 [(0, a1)] h21 N22) (fun v23 h24 N25 => (obind (Ev.fad 2 (.pointer (some ⟨N12, 0, none⟩))) (fun v26 => (obind (Ev.sto 1 v26 v20 h24) (fun h27 => (obind (Ev.fad 3 (.pointer (some ⟨N12, 0, none⟩))) (fun v28 => (obind (Ev.sto 1 v28 v23 h27) (fun h29 => (obind (Ev.ldN 4 h29 (.pointer (some ⟨N, 0, none⟩))) (fun v30 => (obind (Ev.ldN 4 h29 (.pointer (some ⟨N12, 0, none⟩))) (fun v31 => (orun (s8 call v30 v31 h29 N25) (fun v32 h33 N34 => (obind (Ev.extr 0 v32) (fun v35 => (obind (Ev.extr 1 v32) (fun v36 => (obind (Ev.sto 4 (.pointer (some ⟨N0, 0, none⟩)) v35 h33) (fun h37 => (obind (Ev.ldN 4 h37 (.pointer (some ⟨N0, 0, none⟩))) (fun v38 => (some ((.tuple ⟨[v38, v36]⟩), (h37, N34))))))))))))))))))))))))))))))))))))))))))))))))))))))))))
noncomputable def F6 : Ev.Fs := fun call args h N => ar2 args fun a0 a1 => s6 call a0 a1 h N
theorem o6 : FOk Pr 6 F6 := ar2_ok (F := cFn Pr st6 6 .n) (s := s6) (fun call a0 a1 h N => by kernel_rfl) (cFn_ok hmix (st := st6) (StOk.cons o12 (StOk.cons o8 StOk.nil)) 6 .n)
/- function 14 -/
noncomputable def st14 : Ev.St := []
noncomputable def s14 (call : CallF) (a0 a1 a2 : Value) (h : Tr Ob) (N : Nat) : OpR :=
  (obind (Ev.iop .geq a0 a1) (fun v0 => (obind (Ev.wntV v0 true) (fun v1 => (orun (Bool.rec (motive := fun _ => OpR) (some ((.tuple ⟨[]⟩), (h, N))) (some (a0, (h, N))) v1) (fun v2 h3 N4 => (obind (Ev.wntV v0 true) (fun v5 => (orun (Bool.rec (motive := fun _ => OpR) (some ((.tuple ⟨[]⟩), (h3, N4))) (some (a2, (h3, N4))) v5) (fun v6 h7 N8 => (obind (Ev.wntV v0 true) (fun v9 => (orun (Bool.rec (motive := fun _ => OpR) (some ((.tuple ⟨[]⟩), (h7, N8))) (obind (Ev.iop .leq v2 v6) (fun v10 => (some (v10, (h7, N8))))) v9) (fun v11 h12 N13 => (obind (Ev.pck v0 (some v11) (some (.bool false))) (fun v14 => (some (v14, (h12, N13)))))))))))))))))))
noncomputable def F14 : Ev.Fs := fun call args h N => ar3 args fun a0 a1 a2 => s14 call a0 a1 a2 h N
theorem o14 : FOk Pr 14 F14 := ar3_ok (F := cFn Pr st14 14 .n) (s := s14) (fun call a0 a1 a2 h N => by kernel_rfl) (cFn_ok hmix (st := st14) StOk.nil 14 .n)
/- function 18 -/
noncomputable def st18 : Ev.St := [(14, F14)]
noncomputable def s18 (call : CallF) (a0 : Value) (h : Tr Ob) (N : Nat) : OpR :=
  (obind (Ev.lenS a0) (fun v0 => (lpR (α := C3) (fun v1 v2 v3 d4 h5 N6 => none) (fun g7 v8 v9 v10 d11 h12 N13 => (obind (Ev.iop .lss v10 v9) (fun v14 => (Ev.cnd v14 (obind (Ev.iadS 1 v8 v10) (fun v15 => (obind (Ev.ld1 h12 v15) (fun v16 => (orun (s14 call v16 (.int .i64 (.ofNat 1)) (.int .i64 (.ofNat 4)) h12 N13) (fun v17 h18 N19 => (obind (Ev.unV Pr .not v17) (fun v20 => (Ev.cnd v20 (obind (Ev.unmark d11 h18) (fun h21 => (some ((.bool false), (h21, N19))))) (obind (Ev.iop .add v10 (.int .i64 (.ofNat 1))) (fun v22 => (g7 v8 v9 v22 d11 h18 N19)))))))))))) (obind (Ev.unmark d11 h12) (fun h23 => (some ((.bool true), (h23, N13))))))))) a0 v0 (.int .i64 (.ofNat 0)) [] h N)))
noncomputable def F18 : Ev.Fs := fun call args h N => ar1 args fun a0 => s18 call a0 h N
theorem o18 : FOk Pr 18 F18 := ar1_ok (F := cFn Pr st18 18 (.s .n (.s (.s .n (.s (.j [5, 6, 7] .n .n) .n)) .n))) (s := s18) (fun call a0 h N => by kernel_rfl) (cFn_ok hmix (st := st18) (StOk.cons o14 StOk.nil) 18 (.s .n (.s (.s .n (.s (.j [5, 6, 7] .n .n) .n)) .n)))
/- function 13 -/
noncomputable def st13 : Ev.St := [(14, F14), (18, F18)]
noncomputable def s13 (call : CallF) (a0 : Value) (h : Tr Ob) (N : Nat) : OpR :=
  (fN (.succ N) (fun N0 => (obind (Ev.fad 0 (.pointer (some ⟨N, 0, none⟩))) (fun v1 => (obind (Ev.ld1 (Tr.set h (some (.c (Ev.cel a0) 24)) N) v1) (fun v2 => (orun (s14 call v2 (.int .i64 (.ofNat 1)) (.int .i64 (.ofNat 9999)) (Tr.set h (some (.c (Ev.cel a0) 24)) N) N0) (fun v3 h4 N5 => (obind (Ev.wntV v3 true) (fun v6 => (orun (Bool.rec (motive := fun _ => OpR) (some ((.tuple ⟨[]⟩), (h4, N5))) (obind (Ev.fad 1 (.pointer (some ⟨N, 0, none⟩))) (fun v7 => (some (v7, (h4, N5))))) v6) (fun v8 h9 N10 => (obind (Ev.wntV v3 true) (fun v11 => (orun (Bool.rec (motive := fun _ => OpR) (some ((.tuple ⟨[]⟩), (h9, N10))) (obind (Ev.ld1 h9 v8) (fun v12 => (some (v12, (h9, N10))))) v11) (fun v13 h14 N15 => (obind (Ev.wntV v3 true) (fun v16 => (orun (Bool.rec (motive := fun _ => OpR) (some ((.tuple ⟨[]⟩), (h14, N15))) (orun (s14 call v13 (.int .i64 (.ofNat 1)) (.int .i64 (.ofNat 9999)) h14 N15) (fun v17 h18 N19 => (some (v17, (h18, N19))))) v16) (fun v20 h21 N22 => (obind (Ev.pck v3 (some v20) (some (.bool false))) (fun v23 => (obind (Ev.wntV v23 true) (fun v24 => (orun (Bool.rec (motive := fun _ => OpR) (some ((.tuple ⟨[]⟩), (h21, N22))) (obind (Ev.fad 2 (.pointer (some ⟨N, 0, none⟩))) (fun v25 => (some (v25, (h21, N22))))) v24) (fun v26 h27 N28 => (obind (Ev.wntV v23 true) (fun v29 => (orun (Bool.rec (motive := fun _ => OpR) (some ((.tuple ⟨[]⟩), (h27, N28))) (obind (Ev.ld1 h27 v26) (fun v30 => (some (v30, (h27, N28))))) v29) (fun v31 h32 N33 => (obind (Ev.wntV v23 true) (fun v34 => (orun (Bool.rec (motive := fun _ => OpR) (some ((.tuple ⟨[]⟩), (h32, N33))) (obind (Ev.lenS v31) (fun v35 => (some (v35, (h32, N33))))) v34) (fun v36 h37 N38 => (obind (Ev.wntV v23 true) (fun v39 => (orun (Bool.rec (motive := fun _ => OpR) (some ((.tuple ⟨[]⟩), (h37, N38))) (obind (Ev.iop .leq v36 (.int .i64 (.ofNat 12))) (fun v40 => (some (v40, (h37, N38))))) v39) (fun v41 h42 N43 => (obind (Ev.pck v23 (some v41) (some (.bool false))) (fun v44 => (obind (Ev.wntV v44 true) (fun v45 => (orun (Bool.rec (motive := fun _ => OpR) (some ((.tuple ⟨[]⟩), (h42, N43))) (obind (Ev.fad 3 (.pointer (some ⟨N, 0, none⟩))) (fun v46 => (some (v46, (h42, N43))))) v45) (fun v47 h48 N49 => (obind (Ev.wntV v44 true) (fun v50 => (orun (Bool.rec (motive := fun _ => OpR) (some ((.tuple ⟨[]⟩), (h48, N49))) (obind (Ev.ld1 h48 v47) (fun v51 => (some (v51, (h48, N49))))) v50) (fun v52 h53 N54 => (obind (Ev.wntV v44 true) (fun v55 => (orun (Bool.rec (motive := fun _ => OpR) (some ((.tuple ⟨[]⟩), (h53, N54))) (obind (Ev.lenS v52) (fun v56 => (some (v56, (h53, N54))))) v55) (fun v57 h58 N59 => (obind (Ev.wntV v44 true) (fun v60 => (orun (Bool.rec (motive := fun _ => OpR) (some ((.tuple ⟨[]⟩), (h58, N59))) (obind (Ev.iop .leq v57 (.int .i64 (.ofNat 12))) (fun v61 => (some (v61, (h58, N59))))) v60) (fun v62 h63 N64 => (obind (Ev.pck v44 (some v62) (some (.bool false))) (fun v65 => (obind (Ev.wntV v65 true) (fun v66 => (orun (Bool.rec (motive := fun _ => OpR) (some ((.tuple ⟨[]⟩), (h63, N64))) (obind (Ev.fad 2 (.pointer (some ⟨N, 0, none⟩))) (fun v67 => (some (v67, (h63, N64))))) v66) (fun v68 h69 N70 => (obind (Ev.wntV v65 true) (fun v71 => (orun (Bool.rec (motive := fun _ => OpR) (some ((.tuple ⟨[]⟩), (h69, N70))) (obind (Ev.ld1 h69 v68) (fun v72 => (some (v72, (h69, N70))))) v71) (fun v73 h74 N75 => (obind (Ev.wntV v65 true) (fun v76 => (orun (Bool.rec (motive := fun _ => OpR) (some ((.tuple ⟨[]⟩), (h74, N75))) (orun (s18 call v73 h74 N75) (fun v77 h78 N79 => (some (v77, (h78, N79))))) v76) (fun v80 h81 N82 => (obind (Ev.pck v65 (some v80) (some (.bool false))) (fun v83 => (obind (Ev.wntV v83 true) (fun v84 => (orun (Bool.rec (motive := fun _ => OpR) (some ((.tuple ⟨[]⟩), (h81, N82))) (obind (Ev.fad 3 (.pointer (some ⟨N, 0, none⟩))) (fun v85 => (some (v85, (h81, N82))))) v84) (fun v86 h87 N88 => (obind (Ev.wntV v83 true) (fun v89 => (orun (Bool.rec (motive := fun _ => OpR) (some ((.tuple ⟨[]⟩), (h87, N88))) (obind (Ev.ld1 h87 v86) (fun v90 => (some (v90, (h87, N88))))) v89) (fun v91 h92 N93 => (obind (Ev.wntV v83 true) (fun v94 => (orun (Bool.rec (motive := fun _ => OpR) (some ((.tuple ⟨[]⟩), (h92, N93))) (orun (s18 call v91 h92 N93) (fun v95 h96 N97 => (some (v95, (h96, N97))))) v94) (fun v98 h99 N100 => (obind (Ev.pck v83 (some v98) (some (.bool false))) (fun v101 => (some (v101, (h99, N100)))))))))))))))))))))))))))))))))))))))))))))))))))))))))))))))))))))))))))))))))))))))))
noncomputable def F13 : Ev.Fs := fun call args h N => ar1 args fun a0 => s13 call a0 h N
theorem o13 : FOk Pr 13 F13 := ar1_ok (F := cFn Pr st13 13 .n) (s := s13) (fun call a0 h N => by kernel_rfl) (cFn_ok hmix (st := st13) (StOk.cons o14 (StOk.cons o18 StOk.nil)) 13 .n)
/- function 7 -/
noncomputable def st7 : Ev.St := [(13, F13), (14, F14), (5, F5)]
noncomputable def s7 (call : CallF) (a0 a1 : Value) (h : Tr Ob) (N : Nat) : OpR :=
  (fN (.succ N) (fun N0 => (fN (.succ N0) (fun N1 => (obind (Ev.ldN 4 (Tr.set (Tr.set h (some (.c (Ev.cel a0) 24)) N) (some (.c [(.int .i64 (.ofNat 0)), (.int .i64 (.ofNat 0)), (.slice none 0 0), (.slice none 0 0)] 24)) N0) (.pointer (some ⟨N, 0, none⟩))) (fun v2 => (orun (s13 call v2 (Tr.set (Tr.set h (some (.c (Ev.cel a0) 24)) N) (some (.c [(.int .i64 (.ofNat 0)), (.int .i64 (.ofNat 0)), (.slice none 0 0), (.slice none 0 0)] 24)) N0) N1) (fun v3 h4 N5 => (obind (Ev.unV Pr .not v3) (fun v6 => (Ev.cnd v6 (obind (Ev.sto 4 (.pointer (some ⟨N0, 0, none⟩)) (.agg ⟨[(.int .i64 (.ofNat 0)), (.int .i64 (.ofNat 0)), (.slice none 0 0), (.slice none 0 0)]⟩) h4) (fun h7 => (obind (Ev.ldN 4 h7 (.pointer (some ⟨N0, 0, none⟩))) (fun v8 => (some ((.tuple ⟨[v8, (.int .i64 (.ofNat 70))]⟩), (h7, N5))))))) (orun (s14 call a1 (.int .i64 (.ofNat 1)) (.int .i64 (.ofNat 4)) h4 N5) (fun v9 h10 N11 => (obind (Ev.unV Pr .not v9) (fun v12 => (Ev.cnd v12 (obind (Ev.sto 4 (.pointer (some ⟨N0, 0, none⟩)) (.agg ⟨[(.int .i64 (.ofNat 0)), (.int .i64 (.ofNat 0)), (.slice none 0 0), (.slice none 0 0)]⟩) h10) (fun h13 => (obind (Ev.ldN 4 h13 (.pointer (some ⟨N0, 0, none⟩))) (fun v14 => (some ((.tuple ⟨[v14, (.int .i64 (.ofNat 72))]⟩), (h13, N11))))))) (obind (Ev.fad 2 (.pointer (some ⟨N, 0, none⟩))) (fun v15 => (obind (Ev.ld1 h10 v15) (fun v16 => (obind (Ev.lenS v16) (fun v17 => (obind (Ev.iop .eql v17 (.int .i64 (.ofNat 12))) (fun v18 => (obind (Ev.wntV v18 false) (fun v19 => (orun (Bool.rec (motive := fun _ => OpR) (some ((.tuple ⟨[]⟩), (h10, N11))) (obind (Ev.fad 3 (.pointer (some ⟨N, 0, none⟩))) (fun v20 => (some (v20, (h10, N11))))) v19) (fun v21 h22 N23 => (obind (Ev.wntV v18 false) (fun v24 => (orun (Bool.rec (motive := fun _ => OpR) (some ((.tuple ⟨[]⟩), (h22, N23))) (obind (Ev.ld1 h22 v21) (fun v25 => (some (v25, (h22, N23))))) v24) (fun v26 h27 N28 => (obind (Ev.wntV v18 false) (fun v29 => (orun (Bool.rec (motive := fun _ => OpR) (some ((.tuple ⟨[]⟩), (h27, N28))) (obind (Ev.lenS v26) (fun v30 => (some (v30, (h27, N28))))) v29) (fun v31 h32 N33 => (obind (Ev.wntV v18 false) (fun v34 => (orun (Bool.rec (motive := fun _ => OpR) (some ((.tuple ⟨[]⟩), (h32, N33))) (obind (Ev.iop .eql v31 (.int .i64 (.ofNat 12))) (fun v35 => (some (v35, (h32, N33))))) v34) (fun v36 h37 N38 => (obind (Ev.pck v18 (some (.bool true)) (some v36)) (fun v39 => (Ev.cnd v39 (obind (Ev.sto 4 (.pointer (some ⟨N0, 0, none⟩)) (.agg ⟨[(.int .i64 (.ofNat 0)), (.int .i64 (.ofNat 0)), (.slice none 0 0), (.slice none 0 0)]⟩) h37) (fun h40 => (obind (Ev.ldN 4 h40 (.pointer (some ⟨N0, 0, none⟩))) (fun v41 => (some ((.tuple ⟨[v41, (.int .i64 (.ofNat 9))]⟩), (h40, N38))))))) (obind (Ev.ldN 4 h37 (.pointer (some ⟨N, 0, none⟩))) (fun v42 => (orun (s5 call v42 h37 N38) (fun v43 h44 N45 => (fN (.succ N45) (fun N46 => (obind (Ev.sto 4 (.pointer (some ⟨N45, 0, none⟩)) v43 (Tr.set h44 (some (.c [(.int .i64 (.ofNat 0)), (.int .i64 (.ofNat 0)), (.slice none 0 0), (.slice none 0 0)] 24)) N45)) (fun h47 => (obind (Ev.fad 2 (.pointer (some ⟨N45, 0, none⟩))) (fun v48 => (obind (Ev.ld1 h47 v48) (fun v49 => (orun (Ev.evBuildSlice Pr 22 1 [(0, a1)] h47 N46) (fun v50 h51 N52 => (obind (Ev.fad 3 (.pointer (some ⟨N45, 0, none⟩))) (fun v53 => (obind (Ev.ld1 h51 v53) (fun v54 => (orun (Ev.evBuildSlice Pr 22 1 [(0, a1)] h51 N52) (fun v55 h56 N57 => (ocond (Ev.again Pr h56 (.mk 8 (.mk (some 36) (.buildSlice 22 1 ⟨[(0, (.tmp 35))]⟩) 22 "ref.go:322" ⟨[(.mk 7 .data)]⟩ none) (Tr.set (.e 32) (some a1) 35) v55 N52 true)) (ocond (Ev.agL1 h56 v53 v54) (ocond (Ev.again Pr h56 (.mk 3 (.mk (some 31) (.buildSlice 22 1 ⟨[(0, (.tmp 30))]⟩) 22 "ref.go:322" ⟨[(.mk 2 .data)]⟩ none) (Tr.set (.e 32) (some a1) 30) v50 N46 true)) (ocond (Ev.agL1 h56 v48 v49) (orun (Ev.evAppend Pr 22 v49 v50 h56 N57) (fun v58 h59 N60 => (obind (Ev.fad 2 (.pointer (some ⟨N45, 0, none⟩))) (fun v61 => (ocond (Ev.again Pr h59 (.mk 8 (.mk (some 36) (.buildSlice 22 1 ⟨[(0, (.tmp 35))]⟩) 22 "ref.go:322" ⟨[(.mk 7 .data)]⟩ none) (Tr.set (.e 32) (some a1) 35) v55 N52 true)) (ocond (Ev.agL1 h59 v53 v54) (orun (Ev.evAppend Pr 22 v54 v55 h59 N60) (fun v62 h63 N64 => (obind (Ev.sto 1 v61 v58 h63) (fun h65 => (obind (Ev.fad 3 (.pointer (some ⟨N45, 0, none⟩))) (fun v66 => (obind (Ev.sto 1 v66 v62 h65) (fun h67 => (obind (Ev.ldN 4 h67 (.pointer (some ⟨N45, 0, none⟩))) (fun v68 => (obind (Ev.sto 4 (.pointer (some ⟨N0, 0, none⟩)) v68 h67) (fun h69 => (obind (Ev.ldN 4 h69 (.pointer (some ⟨N0, 0, none⟩))) (fun v70 => (some ((.tuple ⟨[v70, (.int .i64 (.ofNat 0))]⟩), (h69, N64))))))))))))))))))))))))))))))))))))))))))))))))))))))))))))))))))))))))))))))))))))))))))
noncomputable def F7 : Ev.Fs := fun call args h N => ar2 args fun a0 a1 => s7 call a0 a1 h N
theorem o7 : FOk Pr 7 F7 := ar2_ok (F := cFn Pr st7 7 .n) (s := s7) (fun call a0 a1 h N => by kernel_rfl) (cFn_ok hmix (st := st7) (StOk.cons o13 (StOk.cons o14 (StOk.cons o5 StOk.nil))) 7 .n)
/- function 9 -/
noncomputable def st9 : Ev.St := [(13, F13), (5, F5)]
noncomputable def s9 (call : CallF) (a0 a1 : Value) (h : Tr Ob) (N : Nat) : OpR :=
  (fN (.succ N) (fun N0 => (fN (.succ N0) (fun N1 => (fN (.succ N1) (fun N2 => (obind (Ev.ldN 4 (Tr.set (Tr.set (Tr.set h (some (.c (Ev.cel a0) 24)) N) (some (.c (Ev.cel a1) 24)) N0) (some (.c [(.int .i64 (.ofNat 0)), (.int .i64 (.ofNat 0)), (.slice none 0 0), (.slice none 0 0)] 24)) N1) (.pointer (some ⟨N, 0, none⟩))) (fun v3 => (orun (s13 call v3 (Tr.set (Tr.set (Tr.set h (some (.c (Ev.cel a0) 24)) N) (some (.c (Ev.cel a1) 24)) N0) (some (.c [(.int .i64 (.ofNat 0)), (.int .i64 (.ofNat 0)), (.slice none 0 0), (.slice none 0 0)] 24)) N1) N2) (fun v4 h5 N6 => (obind (Ev.unV Pr .not v4) (fun v7 => (obind (Ev.wntV v7 false) (fun v8 => (orun (Bool.rec (motive := fun _ => OpR) (some ((.tuple ⟨[]⟩), (h5, N6))) (obind (Ev.ldN 4 h5 (.pointer (some ⟨N0, 0, none⟩))) (fun v9 => (some (v9, (h5, N6))))) v8) (fun v10 h11 N12 => (obind (Ev.wntV v7 false) (fun v13 => (orun (Bool.rec (motive := fun _ => OpR) (some ((.tuple ⟨[]⟩), (h11, N12))) (orun (s13 call v10 h11 N12) (fun v14 h15 N16 => (some (v14, (h15, N16))))) v13) (fun v17 h18 N19 => (obind (Ev.wntV v7 false) (fun v20 => (orun (Bool.rec (motive := fun _ => OpR) (some ((.tuple ⟨[]⟩), (h18, N19))) (obind (Ev.unV Pr .not v17) (fun v21 => (some (v21, (h18, N19))))) v20) (fun v22 h23 N24 => (obind (Ev.pck v7 (some (.bool true)) (some v22)) (fun v25 => (Ev.cnd v25 (obind (Ev.sto 4 (.pointer (some ⟨N1, 0, none⟩)) (.agg ⟨[(.int .i64 (.ofNat 0)), (.int .i64 (.ofNat 0)), (.slice none 0 0), (.slice none 0 0)]⟩) h23) (fun h26 => (obind (Ev.ldN 4 h26 (.pointer (some ⟨N1, 0, none⟩))) (fun v27 => (some ((.tuple ⟨[v27, (.int .i64 (.ofNat 70))]⟩), (h26, N24))))))) (obind (Ev.fad 2 (.pointer (some ⟨N, 0, none⟩))) (fun v28 => (obind (Ev.ld1 h23 v28) (fun v29 => (obind (Ev.lenS v29) (fun v30 => (obind (Ev.fad 2 (.pointer (some ⟨N0, 0, none⟩))) (fun v31 => (obind (Ev.ld1 h23 v31) (fun v32 => (obind (Ev.lenS v32) (fun v33 => (obind (Ev.iop .add v30 v33) (fun v34 => (obind (Ev.iop .gtr v34 (.int .i64 (.ofNat 12))) (fun v35 => (obind (Ev.wntV v35 false) (fun v36 => (orun (Bool.rec (motive := fun _ => OpR) (some ((.tuple ⟨[]⟩), (h23, N24))) (obind (Ev.fad 3 (.pointer (some ⟨N, 0, none⟩))) (fun v37 => (some (v37, (h23, N24))))) v36) (fun v38 h39 N40 => (obind (Ev.wntV v35 false) (fun v41 => (orun (Bool.rec (motive := fun _ => OpR) (some ((.tuple ⟨[]⟩), (h39, N40))) (obind (Ev.ld1 h39 v38) (fun v42 => (some (v42, (h39, N40))))) v41) (fun v43 h44 N45 => (obind (Ev.wntV v35 false) (fun v46 => (orun (Bool.rec (motive := fun _ => OpR) (some ((.tuple ⟨[]⟩), (h44, N45))) (obind (Ev.lenS v43) (fun v47 => (some (v47, (h44, N45))))) v46) (fun v48 h49 N50 => (obind (Ev.wntV v35 false) (fun v51 => (orun (Bool.rec (motive := fun _ => OpR) (some ((.tuple ⟨[]⟩), (h49, N50))) (obind (Ev.fad 3 (.pointer (some ⟨N0, 0, none⟩))) (fun v52 => (some (v52, (h49, N50))))) v51) (fun v53 h54 N55 => (obind (Ev.wntV v35 false) (fun v56 => (orun (Bool.rec (motive := fun _ => OpR) (some ((.tuple ⟨[]⟩), (h54, N55))) (obind (Ev.ld1 h54 v53) (fun v57 => (some (v57, (h54, N55))))) v56) (fun v58 h59 N60 => (obind (Ev.wntV v35 false) (fun v61 => (orun (Bool.rec (motive := fun _ => OpR) (some ((.tuple ⟨[]⟩), (h59, N60))) (obind (Ev.lenS v58) (fun v62 => (some (v62, (h59, N60))))) v61) (fun v63 h64 N65 => (obind (Ev.wntV v35 false) (fun v66 => (orun (Bool.rec (motive := fun _ => OpR) (some ((.tuple ⟨[]⟩), (h64, N65))) (obind (Ev.iop .add v48 v63) (fun v67 => (some (v67, (h64, N65))))) v66) (fun v68 h69 N70 => (obind (Ev.wntV v35 false) (fun v71 => (orun (Bool.rec (motive := fun _ => OpR) (some ((.tuple ⟨[]⟩), (h69, N70))) (obind (Ev.iop .gtr v68 (.int .i64 (.ofNat 12))) (fun v72 => (some (v72, (h69, N70))))) v71) (fun v73 h74 N75 => (obind (Ev.pck v35 (some (.bool true)) (some v73)) (fun v76 => (Ev.cnd v76 (obind (Ev.sto 4 (.pointer (some ⟨N1, 0, none⟩)) (.agg ⟨[(.int .i64 (.ofNat 0)), (.int .i64 (.ofNat 0)), (.slice none 0 0), (.slice none 0 0)]⟩) h74) (fun h77 => (obind (Ev.ldN 4 h77 (.pointer (some ⟨N1, 0, none⟩))) (fun v78 => (some ((.tuple ⟨[v78, (.int .i64 (.ofNat 9))]⟩), (h77, N75))))))) (obind (Ev.ldN 4 h74 (.pointer (some ⟨N, 0, none⟩))) (fun v79 => (orun (s5 call v79 h74 N75) (fun v80 h81 N82 => (fN (.succ N82) (fun N83 => (obind (Ev.sto 4 (.pointer (some ⟨N82, 0, none⟩)) v80 (Tr.set h81 (some (.c [(.int .i64 (.ofNat 0)), (.int .i64 (.ofNat 0)), (.slice none 0 0), (.slice none 0 0)] 24)) N82)) (fun h84 => (obind (Ev.fad 2 (.pointer (some ⟨N82, 0, none⟩))) (fun v85 => (obind (Ev.ld1 h84 v85) (fun v86 => (obind (Ev.fad 2 (.pointer (some ⟨N0, 0, none⟩))) (fun v87 => (obind (Ev.ld1 h84 v87) (fun v88 => (obind (Ev.fad 3 (.pointer (some ⟨N82, 0, none⟩))) (fun v89 => (obind (Ev.ld1 h84 v89) (fun v90 => (obind (Ev.fad 3 (.pointer (some ⟨N0, 0, none⟩))) (fun v91 => (obind (Ev.ld1 h84 v91) (fun v92 => (ocond (Ev.agL1 h84 v91 v92) (ocond (Ev.agL1 h84 v89 v90) (ocond (Ev.agL1 h84 v87 v88) (ocond (Ev.agL1 h84 v85 v86) (orun (Ev.evAppend Pr 22 v86 v88 h84 N83) (fun v93 h94 N95 => (obind (Ev.fad 2 (.pointer (some ⟨N82, 0, none⟩))) (fun v96 => (ocond (Ev.agL1 h94 v91 v92) (ocond (Ev.agL1 h94 v89 v90) (orun (Ev.evAppend Pr 22 v90 v92 h94 N95) (fun v97 h98 N99 => (obind (Ev.sto 1 v96 v93 h98) (fun h100 => (obind (Ev.fad 3 (.pointer (some ⟨N82, 0, none⟩))) (fun v101 => (obind (Ev.sto 1 v101 v97 h100) (fun h102 => (obind (Ev.ldN 4 h102 (.pointer (some ⟨N82, 0, none⟩))) (fun v103 => (obind (Ev.sto 4 (.pointer (some ⟨N1, 0, none⟩)) v103 h102) (fun h104 => (obind (Ev.ldN 4 h104 (.pointer (some ⟨N1, 0, none⟩))) (fun v105 => (some ((.tuple ⟨[v105, (.int .i64 (.ofNat 0))]⟩), (h104, N99)))))))))))))))))))))))))))))))))))))))))))))))))))))))))))))))))))))))))))))))))))))))))))))))))))))))))))))))))))))))))))))))))
noncomputable def F9 : Ev.Fs := fun call args h N => ar2 args fun a0 a1 => s9 call a0 a1 h N
theorem o9 : FOk Pr 9 F9 := ar2_ok (F := cFn Pr st9 9 .n) (s := s9) (fun call a0 a1 h N => by kernel_rfl) (cFn_ok hmix (st := st9) (StOk.cons o13 (StOk.cons o5 StOk.nil)) 9 .n)
/- function 17 -/
noncomputable def st17 : Ev.St := []
noncomputable def s17 (call : CallF) (a0 a1 : Value) (h : Tr Ob) (N : Nat) : OpR :=
  (obind (Ev.lenS a0) (fun v0 => (obind (Ev.lenS a1) (fun v1 => (obind (Ev.iop .neq v0 v1) (fun v2 => (Ev.cnd v2 (some ((.bool false), (h, N))) (lpR (α := C3) (fun v3 v4 v5 d6 h7 N8 => none) (fun g9 v10 v11 v12 d13 h14 N15 => (obind (Ev.lenS v10) (fun v16 => (obind (Ev.iop .lss v12 v16) (fun v17 => (Ev.cnd v17 (obind (Ev.iadS 1 v10 v12) (fun v18 => (obind (Ev.ld1 h14 v18) (fun v19 => (obind (Ev.iadS 1 v11 v12) (fun v20 => (obind (Ev.ld1 h14 v20) (fun v21 => (obind (Ev.iop .neq v19 v21) (fun v22 => (ocond (Ev.agL1 h14 v20 v21) (ocond (Ev.agL1 h14 v18 v19) (Ev.cnd v22 (obind (Ev.unmark d13 h14) (fun h23 => (some ((.bool false), (h23, N15))))) (obind (Ev.iop .add v12 (.int .i64 (.ofNat 1))) (fun v24 => (g9 v10 v11 v24 d13 h14 N15)))))))))))))))) (obind (Ev.unmark d13 h14) (fun h25 => (some ((.bool true), (h25, N15))))))))))) a0 a1 (.int .i64 (.ofNat 0)) [] h N))))))))
noncomputable def F17 : Ev.Fs := fun call args h N => ar2 args fun a0 a1 => s17 call a0 a1 h N
theorem o17 : FOk Pr 17 F17 := ar2_ok (F := cFn Pr st17 17 (.s .n (.s .n (.s (.s .n (.s (.j [0, 1, 5] .n .n) .n)) .n)))) (s := s17) (fun call a0 a1 h N => by kernel_rfl) (cFn_ok hmix (st := st17) StOk.nil 17 (.s .n (.s .n (.s (.s .n (.s (.j [0, 1, 5] .n .n) .n)) .n))))
/- function 10 -/
noncomputable def st10 : Ev.St := [(17, F17)]
noncomputable def s10 (call : CallF) (a0 a1 : Value) (h : Tr Ob) (N : Nat) : OpR :=
  (fN (.succ N) (fun N0 => (fN (.succ N0) (fun N1 => (obind (Ev.fad 0 (.pointer (some ⟨N, 0, none⟩))) (fun v2 => (obind (Ev.ld1 (Tr.set (Tr.set h (some (.c (Ev.cel a0) 24)) N) (some (.c (Ev.cel a1) 24)) N0) v2) (fun v3 => (obind (Ev.fad 0 (.pointer (some ⟨N0, 0, none⟩))) (fun v4 => (obind (Ev.ld1 (Tr.set (Tr.set h (some (.c (Ev.cel a0) 24)) N) (some (.c (Ev.cel a1) 24)) N0) v4) (fun v5 => (obind (Ev.iop .eql v3 v5) (fun v6 => (obind (Ev.wntV v6 true) (fun v7 => (orun (Bool.rec (motive := fun _ => OpR) (some ((.tuple ⟨[]⟩), ((Tr.set (Tr.set h (some (.c (Ev.cel a0) 24)) N) (some (.c (Ev.cel a1) 24)) N0), N1))) (obind (Ev.fad 1 (.pointer (some ⟨N, 0, none⟩))) (fun v8 => (some (v8, ((Tr.set (Tr.set h (some (.c (Ev.cel a0) 24)) N) (some (.c (Ev.cel a1) 24)) N0), N1))))) v7) (fun v9 h10 N11 => (obind (Ev.wntV v6 true) (fun v12 => (orun (Bool.rec (motive := fun _ => OpR) (some ((.tuple ⟨[]⟩), (h10, N11))) (obind (Ev.ld1 h10 v9) (fun v13 => (some (v13, (h10, N11))))) v12) (fun v14 h15 N16 => (obind (Ev.wntV v6 true) (fun v17 => (orun (Bool.rec (motive := fun _ => OpR) (some ((.tuple ⟨[]⟩), (h15, N16))) (obind (Ev.fad 1 (.pointer (some ⟨N0, 0, none⟩))) (fun v18 => (some (v18, (h15, N16))))) v17) (fun v19 h20 N21 => (obind (Ev.wntV v6 true) (fun v22 => (orun (Bool.rec (motive := fun _ => OpR) (some ((.tuple ⟨[]⟩), (h20, N21))) (obind (Ev.ld1 h20 v19) (fun v23 => (some (v23, (h20, N21))))) v22) (fun v24 h25 N26 => (obind (Ev.wntV v6 true) (fun v27 => (orun (Bool.rec (motive := fun _ => OpR) (some ((.tuple ⟨[]⟩), (h25, N26))) (obind (Ev.iop .eql v14 v24) (fun v28 => (some (v28, (h25, N26))))) v27) (fun v29 h30 N31 => (obind (Ev.pck v6 (some v29) (some (.bool false))) (fun v32 => (obind (Ev.wntV v32 true) (fun v33 => (orun (Bool.rec (motive := fun _ => OpR) (some ((.tuple ⟨[]⟩), (h30, N31))) (obind (Ev.fad 2 (.pointer (some ⟨N, 0, none⟩))) (fun v34 => (some (v34, (h30, N31))))) v33) (fun v35 h36 N37 => (obind (Ev.wntV v32 true) (fun v38 => (orun (Bool.rec (motive := fun _ => OpR) (some ((.tuple ⟨[]⟩), (h36, N37))) (obind (Ev.ld1 h36 v35) (fun v39 => (some (v39, (h36, N37))))) v38) (fun v40 h41 N42 => (obind (Ev.wntV v32 true) (fun v43 => (orun (Bool.rec (motive := fun _ => OpR) (some ((.tuple ⟨[]⟩), (h41, N42))) (obind (Ev.fad 2 (.pointer (some ⟨N0, 0, none⟩))) (fun v44 => (some (v44, (h41, N42))))) v43) (fun v45 h46 N47 => (obind (Ev.wntV v32 true) (fun v48 => (orun (Bool.rec (motive := fun _ => OpR) (some ((.tuple ⟨[]⟩), (h46, N47))) (obind (Ev.ld1 h46 v45) (fun v49 => (some (v49, (h46, N47))))) v48) (fun v50 h51 N52 => (obind (Ev.wntV v32 true) (fun v53 => (orun (Bool.rec (motive := fun _ => OpR) (some ((.tuple ⟨[]⟩), (h51, N52))) (orun (s17 call v40 v50 h51 N52) (fun v54 h55 N56 => (some (v54, (h55, N56))))) v53) (fun v57 h58 N59 => (obind (Ev.pck v32 (some v57) (some (.bool false))) (fun v60 => (obind (Ev.wntV v60 true) (fun v61 => (orun (Bool.rec (motive := fun _ => OpR) (some ((.tuple ⟨[]⟩), (h58, N59))) (obind (Ev.fad 3 (.pointer (some ⟨N, 0, none⟩))) (fun v62 => (some (v62, (h58, N59))))) v61) (fun v63 h64 N65 => (obind (Ev.wntV v60 true) (fun v66 => (orun (Bool.rec (motive := fun _ => OpR) (some ((.tuple ⟨[]⟩), (h64, N65))) (obind (Ev.ld1 h64 v63) (fun v67 => (some (v67, (h64, N65))))) v66) (fun v68 h69 N70 => (obind (Ev.wntV v60 true) (fun v71 => (orun (Bool.rec (motive := fun _ => OpR) (some ((.tuple ⟨[]⟩), (h69, N70))) (obind (Ev.fad 3 (.pointer (some ⟨N0, 0, none⟩))) (fun v72 => (some (v72, (h69, N70))))) v71) (fun v73 h74 N75 => (obind (Ev.wntV v60 true) (fun v76 => (orun (Bool.rec (motive := fun _ => OpR) (some ((.tuple ⟨[]⟩), (h74, N75))) (obind (Ev.ld1 h74 v73) (fun v77 => (some (v77, (h74, N75))))) v76) (fun v78 h79 N80 => (obind (Ev.wntV v60 true) (fun v81 => (orun (Bool.rec (motive := fun _ => OpR) (some ((.tuple ⟨[]⟩), (h79, N80))) (orun (s17 call v68 v78 h79 N80) (fun v82 h83 N84 => (some (v82, (h83, N84))))) v81) (fun v85 h86 N87 => (obind (Ev.pck v60 (some v85) (some (.bool false))) (fun v88 => (some (v88, (h86, N87)))))))))))))))))))))))))))))))))))))))))))))))))))))))))))))))))))))))))))))))))))
noncomputable def F10 : Ev.Fs := fun call args h N => ar2 args fun a0 a1 => s10 call a0 a1 h N
theorem o10 : FOk Pr 10 F10 := ar2_ok (F := cFn Pr st10 10 .n) (s := s10) (fun call a0 a1 h N => by kernel_rfl) (cFn_ok hmix (st := st10) (StOk.cons o17 StOk.nil) 10 .n)
/- function 11 -/
noncomputable def st11 : Ev.St := []
noncomputable def s11 (call : CallF) (a0 : Value) (h : Tr Ob) (N : Nat) : OpR :=
  (fN (.succ N) (fun N0 => (obind (Ev.fad 2 (.pointer (some ⟨N, 0, none⟩))) (fun v1 => (obind (Ev.ld1 (Tr.set h (some (.c (Ev.cel a0) 24)) N) v1) (fun v2 => (obind (Ev.lenS v2) (fun v3 => (lpR (α := C3) (fun v4 v5 v6 d7 h8 N9 => none) (fun g10 v11 v12 v13 d14 h15 N16 => (obind (Ev.iop .lss v13 v12) (fun v17 => (Ev.cnd v17 (obind (Ev.fad 2 v11) (fun v18 => (obind (Ev.ld1 h15 v18) (fun v19 => (obind (Ev.iadS 1 v19 v13) (fun v20 => (obind (Ev.sto 1 v20 (.int .i64 (.negSucc 6)) h15) (fun h21 => (obind (Ev.iop .add v13 (.int .i64 (.ofNat 1))) (fun v22 => (g10 v11 v12 v22 d14 h21 N16))))))))))) (obind (Ev.fad 3 v11) (fun v23 => (obind (Ev.ld1 h15 v23) (fun v24 => (obind (Ev.lenS v24) (fun v25 => (lpR (α := C3) (fun v26 v27 v28 d29 h30 N31 => none) (fun g32 v33 v34 v35 d36 h37 N38 => (obind (Ev.iop .lss v35 v34) (fun v39 => (Ev.cnd v39 (obind (Ev.fad 3 v33) (fun v40 => (obind (Ev.ld1 h37 v40) (fun v41 => (obind (Ev.iadS 1 v41 v35) (fun v42 => (obind (Ev.sto 1 v42 (.int .i64 (.negSucc 6)) h37) (fun h43 => (obind (Ev.iop .add v35 (.int .i64 (.ofNat 1))) (fun v44 => (g32 v33 v34 v44 d36 h43 N38))))))))))) (obind (Ev.unmark d36 h37) (fun h45 => (some ((.tuple ⟨[]⟩), (h45, N38))))))))) v11 v25 (.int .i64 (.ofNat 0)) d14 h15 N16))))))))))) (.pointer (some ⟨N, 0, none⟩)) v3 (.int .i64 (.ofNat 0)) [] (Tr.set h (some (.c (Ev.cel a0) 24)) N) N0)))))))))
noncomputable def F11 : Ev.Fs := fun call args h N => ar1 args fun a0 => s11 call a0 h N
theorem o11 : FOk Pr 11 F11 := ar1_ok (F := cFn Pr st11 11 (.s .n (.s (.s .n (.s (.j [1, 6, 7] .n .n) .n)) (.s .n (.s (.j [1, 17, 18] .n .n) .n))))) (s := s11) (fun call a0 h N => by kernel_rfl) (cFn_ok hmix (st := st11) StOk.nil 11 (.s .n (.s (.s .n (.s (.j [1, 6, 7] .n .n) .n)) (.s .n (.s (.j [1, 17, 18] .n .n) .n)))))

end Go.Proofs.Ytnbilohdnopkfaa
end

section
namespace Go.Proofs.Ytnbilohdnopkfaa
open Go.Ev Go.RowKit
set_option linter.unusedVariables false
set_option linter.unusedSimpArgs false
set_option maxRecDepth 100000
set_option maxHeartbeats 4000000
theorem unV_not (b : Bool) : unV Pr .not (.bool b) = some (.bool (!b)) := by cases b <;> rfl
theorem within14 (call : CallF) (n a b : Int) (h : Tr Ob) (N : Nat) : s14 call (iS n) (iS a) (iS b) h N = some (.bool (decide (a ≤ n ∧ n ≤ b)), h, N) := by
  unfold s14
  by_cases h1 : a ≤ n
  · have d1 : decide (a ≤ n) = true := decide_eq_true h1
    simp only [iop_geq, iop_leq, d1, obind_s, wnt_tt, br_t, orun_s, pck_t]
    by_cases h2 : n ≤ b
    · rw [decide_eq_true h2, decide_eq_true (⟨h1, h2⟩ : a ≤ n ∧ n ≤ b)]
    · rw [decide_eq_false h2, decide_eq_false (fun e : a ≤ n ∧ n ≤ b => h2 e.2)]
  · have d1 : decide (a ≤ n) = false := decide_eq_false h1
    simp only [iop_geq, iop_leq, d1, obind_s, wnt_ft, br_f, orun_s, pck_f]
    rw [decide_eq_false (fun e : a ≤ n ∧ n ≤ b => h1 e.1)]
def okN (a b : Int) (n : Int) : Bool := decide (a ≤ n ∧ n ≤ b)
noncomputable def lp18_0 (call : CallF) : C3 → C3 :=
  (fun g7 v8 v9 v10 d11 h12 N13 => (obind (Ev.iop .lss v10 v9) (fun v14 => (Ev.cnd v14 (obind (Ev.iadS 1 v8 v10) (fun v15 => (obind (Ev.ld1 h12 v15) (fun v16 => (orun (s14 call v16 (.int .i64 (.ofNat 1)) (.int .i64 (.ofNat 4)) h12 N13) (fun v17 h18 N19 => (obind (Ev.unV Pr .not v17) (fun v20 => (Ev.cnd v20 (obind (Ev.unmark d11 h18) (fun h21 => (some ((.bool false), (h21, N19))))) (obind (Ev.iop .add v10 (.int .i64 (.ofNat 1))) (fun v22 => (g7 v8 v9 v22 d11 h18 N19)))))))))))) (obind (Ev.unmark d11 h12) (fun h23 => (some ((.bool true), (h23, N13)))))))))

theorem s18_eq (call : CallF) (a0 : Value) (h : Tr Ob) (N : Nat) : s18 call a0 h N =
  (obind (Ev.lenS a0) (fun v0 => (lpR (α := C3) (fun v1 v2 v3 d4 h5 N6 => none) (lp18_0 call) a0 v0 (.int .i64 (.ofNat 0)) [] h N))) := rfl

theorem loop18 (call : CallF) (v : Value) (K : List Int) (h : Tr Ob) (N0 N : Nat) (hv : Ints h N0 v K) (hK : K.length < 1000000) (z : C3) : ∀ (n k fuel : Nat), k + n = K.length → n < fuel →
    lpN z (lp18_0 call) fuel v (nS K.length) (nS k) [] h N = some (.bool ((K.drop k).all (okN 1 4)), h, N) := by
  intro n
  induction n with
  | zero =>
    intro k fuel hk hf
    obtain ⟨fuel, rfl⟩ : ∃ f, fuel = f + 1 := ⟨fuel - 1, by omega⟩
    rw [lpN_succ]
    unfold lp18_0
    simp only [iop_lss, obind_s, cnd_d]
    rw [if_neg (by omega), unmark_nil, obind_s, List.drop_eq_nil_of_le (by omega)]
    rfl
  | succ n ih =>
    intro k fuel hk hf
    obtain ⟨fuel, rfl⟩ : ∃ f, fuel = f + 1 := ⟨fuel - 1, by omega⟩
    rw [lpN_succ]
    obtain ⟨L, hL⟩ : ∃ L, L = lpN z (lp18_0 call) fuel := ⟨_, rfl⟩
    rw [← hL]
    unfold lp18_0
    obtain ⟨i, off, h1, h2, h3⟩ := hv.get (k := k) (by omega)
    simp only [iop_lss, obind_s, cnd_d]
    rw [if_pos (by omega), h2, obind_s, h3, obind_s]
    show orun (s14 call (iS (K[k]'(by omega))) (iS 1) (iS 4) h N) _ = _
    rw [within14, orun_s, unV_not, obind_s, List.drop_eq_getElem_cons (by omega), List.all_cons]
    show cnd (.bool (!(okN 1 4 (K[k]'(by omega))))) _ _ = _
    cases hp : okN 1 4 (K[k]'(by omega)) with
    | false => rfl
    | true =>
      simp only [Bool.not_true, cnd_f, Bool.true_and]
      rw [add1 (by omega), obind_s, hL]
      exact ih (k + 1) fuel (by omega) (by omega)
theorem notches18 (call : CallF) (v : Value) (K : List Int) (h : Tr Ob) (N0 N : Nat) (hv : Ints h N0 v K) (hK : K.length < 1000000) : s18 call v h N = some (.bool (K.all (okN 1 4)), h, N) := by
  rw [s18_eq, hv.lenS, obind_s, lpR_eq]
  exact loop18 call v K h N0 N hv hK _ K.length 0 rounds (by omega) hK
noncomputable def lp17_0  : C3 → C3 :=
  (fun g9 v10 v11 v12 d13 h14 N15 => (obind (Ev.lenS v10) (fun v16 => (obind (Ev.iop .lss v12 v16) (fun v17 => (Ev.cnd v17 (obind (Ev.iadS 1 v10 v12) (fun v18 => (obind (Ev.ld1 h14 v18) (fun v19 => (obind (Ev.iadS 1 v11 v12) (fun v20 => (obind (Ev.ld1 h14 v20) (fun v21 => (obind (Ev.iop .neq v19 v21) (fun v22 => (ocond (Ev.agL1 h14 v20 v21) (ocond (Ev.agL1 h14 v18 v19) (Ev.cnd v22 (obind (Ev.unmark d13 h14) (fun h23 => (some ((.bool false), (h23, N15))))) (obind (Ev.iop .add v12 (.int .i64 (.ofNat 1))) (fun v24 => (g9 v10 v11 v24 d13 h14 N15)))))))))))))))) (obind (Ev.unmark d13 h14) (fun h25 => (some ((.bool true), (h25, N15)))))))))))

theorem s17_eq (call : CallF) (a0 a1 : Value) (h : Tr Ob) (N : Nat) : s17 call a0 a1 h N =
  (obind (Ev.lenS a0) (fun v0 => (obind (Ev.lenS a1) (fun v1 => (obind (Ev.iop .neq v0 v1) (fun v2 => (Ev.cnd v2 (some ((.bool false), (h, N))) (lpR (α := C3) (fun v3 v4 v5 d6 h7 N8 => none) (lp17_0) a0 a1 (.int .i64 (.ofNat 0)) [] h N)))))))) := rfl

theorem loop17 (call : CallF) (v w : Value) (K M : List Int) (h : Tr Ob) (N0 N : Nat) (hv : Ints h N0 v K) (hw : Ints h N0 w M) (he : K.length = M.length) (hK : K.length < 1000000) (z : C3) : ∀ (n k fuel : Nat), k + n = K.length → n < fuel →
    lpN z lp17_0 fuel v w (nS k) [] h N = some (.bool (decide (K.drop k = M.drop k)), h, N) := by
  intro n
  induction n with
  | zero =>
    intro k fuel hk hf
    obtain ⟨fuel, rfl⟩ : ∃ f, fuel = f + 1 := ⟨fuel - 1, by omega⟩
    rw [lpN_succ]
    unfold lp17_0
    simp only [hv.lenS, iop_lss, obind_s, cnd_d]
    rw [if_neg (by omega), unmark_nil, obind_s, List.drop_eq_nil_of_le (by omega : K.length ≤ k), List.drop_eq_nil_of_le (by omega : M.length ≤ k)]
    rfl
  | succ n ih =>
    intro k fuel hk hf
    obtain ⟨fuel, rfl⟩ : ∃ f, fuel = f + 1 := ⟨fuel - 1, by omega⟩
    rw [lpN_succ]
    obtain ⟨L, hL⟩ : ∃ L, L = lpN z lp17_0 fuel := ⟨_, rfl⟩
    rw [← hL]
    unfold lp17_0
    obtain ⟨i, off, h1, h2, h3⟩ := hv.get (k := k) (by omega)
    obtain ⟨i2, off2, g1, g2, g3⟩ := hw.get (k := k) (by omega)
    simp only [hv.lenS, iop_lss, obind_s, cnd_d]
    rw [if_pos (by omega), h2, obind_s, h3, obind_s, g2, obind_s, g3, obind_s, iop_neq, obind_s, agL1_self g3 (valEq_int 2 _ _), ocond_t, agL1_self h3 (valEq_int 2 _ _), ocond_t, cnd_d]
    have e1 : K.drop k = K[k]'(by omega) :: K.drop (k + 1) := List.drop_eq_getElem_cons (by omega)
    have e2 : M.drop k = M[k]'(by omega) :: M.drop (k + 1) := List.drop_eq_getElem_cons (by omega)
    by_cases hne : K[k]'(by omega) = M[k]'(by omega)
    · have e3 : decide (K.drop k = M.drop k) = decide (K.drop (k + 1) = M.drop (k + 1)) := by
        rw [Bool.eq_iff_iff, decide_eq_true_eq, decide_eq_true_eq]
        constructor
        · intro e; rw [e1, e2] at e; exact (List.cons.inj e).2
        · intro e; rw [e1, e2, hne, e]
      rw [if_neg (by simpa using hne), add1 (by omega), obind_s, hL, ih (k + 1) fuel (by omega) (by omega), e3]
    · rw [if_pos hne, unmark_nil, obind_s, e1, e2, decide_eq_false]
      intro e
      simp only [List.cons.injEq] at e
      exact hne e.1
theorem same17 (call : CallF) (v w : Value) (K M : List Int) (h : Tr Ob) (N0 N : Nat) (hv : Ints h N0 v K) (hw : Ints h N0 w M) (hK : K.length < 1000000) : s17 call v w h N = some (.bool (decide (K = M)), h, N) := by
  rw [s17_eq, hv.lenS, obind_s, hw.lenS, obind_s, iop_neq, obind_s, cnd_d]
  by_cases he : K.length = M.length
  · rw [if_neg (by omega), lpR_eq]
    exact loop17 call v w K M h N0 N hv hw he hK _ K.length 0 rounds (by omega) hK
  · rw [if_pos (by omega), decide_eq_false (fun e => he (by rw [e]))]
theorem span31 (call : CallF) (a b : Int) (h : Tr Ob) (N : Nat) : ∃ h' N', s31 call (iS a) (iS b) h N = some (.agg ⟨[iS a, iS b]⟩, h', N') ∧ Gr h N h' N' := by
  unfold s31
  simp only [fN_eq]
  have e1 : evBuild Pr 67 [(0, iS a), (1, iS b)] = some (.agg ⟨[iS a, iS b]⟩) := by rfl
  rw [e1, obind_s, sto_c (T := 67) (xs := [.int .i64 (.ofNat 0), .int .i64 (.ofNat 0)]) (v := .agg ⟨[iS a, iS b]⟩) (m := 2) (by rw [Tr.get_same]) rfl rfl (by simp), obind_s]
  have l0 : lay [.int .i64 (.ofNat 0), .int .i64 (.ofNat 0)] (cel (.agg ⟨[iS a, iS b]⟩)) 0 = [iS a, iS b] := rfl
  rw [l0, ldN_c (T := 67) (xs := [iS a, iS b]) (by rw [Tr.get_same]) (by simp), obind_s]
  exact ⟨_, _, rfl, ((Gr.refl h N).set (Nat.le_refl _) (by omega : N ≤ N + 1) _).set (Nat.le_refl _) (Nat.le_refl _) _⟩
noncomputable def lp30_0  : C4 → C4 :=
  (fun g9 v10 v11 v12 v13 d14 h15 N16 => (obind (Ev.iop .lss v13 v12) (fun v17 => (Ev.cnd v17 (obind (Ev.iadS 1 v11 v13) (fun v18 => (obind (Ev.ld1 h15 v18) (fun v19 => (obind (Ev.fad 0 v10) (fun v20 => (obind (Ev.ld1 h15 v20) (fun v21 => (obind (Ev.iop .lss v19 v21) (fun v22 => (obind (Ev.wntV v22 false) (fun v23 => (orun (Bool.rec (motive := fun _ => OpR) (some ((.tuple ⟨[]⟩), (h15, N16))) (some (v19, (h15, N16))) v23) (fun v24 h25 N26 => (obind (Ev.wntV v22 false) (fun v27 => (orun (Bool.rec (motive := fun _ => OpR) (some ((.tuple ⟨[]⟩), (h25, N26))) (obind (Ev.fad 1 v10) (fun v28 => (some (v28, (h25, N26))))) v27) (fun v29 h30 N31 => (obind (Ev.wntV v22 false) (fun v32 => (orun (Bool.rec (motive := fun _ => OpR) (some ((.tuple ⟨[]⟩), (h30, N31))) (obind (Ev.ld1 h30 v29) (fun v33 => (some (v33, (h30, N31))))) v32) (fun v34 h35 N36 => (obind (Ev.wntV v22 false) (fun v37 => (orun (Bool.rec (motive := fun _ => OpR) (some ((.tuple ⟨[]⟩), (h35, N36))) (obind (Ev.iop .gtr v24 v34) (fun v38 => (some (v38, (h35, N36))))) v37) (fun v39 h40 N41 => (obind (Ev.pck v22 (some (.bool true)) (some v39)) (fun v42 => (Ev.cnd v42 (obind (Ev.unmark d14 h40) (fun h43 => (some ((.bool false), (h43, N41))))) (obind (Ev.iop .add v13 (.int .i64 (.ofNat 1))) (fun v44 => (g9 v10 v11 v12 v44 d14 h40 N41)))))))))))))))))))))))))))))))) (obind (Ev.unmark d14 h15) (fun h45 => (some ((.bool true), (h45, N16)))))))))

theorem s30_eq (call : CallF) (a0 a1 : Value) (h : Tr Ob) (N : Nat) : s30 call a0 a1 h N =
  (fN (.succ N) (fun N0 => (obind (Ev.lenS a1) (fun v1 => (lpR (α := C4) (fun v2 v3 v4 v5 d6 h7 N8 => none) (lp30_0) (.pointer (some ⟨N, 0, none⟩)) a1 v1 (.int .i64 (.ofNat 0)) [] (Tr.set h (some (.c (Ev.cel a0) 67)) N) N0))))) := rfl

theorem loop30 (call : CallF) (p N : Nat) (v : Value) (a b : Int) (K : List Int) (h : Tr Ob) (N0 : Nat) (hp : h.get p = some (.c [iS a, iS b] 67)) (hv : Ints h N0 v K) (hK : K.length < 1000000) (z : C4) : ∀ (n k fuel : Nat), k + n = K.length → n < fuel →
    lpN z lp30_0 fuel (pS p) v (nS K.length) (nS k) [] h N = some (.bool ((K.drop k).all (okN a b)), h, N) := by
  intro n
  induction n with
  | zero =>
    intro k fuel hk hf
    obtain ⟨fuel, rfl⟩ : ∃ f, fuel = f + 1 := ⟨fuel - 1, by omega⟩
    rw [lpN_succ]
    unfold lp30_0
    simp only [iop_lss, obind_s, cnd_d]
    rw [if_neg (by omega), unmark_nil, obind_s, List.drop_eq_nil_of_le (by omega)]
    rfl
  | succ n ih =>
    intro k fuel hk hf
    obtain ⟨fuel, rfl⟩ : ∃ f, fuel = f + 1 := ⟨fuel - 1, by omega⟩
    rw [lpN_succ]
    obtain ⟨L, hL⟩ : ∃ L, L = lpN z lp30_0 fuel := ⟨_, rfl⟩
    rw [← hL]
    unfold lp30_0
    obtain ⟨i, off, h1, h2, h3⟩ := hv.get (k := k) (by omega)
    have n0 : nth [iS a, iS b] 0 = some (iS a) := rfl
    have n1 : nth [iS a, iS b] 1 = some (iS b) := rfl
    have lt : iop .lss (nS k) (nS K.length) = some (.bool true) := by rw [iop_lss, decide_eq_true (by omega)]
    simp only [lt, obind_s, cnd_t, h2, h3, fad_p, Nat.zero_add, ld1_c hp, n0, n1]
    rw [List.drop_eq_getElem_cons (by omega), List.all_cons]
    by_cases c1 : K[k]'(by omega) < a
    · have d1 : decide (K[k]'(by omega) < a) = true := decide_eq_true c1
      simp only [iop_lss, d1, obind_s, wnt_tf, br_f, orun_s, pck_t, cnd_t, unmark_nil]
      have hf2 : okN a b (K[k]'(by omega)) = false := decide_eq_false (by omega)
      rw [hf2]
      rfl
    · have d1 : decide (K[k]'(by omega) < a) = false := decide_eq_false c1
      simp only [iop_lss, d1, obind_s, wnt_ff, br_t, orun_s, pck_f, iop_gtr, ld1_c hp, n1]
      by_cases c2 : b < K[k]'(by omega)
      · rw [decide_eq_true c2, cnd_t]
        have hf2 : okN a b (K[k]'(by omega)) = false := decide_eq_false (by omega)
        rw [hf2, unmark_nil, obind_s]
        rfl
      · rw [decide_eq_false c2, cnd_f]
        have hf2 : okN a b (K[k]'(by omega)) = true := decide_eq_true (by omega)
        rw [hf2, Bool.true_and, add1 (by omega), obind_s, hL]
        exact ih (k + 1) fuel (by omega) (by omega)
theorem within30 (call : CallF) (v : Value) (a b : Int) (K : List Int) (h : Tr Ob) (N : Nat) (hv : Ints h N v K) (hK : K.length < 1000000) : ∃ h' N', s30 call (.agg ⟨[iS a, iS b]⟩) v h N = some (.bool (K.all (okN a b)), h', N') ∧ Gr h N h' N' := by
  rw [s30_eq]
  simp only [fN_eq]
  rw [hv.lenS, obind_s, lpR_eq]
  have gr : Gr h N (h.set (some (.c (cel (.agg ⟨[iS a, iS b]⟩)) 67)) N) (N + 1) := (Gr.refl h N).set (Nat.le_refl _) (by omega) _
  exact ⟨_, _, loop30 call N (N + 1) v a b K _ (N + 1) (by rw [Tr.get_same]; rfl) (hv.gr gr) hK _ K.length 0 rounds (by omega) hK, gr⟩
end Go.Proofs.Ytnbilohdnopkfaa
end

section
namespace Go.Proofs.Ytnbilohdnopkfaa
open Go.Ev Go.RowKit
set_option linter.unusedVariables false
set_option linter.unusedSimpArgs false
set_option maxRecDepth 100000
set_option maxHeartbeats 4000000
structure Ta where
  id : Int
  house : Int
  st : List Int
  fo : List Int
abbrev tyV (id house : Int) (s f : Value) : Value := .agg ⟨[iS id, iS house, s, f]⟩
abbrev tyC (id house : Int) (s f : Value) : List Value := [iS id, iS house, s, f]
theorem nt0 (a b c d : Value) : nth [a, b, c, d] 0 = some a := rfl
theorem nt1 (a b c d : Value) : nth [a, b, c, d] 1 = some b := rfl
theorem nt2 (a b c d : Value) : nth [a, b, c, d] 2 = some c := rfl
theorem nt3 (a b c d : Value) : nth [a, b, c, d] 3 = some d := rfl
theorem areKinds28 (call : CallF) (v : Value) (K : List Int) (h : Tr Ob) (N : Nat) (hv : Ints h N v K) (hK : K.length < 1000000) : ∃ h' N', s28 call v h N = some (.bool (K.all (okN 1 4)), h', N') ∧ Gr h N h' N' := by
  unfold s28
  obtain ⟨h1, N1, p1, p2⟩ := span31 call 1 4 h N
  have p1' : s31 call (.int .i64 (.ofNat 1)) (.int .i64 (.ofNat 4)) h N = some (.agg ⟨[iS 1, iS 4]⟩, h1, N1) := p1
  rw [p1', orun_s]
  obtain ⟨h2, N2, q1, q2⟩ := within30 call v 1 4 K h1 N1 (hv.gr p2) hK
  rw [q1, orun_s]
  exact ⟨_, _, rfl, p2.trans q2⟩
def okL (K : List Int) : Bool := decide (K.length ≤ 12) && K.all (okN 1 4)
theorem isList46 (call : CallF) (v : Value) (K : List Int) (h : Tr Ob) (N : Nat) (hv : Ints h N v K) (hK : K.length < 1000000) : ∃ h' N', s46 call v h N = some (.bool (okL K), h', N') ∧ Gr h N h' N' := by
  unfold s46
  rw [hv.lenS, obind_s, iop_leq, obind_s]
  unfold okL
  by_cases h1 : K.length ≤ 12
  · have d1 : decide ((K.length : Int) ≤ Int.ofNat 12) = true := decide_eq_true (by simp; omega)
    obtain ⟨h2, N2, q1, q2⟩ := areKinds28 call v K h N hv hK
    simp only [d1, decide_eq_true h1, wnt_tt, obind_s, br_t, orun_s, q1, pck_t, Bool.true_and]
    exact ⟨_, _, rfl, q2⟩
  · have d1 : decide ((K.length : Int) ≤ Int.ofNat 12) = false := decide_eq_false (by simp; omega)
    simp only [d1, decide_eq_false h1, wnt_ft, obind_s, br_f, orun_s, pck_f, Bool.false_and]
    exact ⟨_, _, rfl, Gr.refl _ _⟩
def okT (T : Ta) : Bool := okN 1 9999 T.id && (okN 1 9999 T.house && (decide (T.st.length ≤ 12) && (decide (T.fo.length ≤ 12) && (T.st.all (okN 1 4) && T.fo.all (okN 1 4)))))
theorem okT_eq (T : Ta) : okT T = ((okN 1 9999 T.id && okN 1 9999 T.house) && (okL T.st && okL T.fo)) := by
  unfold okT okL
  cases okN 1 9999 T.id <;> cases okN 1 9999 T.house <;> cases decide (T.st.length ≤ 12) <;> cases decide (T.fo.length ≤ 12) <;> cases T.st.all (okN 1 4) <;> cases T.fo.all (okN 1 4) <;> rfl
theorem tally13 (call : CallF) (T : Ta) (s f : Value) (h : Tr Ob) (N : Nat) (hs : Ints h N s T.st) (hf : Ints h N f T.fo) (h1 : T.st.length < 1000000) (h2 : T.fo.length < 1000000) :
    ∃ h' N', s13 call (tyV T.id T.house s f) h N = some (.bool (okT T), h', N') ∧ Gr h N h' N' := by
  unfold s13
  simp only [fN_eq, fad_p, obind_s, Nat.zero_add]
  have c0 : cel (tyV T.id T.house s f) = tyC T.id T.house s f := rfl
  rw [c0]
  generalize hh : Tr.set h (some (.c (tyC T.id T.house s f) 24)) N = g
  have g0 : g.get N = some (.c (tyC T.id T.house s f) 24) := by rw [← hh, Tr.get_same]
  have gr : Gr h N g (N + 1) := by rw [← hh]; exact (Gr.refl h N).set (Nat.le_refl _) (by omega) _
  refine ⟨g, N + 1, ?_, gr⟩
  have w1 : s14 call (iS T.id) (.int .i64 (.ofNat 1)) (.int .i64 (.ofNat 9999)) g (N + 1) = some (.bool (okN 1 9999 T.id), g, N + 1) := within14 call T.id 1 9999 g (N + 1)
  have w2 : s14 call (iS T.house) (.int .i64 (.ofNat 1)) (.int .i64 (.ofNat 9999)) g (N + 1) = some (.bool (okN 1 9999 T.house), g, N + 1) := within14 call T.house 1 9999 g (N + 1)
  have w3 := notches18 call s T.st g (N + 1) (N + 1) (hs.gr gr) h1
  have w4 := notches18 call f T.fo g (N + 1) (N + 1) (hf.gr gr) h2
  have l1 : decide ((T.st.length : Int) ≤ Int.ofNat 12) = decide (T.st.length ≤ 12) := by rw [Bool.eq_iff_iff, decide_eq_true_eq, decide_eq_true_eq]; simp; omega
  have l2 : decide ((T.fo.length : Int) ≤ Int.ofNat 12) = decide (T.fo.length ≤ 12) := by rw [Bool.eq_iff_iff, decide_eq_true_eq, decide_eq_true_eq]; simp; omega
  unfold okT
  cases c1 : okN 1 9999 T.id with
  | false => simp only [ld1_c g0, nt0, obind_s, w1, orun_s, c1, wnt_ft, br_f, pck_f, Bool.false_and]
  | true =>
    cases c2 : okN 1 9999 T.house with
    | false => simp only [ld1_c g0, nt0, nt1, obind_s, w1, w2, orun_s, c1, c2, wnt_tt, wnt_ft, br_t, br_f, pck_t, pck_f, Bool.false_and, Bool.true_and]
    | true =>
      cases c3 : decide (T.st.length ≤ 12) with
      | false => simp only [ld1_c g0, nt0, nt1, nt2, obind_s, w1, w2, orun_s, hs.lenS, iop_leq, l1, c1, c2, c3, wnt_tt, wnt_ft, br_t, br_f, pck_t, pck_f, Bool.false_and, Bool.true_and]
      | true =>
        cases c4 : decide (T.fo.length ≤ 12) with
        | false => simp only [ld1_c g0, nt0, nt1, nt2, nt3, obind_s, w1, w2, orun_s, hs.lenS, hf.lenS, iop_leq, l1, l2, c1, c2, c3, c4, wnt_tt, wnt_ft, br_t, br_f, pck_t, pck_f, Bool.false_and, Bool.true_and]
        | true =>
          cases c5 : T.st.all (okN 1 4) with
          | false => simp only [ld1_c g0, nt0, nt1, nt2, nt3, obind_s, w1, w2, w3, orun_s, hs.lenS, hf.lenS, iop_leq, l1, l2, c1, c2, c3, c4, c5, wnt_tt, wnt_ft, br_t, br_f, pck_t, pck_f, Bool.false_and, Bool.true_and]
          | true => simp only [ld1_c g0, nt0, nt1, nt2, nt3, obind_s, w1, w2, w3, w4, orun_s, hs.lenS, hf.lenS, iop_leq, l1, l2, c1, c2, c3, c4, c5, wnt_tt, wnt_ft, br_t, br_f, pck_t, pck_f, Bool.false_and, Bool.true_and]
def sameT (T U : Ta) : Bool := decide (T.id = U.id) && (decide (T.house = U.house) && (decide (T.st = U.st) && decide (T.fo = U.fo)))
theorem same10 (call : CallF) (T U : Ta) (s f s2 f2 : Value) (h : Tr Ob) (N : Nat) (hs : Ints h N s T.st) (hf : Ints h N f T.fo) (hs2 : Ints h N s2 U.st) (hf2 : Ints h N f2 U.fo) (h1 : T.st.length < 1000000) (h2 : T.fo.length < 1000000) :
    ∃ h' N', s10 call (tyV T.id T.house s f) (tyV U.id U.house s2 f2) h N = some (.bool (sameT T U), h', N') ∧ Gr h N h' N' := by
  unfold s10
  simp only [fN_eq, fad_p, obind_s, Nat.zero_add]
  have c0 : cel (tyV T.id T.house s f) = tyC T.id T.house s f := rfl
  have c1 : cel (tyV U.id U.house s2 f2) = tyC U.id U.house s2 f2 := rfl
  rw [c0, c1]
  generalize hh : Tr.set (Tr.set h (some (.c (tyC T.id T.house s f) 24)) N) (some (.c (tyC U.id U.house s2 f2) 24)) N.succ = g
  have g0 : g.get N = some (.c (tyC T.id T.house s f) 24) := by rw [← hh, Tr.get_other _ _ (by omega), Tr.get_same]
  have g1 : g.get (N + 1) = some (.c (tyC U.id U.house s2 f2) 24) := by rw [← hh, Tr.get_same]
  have gr : Gr h N g (N + 2) := by rw [← hh]; exact ((Gr.refl h N).set (Nat.le_refl _) (by omega : N ≤ N + 1) _).set (by omega) (by omega) _
  refine ⟨g, N + 2, ?_, gr⟩
  have w3 := same17 call s s2 T.st U.st g (N + 2) (N + 2) (hs.gr gr) (hs2.gr gr) h1
  have w4 := same17 call f f2 T.fo U.fo g (N + 2) (N + 2) (hf.gr gr) (hf2.gr gr) h2
  unfold sameT
  cases c1 : decide (T.id = U.id) with
  | false => simp only [ld1_c g0, ld1_c g1, nt0, obind_s, iop_eql, orun_s, c1, wnt_ft, br_f, pck_f, Bool.false_and]
  | true =>
    cases c2 : decide (T.house = U.house) with
    | false => simp only [ld1_c g0, ld1_c g1, nt0, nt1, obind_s, iop_eql, orun_s, c1, c2, wnt_tt, wnt_ft, br_t, br_f, pck_t, pck_f, Bool.false_and, Bool.true_and]
    | true =>
      cases c3 : decide (T.st = U.st) with
      | false => simp only [ld1_c g0, ld1_c g1, nt0, nt1, nt2, obind_s, iop_eql, orun_s, w3, c1, c2, c3, wnt_tt, wnt_ft, br_t, br_f, pck_t, pck_f, Bool.false_and, Bool.true_and]
      | true => simp only [ld1_c g0, ld1_c g1, nt0, nt1, nt2, nt3, obind_s, iop_eql, orun_s, w3, w4, c1, c2, c3, wnt_tt, wnt_ft, br_t, br_f, pck_t, pck_f, Bool.false_and, Bool.true_and]
def greatT (T : Ta) : Bool := decide (30 < T.st.length) || decide (30 < T.fo.length)
theorem great4 (call : CallF) (T : Ta) (s f : Value) (h : Tr Ob) (N : Nat) (hs : Ints h N s T.st) (hf : Ints h N f T.fo) :
    ∃ h' N', s4 call (tyV T.id T.house s f) h N = some (.bool (greatT T), h', N') ∧ Gr h N h' N' := by
  unfold s4
  simp only [fN_eq, fad_p, obind_s, Nat.zero_add]
  have c0 : cel (tyV T.id T.house s f) = tyC T.id T.house s f := rfl
  rw [c0]
  generalize hh : Tr.set h (some (.c (tyC T.id T.house s f) 24)) N = g
  have g0 : g.get N = some (.c (tyC T.id T.house s f) 24) := by rw [← hh, Tr.get_same]
  have gr : Gr h N g (N + 1) := by rw [← hh]; exact (Gr.refl h N).set (Nat.le_refl _) (by omega) _
  refine ⟨g, N + 1, ?_, gr⟩
  have l1 : decide (Int.ofNat 30 < (T.st.length : Int)) = decide (30 < T.st.length) := by rw [Bool.eq_iff_iff, decide_eq_true_eq, decide_eq_true_eq]; simp; omega
  have l2 : decide (Int.ofNat 30 < (T.fo.length : Int)) = decide (30 < T.fo.length) := by rw [Bool.eq_iff_iff, decide_eq_true_eq, decide_eq_true_eq]; simp; omega
  unfold greatT
  cases c1 : decide (30 < T.st.length) with
  | true => simp only [ld1_c g0, nt2, obind_s, hs.lenS, iop_gtr, l1, c1, orun_s, wnt_tf, br_f, pck_t, Bool.true_or]
  | false => simp only [ld1_c g0, nt2, nt3, obind_s, hs.lenS, hf.lenS, iop_gtr, l1, l2, c1, orun_s, wnt_ff, br_t, pck_f, Bool.false_or]
end Go.Proofs.Ytnbilohdnopkfaa
end

section
namespace Go.Proofs.Ytnbilohdnopkfaa
open Go.Ev Go.RowKit
set_option linter.unusedVariables false
set_option linter.unusedSimpArgs false
set_option maxRecDepth 100000
set_option maxHeartbeats 4000000
theorem impB_t (x : Bool) : impB true x = x := rfl
theorem impB_f (x : Bool) : impB false x = true := rfl
theorem offB_tt : offB true true = false := rfl
theorem offB_tf : offB true false = true := rfl
theorem offB_ff : offB false false = false := rfl
theorem offB_ft : offB false true = false := rfl
theorem ints2 (h : Tr Ob) (x y : Int) (i N : Nat) (hi : i < N) (hg : h.get i = some (.c [iS x, iS y] 3)) : Ints h N (.slice (some ⟨i, 0, none⟩) 2 2) [x, y] :=
  ⟨rfl, _, _, rfl, .inr ⟨i, 0, none, _, rfl, hi, cellsFrom_c hg 0, rfl⟩⟩
theorem again42 (g : Tr Ob) (x y : Int) (N0 : Nat) (hg : g.get N0 = some (.c [iS x, iS y] 3)) : Ev.again Pr g (.mk 5 (.mk (some 8) (.buildSlice 22 2 ⟨[(0, (.tmp 5)), (1, (.tmp 7))]⟩) 22 "valid.go:25" ⟨[(.mk 2 .data), (.mk 4 .data)]⟩ none) (Tr.set (Tr.set (.e 32) (some (iS y)) 7) (some (iS x)) 5) (.slice (some ⟨N0, 0, none⟩) 2 2) N0 true) = true := by
  have e : evPas Pr (.mk (some 8) (.buildSlice 22 2 ⟨[(0, (.tmp 5)), (1, (.tmp 7))]⟩) 22 "valid.go:25" ⟨[(.mk 2 .data), (.mk 4 .data)]⟩ none) (Tr.set (Tr.set (.e 32) (some (iS y)) 7) (some (iS x)) 5) g N0 = some (.slice (some ⟨N0, 0, none⟩) 2 2, some (.c [iS x, iS y] 3)) := by
    show newOf N0 (some (.slice (some ⟨N0, 0, none⟩) 2 2, g.set (some (.c [iS x, iS y] 3)) N0, Nat.succ N0)) = _
    unfold newOf
    rw [obind_s, Tr.get_same]
  unfold Ev.again
  rw [e]
  show band (valEq 3 (.slice (some ⟨N0, 0, none⟩) 2 2) (.slice (some ⟨N0, 0, none⟩) 2 2)) (band true (obEq (g.get N0) (.c [iS x, iS y] 3))) = true
  rw [hg, valEq_sl 2]
  show band (Nat.beq 3 3) (band (valEq 3 (iS x) (iS x)) (band (valEq 3 (iS y) (iS y)) true)) = true
  rw [valEq_int 2, valEq_int 2]
  rfl
theorem valid42 (call : CallF) (T : Ta) (s f : Value) (h : Tr Ob) (N : Nat) (hs : Ints h N s T.st) (hf : Ints h N f T.fo) (h1 : T.st.length < 1000000) (h2 : T.fo.length < 1000000) :
    ∃ h' N', s42 call (tyV T.id T.house s f) h N = some (.bool (okT T), h', N') ∧ Gr h N h' N' := by
  unfold s42
  simp only [fN_eq, fad_p, obind_s, Nat.zero_add]
  have c0 : cel (tyV T.id T.house s f) = tyC T.id T.house s f := rfl
  rw [c0]
  generalize hh : Tr.set h (some (.c (tyC T.id T.house s f) 24)) N = g
  have g0 : g.get N = some (.c (tyC T.id T.house s f) 24) := by rw [← hh, Tr.get_same]
  have gr : Gr h N g (N + 1) := by rw [← hh]; exact (Gr.refl h N).set (Nat.le_refl _) (by omega) _
  have eb : evBuildSlice Pr 22 2 [(0, iS T.id), (1, iS T.house)] g (N + 1) = some (.slice (some ⟨N + 1, 0, none⟩) 2 2, g.set (some (.c [iS T.id, iS T.house] 3)) (N + 1), N + 2) := by rfl
  simp only [ld1_c g0, nt0, nt1, obind_s]
  rw [eb, orun_s]
  generalize hh2 : g.set (some (.c [iS T.id, iS T.house] 3)) (N + 1) = g2
  have k0 : g2.get N = some (.c (tyC T.id T.house s f) 24) := by rw [← hh2, Tr.get_other _ _ (by omega)]; exact g0
  have k1 : g2.get (N + 1) = some (.c [iS T.id, iS T.house] 3) := by rw [← hh2, Tr.get_same]
  have gr2 : Gr h N g2 (N + 2) := by rw [← hh2]; exact gr.set (by omega) (by omega) _
  rw [again42 _ _ _ _ k1, ocond_t, agL1_c k0 (nt1 _ _ _ _) (valEq_int 2 _ _), ocond_t, agL1_c k0 (nt0 _ _ _ _) (valEq_int 2 _ _), ocond_t]
  obtain ⟨h3, N3, p1, p2⟩ := span31 call 1 9999 g2 (N + 2)
  have p1' : s31 call (.int .i64 (.ofNat 1)) (.int .i64 (.ofNat 9999)) g2 (N + 2) = some (.agg ⟨[iS 1, iS 9999]⟩, h3, N3) := p1
  rw [p1', orun_s]
  have m0 : h3.get N = some (.c (tyC T.id T.house s f) 24) := by rw [p2.old N (by omega)]; exact k0
  have m1 : h3.get (N + 1) = some (.c [iS T.id, iS T.house] 3) := by rw [p2.old (N + 1) (by omega)]; exact k1
  rw [again42 _ _ _ _ m1, ocond_t, agL1_c m0 (nt1 _ _ _ _) (valEq_int 2 _ _), ocond_t, agL1_c m0 (nt0 _ _ _ _) (valEq_int 2 _ _), ocond_t]
  have l3 := p2.le
  obtain ⟨h4, N4, q1, q2⟩ := within30 call _ 1 9999 _ h3 N3 (ints2 h3 T.id T.house (N + 1) N3 (by omega) m1) (by simp)
  rw [q1, orun_s]
  have l4 := q2.le
  have o0 : h4.get N = some (.c (tyC T.id T.house s f) 24) := by rw [q2.old N (by omega)]; exact m0
  have gr4 : Gr h N h4 N4 := (gr2.trans p2).trans q2
  rw [okT_eq]
  have ea : ([T.id, T.house].all (okN 1 9999)) = (okN 1 9999 T.id && okN 1 9999 T.house) := by simp
  rw [ea]
  obtain ⟨h5, N5, r1, r2⟩ := isList46 call s T.st h4 N4 (hs.gr gr4) h1
  have l5 := r2.le
  have o5 : h5.get N = some (.c (tyC T.id T.house s f) 24) := by rw [r2.old N (by omega)]; exact o0
  obtain ⟨h6, N6, t1, t2⟩ := isList46 call f T.fo h5 N5 (hf.gr (gr4.trans r2)) h2
  have l6 := t2.le
  have o6 : h6.get N = some (.c (tyC T.id T.house s f) 24) := by rw [t2.old N (by omega)]; exact o5
  have ag2 : ∀ {g : Tr Ob}, g.get N = some (.c (tyC T.id T.house s f) 24) → agL1 g (.pointer (some ⟨N, 2, none⟩)) s = true := fun hg => by
    obtain ⟨p, c, e, _⟩ := hs.at_
    exact agL1_c hg (nt2 _ _ _ _) (by rw [e]; exact valEq_sl 2 _ _ _)
  have ag3 : ∀ {g : Tr Ob}, g.get N = some (.c (tyC T.id T.house s f) 24) → agL1 g (.pointer (some ⟨N, 3, none⟩)) f = true := fun hg => by
    obtain ⟨p, c, e, _⟩ := hf.at_
    exact agL1_c hg (nt3 _ _ _ _) (by rw [e]; exact valEq_sl 2 _ _ _)
  cases c1 : (okN 1 9999 T.id && okN 1 9999 T.house) with
  | false =>
    simp only [wnt_ft, obind_s, br_f, orun_s, pck_f, impB_f, offB_ff, ocond_t, Bool.false_and]
    exact ⟨_, _, rfl, gr4⟩
  | true =>
    cases c2 : okL T.st with
    | false =>
      simp only [wnt_tt, wnt_ft, obind_s, br_t, br_f, orun_s, pck_t, pck_f, ld1_c o0, nt2, impB_t, impB_f, ag2 o0, ag2 o5, r1, c2, offB_tt, offB_tf, offB_ff, ocond_t, Bool.false_and, Bool.true_and]
      exact ⟨_, _, rfl, gr4.trans r2⟩
    | true =>
      simp only [wnt_tt, obind_s, br_t, orun_s, pck_t, ld1_c o0, ld1_c o5, nt2, nt3, impB_t, impB_f, ag2 o0, ag2 o5, ag2 o6, ag3 o5, ag3 o6, r1, t1, c2, offB_tt, offB_tf, offB_ff, ocond_t, Bool.true_and]
      exact ⟨_, _, rfl, (gr4.trans r2).trans t2⟩
end Go.Proofs.Ytnbilohdnopkfaa
end

section
namespace Go.Proofs.Ytnbilohdnopkfaa
open Go.Ev Go.RowKit
set_option linter.unusedVariables false
set_option linter.unusedSimpArgs false
set_option maxRecDepth 100000
set_option maxHeartbeats 4000000
/-- A tally and the slices of its lists. -/
structure Tx where
  t : Ta
  s : Value
  f : Value
abbrev Tx.v (x : Tx) : Value := tyV x.t.id x.t.house x.s x.f
abbrev Tx.c (x : Tx) : List Value := tyC x.t.id x.t.house x.s x.f
structure Tx.At (h : Tr Ob) (N : Nat) (x : Tx) : Prop where
  s : Ints h N x.s x.t.st
  f : Ints h N x.f x.t.fo
  ls : x.t.st.length < 1000
  lf : x.t.fo.length < 1000
theorem Tx.At.gr {h h' : Tr Ob} {N N' : Nat} {x : Tx} (a : x.At h N) (g : Gr h N h' N') : x.At h' N' := ⟨a.s.gr g, a.f.gr g, a.ls, a.lf⟩
structure Tal (h : Tr Ob) (N : Nat) (v : Value) (X : List Tx) : Prop where
  sh : Shows h N v X.length 4 (X.flatMap Tx.c)
  at_ : ∀ x ∈ X, x.At h N
theorem Tal.gr {h h' : Tr Ob} {N N' : Nat} {v : Value} {X : List Tx} (a : Tal h N v X) (g : Gr h N h' N') : Tal h' N' v X := ⟨a.sh.gr g, fun x hx => (a.at_ x hx).gr g⟩
theorem flat4 : ∀ (X : List Tx) (k : Nat) (hk : k < X.length), ((X.flatMap Tx.c).drop (k * 4)).take 4 = (X[k]'hk).c
  | x :: X, 0, hk => by simp [List.flatMap_cons]
  | x :: X, k + 1, hk => by
    have e : (k + 1) * 4 = (x.c).length + k * 4 := by simp; omega
    rw [List.flatMap_cons, e, List.drop_append, List.drop_eq_nil_of_le (by omega), List.nil_append, Nat.add_sub_cancel_left, flat4 X k (by simpa using hk)]
    rfl
theorem Tal.get {h : Tr Ob} {N : Nat} {v : Value} {X : List Tx} (a : Tal h N v X) {k : Nat} (hk : k < X.length) :
    ∃ i off, i < N ∧ iadS 4 v (nS k) = some (.pointer (some ⟨i, off, none⟩)) ∧ ldN 4 h (.pointer (some ⟨i, off, none⟩)) = some (X[k]'hk).v := by
  obtain ⟨i, off, h1, h2, ys, h3, h4⟩ := a.sh.elem hk
  rw [flat4 X k hk] at h4
  refine ⟨i, off, h1, h2, ?_⟩
  have hl : 4 ≤ ys.length := by
    have := congrArg List.length h4
    simp at this
    omega
  rw [ldN_f h3 hl, h4]
theorem tk4 (a b c d : Value) : Value.agg ⟨(([a, b, c, d] : List Value).drop 0).take 4⟩ = .agg ⟨[a, b, c, d]⟩ := rfl
abbrev z4 : List Value := [(.int .i64 (.ofNat 0)), (.int .i64 (.ofNat 0)), (.slice none 0 0), (.slice none 0 0)]
theorem Tx.fl (x : Tx) {h : Tr Ob} {N : Nat} (a : x.At h N) : allF (cel x.v) = true := by
  obtain ⟨p, c, e, _⟩ := a.s.at_
  obtain ⟨p2, c2, e2, _⟩ := a.f.at_
  show allF [iS x.t.id, iS x.t.house, x.s, x.f] = true
  rw [e, e2]; rfl
/-- A tally laid into a new block. -/
theorem lay4 (x : Tx) {h0 h : Tr Ob} {N0 N : Nat} (a : x.At h0 N0) : sto 4 (.pointer (some ⟨N, 0, none⟩)) x.v (Tr.set h (some (.c z4 24)) N) = some ((Tr.set h (some (.c z4 24)) N).set (some (.c x.c 24)) N) :=
  (sto_c (T := 24) (xs := z4) (v := x.v) (m := 4) (by rw [Tr.get_same]) rfl (x.fl a) (by simp)).trans rfl
noncomputable def lp24_0 (call : CallF) : C3 → C3 :=
  (fun g7 v8 v9 v10 d11 h12 N13 => (obind (Ev.iop .lss v10 v9) (fun v14 => (Ev.cnd v14 (obind (Ev.iadS 4 v8 v10) (fun v15 => (obind (Ev.ldN 4 h12 v15) (fun v16 => (fN (.succ N13) (fun N17 => (obind (Ev.sto 4 (.pointer (some ⟨N13, 0, none⟩)) v16 (Tr.set h12 (some (.c [(.int .i64 (.ofNat 0)), (.int .i64 (.ofNat 0)), (.slice none 0 0), (.slice none 0 0)] 24)) N13)) (fun h18 => (obind (Ev.ldN 4 h18 (.pointer (some ⟨N13, 0, none⟩))) (fun v19 => (orun (s42 call v19 h18 N17) (fun v20 h21 N22 => (obind (Ev.unV Pr .not v20) (fun v23 => (Ev.cnd v23 (obind (Ev.unmark d11 h21) (fun h24 => (some ((.bool false), (h24, N22))))) (obind (Ev.iop .add v10 (.int .i64 (.ofNat 1))) (fun v25 => (g7 v8 v9 v25 d11 h21 N22)))))))))))))))))) (obind (Ev.unmark d11 h12) (fun h26 => (some ((.bool true), (h26, N13)))))))))

theorem s24_eq (call : CallF) (a0 : Value) (h : Tr Ob) (N : Nat) : s24 call a0 h N =
  (obind (Ev.lenS a0) (fun v0 => (lpR (α := C3) (fun v1 v2 v3 d4 h5 N6 => none) (lp24_0 call) a0 v0 (.int .i64 (.ofNat 0)) [] h N))) := rfl

theorem loop24 (call : CallF) (v : Value) (X : List Tx) (hX : X.length < 1000) (z : C3) : ∀ (n k : Nat) (h : Tr Ob) (N fuel : Nat), k + n = X.length → n < fuel → Tal h N v X →
    ∃ h' N', lpN z (lp24_0 call) fuel v (nS X.length) (nS k) [] h N = some (.bool ((X.drop k).all fun x => okT x.t), h', N') ∧ Gr h N h' N' := by
  intro n
  induction n with
  | zero =>
    intro k h N fuel hk hf ht
    obtain ⟨fuel, rfl⟩ : ∃ f, fuel = f + 1 := ⟨fuel - 1, by omega⟩
    refine ⟨h, N, ?_, Gr.refl _ _⟩
    rw [lpN_succ]
    unfold lp24_0
    simp only [iop_lss, obind_s, cnd_d]
    rw [if_neg (by omega), unmark_nil, obind_s, List.drop_eq_nil_of_le (by omega)]
    rfl
  | succ n ih =>
    intro k h N fuel hk hf ht
    obtain ⟨fuel, rfl⟩ : ∃ f, fuel = f + 1 := ⟨fuel - 1, by omega⟩
    rw [lpN_succ]
    obtain ⟨L, hL⟩ : ∃ L, L = lpN z (lp24_0 call) fuel := ⟨_, rfl⟩
    rw [← hL]
    unfold lp24_0
    have hkl : k < X.length := by omega
    obtain ⟨i, off, h1, h2, h3⟩ := ht.get hkl
    have hxa := ht.at_ (X[k]'hkl) (List.getElem_mem hkl)
    generalize hx : X[k]'hkl = x at h3 hxa
    simp only [iop_lss, obind_s, cnd_d]
    rw [if_pos (by omega), h2, obind_s, h3, obind_s, fN_eq, lay4 x hxa, obind_s]
    generalize hh : (Tr.set h (some (.c z4 24)) N).set (some (.c x.c 24)) N = g
    have g0 : g.get N = some (.c x.c 24) := by rw [← hh, Tr.get_same]
    have gr : Gr h N g (N + 1) := by rw [← hh]; exact ((Gr.refl h N).set (Nat.le_refl _) (by omega : N ≤ N + 1) _).set (Nat.le_refl _) (Nat.le_refl _) _
    rw [ldN_c g0 (by simp), obind_s, tk4]
    obtain ⟨h4, N4, p1, p2⟩ := valid42 call x.t x.s x.f g (N + 1) (hxa.s.gr gr) (hxa.f.gr gr) (by have := hxa.ls; omega) (by have := hxa.lf; omega)
    have p1' : s42 call (tyV x.t.id x.t.house x.s x.f) g N.succ = some (.bool (okT x.t), h4, N4) := p1
    rw [p1', orun_s, unV_not, obind_s, List.drop_eq_getElem_cons hkl, List.all_cons, hx]
    cases hp : okT x.t with
    | false =>
      simp only [Bool.not_false, cnd_t, unmark_nil, obind_s, Bool.false_and]
      exact ⟨_, _, rfl, gr.trans p2⟩
    | true =>
      simp only [Bool.not_true, cnd_f, Bool.true_and]
      rw [add1 (by omega), obind_s, hL]
      obtain ⟨h5, N5, q1, q2⟩ := ih (k + 1) h4 N4 fuel (by omega) (by omega) (ht.gr (gr.trans p2))
      exact ⟨h5, N5, q1, (gr.trans p2).trans q2⟩
theorem areValid24 (call : CallF) (v : Value) (X : List Tx) (hX : X.length < 1000) (h : Tr Ob) (N : Nat) (ht : Tal h N v X) : ∃ h' N', s24 call v h N = some (.bool (X.all fun x => okT x.t), h', N') ∧ Gr h N h' N' := by
  rw [s24_eq, ht.sh.lenS, obind_s, lpR_eq]
  exact loop24 call v X hX _ X.length 0 h N rounds (by omega) (by show _ < 1000000; omega) ht
def sumS (X : List Tx) : Nat := (X.map fun x => x.t.st.length).foldr (· + ·) 0
def sumF (X : List Tx) : Nat := (X.map fun x => x.t.fo.length).foldr (· + ·) 0
theorem sumS_cons (x : Tx) (X : List Tx) : sumS (x :: X) = x.t.st.length + sumS X := rfl
theorem sumF_cons (x : Tx) (X : List Tx) : sumF (x :: X) = x.t.fo.length + sumF X := rfl
noncomputable def lp34_0  : C5 → C5 :=
  (fun g9 v10 v11 v12 v13 v14 d15 h16 N17 => (obind (Ev.iop .lss v14 v13) (fun v18 => (Ev.cnd v18 (obind (Ev.iadS 4 v12 v14) (fun v19 => (obind (Ev.ldN 4 h16 v19) (fun v20 => (fN (.succ N17) (fun N21 => (obind (Ev.sto 4 (.pointer (some ⟨N17, 0, none⟩)) v20 (Tr.set h16 (some (.c [(.int .i64 (.ofNat 0)), (.int .i64 (.ofNat 0)), (.slice none 0 0), (.slice none 0 0)] 24)) N17)) (fun h22 => (obind (Ev.fad 2 (.pointer (some ⟨N17, 0, none⟩))) (fun v23 => (obind (Ev.ld1 h22 v23) (fun v24 => (obind (Ev.lenS v24) (fun v25 => (obind (Ev.iop .add v10 v25) (fun v26 => (obind (Ev.fad 3 (.pointer (some ⟨N17, 0, none⟩))) (fun v27 => (obind (Ev.ld1 h22 v27) (fun v28 => (obind (Ev.lenS v28) (fun v29 => (obind (Ev.iop .add v11 v29) (fun v30 => (obind (Ev.iop .add v14 (.int .i64 (.ofNat 1))) (fun v31 => (g9 v26 v30 v12 v13 v31 d15 h22 N21))))))))))))))))))))))))))) (obind (Ev.mxV Pr ⟨[3, 3]⟩ 3 [v10, v11]) (fun v32 => (obind (Ev.iop .leq v32 (.int .i64 (.ofNat 12))) (fun v33 => (obind (Ev.unmark d15 h16) (fun h34 => (some (v33, (h34, N17)))))))))))))

theorem s34_eq (call : CallF) (a0 : Value) (h : Tr Ob) (N : Nat) : s34 call a0 h N =
  (obind (Ev.lenS a0) (fun v0 => (lpR (α := C5) (fun v1 v2 v3 v4 v5 d6 h7 N8 => none) (lp34_0) (.int .i64 (.ofNat 0)) (.int .i64 (.ofNat 0)) a0 v0 (.int .i64 (.ofNat 0)) [] h N))) := rfl

theorem loop34 (call : CallF) (v : Value) (X : List Tx) (hX : X.length < 1000) (z : C5) : ∀ (n k a b : Nat) (h : Tr Ob) (N fuel : Nat), k + n = X.length → n < fuel → Tal h N v X → a ≤ k * 1000 → b ≤ k * 1000 →
    ∃ h' N', lpN z lp34_0 fuel (nS a) (nS b) v (nS X.length) (nS k) [] h N = some (.bool (decide (a + sumS (X.drop k) ≤ 12 ∧ b + sumF (X.drop k) ≤ 12)), h', N') ∧ Gr h N h' N' := by
  intro n
  induction n with
  | zero =>
    intro k a b h N fuel hk hf ht ha hb
    obtain ⟨fuel, rfl⟩ : ∃ f, fuel = f + 1 := ⟨fuel - 1, by omega⟩
    refine ⟨h, N, ?_, Gr.refl _ _⟩
    rw [lpN_succ]
    unfold lp34_0
    simp only [iop_lss, obind_s, cnd_d]
    rw [if_neg (by omega)]
    have mx : mxV Pr ⟨[3, 3]⟩ 3 [nS a, nS b] = some (iS (if (a : Int) < b then b else a)) := by rfl
    rw [mx, obind_s, iop_leq, obind_s, unmark_nil, obind_s, List.drop_eq_nil_of_le (by omega)]
    congr 3
    rw [decide_eq_decide]
    show _ ↔ a + 0 ≤ 12 ∧ b + 0 ≤ 12
    have e12 : (Int.ofNat 12) = (12 : Int) := rfl
    rw [e12]
    split <;> omega
  | succ n ih =>
    intro k a b h N fuel hk hf ht ha hb
    obtain ⟨fuel, rfl⟩ : ∃ f, fuel = f + 1 := ⟨fuel - 1, by omega⟩
    rw [lpN_succ]
    obtain ⟨L, hL⟩ : ∃ L, L = lpN z lp34_0 fuel := ⟨_, rfl⟩
    rw [← hL]
    unfold lp34_0
    have hkl : k < X.length := by omega
    obtain ⟨i, off, h1, h2, h3⟩ := ht.get hkl
    have hxa := ht.at_ (X[k]'hkl) (List.getElem_mem hkl)
    generalize hx : X[k]'hkl = x at h3 hxa
    simp only [iop_lss, obind_s, cnd_d]
    rw [if_pos (by omega), h2, obind_s, h3, obind_s, fN_eq, lay4 x hxa, obind_s]
    generalize hh : (Tr.set h (some (.c z4 24)) N).set (some (.c x.c 24)) N = g
    have g0 : g.get N = some (.c x.c 24) := by rw [← hh, Tr.get_same]
    have gr : Gr h N g (N + 1) := by rw [← hh]; exact ((Gr.refl h N).set (Nat.le_refl _) (by omega : N ≤ N + 1) _).set (Nat.le_refl _) (Nat.le_refl _) _
    have l1 := hxa.ls
    have l2 := hxa.lf
    simp only [fad_p, obind_s, Nat.zero_add, ld1_c g0, nt2, nt3, hxa.s.lenS, hxa.f.lenS]
    have a1 : iop .add (nS a) (nS x.t.st.length) = some (nS (a + x.t.st.length)) := by rw [iop_add (by constructor <;> omega)]; rfl
    have a2 : iop .add (nS b) (nS x.t.fo.length) = some (nS (b + x.t.fo.length)) := by rw [iop_add (by constructor <;> omega)]; rfl
    rw [a1, obind_s, a2, obind_s, add1 (by omega), obind_s, hL]
    obtain ⟨h5, N5, q1, q2⟩ := ih (k + 1) (a + x.t.st.length) (b + x.t.fo.length) g (N + 1) fuel (by omega) (by omega) (ht.gr gr) (by omega) (by omega)
    refine ⟨h5, N5, ?_, gr.trans q2⟩
    have e1 : X.drop k = x :: X.drop (k + 1) := by rw [List.drop_eq_getElem_cons hkl, hx]
    rw [e1, sumS_cons, sumF_cons]
    rw [show N.succ = N + 1 from rfl, q1]
    congr 3
    rw [decide_eq_decide]
    omega
theorem isRoom34 (call : CallF) (v : Value) (X : List Tx) (hX : X.length < 1000) (h : Tr Ob) (N : Nat) (ht : Tal h N v X) : ∃ h' N', s34 call v h N = some (.bool (decide (sumS X ≤ 12 ∧ sumF X ≤ 12)), h', N') ∧ Gr h N h' N' := by
  rw [s34_eq, ht.sh.lenS, obind_s, lpR_eq]
  obtain ⟨h', N', p1, p2⟩ := loop34 call v X hX (fun v1 v2 v3 v4 v5 d6 h7 N8 => none) X.length 0 0 0 h N rounds (by omega) (by show _ < 1000000; omega) ht (by omega) (by omega)
  refine ⟨h', N', p1.trans ?_, p2⟩
  rw [List.drop_zero, Nat.zero_add, Nat.zero_add]
end Go.Proofs.Ytnbilohdnopkfaa
end

section
namespace Go.Proofs.Ytnbilohdnopkfaa
open Go.Ev Go.RowKit
set_option linter.unusedVariables false
set_option linter.unusedSimpArgs false
set_option maxRecDepth 100000
set_option maxHeartbeats 4000000
abbrev z5 : List Value := [(.int .i64 (.ofNat 0)), (.int .i64 (.ofNat 0)), (.slice none 0 0), (.slice none 0 0), .nilFunc]
abbrev z2 : List Value := [(.int .i64 (.ofNat 0)), (.int .i64 (.ofNat 0))]
theorem np4 (a b c d e : Value) : nth [a, b, c, d, e] 2 = some c := rfl
theorem np5 (a b c d e : Value) : nth [a, b, c, d, e] 3 = some d := rfl
theorem tk5 (a b c d e : Value) : Value.agg ⟨(([a, b, c, d, e] : List Value).drop 0).take 5⟩ = .agg ⟨[a, b, c, d, e]⟩ := rfl
theorem tk2 (a b : Value) : Value.agg ⟨(([a, b] : List Value).drop 0).take 2⟩ = .agg ⟨[a, b]⟩ := rfl
theorem end36 (call : CallF) (x : Tx) (h : Tr Ob) (N : Nat) (a : x.At h N) (w : Value) : ∃ h' N', s36 call (.agg ⟨[iS x.t.id, iS x.t.house, x.s, x.f, w]⟩) h N = some (.agg ⟨[nS x.t.st.length, nS x.t.fo.length]⟩, h', N') ∧ Gr h N h' N' := by
  unfold s36
  simp only [fN_eq, fad_p, obind_s, Nat.zero_add, Nat.add_zero]
  have c0 : cel (.agg ⟨[iS x.t.id, iS x.t.house, x.s, x.f, w]⟩) = [iS x.t.id, iS x.t.house, x.s, x.f, w] := rfl
  rw [c0]
  generalize hh : Tr.set (Tr.set h (some (.c [iS x.t.id, iS x.t.house, x.s, x.f, w] 39)) N) (some (.c z2 71)) N.succ = g
  have g0 : g.get N = some (.c [iS x.t.id, iS x.t.house, x.s, x.f, w] 39) := by rw [← hh, Tr.get_other _ _ (by omega), Tr.get_same]
  have g1 : g.get (N + 1) = some (.c z2 71) := by rw [← hh, Tr.get_same]
  have gr : Gr h N g (N + 2) := by rw [← hh]; exact ((Gr.refl h N).set (Nat.le_refl _) (by omega : N ≤ N + 1) _).set (by omega) (by omega) _
  simp only [ld1_c g0, np4, np5, obind_s, a.s.lenS, a.f.lenS]
  have eb : evBuild Pr 71 [(0, nS x.t.st.length), (1, nS x.t.fo.length)] = some (.agg ⟨[nS x.t.st.length, nS x.t.fo.length]⟩) := by rfl
  rw [eb, obind_s, sto_c (T := 71) (xs := z2) (v := .agg ⟨[nS x.t.st.length, nS x.t.fo.length]⟩) (m := 2) g1 rfl rfl (by simp), obind_s]
  have l0 : lay z2 (cel (.agg ⟨[nS x.t.st.length, nS x.t.fo.length]⟩)) 0 = [nS x.t.st.length, nS x.t.fo.length] := rfl
  rw [l0, ldN_c (T := 71) (xs := [nS x.t.st.length, nS x.t.fo.length]) (by rw [Tr.get_same]) (by simp), obind_s]
  exact ⟨_, _, rfl, gr.set (by omega) (Nat.le_refl _) _⟩
theorem keeping35 (call : CallF) (a b : Int) (f : Value) (hf : (cel f) = [f]) (h : Tr Ob) (N : Nat) : ∃ w h' N', s35 call (.agg ⟨[iS a, iS b]⟩) f h N = some (w, h', N') ∧ Gr h N h' N' ∧ cel w = [w] ∧ w.oneCell' = true := by
  unfold s35
  simp only [fN_eq]
  have c0 : cel (.agg ⟨[iS a, iS b]⟩) = [iS a, iS b] := rfl
  rw [c0, hf]
  generalize hh : Tr.set (Tr.set (Tr.set h (some (.c [iS a, iS b] 71)) N) (some (.c [f] 83)) N.succ) (some (.m [] 0)) N.succ.succ = g
  have g0 : g.get N = some (.c [iS a, iS b] 71) := by rw [← hh, Tr.get_other _ _ (by omega), Tr.get_other _ _ (by omega), Tr.get_same]
  have g2 : g.get (N + 2) = some (.m [] 0) := by rw [← hh, Tr.get_same]
  have gr : Gr h N g (N + 3) := by rw [← hh]; exact (((Gr.refl h N).set (Nat.le_refl _) (by omega : N ≤ N + 1) _).set (by omega) (by omega : N + 1 ≤ N + 2) _).set (by omega) (by omega) _
  rw [ldN_c g0 (by simp), obind_s, tk2]
  have em : evMapPut Pr 84 (.map (some N.succ.succ)) (.agg ⟨[iS a, iS b]⟩) (.int .i64 (.ofNat 0)) g N.succ.succ.succ = some (.tuple ⟨[]⟩, g.set (some (.m [(.agg ⟨[iS a, iS b]⟩, .int .i64 (.ofNat 0), 0)] 1)) (N + 2), N + 3) := by
    unfold evMapPut
    have e1 : mapT Pr 84 = some (71, 3) := by rfl
    have e2 : mapAt g (.map (some N.succ.succ)) = some (N + 2, [], 0) := by unfold mapAt; simp only []; rw [show N.succ.succ = N + 2 from rfl, g2]
    have e3 : chk Pr false (71, 3).1 (.agg ⟨[iS a, iS b]⟩) = some () := by kernel_rfl
    rw [e1, obind_s, e2, obind_s, e3, obind_s]
    rfl
  rw [em, orun_s]
  rw [sto_c (T := 84) (xs := [.map none]) (v := .map (some N.succ.succ)) (m := 1) (by rw [Tr.get_same]) rfl rfl (by simp), obind_s]
  rw [sto_c (T := 37) (xs := [.nilFunc]) (m := 1) (by rw [Tr.get_same]) rfl rfl (by simp), obind_s]
  rw [ld1_c (by rw [Tr.get_same])]
  refine ⟨_, _, _, rfl, ?_, rfl, rfl⟩
  refine Gr.set (Gr.set (N1 := N + 4) (Gr.set (Gr.set (N1 := N + 3) (gr.set (by omega) (Nat.le_refl _) _) (by omega) (by omega : N + 3 ≤ N + 4) _) (by omega) (Nat.le_refl _) _) (by omega) (by omega : N + 4 ≤ N + 5) _) (by omega) (by omega) _
theorem paired20 (call : CallF) (x : Tx) (h : Tr Ob) (N : Nat) (a : x.At h N) : ∃ w h' N', s20 call x.v h N = some (.agg ⟨[iS x.t.id, iS x.t.house, x.s, x.f, w]⟩, h', N') ∧ Gr h N h' N' ∧ cel w = [w] ∧ w.oneCell' = true := by
  obtain ⟨p, c, es, _⟩ := a.s.at_
  obtain ⟨p2, c2, ef, _⟩ := a.f.at_
  have one : x.s.oneCell' = true ∧ x.f.oneCell' = true := by rw [es, ef]; exact ⟨rfl, rfl⟩
  have fl5 : ∀ w : Value, w.oneCell' = true → allF [iS x.t.id, iS x.t.house, x.s, x.f, w] = true := by
    intro w hw
    rw [es, ef]
    show Bool.rec (motive := fun _ => Bool) false true w.oneCell' = true
    rw [hw]
  unfold s20
  simp only [fN_eq, fad_p, obind_s, Nat.zero_add]
  have c0 : cel x.v = x.c := rfl
  rw [c0]
  generalize hh : Tr.set (Tr.set h (some (.c x.c 24)) N) (some (.c z5 39)) N.succ = g
  have g0 : g.get N = some (.c x.c 24) := by rw [← hh, Tr.get_other _ _ (by omega), Tr.get_same]
  have g1 : g.get (N + 1) = some (.c z5 39) := by rw [← hh, Tr.get_same]
  have gr : Gr h N g (N + 2) := by rw [← hh]; exact ((Gr.refl h N).set (Nat.le_refl _) (by omega : N ≤ N + 1) _).set (by omega) (by omega) _
  rw [ldN_c g0 (by simp), obind_s, tk4]
  have eb : evBuild Pr 39 [(0, x.v)] = some (.agg ⟨[iS x.t.id, iS x.t.house, x.s, x.f, .nilFunc]⟩) := by rfl
  rw [eb, obind_s, sto_c (T := 39) (xs := z5) (v := .agg ⟨[iS x.t.id, iS x.t.house, x.s, x.f, .nilFunc]⟩) (m := 5) (by rw [Tr.get_same]) rfl (fl5 _ rfl) (by simp), obind_s]
  have l0 : lay z5 (cel (.agg ⟨[iS x.t.id, iS x.t.house, x.s, x.f, .nilFunc]⟩)) 0 = [iS x.t.id, iS x.t.house, x.s, x.f, .nilFunc] := rfl
  rw [l0]
  generalize hh2 : (Tr.set g (some (.c z5 39)) N.succ.succ).set (some (.c [iS x.t.id, iS x.t.house, x.s, x.f, .nilFunc] 39)) N.succ.succ = g2
  have k1 : g2.get (N + 1) = some (.c z5 39) := by rw [← hh2, Tr.get_other _ _ (by omega), Tr.get_other _ _ (by omega)]; exact g1
  have k2 : g2.get (N + 2) = some (.c [iS x.t.id, iS x.t.house, x.s, x.f, .nilFunc] 39) := by rw [← hh2, Tr.get_same]
  have gr2 : Gr h N g2 (N + 3) := by rw [← hh2]; exact (gr.set (by omega) (by omega : N + 2 ≤ N + 3) _).set (by omega) (Nat.le_refl _) _
  rw [ldN_c k2 (by simp), obind_s, tk5]
  obtain ⟨h3, N3, p1, q1⟩ := end36 call x g2 (N + 3) (a.gr gr2) .nilFunc
  have p1' : s36 call (.agg ⟨[iS x.t.id, iS x.t.house, x.s, x.f, .nilFunc]⟩) g2 N.succ.succ.succ = some (.agg ⟨[nS x.t.st.length, nS x.t.fo.length]⟩, h3, N3) := p1
  rw [p1', orun_s]
  obtain ⟨w, h4, N4, p2, q2, q3, q4⟩ := keeping35 call (x.t.st.length : Int) (x.t.fo.length : Int) (.func (.func 37) ⟨[]⟩ ⟨[(.pointer (some ⟨N.succ.succ, 0, none⟩))]⟩) rfl h3 N3
  rw [p2, orun_s]
  have l3 := q1.le
  have l4 := q2.le
  have m1 : h4.get (N + 1) = some (.c z5 39) := by rw [q2.old (N + 1) (by omega), q1.old (N + 1) (by omega)]; exact k1
  have m2 : h4.get (N + 2) = some (.c [iS x.t.id, iS x.t.house, x.s, x.f, .nilFunc] 39) := by rw [q2.old (N + 2) (by omega), q1.old (N + 2) (by omega)]; exact k2
  have hw1 : (cel w).length = 1 := by rw [q3]; rfl
  have hw2 : allF (cel w) = true := by rw [q3]; show Bool.rec (motive := fun _ => Bool) false true w.oneCell' = true; rw [q4]
  rw [sto_c (v := w) (m := 1) m2 hw1 hw2 (by simp), obind_s]
  have l1 : lay [iS x.t.id, iS x.t.house, x.s, x.f, .nilFunc] (cel w) 4 = [iS x.t.id, iS x.t.house, x.s, x.f, w] := by rw [q3]; rfl
  rw [l1, ldN_c (T := 39) (xs := [iS x.t.id, iS x.t.house, x.s, x.f, w]) (by rw [Tr.get_same]) (by simp), obind_s, tk5]
  rw [sto_c (T := 39) (xs := z5) (v := .agg ⟨[iS x.t.id, iS x.t.house, x.s, x.f, w]⟩) (m := 5) (by rw [Tr.get_other _ _ (by omega)]; exact m1) rfl (fl5 w q4) (by simp), obind_s]
  have l5 : lay z5 (cel (.agg ⟨[iS x.t.id, iS x.t.house, x.s, x.f, w]⟩)) 0 = [iS x.t.id, iS x.t.house, x.s, x.f, w] := rfl
  rw [l5, ldN_c (T := 39) (xs := [iS x.t.id, iS x.t.house, x.s, x.f, w]) (by rw [Tr.get_same]) (by simp), obind_s, tk5]
  refine ⟨w, _, _, rfl, ?_, q3, q4⟩
  exact (((gr2.trans q1).trans q2).set (by omega) (Nat.le_refl _) _).set (by omega) (Nat.le_refl _) _
end Go.Proofs.Ytnbilohdnopkfaa
end

section
namespace Go.Proofs.Ytnbilohdnopkfaa
open Go.Ev Go.RowKit
set_option linter.unusedVariables false
set_option linter.unusedSimpArgs false
set_option maxRecDepth 100000
set_option maxHeartbeats 4000000
/-- A list of n pairs at work. -/
def PairL (h : Tr Ob) (v : Value) (n i : Nat) : Prop :=
  (n = 0 ∧ v = .slice none 0 0) ∨ (v = .slice (some ⟨i, 0, some 0⟩) n 0 ∧ ∃ cs, cs.length = n * 5 ∧ allF cs = true ∧ h.get i = some (.g cs 39 5))
theorem allF_app : ∀ (a b : List Value), allF a = true → allF b = true → allF (a ++ b) = true
  | [], b, _, hb => hb
  | x :: a, b, ha, hb => by
    have h1 : Bool.rec (motive := fun _ => Bool) false (allF a) x.oneCell' = true := ha
    show Bool.rec (motive := fun _ => Bool) false (allF (a ++ b)) x.oneCell' = true
    cases hx : x.oneCell' with
    | false => rw [hx] at h1; cases h1
    | true => rw [hx] at h1; exact allF_app a b h1 hb
theorem app5 {h : Tr Ob} {v : Value} {n i N j T : Nat} {cs : List Value} (o : PairL h v n i) (hi : i < N) (hj : h.get j = some (.c cs T)) (hl : cs.length = 5) (hc : allF cs = true) (hn : n < 1000) :
    ∃ v' i' h' N', evAppend Pr 48 v (.slice (some ⟨j, 0, none⟩) 1 1) h N = some (v', h', N') ∧ PairL h' v' (n + 1) i' ∧ (i' = i ∨ N ≤ i') ∧ i' < N' ∧ N ≤ N' ∧ ∀ k, k ≠ i → k < N → h'.get k = h.get k := by
  unfold evAppend
  have ha : appT Pr 48 = some (39, 5) := by rfl
  rw [ha, obind_s]
  have hlv : lenV (.slice (some ⟨j, 0, none⟩) 1 1) = some 1 := rfl
  rw [hlv, obind_s, fN_eq]
  have hsg : seg h (.slice (some ⟨j, 0, none⟩) 1 1) (Nat.mul 1 (39, 5).2) = some cs := by
    show obind (cellsFrom h j 0) (fun xs => ocond (Nat.ble 5 (len xs)) (some (tak xs 5))) = _
    rw [cellsFrom_c hj, obind_s, List.drop_zero, len_eq, hl, tak_eq]
    show some (cs.take 5) = _
    rw [← hl, List.take_length]
  rw [hsg, obind_s]
  rcases o with ⟨rfl, rfl⟩ | ⟨rfl, ds, h1, h2, h3⟩
  · refine ⟨.slice (some ⟨N, 0, some 0⟩) 1 0, N, h.set (some (.g cs 39 5)) N, N + 1, rfl, .inr ⟨rfl, cs, hl, hc, Tr.get_same _ _ _⟩, .inr (Nat.le_refl _), by omega, by omega, fun k _ hk => Tr.get_other _ _ (by omega)⟩
  · refine ⟨.slice (some ⟨N, 0, some 0⟩) (n + 1) 0, N, (h.set none i).set (some (.g (ds ++ cs) 39 5)) N, N + 1, ?_, .inr ⟨rfl, ds ++ cs, by rw [List.length_append, h1, hl]; omega, allF_app _ _ h2 hc, Tr.get_same _ _ _⟩, .inr (Nat.le_refl _), by omega, by omega, fun k hk hk2 => (Tr.get_other _ _ (by omega : k ≠ N)).trans (Tr.get_other _ _ hk)⟩
    show fN (Nat.add n 1) (fun m => fN (Nat.mul n 5) fun nz => match h.get i with
        | some (.g xs E z') => ocond (Nat.beq z' 5) (ocond (Nat.beq E 39) (ocond (Nat.beq 0 (Nat.mul 0 5)) (Bool.rec (motive := fun _ => OpR)
            (ocond (Nat.beq 0 0) (ocond (Nat.beq nz (len xs)) (ocond (Nat.ble m 1000000) (ocond (allF cs) (some (.slice (some ⟨N, 0, some 0⟩) m 0, (h.set none i).set (some (.g (app xs cs) E z')) N, Nat.succ N))))))
            (inPlace i 0 (Nat.add 0 nz) (some 0) m 0 cs h N) (Nat.ble (Nat.add 0 (Nat.add nz 5)) (len xs)))))
        | _ => none) = _
    rw [fN_eq, fN_eq, h3]
    show ocond (Nat.beq 5 5) (ocond (Nat.beq 39 39) (ocond (Nat.beq 0 (Nat.mul 0 5)) (Bool.rec (motive := fun _ => OpR)
            (ocond (Nat.beq 0 0) (ocond (Nat.beq (n * 5) (len ds)) (ocond (Nat.ble (n + 1) 1000000) (ocond (allF cs) (some (.slice (some ⟨N, 0, some 0⟩) (n + 1) 0, (h.set none i).set (some (.g (app ds cs) 39 5)) N, Nat.succ N))))))
            (inPlace i 0 (Nat.add 0 (n * 5)) (some 0) (n + 1) 0 cs h N) (Nat.ble (Nat.add 0 (Nat.add (n * 5) 5)) (len ds))))) = _
    have e1 : Nat.add 0 (Nat.add (n * 5) 5) = n * 5 + 5 := Nat.zero_add _
    have e2 : Nat.ble (n * 5 + 5) (n * 5) = false := by
      cases hb : Nat.ble (n * 5 + 5) (n * 5) with
      | false => rfl
      | true => have := Nat.le_of_ble_eq_true hb; omega
    rw [len_eq, h1, e1, e2, Nat.beq_refl (n * 5), hc, Nat.ble_eq_true_of_le (by omega : n + 1 ≤ 1000000), app_eq]
    rfl
noncomputable def lp15_0 (call : CallF) : C4 → C4 :=
  (fun g58 v59 v60 v61 v62 d63 h64 N65 => (obind (Ev.iop .lss v62 v61) (fun v66 => (Ev.cnd v66 (obind (Ev.iadS 4 v60 v62) (fun v67 => (obind (Ev.ldN 4 h64 v67) (fun v68 => (fN (.succ N65) (fun N69 => (obind (Ev.sto 4 (.pointer (some ⟨N65, 0, none⟩)) v68 (Tr.set h64 (some (.c [(.int .i64 (.ofNat 0)), (.int .i64 (.ofNat 0)), (.slice none 0 0), (.slice none 0 0)] 24)) N65)) (fun h70 => (obind (Ev.ldN 4 h70 (.pointer (some ⟨N65, 0, none⟩))) (fun v71 => (orun (s20 call v71 h70 N69) (fun v72 h73 N74 => (orun (Ev.evBuildSlice Pr 48 1 [(0, v72)] h73 N74) (fun v75 h76 N77 => (orun (Ev.evAppend Pr 48 v59 v75 h76 N77) (fun v78 h79 N80 => (obind (Ev.iop .add v62 (.int .i64 (.ofNat 1))) (fun v81 => (g58 v78 v60 v61 v81 d63 h79 N80))))))))))))))))))) (obind (Ev.unmark d63 h64) (fun h82 => (some ((.tuple ⟨[v59, (.int .i64 (.ofNat 0))]⟩), (h82, N65)))))))))

noncomputable def lp15_1 (call : CallF) : C5 → C5 :=
  (fun g21 v22 v23 v24 v25 v26 d27 h28 N29 => (obind (Ev.iop .lss v26 v25) (fun v30 => (Ev.cnd v30 (obind (Ev.iadS 1 v24 v26) (fun v31 => (obind (Ev.ld1 h28 v31) (fun v32 => (obind (Ev.iadA 7 2 v23 v32) (fun v33 => (obind (Ev.ldN 2 h28 v33) (fun v34 => (fN (.succ N29) (fun N35 => (obind (Ev.sto 2 (.pointer (some ⟨N29, 0, none⟩)) v34 (Tr.set h28 (some (.c [.nilFunc, (.int .i64 (.ofNat 0))] 56)) N29)) (fun h36 => (obind (Ev.fad 0 (.pointer (some ⟨N29, 0, none⟩))) (fun v37 => (obind (Ev.ld1 h36 v37) (fun v38 => (obind (Ev.ldN 8 h36 v22) (fun v39 => (orun (Ev.callW [(19, F19), (20, F20)] call v38 [v39] h36 N35) (fun v40 h41 N42 => (obind (Ev.unV Pr .not v40) (fun v43 => (Ev.cnd v43 (obind (Ev.fad 1 (.pointer (some ⟨N29, 0, none⟩))) (fun v44 => (obind (Ev.ld1 h41 v44) (fun v45 => (ocond (Ev.agL1 h41 v44 v45) (obind (Ev.unmark d27 h41) (fun h46 => (some ((.tuple ⟨[(.slice none 0 0), v45]⟩), (h46, N42)))))))))) (obind (Ev.iop .add v26 (.int .i64 (.ofNat 1))) (fun v47 => (g21 v22 v23 v24 v25 v47 d27 h41 N42)))))))))))))))))))))))))) (obind (Ev.fad 0 v22) (fun v48 => (obind (Ev.ld1 h28 v48) (fun v49 => (obind (Ev.lenS v49) (fun v50 => (lpR (α := C4) (fun v51 v52 v53 v54 d55 h56 N57 => none) (lp15_0 call) (.slice none 0 0) v49 v50 (.int .i64 (.ofNat 0)) d27 h28 N29)))))))))))

theorem s15_eq (call : CallF) (a0 a1 : Value) (h : Tr Ob) (N : Nat) : s15 call a0 a1 h N =
  (fN (.succ N) (fun N0 => (orun (s19 call  (Tr.set h (some (.c (Ev.cel a0) 46)) N) N0) (fun v1 h2 N3 => (fN (.succ N3) (fun N4 => (obind (Ev.sto 14 (.pointer (some ⟨N3, 0, none⟩)) v1 (Tr.set h2 (some (.c [.nilFunc, (.int .i64 (.ofNat 0)), .nilFunc, (.int .i64 (.ofNat 0)), .nilFunc, (.int .i64 (.ofNat 0)), .nilFunc, (.int .i64 (.ofNat 0)), .nilFunc, (.int .i64 (.ofNat 0)), .nilFunc, (.int .i64 (.ofNat 0)), .nilFunc, (.int .i64 (.ofNat 0))] 57)) N3)) (fun h5 => (orun (Ev.evBuildSlice Pr 22 2 [(0, (.int .i64 (.ofNat 0))), (1, (.int .i64 (.ofNat 1)))] h5 N4) (fun v6 h7 N8 => (orun (Ev.evAppend Pr 22 v6 a1 h7 N8) (fun v9 h10 N11 => (obind (Ev.lenS v9) (fun v12 => (lpR (α := C5) (fun v13 v14 v15 v16 v17 d18 h19 N20 => none) (lp15_1 call) (.pointer (some ⟨N, 0, none⟩)) (.pointer (some ⟨N3, 0, none⟩)) v9 v12 (.int .i64 (.ofNat 0)) [] h10 N11))))))))))))))) := rfl

theorem pairs15 (call : CallF) (v : Value) (X : List Tx) (hX : X.length < 1000) (h0 : Tr Ob) (M : Nat) (ht : Tal h0 M v X) (z : C4) : ∀ (n k : Nat) (h : Tr Ob) (N fuel : Nat) (acc : Value) (i : Nat), k + n = X.length → n < fuel → Gr h0 M h N → PairL h acc k i → M ≤ i → i < N →
    ∃ acc' i' h' N', lpN z (lp15_0 call) fuel acc v (nS X.length) (nS k) [] h N = some (.tuple ⟨[acc', nS 0]⟩, h', N') ∧ Gr h0 M h' N' ∧ PairL h' acc' X.length i' ∧ i' < N' := by
  intro n
  induction n with
  | zero =>
    intro k h N fuel acc i hk hf hg hp hi1 hi2
    obtain ⟨fuel, rfl⟩ : ∃ f, fuel = f + 1 := ⟨fuel - 1, by omega⟩
    have e : k = X.length := by omega
    subst e
    refine ⟨acc, i, h, N, ?_, hg, hp, hi2⟩
    rw [lpN_succ]
    unfold lp15_0
    simp only [iop_lss, obind_s, cnd_d]
    rw [if_neg (by omega), unmark_nil, obind_s]
    rfl
  | succ n ih =>
    intro k h N fuel acc i hk hf hg hp hi1 hi2
    obtain ⟨fuel, rfl⟩ : ∃ f, fuel = f + 1 := ⟨fuel - 1, by omega⟩
    rw [lpN_succ]
    obtain ⟨L, hL⟩ : ∃ L, L = lpN z (lp15_0 call) fuel := ⟨_, rfl⟩
    rw [← hL]
    unfold lp15_0
    have hkl : k < X.length := by omega
    have htn := ht.gr hg
    obtain ⟨i0, off, h1, h2, h3⟩ := htn.get hkl
    have hxa := htn.at_ (X[k]'hkl) (List.getElem_mem hkl)
    generalize hx : X[k]'hkl = x at h3 hxa
    simp only [iop_lss, obind_s, cnd_d]
    rw [if_pos (by omega), h2, obind_s, h3, obind_s, fN_eq, lay4 x hxa, obind_s]
    generalize hh : (Tr.set h (some (.c z4 24)) N).set (some (.c x.c 24)) N = g
    have g0 : g.get N = some (.c x.c 24) := by rw [← hh, Tr.get_same]
    have gr : Gr h N g (N + 1) := by rw [← hh]; exact ((Gr.refl h N).set (Nat.le_refl _) (by omega : N ≤ N + 1) _).set (Nat.le_refl _) (Nat.le_refl _) _
    rw [ldN_c g0 (by simp), obind_s, tk4]
    obtain ⟨w, h4, N4, p1, p2, p3, p4⟩ := paired20 call x g (N + 1) (hxa.gr gr)
    have p1' : s20 call (.agg ⟨x.c⟩) g N.succ = some (.agg ⟨[iS x.t.id, iS x.t.house, x.s, x.f, w]⟩, h4, N4) := p1
    rw [p1', orun_s]
    obtain ⟨p, c, es, _⟩ := hxa.s.at_
    obtain ⟨p', c', ef, _⟩ := hxa.f.at_
    have fl5 : allF [iS x.t.id, iS x.t.house, x.s, x.f, w] = true := by
      rw [es, ef]
      show Bool.rec (motive := fun _ => Bool) false true w.oneCell' = true
      rw [p4]
    have eb : evBuildSlice Pr 48 1 [(0, .agg ⟨[iS x.t.id, iS x.t.house, x.s, x.f, w]⟩)] h4 N4 = some (.slice (some ⟨N4, 0, none⟩) 1 1, h4.set (some (.c [iS x.t.id, iS x.t.house, x.s, x.f, w] 39)) N4, N4 + 1) := by rfl
    rw [eb, orun_s]
    have l4 := p2.le
    have hpk : PairL (h4.set (some (.c [iS x.t.id, iS x.t.house, x.s, x.f, w] 39)) N4) acc k i := by
      rcases hp with hp | ⟨e1, cs, e2, e3, e4⟩
      · exact .inl hp
      · exact .inr ⟨e1, cs, e2, e3, by rw [Tr.get_other _ _ (by omega), p2.old i (by omega), gr.old i (by omega)]; exact e4⟩
    obtain ⟨acc', i', h5, N5, q1, q2, q3, q4, q5, q6⟩ := app5 (N := N4 + 1) hpk (by omega) (Tr.get_same _ _ _) rfl fl5 (by omega)
    rw [q1, orun_s, add1 (by omega), obind_s, hL]
    have hg5 : Gr h0 M h5 N5 := by
      refine ⟨by have := hg.le; omega, fun j hj => ?_⟩
      have := hg.le
      rw [q6 j (by omega) (by omega), Tr.get_other _ _ (by omega), p2.old j (by omega), gr.old j (by omega)]
      exact hg.old j hj
    exact ih (k + 1) h5 N5 fuel acc' i' (by omega) (by omega) hg5 q2 (by have := hg.le; rcases q3 with e | e <;> omega) q4
end Go.Proofs.Ytnbilohdnopkfaa
end

section
namespace Go.Proofs.Ytnbilohdnopkfaa
open Go.Ev Go.RowKit
set_option linter.unusedVariables false
set_option linter.unusedSimpArgs false
set_option maxRecDepth 100000
set_option maxHeartbeats 4000000
abbrev snil : Value := .slice none 0 0
abbrev askC (v : Value) (k : Int) : List Value := [v, iS k, iS 0, iS 0, iS 0, iS 0, iS 0, iS 0]
abbrev askV (v : Value) (k : Int) : Value := .agg ⟨askC v k⟩
abbrev fS (n : Nat) : Value := .func (.func n) ⟨[]⟩ ⟨[]⟩
noncomputable def cT : CallF := cAll Pr (lookS [(22, F22), (23, F23), (27, F27), (33, F33)]) (fun _ _ _ => none) 2
theorem cT_ok : CallOk Pr cT := cAll_ok hmix (fun f F h => (StOk.cons o22 (StOk.cons o23 (StOk.cons o27 (StOk.cons o33 StOk.nil)))) _ (lookS_ok h)) (fun nt asg body F h => by cases h) 2
noncomputable def cU : CallF := cAll Pr (lookS [(22, F22), (23, F23), (27, F27), (33, F33)]) (fun _ _ _ => none) 1
noncomputable abbrev cW (f : Value) (a : Value) (h : Tr Ob) (N : Nat) : OpR := callW [(19, F19), (20, F20)] cT f [a] h N
theorem q22 (v : Value) (k : Int) (n : Nat) (hv : lenS v = some (nS n)) (hn : n ≤ 6) (h : Tr Ob) (N : Nat) : ∃ h' N', cW (fS 22) (askV v k) h N = some (.bool true, h', N') ∧ Gr h N h' N' := by
  show ∃ h' N', s22 cU (askV v k) h N = _ ∧ _
  unfold s22
  have c0 : cel (askV v k) = askC v k := rfl
  have n0 : nth (askC v k) 0 = some v := rfl
  simp only [fN_eq, fad_p, obind_s, Nat.zero_add, c0]
  rw [ld1_c (by rw [Tr.get_same]), n0, obind_s, hv, obind_s, iop_leq, obind_s]
  rw [decide_eq_true (by show (n : Int) ≤ 6; omega)]
  exact ⟨_, _, rfl, (Gr.refl h N).set (Nat.le_refl _) (by omega : N ≤ N + 1) _⟩
theorem q23 (v : Value) (k : Int) (X : List Tx) (hX : X.length < 1000) (h : Tr Ob) (N : Nat) (ht : Tal h N v X) : ∃ h' N', cW (fS 23) (askV v k) h N = some (.bool (X.all fun x => okT x.t), h', N') ∧ Gr h N h' N' := by
  show ∃ h' N', s23 cU (askV v k) h N = _ ∧ _
  unfold s23
  have c0 : cel (askV v k) = askC v k := rfl
  have n0 : nth (askC v k) 0 = some v := rfl
  simp only [fN_eq, fad_p, obind_s, Nat.zero_add, c0]
  rw [ld1_c (by rw [Tr.get_same]), n0, obind_s]
  have gr : Gr h N (h.set (some (.c (askC v k) 46)) N) (N + 1) := (Gr.refl h N).set (Nat.le_refl _) (by omega) _
  obtain ⟨h2, N2, p1, p2⟩ := areValid24 cU v X hX _ (N + 1) (ht.gr gr)
  rw [show N.succ = N + 1 from rfl, p1, orun_s]
  exact ⟨_, _, rfl, gr.trans p2⟩
theorem q27 (v : Value) (k : Int) (h : Tr Ob) (N : Nat) : ∃ h' N', cW (fS 27) (askV v k) h N = some (.bool (okN 1 4 k), h', N') ∧ Gr h N h' N' := by
  show ∃ h' N', s27 cU (askV v k) h N = _ ∧ _
  unfold s27
  have c0 : cel (askV v k) = askC v k := rfl
  have n1 : nth (askC v k) 1 = some (iS k) := rfl
  simp only [fN_eq, fad_p, obind_s, Nat.zero_add, c0]
  rw [ld1_c (by rw [Tr.get_same]), n1, obind_s]
  generalize hh : h.set (some (.c (askC v k) 46)) N = g
  have gr : Gr h N g (N + 1) := by rw [← hh]; exact (Gr.refl h N).set (Nat.le_refl _) (by omega) _
  have eb : evBuildSlice Pr 22 1 [(0, iS k)] g N.succ = some (.slice (some ⟨N + 1, 0, none⟩) 1 1, g.set (some (.c [iS k] 3)) (N + 1), N + 2) := by rfl
  rw [eb, orun_s]
  have gr2 : Gr h N (g.set (some (.c [iS k] 3)) (N + 1)) (N + 2) := gr.set (by omega) (by omega) _
  have hi : Ints (g.set (some (.c [iS k] 3)) (N + 1)) (N + 2) (.slice (some ⟨N + 1, 0, none⟩) 1 1) [k] :=
    ⟨rfl, _, _, rfl, .inr ⟨N + 1, 0, none, _, rfl, by omega, cellsFrom_c (Tr.get_same _ _ _) 0, rfl⟩⟩
  obtain ⟨h2, N2, p1, p2⟩ := areKinds28 cU _ [k] _ (N + 2) hi (by simp)
  rw [p1, orun_s]
  have e : [k].all (okN 1 4) = okN 1 4 k := by simp
  rw [e]
  exact ⟨_, _, rfl, gr2.trans p2⟩
theorem q33 (v : Value) (k : Int) (X : List Tx) (hX : X.length < 1000) (h : Tr Ob) (N : Nat) (ht : Tal h N v X) : ∃ h' N', cW (fS 33) (askV v k) h N = some (.bool (decide (sumS X ≤ 12 ∧ sumF X ≤ 12)), h', N') ∧ Gr h N h' N' := by
  show ∃ h' N', s33 cU (askV v k) h N = _ ∧ _
  unfold s33
  have c0 : cel (askV v k) = askC v k := rfl
  have n0 : nth (askC v k) 0 = some v := rfl
  simp only [fN_eq, fad_p, obind_s, Nat.zero_add, c0]
  rw [ld1_c (by rw [Tr.get_same]), n0, obind_s]
  have gr : Gr h N (h.set (some (.c (askC v k) 46)) N) (N + 1) := (Gr.refl h N).set (Nat.le_refl _) (by omega) _
  obtain ⟨h2, N2, p1, p2⟩ := isRoom34 cU v X hX _ (N + 1) (ht.gr gr)
  rw [show N.succ = N + 1 from rfl, p1, orun_s]
  exact ⟨_, _, rfl, gr.trans p2⟩
abbrev qC : List Value := [fS 22, iS 2, fS 23, iS 70, fS 25, iS 71, fS 27, iS 72, fS 29, iS 73, fS 32, iS 73, fS 33, iS 9]
abbrev z14 : List Value := [.nilFunc, (.int .i64 (.ofNat 0)), .nilFunc, (.int .i64 (.ofNat 0)), .nilFunc, (.int .i64 (.ofNat 0)), .nilFunc, (.int .i64 (.ofNat 0)), .nilFunc, (.int .i64 (.ofNat 0)), .nilFunc, (.int .i64 (.ofNat 0)), .nilFunc, (.int .i64 (.ofNat 0))]
theorem questions19 (call : CallF) (h : Tr Ob) (N : Nat) : ∃ h' N', s19 call h N = some (.agg ⟨qC⟩, h', N') ∧ Gr h N h' N' := by
  have e0 : s19 call h N = obind (sto 14 (.pointer (some ⟨N, 0, none⟩)) (.agg ⟨qC⟩) (Tr.set h (some (.c z14 57)) N)) (fun h1 => obind (Ev.ldN 14 h1 (.pointer (some ⟨N, 0, none⟩))) (fun v2 => some (v2, (h1, N + 1)))) := by
    unfold s19
    rw [fN_eq]
    rfl
  have e1 := sto_c (h := Tr.set h (some (.c z14 57)) N) (i := N) (off := 0) (T := 57) (v := .agg ⟨qC⟩) (m := 14) (by rw [Tr.get_same]) rfl rfl (by simp)
  have l0 : lay z14 (cel (.agg ⟨qC⟩)) 0 = qC := rfl
  rw [l0] at e1
  refine ⟨(Tr.set h (some (.c z14 57)) N).set (some (.c qC 57)) N, N + 1, ?_, ((Gr.refl h N).set (Nat.le_refl _) (by omega : N ≤ N + 1) _).set (Nat.le_refl _) (Nat.le_refl _) _⟩
  rw [e0, e1, obind_s, ldN_c (T := 57) (xs := qC) (by rw [Tr.get_same]) (by simp), obind_s]
  rfl
theorem app_lit {h : Tr Ob} {i j N : Nat} {a b c : Int} (hi : h.get i = some (.c [iS a, iS b] 3)) (hj : h.get j = some (.c [iS c] 3)) :
    evAppend Pr 22 (.slice (some ⟨i, 0, none⟩) 2 2) (.slice (some ⟨j, 0, none⟩) 1 1) h N = some (.slice (some ⟨N, 0, some 0⟩) 3 0, h.set (some (.g [iS a, iS b, iS c] 3 1)) N, N + 1) := by
  have ha : appT Pr 22 = some (3, 1) := by rfl
  have hlv : lenV (.slice (some ⟨j, 0, none⟩) 1 1) = some 1 := rfl
  unfold evAppend
  rw [ha, obind_s, hlv, obind_s, fN_eq]
  have s1 : seg h (.slice (some ⟨j, 0, none⟩) 1 1) (Nat.mul 1 (3, 1).2) = some [iS c] := by
    show obind (cellsFrom h j 0) (fun xs => ocond (Nat.ble 1 (len xs)) (some (tak xs 1))) = _
    rw [cellsFrom_c hj]; rfl
  rw [s1, obind_s]
  show fN 3 (fun m => fN 2 fun nz => Bool.rec (motive := fun _ => OpR)
        (ocond (Nat.ble m 1000000) (obind (seg h (.slice (some ⟨i, 0, none⟩) 2 2) nz) fun olds => growTo 3 1 m (app olds [iS c]) h N))
        (inPlace i 0 (Nat.add 0 nz) none m 2 [iS c] h N) (Nat.ble m 2)) = _
  rw [fN_eq, fN_eq]
  have s2 : seg h (.slice (some ⟨i, 0, none⟩) 2 2) 2 = some [iS a, iS b] := by
    show obind (cellsFrom h i 0) (fun xs => ocond (Nat.ble 2 (len xs)) (some (tak xs 2))) = _
    rw [cellsFrom_c hi]; rfl
  show ocond (Nat.ble 3 1000000) (obind (seg h (.slice (some ⟨i, 0, none⟩) 2 2) 2) fun olds => growTo 3 1 3 (app olds [iS c]) h N) = _
  rw [s2]
  rfl
end Go.Proofs.Ytnbilohdnopkfaa
end

section
namespace Go.Proofs.Ytnbilohdnopkfaa
open Go.Ev Go.RowKit
set_option linter.unusedVariables false
set_option linter.unusedSimpArgs false
set_option maxRecDepth 100000
set_option maxHeartbeats 4000000
theorem step15 (L : C5) (A B : Nat) (u : Value) (K : List Int) (v : Value) (kd : Int) (h : Tr Ob) (N k q n : Nat) (e : Int) (b : Bool)
    (hk : k < K.length) (hl : K.length < 1000) (hK : K[k]'hk = (q : Int)) (hq : q < 7) (hA : h.get A = some (.c (askC v kd) 46)) (hA2 : A < N) (hB : h.get B = some (.c qC 57)) (hu : Ints h N u K)
    (hfe : (qC.drop (q * 2)).take 2 = [fS n, iS e])
    (hc : ∀ g M, Gr h N g M → ∃ g' M', cW (fS n) (askV v kd) g M = some (.bool b, g', M') ∧ Gr g M g' M') :
    ∃ h' N', Gr h N h' N' ∧ lp15_1 cT L (pS A) (pS B) u (nS K.length) (nS k) [] h N = cond b (L (pS A) (pS B) u (nS K.length) (nS (k + 1)) [] h' N') (some (.tuple ⟨[snil, iS e]⟩, h', N')) := by
  unfold lp15_1
  obtain ⟨i, off, h1, h2, h3⟩ := hu.get hk
  simp only [iop_lss, obind_s, cnd_d]
  rw [if_pos (by omega), h2, obind_s, h3, obind_s, hK, iadA_p hq, obind_s]
  have hql : q * 2 + 2 ≤ qC.length := by simp; omega
  rw [ldN_c hB (by omega), obind_s, Nat.zero_add, hfe, fN_eq]
  rw [sto_c (T := 56) (xs := [.nilFunc, .int .i64 (.ofNat 0)]) (v := .agg ⟨[fS n, iS e]⟩) (m := 2) (by rw [Tr.get_same]) rfl rfl (by simp), obind_s]
  have l0 : lay [.nilFunc, .int .i64 (.ofNat 0)] (cel (.agg ⟨[fS n, iS e]⟩)) 0 = [fS n, iS e] := rfl
  rw [l0]
  generalize hh : (Tr.set h (some (.c [.nilFunc, (.int .i64 (.ofNat 0))] 56)) N).set (some (.c [fS n, iS e] 56)) N = g
  have g0 : g.get N = some (.c [fS n, iS e] 56) := by rw [← hh, Tr.get_same]
  have gr : Gr h N g (N + 1) := by rw [← hh]; exact ((Gr.refl h N).set (Nat.le_refl _) (by omega : N ≤ N + 1) _).set (Nat.le_refl _) (Nat.le_refl _) _
  have gA : g.get A = some (.c (askC v kd) 46) := by rw [gr.old A hA2]; exact hA
  have n0 : nth [fS n, iS e] 0 = some (fS n) := rfl
  have n1 : nth [fS n, iS e] 1 = some (iS e) := rfl
  have a8 : Value.agg ⟨((askC v kd).drop 0).take 8⟩ = askV v kd := rfl
  simp only [fad_p, obind_s, Nat.zero_add]
  rw [ld1_c g0, n0, obind_s, ldN_c gA (by simp), obind_s, a8]
  obtain ⟨g2, M2, p1, p2⟩ := hc g (N + 1) gr
  have p1' : callW [(19, F19), (20, F20)] cT (fS n) [askV v kd] g N.succ = some (.bool b, g2, M2) := p1
  rw [p1', orun_s, unV_not, obind_s]
  have k0 : g2.get N = some (.c [fS n, iS e] 56) := by rw [p2.old N (by omega)]; exact g0
  refine ⟨g2, M2, gr.trans p2, ?_⟩
  cases b with
  | true =>
    simp only [Bool.not_true, cnd_f, cond_true]
    rw [add1 (by omega), obind_s]
  | false =>
    simp only [Bool.not_false, cnd_t, cond_false]
    rw [ld1_c k0, n1, obind_s, agL1_c k0 n1 (valEq_int 2 _ _), ocond_t, unmark_nil, obind_s]
theorem final15 (L : C5) (A : Nat) (B u : Value) (n : Nat) (v : Value) (kd : Int) (X : List Tx) (hX : X.length < 1000) (h0 h : Tr Ob) (M N : Nat) (ht : Tal h0 M v X) (hg : Gr h0 M h N) (hM : M < N) (hA : h.get A = some (.c (askC v kd) 46)) :
    ∃ acc i h' N', lp15_1 cT L (pS A) B u (nS n) (nS n) [] h N = some (.tuple ⟨[acc, nS 0]⟩, h', N') ∧ Gr h0 M h' N' ∧ PairL h' acc X.length i ∧ i < N' := by
  unfold lp15_1
  simp only [iop_lss, obind_s, cnd_d]
  have n0 : nth (askC v kd) 0 = some v := rfl
  rw [if_neg (by omega), fad_p, obind_s, Nat.zero_add, ld1_c hA, n0, obind_s, ht.sh.lenS, obind_s, lpR_eq]
  exact pairs15 cT v X hX h0 M ht _ X.length 0 h N rounds snil M (by omega) (by show _ < 1000000; omega) hg (.inl ⟨rfl, rfl⟩) (Nat.le_refl _) hM
theorem begin15 (v : Value) (kd : Int) (X : List Tx) (hX : X.length ≤ 6) (h : Tr Ob) (N : Nat) (ht : Tal h N v X) (j q n : Nat) (e : Int) (b : Bool) (hj : j < N) (hjc : h.get j = some (.c [nS q] 3)) (hq : q < 7)
    (hfe : (qC.drop (q * 2)).take 2 = [fS n, iS e])
    (hc : ∀ g M, Gr h N g M → ∃ g' M', cW (fS n) (askV v kd) g M = some (.bool b, g', M') ∧ Gr g M g' M') :
    ∃ r h' N', s15 cT (askV v kd) (.slice (some ⟨j, 0, none⟩) 1 1) h N = some (r, h', N') ∧ Gr h N h' N' ∧
      (((X.all fun x => okT x.t) = false ∧ r = .tuple ⟨[snil, iS 70]⟩) ∨ ((X.all fun x => okT x.t) = true ∧ b = false ∧ r = .tuple ⟨[snil, iS e]⟩) ∨
       ((X.all fun x => okT x.t) = true ∧ b = true ∧ ∃ acc i, r = .tuple ⟨[acc, nS 0]⟩ ∧ PairL h' acc X.length i ∧ i < N')) := by
  rw [s15_eq]
  have c0 : cel (askV v kd) = askC v kd := rfl
  rw [fN_eq, c0]
  generalize hh : h.set (some (.c (askC v kd) 46)) N = g
  have gr : Gr h N g (N + 1) := by rw [← hh]; exact (Gr.refl h N).set (Nat.le_refl _) (by omega) _
  have g0 : g.get N = some (.c (askC v kd) 46) := by rw [← hh, Tr.get_same]
  obtain ⟨h2, N2, p1, p2⟩ := questions19 cT g (N + 1)
  rw [show N.succ = N + 1 from rfl, p1, orun_s, fN_eq]
  have l2 := p2.le
  have e1 := sto_c (h := Tr.set h2 (some (.c z14 57)) N2) (i := N2) (off := 0) (T := 57) (v := .agg ⟨qC⟩) (m := 14) (by rw [Tr.get_same]) rfl rfl (by simp)
  have l0 : lay z14 (cel (.agg ⟨qC⟩)) 0 = qC := rfl
  rw [l0] at e1
  rw [e1, obind_s]
  generalize hh3 : (Tr.set h2 (some (.c z14 57)) N2).set (some (.c qC 57)) N2 = g3
  have gr3 : Gr h N g3 (N2 + 1) := by rw [← hh3]; exact ((gr.trans p2).set (by omega) (by omega : N2 ≤ N2 + 1) _).set (by omega) (Nat.le_refl _) _
  have a3 : g3.get N = some (.c (askC v kd) 46) := by rw [← hh3, Tr.get_other _ _ (by omega), Tr.get_other _ _ (by omega), p2.old N (by omega)]; exact g0
  have b3 : g3.get N2 = some (.c qC 57) := by rw [← hh3, Tr.get_same]
  have eb : evBuildSlice Pr 22 2 [(0, (.int .i64 (.ofNat 0))), (1, (.int .i64 (.ofNat 1)))] g3 (N2 + 1) = some (.slice (some ⟨N2 + 1, 0, none⟩) 2 2, g3.set (some (.c [iS 0, iS 1] 3)) (N2 + 1), N2 + 2) := by rfl
  rw [show N2.succ = N2 + 1 from rfl, eb, orun_s]
  generalize hh4 : g3.set (some (.c [iS 0, iS 1] 3)) (N2 + 1) = g4
  have gr4 : Gr h N g4 (N2 + 2) := by rw [← hh4]; exact gr3.set (by omega) (by omega) _
  have hj4 : g4.get j = some (.c [nS q] 3) := by rw [gr4.old j hj]; exact hjc
  have hi4 : g4.get (N2 + 1) = some (.c [iS 0, iS 1] 3) := by rw [← hh4, Tr.get_same]
  have hjc' : g4.get j = some (.c [iS (q : Int)] 3) := hj4
  rw [app_lit hi4 hjc', orun_s]
  generalize hh5 : g4.set (some (.g [iS 0, iS 1, iS (q : Int)] 3 1)) (N2 + 2) = g5
  have gr5 : Gr h N g5 (N2 + 3) := by rw [← hh5]; exact gr4.set (by omega) (by omega) _
  have a5 : g5.get N = some (.c (askC v kd) 46) := by rw [← hh5, Tr.get_other _ _ (by omega), ← hh4, Tr.get_other _ _ (by omega)]; exact a3
  have b5 : g5.get N2 = some (.c qC 57) := by rw [← hh5, Tr.get_other _ _ (by omega), ← hh4, Tr.get_other _ _ (by omega)]; exact b3
  have hu : Ints g5 (N2 + 3) (.slice (some ⟨N2 + 2, 0, some 0⟩) 3 0) [0, 1, (q : Int)] :=
    ⟨rfl, _, _, rfl, .inr ⟨N2 + 2, 0, some 0, _, rfl, by omega, cellsFrom_g (by rw [← hh5, Tr.get_same]) 0, rfl⟩⟩
  rw [hu.lenS, obind_s, lpR_eq]
  obtain ⟨m, hm⟩ : ∃ m, rounds = m + 4 := ⟨999996, rfl⟩
  rw [hm, lpN_succ, lpN_succ, lpN_succ, lpN_succ]
  generalize lpN _ (lp15_1 cT) m = Z
  obtain ⟨h6, N6, r1, r2⟩ := step15 (lp15_1 cT (lp15_1 cT (lp15_1 cT Z))) N N2 _ [0, 1, (q : Int)] v kd g5 (N2 + 3) 0 0 22 2 true (by simp) (by simp) rfl (by omega) a5 (by omega) b5 hu rfl
    (fun g M hgr => q22 v kd X.length ht.sh.lenS hX g M)
  have r2' : lp15_1 cT (lp15_1 cT (lp15_1 cT (lp15_1 cT Z))) (pS N) (pS N2) (.slice (some ⟨N2 + 2, 0, some 0⟩) 3 0) (nS 3) (nS 0) [] g5 (N2 + 3) = lp15_1 cT (lp15_1 cT (lp15_1 cT Z)) (pS N) (pS N2) (.slice (some ⟨N2 + 2, 0, some 0⟩) 3 0) (nS 3) (nS 1) [] h6 N6 := r2
  have gr6 := gr5.trans r1
  have l6 := r1.le
  obtain ⟨h7, N7, t1, t2⟩ := step15 (lp15_1 cT (lp15_1 cT Z)) N N2 _ [0, 1, (q : Int)] v kd h6 N6 1 1 23 70 (X.all fun x => okT x.t) (by simp) (by simp) rfl (by omega) (by rw [r1.old N (by omega)]; exact a5) (by omega) (by rw [r1.old N2 (by omega)]; exact b5) (hu.gr r1) rfl
    (fun g M hgr => q23 v kd X (by omega) g M (ht.gr (gr6.trans hgr)))
  have t2' : lp15_1 cT (lp15_1 cT (lp15_1 cT Z)) (pS N) (pS N2) (.slice (some ⟨N2 + 2, 0, some 0⟩) 3 0) (nS 3) (nS 1) [] h6 N6 = cond (X.all fun x => okT x.t) (lp15_1 cT (lp15_1 cT Z) (pS N) (pS N2) (.slice (some ⟨N2 + 2, 0, some 0⟩) 3 0) (nS 3) (nS 2) [] h7 N7) (some (.tuple ⟨[snil, iS 70]⟩, h7, N7)) := t2
  have gr7 := gr6.trans t1
  have gr57 := r1.trans t1
  have l7 := t1.le
  cases ho : (X.all fun x => okT x.t) with
  | false =>
    rw [ho] at t2'
    exact ⟨_, h7, N7, (r2'.trans t2'), gr7, .inl ⟨rfl, rfl⟩⟩
  | true =>
    rw [ho] at t2'
    obtain ⟨h8, N8, u1, u2⟩ := step15 (lp15_1 cT Z) N N2 _ [0, 1, (q : Int)] v kd h7 N7 2 q n e b (by simp) (by simp) rfl hq (by rw [gr57.old N (by omega)]; exact a5) (by omega) (by rw [gr57.old N2 (by omega)]; exact b5) (hu.gr gr57) hfe
      (fun g M hgr => hc g M (gr7.trans hgr))
    have u2' : lp15_1 cT (lp15_1 cT Z) (pS N) (pS N2) (.slice (some ⟨N2 + 2, 0, some 0⟩) 3 0) (nS 3) (nS 2) [] h7 N7 = cond b (lp15_1 cT Z (pS N) (pS N2) (.slice (some ⟨N2 + 2, 0, some 0⟩) 3 0) (nS 3) (nS 3) [] h8 N8) (some (.tuple ⟨[snil, iS e]⟩, h8, N8)) := u2
    have gr8 := gr7.trans u1
    have gr58 := gr57.trans u1
    have l8 := u1.le
    cases b with
    | false => exact ⟨_, h8, N8, (r2'.trans t2').trans u2', gr8, .inr (.inl ⟨rfl, rfl, rfl⟩)⟩
    | true =>
      obtain ⟨acc, i, h9, N9, w1, w2, w3, w4⟩ := final15 Z N (pS N2) (.slice (some ⟨N2 + 2, 0, some 0⟩) 3 0) 3 v kd X (by omega) h h8 N N8 ht gr8 (by omega) (by rw [gr58.old N (by omega)]; exact a5)
      exact ⟨_, h9, N9, ((r2'.trans t2').trans u2').trans w1, w2, .inr (.inr ⟨rfl, rfl, acc, i, rfl, w3, w4⟩)⟩
end Go.Proofs.Ytnbilohdnopkfaa
end

section
namespace Go.Proofs.Ytnbilohdnopkfaa
open Go.Ev Go.RowKit
set_option linter.unusedVariables false
set_option linter.unusedSimpArgs false
set_option maxRecDepth 100000
set_option maxHeartbeats 4000000
theorem appT22 : appT Pr 22 = some (3, 1) := by rfl
theorem zer3 : zer Pr 3 = some [iS 0] := by rfl
theorem isInt3 : isIntT Pr 3 = true := by rfl
noncomputable abbrev zs_ (n : Nat) : List Value := reps [iS 0] n
theorem zs_len (n : Nat) : (zs_ n).length = n := by rw [reps_length]; simp
theorem grow21 (call : CallF) (n : Nat) (h : Tr Ob) (N : Nat) (h0 : 0 < n) (hn : n ≤ 100000) : X21 call [snil, nS n] h N = some (.slice (some ⟨N, 0, some 0⟩) 0 n, h.set (some (.g (zs_ n) 3 1)) N, N + 1) := by
  have key : s21 call snil (nS n) h N = some (.slice (some ⟨N, 0, some 0⟩) 0 n, h.set (some (.g (zs_ n) 3 1)) N, N + 1) := by
    unfold s21
    rw [iop_lss, obind_s, decide_eq_false (by show ¬ ((n : Int) < 0); omega), jnR_eq, cnd_f]
    dsimp only
    have c1 : capS snil = some (nS 0) := rfl
    have c2 : lenS snil = some (nS 0) := rfl
    rw [c1, obind_s, c2, obind_s, iop_sub (by constructor <;> decide), obind_s]
    have e0 : (((0 : Nat) : Int) - ((0 : Nat) : Int)) = 0 := by decide
    rw [e0, iop_sub (by constructor <;> omega), obind_s, Int.sub_zero, iop_gtr, obind_s, decide_eq_true (by show (0 : Int) < (n : Int); omega), jnR_eq, cnd_t, obind_s]
    dsimp only
    have e1 : evSlice Pr 22 snil none (some (nS 0)) none = some snil := by rfl
    rw [e1, obind_s]
    have e2 : evGrowZ Pr 22 3 snil (nS n) h N = some (.slice (some ⟨N, 0, some 0⟩) n 0, h.set (some (.g (zs_ n) 3 1)) N, N + 1) := by
      show obind (appT Pr 22) (fun ez => obind (zer Pr ez.1) fun zs => ocond (isIntT Pr 3) (ocond (Nat.ble 1 n) (ocond (Nat.beq 0 0) (ocond (Nat.beq 0 0) (ocond (Nat.ble n 100000) (growTo ez.1 ez.2 n (reps zs n) h N)))))) = _
      rw [appT22, obind_s, zer3, obind_s, isInt3, Nat.ble_eq_true_of_le (by omega : 1 ≤ n), Nat.ble_eq_true_of_le hn]
      rfl
    rw [e2, orun_s, obind_s]
    have e3 : evSlice Pr 22 (.slice (some ⟨N, 0, some 0⟩) n 0) none (some (nS 0)) none = some (.slice (some ⟨N, 0, some 0⟩) 0 n) := by
      have a1 : Go.Ev.elemOf Pr 22 = some 3 := by rfl
      have a2 : Go.Sx.sizeB Pr 3 = some 1 := by rfl
      have a3 : mx2 n 0 = n := by unfold mx2; cases hb : Nat.ble n 0 with
        | true => have := Nat.le_of_ble_eq_true hb; omega
        | false => rfl
      show obind (Go.Ev.elemOf Pr 22) (fun e => obind (Go.Sx.sizeB Pr e) fun z => fN (mx2 n 0) fun C => obind (natOf (some (nS 0)) n C) fun k => obind (natOf none 0 k) fun l => Bool.rec (motive := fun _ => Option Value) (some (.chan none))
          (fN (Nat.sub k l) fun kl => fN (Nat.add 0 (Nat.mul l z)) fun p => fN (Nat.add 0 l) fun eo' => fN (Nat.sub C l) fun c' => some (.slice (some ⟨N, p, some eo'⟩) kl c')) (Nat.ble (Nat.succ l) C)) = _
      rw [a1, obind_s, a2, obind_s, fN_eq, a3, natOf_i (by omega), obind_s]
      have a4 : natOf none 0 0 = some 0 := rfl
      rw [a4, obind_s, Nat.ble_eq_true_of_le (by omega : Nat.succ 0 ≤ n)]
      show fN (Nat.sub 0 0) (fun kl => fN (Nat.add 0 (Nat.mul 0 1)) fun p => fN (Nat.add 0 0) fun eo' => fN (Nat.sub n 0) fun c' => some (Value.slice (some ⟨N, p, some eo'⟩) kl c')) = _
      rw [fN_eq, fN_eq, fN_eq, fN_eq]
      rfl
    rw [e3, obind_s, unmark_nil, obind_s]
  show oor (s21 call snil (nS n) h N) (qSplit (valEq 9) (F21 call) [snil, nS n] h N) = _
  rw [key]; rfl
theorem grow21_0 (call : CallF) (h : Tr Ob) (N : Nat) : X21 call [snil, nS 0] h N = some (snil, h, N) := by
  have key : s21 call snil (nS 0) h N = some (snil, h, N) := by
    unfold s21
    rw [iop_lss, obind_s, decide_eq_false (by decide), jnR_eq, cnd_f]
    dsimp only
    have c1 : capS snil = some (nS 0) := rfl
    have c2 : lenS snil = some (nS 0) := rfl
    rw [c1, obind_s, c2, obind_s, iop_sub (by constructor <;> decide), obind_s]
    have e0 : (((0 : Nat) : Int) - ((0 : Nat) : Int)) = 0 := by decide
    rw [e0, iop_sub (by constructor <;> decide), obind_s, iop_gtr, obind_s, decide_eq_false (by decide), jnR_eq, cnd_f]
    dsimp only
    rw [unmark_nil, obind_s]
  show oor (s21 call snil (nS 0) h N) (qSplit (valEq 9) (F21 call) [snil, nS 0] h N) = _
  rw [key]; rfl
theorem app_room {h : Tr Ob} {u : Value} {K : List Int} {n c i N : Nat} {xs : List Value} (hi : h.get i = some (.g xs 3 1)) (hu : Ints h N u K) (hl : n + K.length ≤ xs.length) :
    evAppend Pr 22 (.slice (some ⟨i, 0, some 0⟩) n c) u h N = some (.slice (some ⟨i, 0, some 0⟩) (n + K.length) 0, h.set (some (.g (lay xs (K.map iS) n) 3 1)) i, N + 1) := by
  unfold evAppend
  rw [appT22, obind_s, lenV_ints hu, obind_s, fN_eq]
  have ek : Nat.mul K.length ((3, 1) : Nat × Nat).2 = K.length := Nat.mul_one _
  rw [ek, seg_ints hu, obind_s]
  show fN (Nat.add n K.length) (fun m => fN (Nat.mul n 1) fun nz => match h.get i with
        | some (.g xs E z') => ocond (Nat.beq z' 1) (ocond (Nat.beq E 3) (ocond (Nat.beq 0 (Nat.mul 0 1)) (Bool.rec (motive := fun _ => OpR)
            (ocond (Nat.beq 0 0) (ocond (Nat.beq nz (len xs)) (ocond (Nat.ble m 1000000) (ocond (allF (K.map iS)) (some (.slice (some ⟨N, 0, some 0⟩) m 0, (h.set none i).set (some (.g (app xs (K.map iS)) E z')) N, Nat.succ N))))))
            (inPlace i 0 (Nat.add 0 nz) (some 0) m 0 (K.map iS) h N) (Nat.ble (Nat.add 0 (Nat.add nz K.length)) (len xs)))))
        | _ => none) = _
  rw [fN_eq, fN_eq, hi]
  have e1 : Nat.mul n 1 = n := Nat.mul_one _
  have e2 : Nat.add 0 (Nat.add n K.length) = n + K.length := Nat.zero_add _
  have e3 : Nat.add 0 n = n := Nat.zero_add _
  rw [e1, e2, e3]
  show ocond (Nat.beq 1 1) (ocond (Nat.beq 3 3) (ocond (Nat.beq 0 (Nat.mul 0 1)) (Bool.rec (motive := fun _ => OpR)
            (ocond (Nat.beq 0 0) (ocond (Nat.beq n (len xs)) (ocond (Nat.ble (Nat.add n K.length) 1000000) (ocond (allF (K.map iS)) (some (.slice (some ⟨N, 0, some 0⟩) (Nat.add n K.length) 0, (h.set none i).set (some (.g (app xs (K.map iS)) 3 1)) N, Nat.succ N))))))
            (inPlace i 0 n (some 0) (Nat.add n K.length) 0 (K.map iS) h N) (Nat.ble (n + K.length) (len xs))))) = _
  rw [len_eq, Nat.ble_eq_true_of_le hl]
  show ocond (allF (K.map iS)) (obind (evWrite h i n (K.map iS)) fun h' => (some (Value.slice (some ⟨i, 0, some 0⟩) (n + K.length) 0, h', Nat.succ N) : OpR)) = _
  have hw : evWrite h i n (K.map iS) = some (h.set (some (.g (lay xs (K.map iS) n) 3 1)) i) := by
    unfold evWrite; rw [hi]
    show ocond (Nat.ble (n + len (K.map iS)) (len xs)) _ = _
    rw [len_eq, len_eq, List.length_map, Nat.ble_eq_true_of_le hl]; rfl
  rw [allF_ints, hw]; rfl
theorem app_nn {h : Tr Ob} {u : Value} {N : Nat} (hu : Ints h N u []) : evAppend Pr 22 snil u h N = some (snil, h, N + 1) := by
  unfold evAppend
  have hl : lenV u = some 0 := lenV_ints hu
  have hs : seg h u 0 = some [] := seg_ints hu
  rw [appT22, obind_s, hl, obind_s, fN_eq]
  show obind (seg h u 0) _ = _
  rw [hs]; rfl
theorem lay2 (A B : List Value) (z : List Value) (hz : z.length = A.length + B.length) : lay (lay z A 0) B A.length = A ++ B := by
  rw [lay_eq A z 0, Go.Sx.setL_eq A 0 z (by omega), lay_eq, Go.Sx.setL_eq _ _ _ (by simp; omega)]
  simp only [List.take_zero, List.nil_append, Nat.zero_add]
  rw [List.take_append_of_le_length (Nat.le_refl _), List.take_length, List.drop_of_length_le (by simp; omega), List.append_nil]

noncomputable def lp16_0  : C4 → C4 :=
  (fun g51 v52 v53 v54 v55 d56 h57 N58 => (obind (Ev.iop .lss v55 v54) (fun v59 => (Ev.cnd v59 (obind (Ev.iadS 1 v53 v55) (fun v60 => (obind (Ev.ld1 h57 v60) (fun v61 => (orun (Ev.evAppend Pr 22 v52 v61 h57 N58) (fun v62 h63 N64 => (obind (Ev.iop .add v55 (.int .i64 (.ofNat 1))) (fun v65 => (g51 v62 v53 v54 v65 d56 h63 N64))))))))) (obind (Ev.unmark d56 h57) (fun h66 => (some (v52, (h66, N58)))))))))

noncomputable def lp16_1 (call : CallF) : C5 → C5 :=
  (fun g9 v10 v11 v12 v13 v14 d15 h16 N17 => (obind (Ev.iop .lss v14 v13) (fun v18 => (Ev.cnd v18 (obind (Ev.iadS 1 v12 v14) (fun v19 => (obind (Ev.ld1 h16 v19) (fun v20 => (obind (Ev.lenS v20) (fun v21 => (obind (Ev.iop .add v11 v21) (fun v22 => (obind (Ev.iop .lss v22 (.int .i64 (.ofNat 0))) (fun v23 => (jnR (α := C5) (fun v24 v25 v26 v27 v28 d29 h30 N31 => (obind (Ev.iop .add v28 (.int .i64 (.ofNat 1))) (fun v32 => (g9 v24 v25 v26 v27 v32 d29 h30 N31)))) (fun g33 => (Ev.cnd v23 (orun (none : OpR) (fun v34 h35 N36 => (orun (none : OpR) (fun v37 h38 N39 => (g33 v10 v22 v12 v13 v14 d15 h38 N39))))) (g33 v10 v22 v12 v13 v14 d15 h16 N17)))))))))))))) (orun (X21 call [(.slice none 0 0), v11] h16 N17) (fun v40 h41 N42 => (obind (Ev.lenS v10) (fun v43 => (lpR (α := C4) (fun v44 v45 v46 v47 d48 h49 N50 => none) (lp16_0) v40 v10 v43 (.int .i64 (.ofNat 0)) d15 h41 N42)))))))))

theorem s16_eq (call : CallF) (a0 : Value) (h : Tr Ob) (N : Nat) : s16 call a0 h N =
  (obind (Ev.lenS a0) (fun v0 => (lpR (α := C5) (fun v1 v2 v3 v4 v5 d6 h7 N8 => none) (lp16_1 call) a0 (.int .i64 (.ofNat 0)) a0 v0 (.int .i64 (.ofNat 0)) [] h N))) := rfl

theorem slot2 (h : Tr Ob) (b T k : Nat) (s1 s2 s : Value) (hb : h.get b = some (.c [s1, s2] T)) (hk : k < 2) (hs : nth [s1, s2] k = some s) :
    ∃ i off, iadS 1 (.slice (some ⟨b, 0, none⟩) 2 2) (nS k) = some (.pointer (some ⟨i, off, none⟩)) ∧ ld1 h (.pointer (some ⟨i, off, none⟩)) = some s := by
  refine ⟨b, 0 + k * 1, iadS_p hk, ?_⟩
  rw [ld1_c hb, Nat.zero_add, Nat.mul_one, hs]
theorem sum16 (call : CallF) (L : C5) (a0 s : Value) (n a k : Nat) (h : Tr Ob) (N : Nat) (hk : k < 2) (hp : ∃ i off, iadS 1 a0 (nS k) = some (.pointer (some ⟨i, off, none⟩)) ∧ ld1 h (.pointer (some ⟨i, off, none⟩)) = some s) (hs : lenS s = some (nS n)) (ha : a ≤ 100000) (hn : n ≤ 100000) :
    lp16_1 call L a0 (nS a) a0 (nS 2) (nS k) [] h N = L a0 (nS (a + n)) a0 (nS 2) (nS (k + 1)) [] h N := by
  obtain ⟨i, off, h1, h2⟩ := hp
  unfold lp16_1
  simp only [iop_lss, obind_s, cnd_d]
  rw [if_pos (by omega), h1, obind_s, h2, obind_s, hs, obind_s]
  have a1 : iop .add (nS a) (nS n) = some (nS (a + n)) := by rw [iop_add (by constructor <;> omega)]; rfl
  rw [a1, obind_s, iop_lss, obind_s, jnR_eq, decide_eq_false (by show ¬ (((a + n : Nat) : Int) < 0); omega), cnd_f]
  dsimp only
  rw [add1 (by omega), obind_s]
theorem put16 (L : C4) (a0 s v v' : Value) (k : Nat) (h h' : Tr Ob) (N N' : Nat) (hk : k < 2) (hp : ∃ i off, iadS 1 a0 (nS k) = some (.pointer (some ⟨i, off, none⟩)) ∧ ld1 h (.pointer (some ⟨i, off, none⟩)) = some s) (hs : evAppend Pr 22 v s h N = some (v', h', N')) :
    lp16_0 L v a0 (nS 2) (nS k) [] h N = L v' a0 (nS 2) (nS (k + 1)) [] h' N' := by
  obtain ⟨i, off, h1, h2⟩ := hp
  unfold lp16_0
  simp only [iop_lss, obind_s, cnd_d]
  rw [if_pos (by omega), h1, obind_s, h2, obind_s, hs, orun_s, add1 (by omega), obind_s]
theorem end16 (L : C4) (a0 v : Value) (h : Tr Ob) (N : Nat) : lp16_0 L v a0 (nS 2) (nS 2) [] h N = some (v, h, N) := by
  unfold lp16_0
  simp only [iop_lss, obind_s, cnd_d]
  rw [if_neg (by omega), unmark_nil, obind_s]
theorem concat16 (call : CallF) (s1 s2 : Value) (L1 L2 : List Int) (b T : Nat) (h : Tr Ob) (N : Nat) (hb : h.get b = some (.c [s1, s2] T)) (hbN : b < N) (i1 : Ints h N s1 L1) (i2 : Ints h N s2 L2) (l1 : L1.length < 1000) (l2 : L2.length < 1000) :
    ∃ v i h' N', s16 call (.slice (some ⟨b, 0, none⟩) 2 2) h N = some (v, h', N') ∧ Gr h N h' N' ∧ Own h' 3 v (L1 ++ L2) i ∧ N ≤ i ∧ i < N' := by
  rw [s16_eq]
  have e0 : lenS (.slice (some ⟨b, 0, none⟩) 2 2) = some (nS 2) := rfl
  rw [e0, obind_s, lpR_eq]
  obtain ⟨m, hm⟩ : ∃ m, rounds = m + 3 := ⟨999997, rfl⟩
  generalize hz : (fun (v1 v2 v3 v4 v5 : Value) (d6 : List Nat) (h7 : Tr Ob) (N8 : Nat) => (none : OpR)) = z
  rw [hm, lpN_succ, lpN_succ, lpN_succ]
  have st1 := sum16 call (lp16_1 call (lp16_1 call (lpN z (lp16_1 call) m))) (.slice (some ⟨b, 0, none⟩) 2 2) s1 L1.length 0 0 h N (by omega) (slot2 h b T 0 s1 s2 s1 hb (by omega) rfl) i1.lenS (by omega) (by omega)
  have st2 := sum16 call (lp16_1 call (lpN z (lp16_1 call) m)) (.slice (some ⟨b, 0, none⟩) 2 2) s2 L2.length (0 + L1.length) 1 h N (by omega) (slot2 h b T 1 s1 s2 s2 hb (by omega) rfl) i2.lenS (by omega) (by omega)
  refine Exists.imp (fun v => Exists.imp fun i => Exists.imp fun h' => Exists.imp fun N' => And.imp_left ((st1.trans st2).trans ·)) ?_
  unfold lp16_1
  simp only [iop_lss, obind_s, cnd_d]
  rw [if_neg (by omega), lpR_eq, Nat.zero_add]
  by_cases h0 : L1.length + L2.length = 0
  · have e1 : L1 = [] := List.length_eq_zero_iff.1 (by omega)
    have e2 : L2 = [] := List.length_eq_zero_iff.1 (by omega)
    subst e1; subst e2
    have g0 := grow21_0 call h N
    have g0' : X21 call [.slice none 0 0, nS (([] : List Int).length + ([] : List Int).length)] h N = some (snil, h, N) := g0
    rw [g0', orun_s, hm, lpN_succ, lpN_succ, lpN_succ]
    generalize hz2 : (fun (v1 v2 v3 v4 : Value) (d6 : List Nat) (h7 : Tr Ob) (N8 : Nat) => (none : OpR)) = z2
    have p1 := put16 (lp16_0 (lp16_0 (lpN z2 lp16_0 m))) (.slice (some ⟨b, 0, none⟩) 2 2) s1 snil snil 0 h h N (N + 1) (by omega) (slot2 h b T 0 s1 s2 s1 hb (by omega) rfl) (app_nn i1)
    have p2 := put16 (lp16_0 (lpN z2 lp16_0 m)) (.slice (some ⟨b, 0, none⟩) 2 2) s2 snil snil 1 h h (N + 1) (N + 2) (by omega) (slot2 h b T 1 s1 s2 s2 hb (by omega) rfl) (app_nn (i2.gr ((Gr.refl h N).num (by omega))))
    exact ⟨snil, N, h, N + 2, (p1.trans p2).trans (end16 _ _ _ _ _), (Gr.refl h N).num (by omega), .inl ⟨rfl, rfl⟩, Nat.le_refl _, by omega⟩
  · have g0 := grow21 call (L1.length + L2.length) h N (by omega) (by omega)
    have g0' : X21 call [.slice none 0 0, nS (L1.length + L2.length)] h N = _ := g0
    rw [g0', orun_s, hm, lpN_succ, lpN_succ, lpN_succ]
    generalize hz2 : (fun (v1 v2 v3 v4 : Value) (d6 : List Nat) (h7 : Tr Ob) (N8 : Nat) => (none : OpR)) = z2
    generalize hh : h.set (some (.g (zs_ (L1.length + L2.length)) 3 1)) N = g
    have gN : g.get N = some (.g (zs_ (L1.length + L2.length)) 3 1) := by rw [← hh, Tr.get_same]
    have gr : Gr h N g (N + 1) := by rw [← hh]; exact (Gr.refl h N).set (Nat.le_refl _) (by omega) _
    have gb : g.get b = some (.c [s1, s2] T) := by rw [gr.old b hbN]; exact hb
    have zl := zs_len (L1.length + L2.length)
    have a1 := app_room (n := 0) (c := L1.length + L2.length) gN (i1.gr gr) (by omega)
    rw [Nat.zero_add] at a1
    generalize hh2 : g.set (some (.g (lay (zs_ (L1.length + L2.length)) (L1.map iS) 0) 3 1)) N = g2 at a1
    have g2N : g2.get N = some (.g (lay (zs_ (L1.length + L2.length)) (L1.map iS) 0) 3 1) := by rw [← hh2, Tr.get_same]
    have gr2 : Gr h N g2 (N + 2) := by rw [← hh2]; exact gr.set (Nat.le_refl _) (by omega) _
    have g2b : g2.get b = some (.c [s1, s2] T) := by rw [gr2.old b hbN]; exact hb
    have ll : (lay (zs_ (L1.length + L2.length)) (L1.map iS) 0).length = L1.length + L2.length := by
      rw [lay_eq, Go.Sx.setL_eq _ _ _ (by simp; omega)]; simp; omega
    have a2 := app_room (n := L1.length) (c := 0) (N := N + 2) g2N (i2.gr gr2) (by omega)
    have e2 : lay (lay (zs_ (L1.length + L2.length)) (L1.map iS) 0) (L2.map iS) L1.length = (L1 ++ L2).map iS := by
      have l3 := lay2 (L1.map iS) (L2.map iS) (zs_ (L1.length + L2.length)) (by rw [zl, List.length_map, List.length_map])
      rw [List.length_map] at l3
      rw [List.map_append]
      exact l3
    rw [e2] at a2
    have p1 := put16 (lp16_0 (lp16_0 (lpN z2 lp16_0 m))) (.slice (some ⟨b, 0, none⟩) 2 2) s1 _ _ 0 g g2 (N + 1) (N + 2) (by omega) (slot2 g b T 0 s1 s2 s1 gb (by omega) rfl) a1
    have p2 := put16 (lp16_0 (lpN z2 lp16_0 m)) (.slice (some ⟨b, 0, none⟩) 2 2) s2 _ _ 1 g2 _ (N + 2) (N + 3) (by omega) (slot2 g2 b T 1 s1 s2 s2 g2b (by omega) rfl) a2
    exact ⟨_, N, _, N + 3, (p1.trans p2).trans (end16 _ _ _ _ _), gr2.set (Nat.le_refl _) (by omega) _, .inr (.inr ⟨by rw [List.length_append], by rw [Tr.get_same]⟩), Nat.le_refl _, by omega⟩
end Go.Proofs.Ytnbilohdnopkfaa
end

section
namespace Go.Proofs.Ytnbilohdnopkfaa
open Go.Ev Go.RowKit
set_option linter.unusedVariables false
set_option linter.unusedSimpArgs false
set_option maxRecDepth 100000
set_option maxHeartbeats 4000000
theorem tal1 {h : Tr Ob} {N : Nat} {x : Tx} {i T : Nat} (hx : x.At h N) (hi : i < N) (hg : h.get i = some (.c x.c T)) : Tal h N (.slice (some ⟨i, 0, none⟩) 1 1) [x] :=
  ⟨⟨by simp, _, _, rfl, .inr ⟨i, 0, none, _, rfl, hi, cellsFrom_c hg 0, by simp⟩⟩, fun y hy => by rw [List.mem_singleton.1 hy]; exact hx⟩
theorem tal2 {h : Tr Ob} {N : Nat} {x y : Tx} {i T : Nat} (hx : x.At h N) (hy : y.At h N) (hi : i < N) (hg : h.get i = some (.c (x.c ++ y.c) T)) : Tal h N (.slice (some ⟨i, 0, none⟩) 2 2) [x, y] :=
  ⟨⟨by simp, _, _, rfl, .inr ⟨i, 0, none, _, rfl, hi, cellsFrom_c hg 0, by simp⟩⟩, fun z hz => by
    rcases List.mem_cons.1 hz with e | hz
    · rw [e]; exact hx
    · rw [List.mem_singleton.1 hz]; exact hy⟩
theorem ext0 (a b : Value) : extr 0 (.tuple ⟨[a, b]⟩) = some a := rfl
theorem ext1 (a b : Value) : extr 1 (.tuple ⟨[a, b]⟩) = some b := rfl
def noteE (t : Ta) (k : Int) : Int := if okT t = true then (if okN 1 4 k = true then 0 else 72) else 70
theorem begin12 (x : Tx) (kd : Int) (h : Tr Ob) (N : Nat) (hx : x.At h N) (j : Nat) (hj : j < N) (hjc : h.get j = some (.c [nS 3] 3)) :
    ∃ ws h' N', s12 cT x.v (askV snil kd) (.slice (some ⟨j, 0, none⟩) 1 1) h N = some (.tuple ⟨[.agg ⟨ws⟩, iS (noteE x.t kd)]⟩, h', N') ∧ Gr h N h' N' ∧ ws.length = 5 ∧ allF ws = true := by
  unfold s12
  have c0 : cel x.v = x.c := rfl
  have c1 : cel (askV snil kd) = askC snil kd := rfl
  simp only [fN_eq, c0, c1]
  generalize hh : Tr.set (Tr.set (Tr.set h (some (.c x.c 24)) N) (some (.c (askC snil kd) 46)) N.succ) (some (.c z5 39)) N.succ.succ = g
  have g0 : g.get N = some (.c x.c 24) := by rw [← hh, Tr.get_other _ _ (by omega), Tr.get_other _ _ (by omega), Tr.get_same]
  have g1 : g.get (N + 1) = some (.c (askC snil kd) 46) := by rw [← hh, Tr.get_other _ _ (by omega), Tr.get_same]
  have g2 : g.get (N + 2) = some (.c z5 39) := by rw [← hh, Tr.get_same]
  have gr : Gr h N g (N + 3) := by rw [← hh]; exact (((Gr.refl h N).set (Nat.le_refl _) (by omega : N ≤ N + 1) _).set (by omega) (by omega : N + 1 ≤ N + 2) _).set (by omega) (by omega) _
  rw [ldN_c g0 (by simp), obind_s, tk4]
  have eb : evBuildSlice Pr 42 1 [(0, x.v)] g N.succ.succ.succ = some (.slice (some ⟨N + 3, 0, none⟩) 1 1, g.set (some (.c x.c 24)) (N + 3), N + 4) := by rfl
  rw [eb, orun_s]
  generalize hh3 : g.set (some (.c x.c 24)) (N + 3) = g3
  have k1 : g3.get (N + 1) = some (.c (askC snil kd) 46) := by rw [← hh3, Tr.get_other _ _ (by omega)]; exact g1
  have k2 : g3.get (N + 2) = some (.c z5 39) := by rw [← hh3, Tr.get_other _ _ (by omega)]; exact g2
  have k3 : g3.get (N + 3) = some (.c x.c 24) := by rw [← hh3, Tr.get_same]
  have gr3 : Gr h N g3 (N + 4) := by rw [← hh3]; exact gr.set (by omega) (by omega) _
  rw [fad_p, obind_s, sto_c (v := .slice (some ⟨N + 3, 0, none⟩) 1 1) (m := 1) k1 rfl rfl (by simp), obind_s]
  have l0 : lay (askC snil kd) (cel (.slice (some ⟨N + 3, 0, none⟩) 1 1)) (0 + 0) = askC (.slice (some ⟨N + 3, 0, none⟩) 1 1) kd := rfl
  rw [l0]
  generalize hh4 : g3.set (some (.c (askC (.slice (some ⟨N + 3, 0, none⟩) 1 1) kd) 46)) (N.succ) = g4
  have m1 : g4.get (N + 1) = some (.c (askC (.slice (some ⟨N + 3, 0, none⟩) 1 1) kd) 46) := by rw [← hh4, Tr.get_same]
  have m2 : g4.get (N + 2) = some (.c z5 39) := by rw [← hh4, Tr.get_other _ _ (by omega)]; exact k2
  have m3 : g4.get (N + 3) = some (.c x.c 24) := by rw [← hh4, Tr.get_other _ _ (by omega)]; exact k3
  have gr4 : Gr h N g4 (N + 4) := by rw [← hh4]; exact gr3.set (by omega) (by omega) _
  have a8 : Value.agg ⟨((askC (.slice (some ⟨N + 3, 0, none⟩) 1 1) kd).drop 0).take 8⟩ = askV (.slice (some ⟨N + 3, 0, none⟩) 1 1) kd := rfl
  rw [ldN_c m1 (by simp), obind_s, a8]
  obtain ⟨r, h5, N5, p1, p2, p3⟩ := begin15 (.slice (some ⟨N + 3, 0, none⟩) 1 1) kd [x] (by simp) g4 (N + 4) (tal1 (hx.gr gr4) (by omega) m3) j 3 27 72 (okN 1 4 kd) (by omega) (by rw [gr4.old j hj]; exact hjc) (by omega) rfl
    (fun g M _ => q27 _ kd g M)
  have e1 : ([x].all fun x => okT x.t) = okT x.t := by simp
  rw [e1] at p3
  rw [p1, orun_s]
  have l5 := p2.le
  have m5 : h5.get (N + 2) = some (.c z5 39) := by rw [p2.old (N + 2) (by omega)]; exact m2
  have fin : ∀ e : Int, e ≠ 0 → r = .tuple ⟨[snil, iS e]⟩ → ∃ ws h' N', obind (extr 0 r) (fun v13 => (obind (Ev.extr 1 r) (fun v14 => (obind (Ev.iop .neq v14 (.int .i64 (.ofNat 0))) (fun v15 => (Ev.cnd v15 (obind (Ev.sto 5 (.pointer (some ⟨N.succ.succ, 0, none⟩)) (.agg ⟨z5⟩) h5) (fun h16 => (obind (Ev.ldN 5 h16 (.pointer (some ⟨N.succ.succ, 0, none⟩))) (fun v17 => (some ((.tuple ⟨[v17, v14]⟩), (h16, N5))))))) (obind (Ev.iadS 5 v13 (.int .i64 (.ofNat 0))) (fun v18 => (obind (Ev.ldN 5 h5 v18) (fun v19 => (obind (Ev.sto 5 (.pointer (some ⟨N.succ.succ, 0, none⟩)) v19 h5) (fun h20 => (obind (Ev.ldN 5 h20 (.pointer (some ⟨N.succ.succ, 0, none⟩))) (fun v21 => (some ((.tuple ⟨[v21, (.int .i64 (.ofNat 0))]⟩), (h20, N5))))))))))))))))) = some (.tuple ⟨[.agg ⟨ws⟩, iS e]⟩, h', N') ∧ Gr h N h' N' ∧ ws.length = 5 ∧ allF ws = true := by
    intro e he hr
    rw [hr, ext0, obind_s, ext1, obind_s, iop_neq, obind_s, decide_eq_true (by exact he), cnd_t]
    rw [sto_c (v := .agg ⟨z5⟩) (m := 5) m5 rfl rfl (by simp), obind_s]
    have l1 : lay z5 (cel (.agg ⟨z5⟩)) 0 = z5 := rfl
    rw [l1, ldN_c (T := 39) (xs := z5) (by rw [Tr.get_same]) (by simp), obind_s]
    exact ⟨z5, _, _, rfl, (gr4.trans p2).set (by omega) (Nat.le_refl _) _, rfl, rfl⟩
  unfold noteE
  rcases p3 with ⟨q1, q2⟩ | ⟨q1, q2, q3⟩ | ⟨q1, q2, acc, i, q3, q4, q5⟩
  · rw [q1, if_neg (by simp)]
    exact fin 70 (by decide) q2
  · rw [q1, if_pos rfl, q2, if_neg (by simp)]
    exact fin 72 (by decide) q3
  · rw [q1, if_pos rfl, q2, if_pos rfl, q3, ext0, obind_s, ext1, obind_s, iop_neq, obind_s, decide_eq_false (by simp), cnd_f]
    rcases q4 with ⟨q4, _⟩ | ⟨rfl, cs, q6, q7, q8⟩
    · cases q4
    have hi0 : iadS 5 (.slice (some ⟨i, 0, some 0⟩) 1 0) (.int .i64 (.ofNat 0)) = some (.pointer (some ⟨i, 0, none⟩)) := rfl
    have q6' : cs.length = 5 := q6
    have hsl : iadS 5 (.slice (some ⟨i, 0, some 0⟩) [x].length 0) (.int .i64 (.ofNat 0)) = some (.pointer (some ⟨i, 0, none⟩)) := hi0
    rw [hsl, obind_s, ldN_f (cellsFrom_g q8 0) (by rw [List.drop_zero]; omega), obind_s, List.drop_zero]
    have ct : cs.take 5 = cs := by rw [← q6', List.take_length]
    rw [ct, sto_c (v := .agg ⟨cs⟩) (m := 5) m5 q6' q7 (by simp), obind_s]
    have l1 : lay z5 (cel (.agg ⟨cs⟩)) 0 = cs := by
      show lay z5 cs 0 = cs
      rw [lay_eq, Go.Sx.setL_eq _ _ _ (by simp; omega)]
      simp [q6']
    rw [l1, ldN_c (T := 39) (xs := cs) (by rw [Tr.get_same]) (by omega), obind_s, List.drop_zero, ct]
    exact ⟨cs, _, _, rfl, (gr4.trans p2).set (by omega) (Nat.le_refl _) _, q6', q7⟩
end Go.Proofs.Ytnbilohdnopkfaa
end

section
namespace Go.Proofs.Ytnbilohdnopkfaa
open Go.Ev Go.RowKit
set_option linter.unusedVariables false
set_option linter.unusedSimpArgs false
set_option maxRecDepth 100000
set_option maxHeartbeats 4000000
theorem bs60 {s1 s2 : Value} {p1 p2 : Option Addr} {n1 c1 n2 c2 : Nat} (e1 : s1 = .slice p1 n1 c1) (e2 : s2 = .slice p2 n2 c2) (h : Tr Ob) (N : Nat) :
    evBuildSlice Pr 60 2 [(0, s1), (1, s2)] h N = some (.slice (some ⟨N, 0, none⟩) 2 2, h.set (some (.c [s1, s2] 22)) N, N + 1) := by
  subst e1; subst e2; rfl
theorem own_slice {h : Tr Ob} {el i : Nat} {v : Value} {L : List Int} (o : Own h el v L i) : ∃ p n c, v = .slice p n c := by
  rcases o with ⟨h1, _⟩ | ⟨h1, _⟩ | ⟨h1, _⟩ <;> exact ⟨_, _, _, h1⟩
theorem cel_sl {v : Value} {p : Option Addr} {n c : Nat} (e : v = .slice p n c) : cel v = [v] := by subst e; rfl
theorem all_sl {v : Value} {p : Option Addr} {n c : Nat} (e : v = .slice p n c) : allF (cel v) = true := by subst e; rfl
theorem one_sl {v : Value} {p : Option Addr} {n c : Nat} (e : v = .slice p n c) : v.oneCell' = true := by subst e; rfl
theorem all4 {a b : Int} {s f : Value} (h1 : s.oneCell' = true) (h2 : f.oneCell' = true) : allF [iS a, iS b, s, f] = true := by
  show Bool.rec (motive := fun _ => Bool) false (Bool.rec (motive := fun _ => Bool) false true f.oneCell') s.oneCell' = true
  rw [h1, h2]
/-- A tally whose lists are one's own. -/
structure OwnT (h : Tr Ob) (N N' : Nat) (z : Tx) : Prop where
  own : ∃ i j, Own h 3 z.s z.t.st i ∧ Own h 3 z.f z.t.fo j ∧ i ≠ j ∧ N ≤ i ∧ N ≤ j ∧ i < N' ∧ j < N'
def zT : Ta := ⟨0, 0, [], []⟩
def zX : Tx := ⟨zT, snil, snil⟩
theorem zX_own {h : Tr Ob} {N N' : Nat} (hN : N + 2 ≤ N') : OwnT h N N' zX := ⟨N, N + 1, .inl ⟨rfl, rfl⟩, .inl ⟨rfl, rfl⟩, by omega, by omega, by omega, by omega, by omega⟩
def roomT (a b : Ta) : Prop := a.st.length + b.st.length ≤ 12 ∧ a.fo.length + b.fo.length ≤ 12
instance (a b : Ta) : Decidable (roomT a b) := by unfold roomT; infer_instance
def joinE (a b : Ta) : Int := if (okT a && okT b) = true then (if roomT a b then 0 else 9) else 70
def joinT (a b : Ta) : Ta := if joinE a b = 0 then ⟨a.id, a.house, a.st ++ b.st, a.fo ++ b.fo⟩ else zT
theorem lay4' (a b : Int) (s f : Value) (h1 : s.oneCell' = true) (h2 : f.oneCell' = true) {h : Tr Ob} {j T : Nat} {xs : List Value} (hl : xs.length = 4) (hg : h.get j = some (.c xs T)) :
    sto 4 (.pointer (some ⟨j, 0, none⟩)) (.agg ⟨[iS a, iS b, s, f]⟩) h = some (h.set (some (.c [iS a, iS b, s, f] T)) j) := by
  rw [sto_c (v := .agg ⟨[iS a, iS b, s, f]⟩) (m := 4) hg rfl (all4 h1 h2) (by omega)]
  have e : lay xs (cel (.agg ⟨[iS a, iS b, s, f]⟩)) 0 = [iS a, iS b, s, f] := by
    show lay xs [iS a, iS b, s, f] 0 = _
    rw [lay_eq, Go.Sx.setL_eq _ _ _ (by simp; omega)]
    simp [hl]
  rw [e]
theorem lay4z {h : Tr Ob} {j T : Nat} {xs : List Value} (hl : xs.length = 4) (hg : h.get j = some (.c xs T)) :
    sto 4 (.pointer (some ⟨j, 0, none⟩)) (.agg ⟨z4⟩) h = some (h.set (some (.c z4 T)) j) := lay4' 0 0 snil snil rfl rfl hl hg
theorem join8 (x y : Tx) (h : Tr Ob) (N : Nat) (hx : x.At h N) (hy : y.At h N) :
    ∃ z h' N', s8 cT x.v y.v h N = some (.tuple ⟨[z.v, iS (joinE x.t y.t)]⟩, h', N') ∧ Gr h N h' N' ∧ z.t = joinT x.t y.t ∧ OwnT h' N N' z := by
  unfold s8
  have c0 : cel x.v = x.c := rfl
  have c1 : cel y.v = y.c := rfl
  simp only [fN_eq, c0, c1]
  generalize hh : Tr.set (Tr.set (Tr.set h (some (.c x.c 24)) N) (some (.c y.c 24)) N.succ) (some (.c z4 24)) N.succ.succ = g
  have g0 : g.get N = some (.c x.c 24) := by rw [← hh, Tr.get_other _ _ (by omega), Tr.get_other _ _ (by omega), Tr.get_same]
  have g1 : g.get (N + 1) = some (.c y.c 24) := by rw [← hh, Tr.get_other _ _ (by omega), Tr.get_same]
  have g2 : g.get (N + 2) = some (.c z4 24) := by rw [← hh, Tr.get_same]
  have gr : Gr h N g (N + 3) := by rw [← hh]; exact (((Gr.refl h N).set (Nat.le_refl _) (by omega : N ≤ N + 1) _).set (by omega) (by omega : N + 1 ≤ N + 2) _).set (by omega) (by omega) _
  rw [ldN_c g0 (by simp), obind_s, tk4, ldN_c g1 (by simp), obind_s, tk4]
  have eb : evBuildSlice Pr 42 2 [(0, x.v), (1, y.v)] g N.succ.succ.succ = some (.slice (some ⟨N + 3, 0, none⟩) 2 2, g.set (some (.c (x.c ++ y.c) 24)) (N + 3), N + 4) := by rfl
  rw [eb, orun_s]
  generalize hsl : (Value.slice (some ⟨N + 3, 0, none⟩) 2 2) = sl
  have ea : evBuild Pr 46 [(0, sl)] = some (askV sl 0) := by rw [← hsl]; rfl
  rw [ea, obind_s]
  generalize hh3 : g.set (some (.c (x.c ++ y.c) 24)) (N + 3) = g3
  have k0 : g3.get N = some (.c x.c 24) := by rw [← hh3, Tr.get_other _ _ (by omega)]; exact g0
  have k1 : g3.get (N + 1) = some (.c y.c 24) := by rw [← hh3, Tr.get_other _ _ (by omega)]; exact g1
  have k2 : g3.get (N + 2) = some (.c z4 24) := by rw [← hh3, Tr.get_other _ _ (by omega)]; exact g2
  have k3 : g3.get (N + 3) = some (.c (x.c ++ y.c) 24) := by rw [← hh3, Tr.get_same]
  have gr3 : Gr h N g3 (N + 4) := by rw [← hh3]; exact gr.set (by omega) (by omega) _
  have ec : evBuildSlice Pr 22 1 [(0, (.int .i64 (.ofNat 6)))] g3 (N + 4) = some (.slice (some ⟨N + 4, 0, none⟩) 1 1, g3.set (some (.c [nS 6] 3)) (N + 4), N + 5) := by rfl
  rw [ec, orun_s]
  generalize hh4 : g3.set (some (.c [nS 6] 3)) (N + 4) = g4
  have m0 : g4.get N = some (.c x.c 24) := by rw [← hh4, Tr.get_other _ _ (by omega)]; exact k0
  have m1 : g4.get (N + 1) = some (.c y.c 24) := by rw [← hh4, Tr.get_other _ _ (by omega)]; exact k1
  have m2 : g4.get (N + 2) = some (.c z4 24) := by rw [← hh4, Tr.get_other _ _ (by omega)]; exact k2
  have m3 : g4.get (N + 3) = some (.c (x.c ++ y.c) 24) := by rw [← hh4, Tr.get_other _ _ (by omega)]; exact k3
  have m4 : g4.get (N + 4) = some (.c [nS 6] 3) := by rw [← hh4, Tr.get_same]
  have gr4 : Gr h N g4 (N + 5) := by rw [← hh4]; exact gr3.set (by omega) (by omega) _
  have ht : Tal g4 (N + 5) sl [x, y] := by rw [← hsl]; exact tal2 (hx.gr gr4) (hy.gr gr4) (by omega) m3
  obtain ⟨r, h5, N5, p1, p2, p3⟩ := begin15 sl 0 [x, y] (by simp) g4 (N + 5) ht (N + 4) 6 33 9 (decide (sumS [x, y] ≤ 12 ∧ sumF [x, y] ≤ 12)) (by omega) m4 (by omega) rfl
    (fun g M hg => q33 sl 0 [x, y] (by simp) g M (ht.gr hg))
  have e1 : ([x, y].all fun x => okT x.t) = (okT x.t && okT y.t) := by simp
  have e2 : (sumS [x, y] ≤ 12 ∧ sumF [x, y] ≤ 12) ↔ roomT x.t y.t := by
    show x.t.st.length + (y.t.st.length + 0) ≤ 12 ∧ x.t.fo.length + (y.t.fo.length + 0) ≤ 12 ↔ _
    unfold roomT
    simp
  rw [e1, decide_eq_decide.2 e2] at p3
  rw [p1, orun_s]
  have l5 := p2.le
  have n0 : h5.get N = some (.c x.c 24) := by rw [p2.old N (by omega)]; exact m0
  have n1 : h5.get (N + 1) = some (.c y.c 24) := by rw [p2.old (N + 1) (by omega)]; exact m1
  have n2 : h5.get (N + 2) = some (.c z4 24) := by rw [p2.old (N + 2) (by omega)]; exact m2
  have gr5 := gr4.trans p2
  rcases p3 with ⟨q1, q2⟩ | ⟨q1, q2, q3⟩ | ⟨q1, q2, acc, i, q3, q4, q5⟩
  · have ej : joinE x.t y.t = 70 := by unfold joinE; rw [q1]; rfl
    have et : joinT x.t y.t = zT := by unfold joinT; rw [ej]; rfl
    rw [q2, ext0, obind_s, ext1, obind_s, iop_neq, obind_s, decide_eq_true (by decide), cnd_t, lay4z (by rfl) n2, obind_s, ldN_c (T := 24) (xs := z4) (by rw [Tr.get_same]) (by simp), obind_s]
    rw [ej, et]
    exact ⟨zX, _, _, rfl, gr5.set (by omega) (Nat.le_refl _) _, rfl, zX_own (by omega)⟩
  · have ej : joinE x.t y.t = 9 := by unfold joinE; rw [q1, if_pos rfl, if_neg (of_decide_eq_false q2)]
    have et : joinT x.t y.t = zT := by unfold joinT; rw [ej]; rfl
    rw [q3, ext0, obind_s, ext1, obind_s, iop_neq, obind_s, decide_eq_true (by decide), cnd_t, lay4z (by rfl) n2, obind_s, ldN_c (T := 24) (xs := z4) (by rw [Tr.get_same]) (by simp), obind_s]
    rw [ej, et]
    exact ⟨zX, _, _, rfl, gr5.set (by omega) (Nat.le_refl _) _, rfl, zX_own (by omega)⟩
  · have ej : joinE x.t y.t = 0 := by unfold joinE; rw [q1, if_pos rfl, if_pos (of_decide_eq_true q2)]
    have et : joinT x.t y.t = ⟨x.t.id, x.t.house, x.t.st ++ y.t.st, x.t.fo ++ y.t.fo⟩ := by unfold joinT; rw [ej]; rfl
    obtain ⟨pa, ca, ea, _⟩ := hx.s.at_
    obtain ⟨pb, cb, ebb, _⟩ := hy.s.at_
    obtain ⟨pc, cc, ecc, _⟩ := hx.f.at_
    obtain ⟨pd, cd, edd, _⟩ := hy.f.at_
    rw [q3, ext0, obind_s, ext1, obind_s, iop_neq, obind_s, decide_eq_false (by simp), cnd_f]
    simp only [fad_p, obind_s, Nat.zero_add]
    rw [ld1_c n0, nt2, obind_s, ld1_c n1, nt2, obind_s, bs60 ea ebb, orun_s]
    generalize hh6 : h5.set (some (.c [x.s, y.s] 22)) N5 = g6
    have gr6 : Gr h N g6 (N5 + 1) := by rw [← hh6]; exact gr5.set (by omega) (by omega) _
    have w0 : g6.get N = some (.c x.c 24) := by rw [← hh6, Tr.get_other _ _ (by omega)]; exact n0
    have w1 : g6.get (N + 1) = some (.c y.c 24) := by rw [← hh6, Tr.get_other _ _ (by omega)]; exact n1
    have w2 : g6.get (N + 2) = some (.c z4 24) := by rw [← hh6, Tr.get_other _ _ (by omega)]; exact n2
    obtain ⟨v, i1, h7, N7, r1, r2, r3, r4, r5⟩ := concat16 cT x.s y.s x.t.st y.t.st N5 22 g6 (N5 + 1) (by rw [← hh6, Tr.get_same]) (by omega) (hx.s.gr gr6) (hy.s.gr gr6) hx.ls hy.ls
    rw [r1, orun_s]
    obtain ⟨pv, nv, cv, ev⟩ := own_slice r3
    have u0 : h7.get N = some (.c x.c 24) := by rw [r2.old N (by omega)]; exact w0
    have u1 : h7.get (N + 1) = some (.c y.c 24) := by rw [r2.old (N + 1) (by omega)]; exact w1
    have u2 : h7.get (N + 2) = some (.c z4 24) := by rw [r2.old (N + 2) (by omega)]; exact w2
    have l7 := r2.le
    rw [sto_c (v := v) (m := 1) u0 (by rw [cel_sl ev]; rfl) (all_sl ev) (by simp), obind_s]
    have la : lay x.c (cel v) 2 = [iS x.t.id, iS x.t.house, v, x.f] := by rw [cel_sl ev]; rfl
    rw [la]
    generalize hh8 : h7.set (some (.c [iS x.t.id, iS x.t.house, v, x.f] 24)) N = g8
    have gr8 : Gr h N g8 N7 := by rw [← hh8]; exact (gr6.trans r2).set (Nat.le_refl _) (Nat.le_refl _) _
    have v0 : g8.get N = some (.c [iS x.t.id, iS x.t.house, v, x.f] 24) := by rw [← hh8, Tr.get_same]
    have v1 : g8.get (N + 1) = some (.c y.c 24) := by rw [← hh8, Tr.get_other _ _ (by omega)]; exact u1
    have v2 : g8.get (N + 2) = some (.c z4 24) := by rw [← hh8, Tr.get_other _ _ (by omega)]; exact u2
    rw [ld1_c v0, nt3, obind_s, ld1_c v1, nt3, obind_s, bs60 ecc edd, orun_s]
    generalize hh9 : g8.set (some (.c [x.f, y.f] 22)) N7 = g9
    have gr9 : Gr h N g9 (N7 + 1) := by rw [← hh9]; exact gr8.set (by omega) (by omega) _
    have x0 : g9.get N = some (.c [iS x.t.id, iS x.t.house, v, x.f] 24) := by rw [← hh9, Tr.get_other _ _ (by omega)]; exact v0
    have x2 : g9.get (N + 2) = some (.c z4 24) := by rw [← hh9, Tr.get_other _ _ (by omega)]; exact v2
    obtain ⟨v', j1, h10, N10, t1, t2, t3, t4, t5⟩ := concat16 cT x.f y.f x.t.fo y.t.fo N7 22 g9 (N7 + 1) (by rw [← hh9, Tr.get_same]) (by omega) (hx.f.gr gr9) (hy.f.gr gr9) hx.lf hy.lf
    rw [t1, orun_s]
    obtain ⟨pw, nw, cw, ew⟩ := own_slice t3
    have y0 : h10.get N = some (.c [iS x.t.id, iS x.t.house, v, x.f] 24) := by rw [t2.old N (by omega)]; exact x0
    have y2 : h10.get (N + 2) = some (.c z4 24) := by rw [t2.old (N + 2) (by omega)]; exact x2
    have l10 := t2.le
    rw [sto_c (v := v') (m := 1) y0 (by rw [cel_sl ew]; rfl) (all_sl ew) (by simp), obind_s]
    have lb : lay [iS x.t.id, iS x.t.house, v, x.f] (cel v') 3 = [iS x.t.id, iS x.t.house, v, v'] := by rw [cel_sl ew]; rfl
    rw [lb, ldN_c (T := 24) (xs := [iS x.t.id, iS x.t.house, v, v']) (by rw [Tr.get_same]) (by simp), obind_s, tk4]
    rw [lay4' x.t.id x.t.house v v' (one_sl ev) (one_sl ew) (xs := z4) (T := 24) (j := N + 2) (by rfl) (by rw [Tr.get_other _ _ (by omega)]; exact y2), obind_s]
    rw [ldN_c (T := 24) (xs := [iS x.t.id, iS x.t.house, v, v']) (by rw [Tr.get_same]) (by simp), obind_s, tk4, ej, et]
    refine ⟨⟨⟨x.t.id, x.t.house, x.t.st ++ y.t.st, x.t.fo ++ y.t.fo⟩, v, v'⟩, _, _, rfl, ((gr9.trans t2).set (Nat.le_refl _) (Nat.le_refl _) _).set (by omega) (Nat.le_refl _) _, rfl, ⟨i1, j1, ?_, ?_, by omega, by omega, by omega, by omega, by omega⟩⟩
    · refine r3.keep ?_
      rw [Tr.get_other _ _ (by omega), Tr.get_other _ _ (by omega), t2.old i1 (by omega), ← hh9, Tr.get_other _ _ (by omega), ← hh8, Tr.get_other _ _ (by omega)]
    · refine t3.keep ?_
      rw [Tr.get_other _ _ (by omega), Tr.get_other _ _ (by omega)]
end Go.Proofs.Ytnbilohdnopkfaa
end

section
namespace Go.Proofs.Ytnbilohdnopkfaa
open Go.Ev Go.RowKit
set_option linter.unusedVariables false
set_option linter.unusedSimpArgs false
set_option maxRecDepth 100000
set_option maxHeartbeats 4000000
def notT (t : Ta) (k : Int) : Ta := ⟨t.id, t.house, [k], [k]⟩
def notchE (t : Ta) (k : Int) : Int := if noteE t k = 0 then joinE t (notT t k) else noteE t k
def notchT (t : Ta) (k : Int) : Ta := if noteE t k = 0 then joinT t (notT t k) else zT
theorem OwnT.keep {h h' : Tr Ob} {M N M' N' : Nat} {z : Tx} (o : OwnT h M M' z) (h1 : N ≤ M) (h2 : M' ≤ N') (hk : ∀ j, M ≤ j → j < M' → h'.get j = h.get j) : OwnT h' N N' z := by
  obtain ⟨i, j, a, b, c, d, e, f, g⟩ := o.own
  exact ⟨i, j, a.keep (hk i d f), b.keep (hk j e g), c, by omega, by omega, by omega, by omega⟩
theorem OwnT.sl {h : Tr Ob} {N N' : Nat} {z : Tx} (o : OwnT h N N' z) : (∃ p n c, z.s = .slice p n c) ∧ ∃ p n c, z.f = .slice p n c := by
  obtain ⟨i, j, a, b, _⟩ := o.own
  exact ⟨own_slice a, own_slice b⟩
theorem OwnT.at_ {h : Tr Ob} {N N' : Nat} {z : Tx} (o : OwnT h N N' z) (h1 : z.t.st.length < 1000) (h2 : z.t.fo.length < 1000) : z.At h N' := by
  obtain ⟨i, j, a, b, c, d, e, f, g⟩ := o.own
  exact ⟨a.ints f, b.ints g, h1, h2⟩
theorem int1 {h : Tr Ob} {k : Int} {i N : Nat} (hi : i < N) (hg : h.get i = some (.c [iS k] 3)) : Ints h N (.slice (some ⟨i, 0, none⟩) 1 1) [k] :=
  ⟨rfl, _, _, rfl, .inr ⟨i, 0, none, _, rfl, hi, cellsFrom_c hg 0, rfl⟩⟩
theorem bs22 (k : Int) (h : Tr Ob) (N : Nat) : evBuildSlice Pr 22 1 [(0, iS k)] h N = some (.slice (some ⟨N, 0, none⟩) 1 1, h.set (some (.c [iS k] 3)) N, N + 1) := by rfl
theorem notch6 (x : Tx) (k : Int) (h : Tr Ob) (N : Nat) (hx : x.At h N) :
    ∃ z h' N', s6 cT x.v (iS k) h N = some (.tuple ⟨[z.v, iS (notchE x.t k)]⟩, h', N') ∧ Gr h N h' N' ∧ z.t = notchT x.t k ∧ OwnT h' N N' z := by
  unfold s6
  have c0 : cel x.v = x.c := rfl
  simp only [fN_eq, c0]
  generalize hh : Tr.set (Tr.set h (some (.c x.c 24)) N) (some (.c z4 24)) N.succ = g
  have g0 : g.get N = some (.c x.c 24) := by rw [← hh, Tr.get_other _ _ (by omega), Tr.get_same]
  have g1 : g.get (N + 1) = some (.c z4 24) := by rw [← hh, Tr.get_same]
  have gr : Gr h N g (N + 2) := by rw [← hh]; exact ((Gr.refl h N).set (Nat.le_refl _) (by omega : N ≤ N + 1) _).set (by omega) (by omega) _
  rw [ldN_c g0 (by simp), obind_s, tk4]
  have ea : evBuild Pr 46 [(1, iS k)] = some (askV snil k) := by rfl
  rw [ea, obind_s]
  have ec : evBuildSlice Pr 22 1 [(0, (.int .i64 (.ofNat 3)))] g (N + 2) = some (.slice (some ⟨N + 2, 0, none⟩) 1 1, g.set (some (.c [nS 3] 3)) (N + 2), N + 3) := by rfl
  rw [show N.succ.succ = N + 2 from rfl, ec, orun_s]
  generalize hh2 : g.set (some (.c [nS 3] 3)) (N + 2) = g2
  have k0 : g2.get N = some (.c x.c 24) := by rw [← hh2, Tr.get_other _ _ (by omega)]; exact g0
  have k1 : g2.get (N + 1) = some (.c z4 24) := by rw [← hh2, Tr.get_other _ _ (by omega)]; exact g1
  have k2 : g2.get (N + 2) = some (.c [nS 3] 3) := by rw [← hh2, Tr.get_same]
  have gr2 : Gr h N g2 (N + 3) := by rw [← hh2]; exact gr.set (by omega) (by omega) _
  obtain ⟨ws, h3, N3, p1, p2, p3, p4⟩ := begin12 x k g2 (N + 3) (hx.gr gr2) (N + 2) (by omega) k2
  rw [p1, orun_s, ext0, obind_s, ext1, obind_s]
  have l3 := p2.le
  have m0 : h3.get N = some (.c x.c 24) := by rw [p2.old N (by omega)]; exact k0
  have m1 : h3.get (N + 1) = some (.c z4 24) := by rw [p2.old (N + 1) (by omega)]; exact k1
  have gr3 := gr2.trans p2
  rw [sto_c (T := 39) (xs := z5) (v := .agg ⟨ws⟩) (m := 5) (by rw [Tr.get_same]) p3 p4 (by simp), obind_s]
  generalize hh4 : (Tr.set h3 (some (.c z5 39)) N3).set (some (.c (lay z5 (cel (.agg ⟨ws⟩)) 0) 39)) N3 = g4
  have n0 : g4.get N = some (.c x.c 24) := by rw [← hh4, Tr.get_other _ _ (by omega), Tr.get_other _ _ (by omega)]; exact m0
  have n1 : g4.get (N + 1) = some (.c z4 24) := by rw [← hh4, Tr.get_other _ _ (by omega), Tr.get_other _ _ (by omega)]; exact m1
  have gr4 : Gr h N g4 (N3 + 1) := by rw [← hh4]; exact (gr3.set (by omega) (by omega : N3 ≤ N3 + 1) _).set (by omega) (Nat.le_refl _) _
  rw [iop_neq, obind_s, cnd_d]
  unfold notchE notchT
  by_cases he : noteE x.t k = 0
  · rw [if_neg (by simpa using he), if_pos he, if_pos he, ldN_c n0 (by simp), obind_s, tk4, lay4 x hx, obind_s]
    rw [show N3.succ = N3 + 1 from rfl]
    generalize hh5 : (Tr.set g4 (some (.c z4 24)) (N3 + 1)).set (some (.c x.c 24)) (N3 + 1) = g5
    have q0 : g5.get N = some (.c x.c 24) := by rw [← hh5, Tr.get_other _ _ (by omega), Tr.get_other _ _ (by omega)]; exact n0
    have q1 : g5.get (N + 1) = some (.c z4 24) := by rw [← hh5, Tr.get_other _ _ (by omega), Tr.get_other _ _ (by omega)]; exact n1
    have q2 : g5.get (N3 + 1) = some (.c x.c 24) := by rw [← hh5, Tr.get_same]
    have gr5 : Gr h N g5 (N3 + 2) := by rw [← hh5]; exact (gr4.set (by omega) (by omega : N3 + 1 ≤ N3 + 2) _).set (by omega) (Nat.le_refl _) _
    rw [show (N3 + 1).succ = N3 + 2 from rfl, bs22, orun_s, bs22, orun_s]
    generalize hh6 : (g5.set (some (.c [iS k] 3)) (N3 + 2)).set (some (.c [iS k] 3)) (N3 + 2 + 1) = g6
    have r0 : g6.get N = some (.c x.c 24) := by rw [← hh6, Tr.get_other _ _ (by omega), Tr.get_other _ _ (by omega)]; exact q0
    have r1 : g6.get (N + 1) = some (.c z4 24) := by rw [← hh6, Tr.get_other _ _ (by omega), Tr.get_other _ _ (by omega)]; exact q1
    have r2 : g6.get (N3 + 1) = some (.c x.c 24) := by rw [← hh6, Tr.get_other _ _ (by omega), Tr.get_other _ _ (by omega)]; exact q2
    have r3 : g6.get (N3 + 2) = some (.c [iS k] 3) := by rw [← hh6, Tr.get_other _ _ (by omega), Tr.get_same]
    have r4 : g6.get (N3 + 3) = some (.c [iS k] 3) := by rw [← hh6, Tr.get_same]
    have gr6 : Gr h N g6 (N3 + 4) := by rw [← hh6]; exact (gr5.set (by omega) (by omega : N3 + 2 ≤ N3 + 3) _).set (by omega) (by omega) _
    rw [fad_p, obind_s, sto_c (v := .slice (some ⟨N3 + 2, 0, none⟩) 1 1) (m := 1) r2 rfl rfl (by simp), obind_s]
    have la : lay x.c (cel (.slice (some ⟨N3 + 2, 0, none⟩) 1 1)) (0 + 2) = [iS x.t.id, iS x.t.house, .slice (some ⟨N3 + 2, 0, none⟩) 1 1, x.f] := rfl
    rw [la, fad_p, obind_s, sto_c (T := 24) (xs := [iS x.t.id, iS x.t.house, .slice (some ⟨N3 + 2, 0, none⟩) 1 1, x.f]) (v := .slice (some ⟨N3 + 2 + 1, 0, none⟩) 1 1) (m := 1) (by rw [Tr.get_same]) rfl rfl (by simp), obind_s]
    have lb : lay [iS x.t.id, iS x.t.house, .slice (some ⟨N3 + 2, 0, none⟩) 1 1, x.f] (cel (.slice (some ⟨N3 + 2 + 1, 0, none⟩) 1 1)) (0 + 3) = [iS x.t.id, iS x.t.house, .slice (some ⟨N3 + 2, 0, none⟩) 1 1, .slice (some ⟨N3 + 3, 0, none⟩) 1 1] := rfl
    rw [lb]
    generalize hh7 : (g6.set (some (.c [iS x.t.id, iS x.t.house, .slice (some ⟨N3 + 2, 0, none⟩) 1 1, x.f] 24)) (N3 + 1)).set (some (.c [iS x.t.id, iS x.t.house, .slice (some ⟨N3 + 2, 0, none⟩) 1 1, .slice (some ⟨N3 + 3, 0, none⟩) 1 1] 24)) (N3 + 1) = g7
    have s0 : g7.get N = some (.c x.c 24) := by rw [← hh7, Tr.get_other _ _ (by omega), Tr.get_other _ _ (by omega)]; exact r0
    have s1 : g7.get (N + 1) = some (.c z4 24) := by rw [← hh7, Tr.get_other _ _ (by omega), Tr.get_other _ _ (by omega)]; exact r1
    have s2 : g7.get (N3 + 1) = some (.c [iS x.t.id, iS x.t.house, .slice (some ⟨N3 + 2, 0, none⟩) 1 1, .slice (some ⟨N3 + 3, 0, none⟩) 1 1] 24) := by rw [← hh7, Tr.get_same]
    have s3 : g7.get (N3 + 2) = some (.c [iS k] 3) := by rw [← hh7, Tr.get_other _ _ (by omega), Tr.get_other _ _ (by omega)]; exact r3
    have s4 : g7.get (N3 + 3) = some (.c [iS k] 3) := by rw [← hh7, Tr.get_other _ _ (by omega), Tr.get_other _ _ (by omega)]; exact r4
    have gr7 : Gr h N g7 (N3 + 4) := by rw [← hh7]; exact (gr6.set (by omega) (Nat.le_refl _) _).set (by omega) (Nat.le_refl _) _
    rw [ldN_c s0 (by simp), obind_s, tk4, ldN_c s2 (by simp), obind_s, tk4]
    have hy : (⟨notT x.t k, .slice (some ⟨N3 + 2, 0, none⟩) 1 1, .slice (some ⟨N3 + 3, 0, none⟩) 1 1⟩ : Tx).At g7 (N3 + 4) :=
      ⟨int1 (by omega) s3, int1 (by omega) s4, by show 1 < 1000; omega, by show 1 < 1000; omega⟩
    obtain ⟨z, h8, N8, t1, t2, t3, t4⟩ := join8 x ⟨notT x.t k, .slice (some ⟨N3 + 2, 0, none⟩) 1 1, .slice (some ⟨N3 + 3, 0, none⟩) 1 1⟩ g7 (N3 + 4) (hx.gr gr7) hy
    have t1' : s8 cT (.agg ⟨[iS x.t.id, iS x.t.house, x.s, x.f]⟩) (.agg ⟨[iS x.t.id, iS x.t.house, .slice (some ⟨N3 + 2, 0, none⟩) 1 1, .slice (some ⟨N3 + 3, 0, none⟩) 1 1]⟩) g7 (N3 + 2 + 1 + 1) = some (.tuple ⟨[z.v, iS (joinE x.t (notT x.t k))]⟩, h8, N8) := t1
    obtain ⟨⟨pv, nv, cv, ev⟩, ⟨pw, nw, cw, ew⟩⟩ := t4.sl
    have l8 := t2.le
    rw [t1', orun_s, ext0, obind_s, ext1, obind_s]
    rw [lay4' z.t.id z.t.house z.s z.f (one_sl ev) (one_sl ew) (xs := z4) (T := 24) (by rfl) (by rw [t2.old (N + 1) (by omega)]; exact s1), obind_s]
    rw [ldN_c (T := 24) (xs := z.c) (by rw [Tr.get_same]) (by simp), obind_s, tk4]
    exact ⟨z, _, _, rfl, (gr7.trans t2).set (by omega) (Nat.le_refl _) _, t3, t4.keep (by omega) (Nat.le_refl _) fun j hj _ => Tr.get_other _ _ (by omega)⟩
  · rw [if_pos (show noteE x.t k ≠ Int.ofNat 0 from he), if_neg he, if_neg he, lay4z (by rfl) n1, obind_s, ldN_c (T := 24) (xs := z4) (by rw [Tr.get_same]) (by simp), obind_s]
    exact ⟨zX, _, _, rfl, gr4.set (by omega) (Nat.le_refl _) _, rfl, zX_own (by omega)⟩
end Go.Proofs.Ytnbilohdnopkfaa
end

section
namespace Go.Proofs.Ytnbilohdnopkfaa
open Go.Ev Go.RowKit
set_option linter.unusedVariables false
set_option linter.unusedSimpArgs false
set_option maxRecDepth 100000
set_option maxHeartbeats 4000000
theorem againE (a b : Nat) (g : Tr Ob) (N0 : Nat) (hg : g.get N0 = some (.c [] 3)) : Ev.again Pr g (.mk a (.mk (some b) (.buildSlice 22 0 ⟨[]⟩) 22 "ref.go:492" ⟨[]⟩ none) (.e 32) (.slice (some ⟨N0, 0, none⟩) 0 0) N0 true) = true := by
  have e : evPas Pr (.mk (some b) (.buildSlice 22 0 ⟨[]⟩) 22 "ref.go:492" ⟨[]⟩ none) (.e 32) g N0 = some (.slice (some ⟨N0, 0, none⟩) 0 0, some (.c [] 3)) := by
    show newOf N0 (some (.slice (some ⟨N0, 0, none⟩) 0 0, g.set (some (.c [] 3)) N0, Nat.succ N0)) = _
    unfold newOf
    rw [obind_s, Tr.get_same]
  unfold Ev.again
  rw [e]
  show band (valEq 3 (.slice (some ⟨N0, 0, none⟩) 0 0) (.slice (some ⟨N0, 0, none⟩) 0 0)) (band true (obEq (g.get N0) (.c [] 3))) = true
  rw [hg, valEq_sl 2]
  rfl
theorem bs0 (h : Tr Ob) (N : Nat) : evBuildSlice Pr 22 0 [] h N = some (.slice (some ⟨N, 0, none⟩) 0 0, h.set (some (.c [] 3)) N, N + 1) := by rfl
theorem ag_sl {h : Tr Ob} {i off T : Nat} {xs : List Value} {s : Value} {p : Option Addr} {n c : Nat} (e : s = .slice p n c) (hg : h.get i = some (.c xs T)) (hn : nth xs off = some s) : agL1 h (.pointer (some ⟨i, off, none⟩)) s = true :=
  agL1_c hg hn (by rw [e]; exact valEq_sl 2 _ _ _)
theorem sto1 {h : Tr Ob} {i off T : Nat} {xs : List Value} {v : Value} {p : Option Addr} {n c : Nat} (e : v = .slice p n c) (hg : h.get i = some (.c xs T)) (hl : off + 1 ≤ xs.length) :
    sto 1 (.pointer (some ⟨i, off, none⟩)) v h = some (h.set (some (.c (lay xs [v] off) T)) i) := by
  rw [sto_c (v := v) (m := 1) hg (by rw [cel_sl e]; rfl) (all_sl e) hl, cel_sl e]
theorem twin5 (call : CallF) (x : Tx) (h : Tr Ob) (N : Nat) (hx : x.At h N) :
    ∃ z h' N', s5 call x.v h N = some (z.v, h', N') ∧ Gr h N h' N' ∧ z.t = x.t ∧ OwnT h' N N' z := by
  obtain ⟨pa, ca, ea, _⟩ := hx.s.at_
  obtain ⟨pb, cb, eb, _⟩ := hx.f.at_
  unfold s5
  have c0 : cel x.v = x.c := rfl
  simp only [fN_eq, c0]
  generalize hh : Tr.set (Tr.set h (some (.c x.c 24)) N) (some (.c z4 24)) N.succ = g
  have g0 : g.get N = some (.c x.c 24) := by rw [← hh, Tr.get_other _ _ (by omega), Tr.get_same]
  have g1 : g.get (N + 1) = some (.c z4 24) := by rw [← hh, Tr.get_same]
  have gr : Gr h N g (N + 2) := by rw [← hh]; exact ((Gr.refl h N).set (Nat.le_refl _) (by omega : N ≤ N + 1) _).set (by omega) (by omega) _
  rw [show N.succ.succ = N + 2 from rfl, bs0, orun_s]
  simp only [fad_p, obind_s, Nat.zero_add]
  generalize hh2 : g.set (some (.c [] 3)) (N + 2) = g2
  have k0 : g2.get N = some (.c x.c 24) := by rw [← hh2, Tr.get_other _ _ (by omega)]; exact g0
  have k1 : g2.get (N + 1) = some (.c z4 24) := by rw [← hh2, Tr.get_other _ _ (by omega)]; exact g1
  have k2 : g2.get (N + 2) = some (.c [] 3) := by rw [← hh2, Tr.get_same]
  have gr2 : Gr h N g2 (N + 3) := by rw [← hh2]; exact gr.set (by omega) (by omega) _
  rw [ld1_c k0, nt2, obind_s, show N + 2 + 1 = N + 3 from rfl, bs0, orun_s]
  generalize hh3 : g2.set (some (.c [] 3)) (N + 3) = g3
  have m0 : g3.get N = some (.c x.c 24) := by rw [← hh3, Tr.get_other _ _ (by omega)]; exact k0
  have m1 : g3.get (N + 1) = some (.c z4 24) := by rw [← hh3, Tr.get_other _ _ (by omega)]; exact k1
  have m2 : g3.get (N + 2) = some (.c [] 3) := by rw [← hh3, Tr.get_other _ _ (by omega)]; exact k2
  have m3 : g3.get (N + 3) = some (.c [] 3) := by rw [← hh3, Tr.get_same]
  have gr3 : Gr h N g3 (N + 4) := by rw [← hh3]; exact gr2.set (by omega) (by omega) _
  rw [ld1_c m0, nt3, obind_s, ag_sl eb m0 (nt3 _ _ _ _), ocond_t, againE _ _ _ _ m3, ocond_t, ag_sl ea m0 (nt2 _ _ _ _), ocond_t, againE _ _ _ _ m2, ocond_t]
  have o1 : Own g3 3 (.slice (some ⟨N + 2, 0, none⟩) 0 0) [] (N + 2) := .inr (.inl ⟨rfl, rfl, m2⟩)
  obtain ⟨v, i, h4, N4, p1, p2, p3, p4, p5, p6⟩ := app_own (N := N + 4) appT22 o1 (by omega) (hx.s.gr gr3) (by have := hx.ls; simp; omega)
  rw [show N + 3 + 1 = N + 4 from rfl, p1, orun_s]
  rw [List.nil_append] at p2
  have n0 : h4.get N = some (.c x.c 24) := by rw [p6 N (by omega) (by omega)]; exact m0
  have n1 : h4.get (N + 1) = some (.c z4 24) := by rw [p6 (N + 1) (by omega) (by omega)]; exact m1
  have n3 : h4.get (N + 3) = some (.c [] 3) := by rw [p6 (N + 3) (by omega) (by omega)]; exact m3
  have gr4 : Gr h N h4 N4 := ⟨by omega, fun j hj => by rw [p6 j (by omega) (by omega), gr3.old j hj]⟩
  rw [ag_sl eb n0 (nt3 _ _ _ _), ocond_t, againE _ _ _ _ n3, ocond_t]
  have o2 : Own h4 3 (.slice (some ⟨N + 3, 0, none⟩) 0 0) [] (N + 3) := .inr (.inl ⟨rfl, rfl, n3⟩)
  obtain ⟨w, j, h5, N5, q1, q2, q3, q4, q5, q6⟩ := app_own (N := N4) appT22 o2 (by omega) (hx.f.gr gr4) (by have := hx.lf; simp; omega)
  rw [q1, orun_s]
  rw [List.nil_append] at q2
  have r0 : h5.get N = some (.c x.c 24) := by rw [q6 N (by omega) (by omega)]; exact n0
  have r1 : h5.get (N + 1) = some (.c z4 24) := by rw [q6 (N + 1) (by omega) (by omega)]; exact n1
  have gr5 : Gr h N h5 N5 := ⟨by omega, fun k hk => by rw [q6 k (by omega) (by omega), gr4.old k hk]⟩
  obtain ⟨pv, nv, cv, ev⟩ := own_slice p2
  obtain ⟨pw, nw, cw, ew⟩ := own_slice q2
  rw [sto1 ev r0 (by simp), obind_s]
  have la : lay x.c [v] 2 = [iS x.t.id, iS x.t.house, v, x.f] := rfl
  rw [la, sto1 (xs := [iS x.t.id, iS x.t.house, v, x.f]) (T := 24) ew (by rw [Tr.get_same]) (by simp), obind_s]
  have lb : lay [iS x.t.id, iS x.t.house, v, x.f] [w] 3 = [iS x.t.id, iS x.t.house, v, w] := rfl
  rw [lb, ldN_c (T := 24) (xs := [iS x.t.id, iS x.t.house, v, w]) (by rw [Tr.get_same]) (by simp), obind_s, tk4]
  rw [lay4' x.t.id x.t.house v w (one_sl ev) (one_sl ew) (xs := z4) (T := 24) (j := N + 1) (by rfl) (by rw [Tr.get_other _ _ (by omega), Tr.get_other _ _ (by omega)]; exact r1), obind_s]
  rw [ldN_c (T := 24) (xs := [iS x.t.id, iS x.t.house, v, w]) (by rw [Tr.get_same]) (by simp), obind_s, tk4]
  refine ⟨⟨x.t, v, w⟩, _, _, rfl, (((gr5.set (Nat.le_refl _) (Nat.le_refl _) _).set (Nat.le_refl _) (Nat.le_refl _) _).set (by omega) (Nat.le_refl _) _), rfl, ⟨i, j, ?_, ?_, by omega, by omega, by omega, by omega, by omega⟩⟩
  · refine p2.keep ?_
    rw [Tr.get_other _ _ (by omega), Tr.get_other _ _ (by omega), Tr.get_other _ _ (by omega), q6 i (by omega) (by omega)]
  · refine q2.keep ?_
    rw [Tr.get_other _ _ (by omega), Tr.get_other _ _ (by omega), Tr.get_other _ _ (by omega)]
end Go.Proofs.Ytnbilohdnopkfaa
end

section
namespace Go.Proofs.Ytnbilohdnopkfaa
open Go.Ev Go.RowKit
set_option linter.unusedVariables false
set_option linter.unusedSimpArgs false
set_option maxRecDepth 100000
set_option maxHeartbeats 4000000
theorem again35 (k : Int) (g : Tr Ob) (N0 : Nat) (hg : g.get N0 = some (.c [iS k] 3)) : Ev.again Pr g (.mk 8 (.mk (some 36) (.buildSlice 22 1 ⟨[(0, (.tmp 35))]⟩) 22 "ref.go:322" ⟨[(.mk 7 .data)]⟩ none) (Tr.set (.e 32) (some (iS k)) 35) (.slice (some ⟨N0, 0, none⟩) 1 1) N0 true) = true := by
  have e : evPas Pr (.mk (some 36) (.buildSlice 22 1 ⟨[(0, (.tmp 35))]⟩) 22 "ref.go:322" ⟨[(.mk 7 .data)]⟩ none) (Tr.set (.e 32) (some (iS k)) 35) g N0 = some (.slice (some ⟨N0, 0, none⟩) 1 1, some (.c [iS k] 3)) := by
    show newOf N0 (some (.slice (some ⟨N0, 0, none⟩) 1 1, g.set (some (.c [iS k] 3)) N0, Nat.succ N0)) = _
    unfold newOf
    rw [obind_s, Tr.get_same]
  unfold Ev.again
  rw [e]
  show band (valEq 3 (.slice (some ⟨N0, 0, none⟩) 1 1) (.slice (some ⟨N0, 0, none⟩) 1 1)) (band true (obEq (g.get N0) (.c [iS k] 3))) = true
  rw [hg, valEq_sl 2]
  show band (Nat.beq 3 3) (band (valEq 3 (iS k) (iS k)) true) = true
  rw [valEq_int 2]
  rfl
theorem again30 (k : Int) (g : Tr Ob) (N0 : Nat) (hg : g.get N0 = some (.c [iS k] 3)) : Ev.again Pr g (.mk 3 (.mk (some 31) (.buildSlice 22 1 ⟨[(0, (.tmp 30))]⟩) 22 "ref.go:322" ⟨[(.mk 2 .data)]⟩ none) (Tr.set (.e 32) (some (iS k)) 30) (.slice (some ⟨N0, 0, none⟩) 1 1) N0 true) = true := by
  have e : evPas Pr (.mk (some 31) (.buildSlice 22 1 ⟨[(0, (.tmp 30))]⟩) 22 "ref.go:322" ⟨[(.mk 2 .data)]⟩ none) (Tr.set (.e 32) (some (iS k)) 30) g N0 = some (.slice (some ⟨N0, 0, none⟩) 1 1, some (.c [iS k] 3)) := by
    show newOf N0 (some (.slice (some ⟨N0, 0, none⟩) 1 1, g.set (some (.c [iS k] 3)) N0, Nat.succ N0)) = _
    unfold newOf
    rw [obind_s, Tr.get_same]
  unfold Ev.again
  rw [e]
  show band (valEq 3 (.slice (some ⟨N0, 0, none⟩) 1 1) (.slice (some ⟨N0, 0, none⟩) 1 1)) (band true (obEq (g.get N0) (.c [iS k] 3))) = true
  rw [hg, valEq_sl 2]
  show band (Nat.beq 3 3) (band (valEq 3 (iS k) (iS k)) true) = true
  rw [valEq_int 2]
  rfl
def fullT (t : Ta) : Bool := decide (t.st.length = 12) || decide (t.fo.length = 12)
def rnotchE (t : Ta) (k : Int) : Int := if okT t = true then (if okN 1 4 k = true then (if fullT t = true then 9 else 0) else 72) else 70
def rnotchT (t : Ta) (k : Int) : Ta := if rnotchE t k = 0 then ⟨t.id, t.house, t.st ++ [k], t.fo ++ [k]⟩ else zT
theorem rnotch7 (call : CallF) (x : Tx) (k : Int) (h : Tr Ob) (N : Nat) (hx : x.At h N) :
    ∃ z h' N', s7 call x.v (iS k) h N = some (.tuple ⟨[z.v, iS (rnotchE x.t k)]⟩, h', N') ∧ Gr h N h' N' ∧ z.t = rnotchT x.t k ∧ OwnT h' N N' z := by
  unfold s7
  have c0 : cel x.v = x.c := rfl
  simp only [fN_eq, c0]
  generalize hh : Tr.set (Tr.set h (some (.c x.c 24)) N) (some (.c z4 24)) N.succ = g
  have g0 : g.get N = some (.c x.c 24) := by rw [← hh, Tr.get_other _ _ (by omega), Tr.get_same]
  have g1 : g.get (N + 1) = some (.c z4 24) := by rw [← hh, Tr.get_same]
  have gr : Gr h N g (N + 2) := by rw [← hh]; exact ((Gr.refl h N).set (Nat.le_refl _) (by omega : N ≤ N + 1) _).set (by omega) (by omega) _
  rw [ldN_c g0 (by simp), obind_s, tk4]
  obtain ⟨h1, N1, p1, p2⟩ := tally13 call x.t x.s x.f g (N + 2) (hx.s.gr gr) (hx.f.gr gr) (by have := hx.ls; omega) (by have := hx.lf; omega)
  rw [show N.succ.succ = N + 2 from rfl, p1, orun_s, unV_not, obind_s]
  have l1 := p2.le
  have gr1 := gr.trans p2
  have k0 : h1.get N = some (.c x.c 24) := by rw [p2.old N (by omega)]; exact g0
  have k1 : h1.get (N + 1) = some (.c z4 24) := by rw [p2.old (N + 1) (by omega)]; exact g1
  have err : ∀ e : Int, rnotchE x.t k = e → e ≠ 0 → ∃ z h' N', obind (sto 4 (.pointer (some ⟨N.succ, 0, none⟩)) (.agg ⟨z4⟩) h1) (fun h7 => (obind (Ev.ldN 4 h7 (.pointer (some ⟨N.succ, 0, none⟩))) (fun v8 => (some ((Value.tuple ⟨[v8, iS e]⟩), (h7, N1)))))) = some (Value.tuple ⟨[z.v, iS (rnotchE x.t k)]⟩, h', N') ∧ Gr h N h' N' ∧ z.t = rnotchT x.t k ∧ OwnT h' N N' z := by
    intro e he hne
    rw [lay4z (by rfl) k1, obind_s, ldN_c (T := 24) (xs := z4) (by rw [Tr.get_same]) (by simp), obind_s]
    have et : rnotchT x.t k = zT := by unfold rnotchT; rw [he, if_neg hne]
    rw [he, et]
    exact ⟨zX, _, _, rfl, gr1.set (by omega) (Nat.le_refl _) _, rfl, zX_own (by omega)⟩
  cases c1 : okT x.t with
  | false =>
    rw [show (!false) = true from rfl, cnd_t]
    exact err 70 (by unfold rnotchE; rw [c1]; rfl) (by decide)
  | true =>
  rw [show (!true) = false from rfl, cnd_f]
  have w1 : s14 call (iS k) (.int .i64 (.ofNat 1)) (.int .i64 (.ofNat 4)) h1 N1 = some (.bool (okN 1 4 k), h1, N1) := within14 call k 1 4 h1 N1
  rw [w1, orun_s, unV_not, obind_s]
  cases c2 : okN 1 4 k with
  | false =>
    rw [show (!false) = true from rfl, cnd_t]
    exact err 72 (by unfold rnotchE; rw [c1, c2]; rfl) (by decide)
  | true =>
  rw [show (!true) = false from rfl, cnd_f]
  have d1 : decide ((x.t.st.length : Int) = Int.ofNat 12) = decide (x.t.st.length = 12) := by rw [Bool.eq_iff_iff, decide_eq_true_eq, decide_eq_true_eq]; simp; omega
  have d2 : decide ((x.t.fo.length : Int) = Int.ofNat 12) = decide (x.t.fo.length = 12) := by rw [Bool.eq_iff_iff, decide_eq_true_eq, decide_eq_true_eq]; simp; omega
  cases c3 : decide (x.t.st.length = 12) with
  | true =>
    simp only [fad_p, obind_s, Nat.zero_add, ld1_c k0, nt2, nt3, hx.s.lenS, hx.f.lenS, iop_eql, d1, d2, c3, wnt_tf, br_f, orun_s, pck_t, cnd_t]
    exact err 9 (by unfold rnotchE fullT; rw [c1, c2, c3]; rfl) (by decide)
  | false =>
  cases c4 : decide (x.t.fo.length = 12) with
  | true =>
    simp only [fad_p, obind_s, Nat.zero_add, ld1_c k0, nt2, nt3, hx.s.lenS, hx.f.lenS, iop_eql, d1, d2, c3, c4, wnt_ff, br_t, orun_s, pck_f, cnd_t]
    exact err 9 (by unfold rnotchE fullT; rw [c1, c2, c3, c4]; rfl) (by decide)
  | false =>
  simp only [fad_p, obind_s, Nat.zero_add, ld1_c k0, nt2, nt3, hx.s.lenS, hx.f.lenS, iop_eql, d1, d2, c3, c4, wnt_ff, br_t, orun_s, pck_f, cnd_f]
  have ee : rnotchE x.t k = 0 := by unfold rnotchE fullT; rw [c1, c2, c3, c4]; rfl
  have et : rnotchT x.t k = ⟨x.t.id, x.t.house, x.t.st ++ [k], x.t.fo ++ [k]⟩ := by unfold rnotchT; rw [ee]; rfl
  rw [ee, et, ldN_c k0 (by simp), obind_s, tk4]
  obtain ⟨z, h2, N2, q1, q2, q3, q4⟩ := twin5 call x h1 N1 (hx.gr gr1)
  rw [q1, orun_s]
  obtain ⟨⟨pv, nv, cv, ev⟩, ⟨pw, nw, cw, ew⟩⟩ := q4.sl
  obtain ⟨i, j, oi, oj, hij, hi1, hj1, hi2, hj2⟩ := q4.own
  have l2 := q2.le
  have gr2 := gr1.trans q2
  have m1 : h2.get (N + 1) = some (.c z4 24) := by rw [q2.old (N + 1) (by omega)]; exact k1
  rw [lay4' z.t.id z.t.house z.s z.f (one_sl ev) (one_sl ew) (xs := z4) (T := 24) (by rfl) (by rw [Tr.get_same]), obind_s]
  generalize hh3 : (h2.set (some (.c z4 24)) N2).set (some (.c z.c 24)) N2 = h3
  have n1 : h3.get (N + 1) = some (.c z4 24) := by rw [← hh3, Tr.get_other _ _ (by omega), Tr.get_other _ _ (by omega)]; exact m1
  have n2 : h3.get N2 = some (.c z.c 24) := by rw [← hh3, Tr.get_same]
  have ni : h3.get i = h2.get i := by rw [← hh3, Tr.get_other _ _ (by omega), Tr.get_other _ _ (by omega)]
  have nj : h3.get j = h2.get j := by rw [← hh3, Tr.get_other _ _ (by omega), Tr.get_other _ _ (by omega)]
  have gr3 : Gr h N h3 (N2 + 1) := by rw [← hh3]; exact (gr2.set (by omega) (by omega : N2 ≤ N2 + 1) _).set (by omega) (Nat.le_refl _) _
  rw [ld1_c n2, nt2, obind_s, show N2.succ = N2 + 1 from rfl, bs22, orun_s]
  generalize hh4 : h3.set (some (.c [iS k] 3)) (N2 + 1) = h4
  have r1 : h4.get (N + 1) = some (.c z4 24) := by rw [← hh4, Tr.get_other _ _ (by omega)]; exact n1
  have r2 : h4.get N2 = some (.c z.c 24) := by rw [← hh4, Tr.get_other _ _ (by omega)]; exact n2
  have r3 : h4.get (N2 + 1) = some (.c [iS k] 3) := by rw [← hh4, Tr.get_same]
  rw [ld1_c r2, nt3, obind_s, show N2 + 1 + 1 = N2 + 2 from rfl, bs22, orun_s]
  generalize hh5 : h4.set (some (.c [iS k] 3)) (N2 + 2) = h5
  have s1 : h5.get (N + 1) = some (.c z4 24) := by rw [← hh5, Tr.get_other _ _ (by omega)]; exact r1
  have s2 : h5.get N2 = some (.c z.c 24) := by rw [← hh5, Tr.get_other _ _ (by omega)]; exact r2
  have s3 : h5.get (N2 + 1) = some (.c [iS k] 3) := by rw [← hh5, Tr.get_other _ _ (by omega)]; exact r3
  have s4 : h5.get (N2 + 2) = some (.c [iS k] 3) := by rw [← hh5, Tr.get_same]
  have si : h5.get i = h2.get i := by rw [← hh5, Tr.get_other _ _ (by omega), ← hh4, Tr.get_other _ _ (by omega), ni]
  have sj : h5.get j = h2.get j := by rw [← hh5, Tr.get_other _ _ (by omega), ← hh4, Tr.get_other _ _ (by omega), nj]
  have gr5 : Gr h N h5 (N2 + 3) := by rw [← hh5, ← hh4]; exact (gr3.set (by omega) (by omega : N2 + 1 ≤ N2 + 2) _).set (by omega) (by omega) _
  rw [again35 k h5 (N2 + 2) s4, ocond_t, ag_sl ew s2 (nt3 _ _ _ _), ocond_t, again30 k h5 (N2 + 1) s3, ocond_t, ag_sl ev s2 (nt2 _ _ _ _), ocond_t]
  have hls := hx.ls
  have hlf := hx.lf
  obtain ⟨v, i', h6, N6, t1, t2, t3, t4, t5, t6⟩ := app_own (N := N2 + 3) appT22 (oi.keep si) (by omega) (int1 (by omega) s3) (by rw [q3]; simp; omega)
  rw [show N2 + 2 + 1 = N2 + 3 from rfl, t1, orun_s]
  have u1 : h6.get (N + 1) = some (.c z4 24) := by rw [t6 (N + 1) (by omega) (by omega)]; exact s1
  have u2 : h6.get N2 = some (.c z.c 24) := by rw [t6 N2 (by omega) (by omega)]; exact s2
  have u4 : h6.get (N2 + 2) = some (.c [iS k] 3) := by rw [t6 (N2 + 2) (by omega) (by omega)]; exact s4
  have uj : h6.get j = h2.get j := by rw [t6 j (by omega) (by omega)]; exact sj
  rw [again35 k h6 (N2 + 2) u4, ocond_t, ag_sl ew u2 (nt3 _ _ _ _), ocond_t]
  obtain ⟨w, j', h7, N7, y1, y2, y3, y4, y5, y6⟩ := app_own (N := N6) appT22 (oj.keep uj) (by omega) (int1 (by omega) u4) (by rw [q3]; simp; omega)
  rw [y1, orun_s]
  have x1 : h7.get (N + 1) = some (.c z4 24) := by rw [y6 (N + 1) (by omega) (by omega)]; exact u1
  have x2 : h7.get N2 = some (.c z.c 24) := by rw [y6 N2 (by omega) (by omega)]; exact u2
  have xi : h7.get i' = h6.get i' := y6 i' (by omega) (by omega)
  have gr7 : Gr h N h7 N7 := ⟨by have := gr5.le; omega, fun m hm => by have := gr5.le; rw [y6 m (by omega) (by omega), t6 m (by omega) (by omega), gr5.old m hm]⟩
  obtain ⟨pa, na, ca, ea⟩ := own_slice t2
  obtain ⟨pb, nb, cb, eb⟩ := own_slice y2
  rw [sto1 ea x2 (by simp), obind_s]
  have la : lay z.c [v] 2 = [iS z.t.id, iS z.t.house, v, z.f] := rfl
  rw [la, sto1 (xs := [iS z.t.id, iS z.t.house, v, z.f]) (T := 24) eb (by rw [Tr.get_same]) (by simp), obind_s]
  have lb : lay [iS z.t.id, iS z.t.house, v, z.f] [w] 3 = [iS z.t.id, iS z.t.house, v, w] := rfl
  rw [lb, ldN_c (T := 24) (xs := [iS z.t.id, iS z.t.house, v, w]) (by rw [Tr.get_same]) (by simp), obind_s, tk4]
  rw [lay4' z.t.id z.t.house v w (one_sl ea) (one_sl eb) (xs := z4) (T := 24) (j := N + 1) (by rfl) (by rw [Tr.get_other _ _ (by omega), Tr.get_other _ _ (by omega)]; exact x1), obind_s]
  rw [ldN_c (T := 24) (xs := [iS z.t.id, iS z.t.house, v, w]) (by rw [Tr.get_same]) (by simp), obind_s, tk4]
  refine ⟨⟨⟨z.t.id, z.t.house, z.t.st ++ [k], z.t.fo ++ [k]⟩, v, w⟩, _, _, rfl, (((gr7.set (by omega) (Nat.le_refl _) _).set (by omega) (Nat.le_refl _) _).set (by omega) (Nat.le_refl _) _), by rw [q3], ⟨i', j', ?_, ?_, by omega, by omega, by omega, by omega, by omega⟩⟩
  · refine t2.keep ?_
    rw [Tr.get_other _ _ (by omega), Tr.get_other _ _ (by omega), Tr.get_other _ _ (by omega), xi]
  · refine y2.keep ?_
    rw [Tr.get_other _ _ (by omega), Tr.get_other _ _ (by omega), Tr.get_other _ _ (by omega)]
end Go.Proofs.Ytnbilohdnopkfaa
end

section
namespace Go.Proofs.Ytnbilohdnopkfaa
open Go.Ev Go.RowKit
set_option linter.unusedVariables false
set_option linter.unusedSimpArgs false
set_option maxRecDepth 100000
set_option maxHeartbeats 4000000
def overT (a b : Ta) : Bool := decide (12 < a.st.length + b.st.length) || decide (12 < a.fo.length + b.fo.length)
def rjoinE (a b : Ta) : Int := if (okT a && okT b) = true then (if overT a b = true then 9 else 0) else 70
def rjoinT (a b : Ta) : Ta := if rjoinE a b = 0 then ⟨a.id, a.house, a.st ++ b.st, a.fo ++ b.fo⟩ else zT
theorem rjoin9 (call : CallF) (x y : Tx) (h : Tr Ob) (N : Nat) (hx : x.At h N) (hy : y.At h N) :
    ∃ z h' N', s9 call x.v y.v h N = some (.tuple ⟨[z.v, iS (rjoinE x.t y.t)]⟩, h', N') ∧ Gr h N h' N' ∧ z.t = rjoinT x.t y.t ∧ OwnT h' N N' z := by
  have hls := hx.ls
  have hlf := hx.lf
  have kls := hy.ls
  have klf := hy.lf
  unfold s9
  have c0 : cel x.v = x.c := rfl
  have c00 : cel y.v = y.c := rfl
  simp only [fN_eq, c0, c00]
  generalize hh : Tr.set (Tr.set (Tr.set h (some (.c x.c 24)) N) (some (.c y.c 24)) N.succ) (some (.c z4 24)) N.succ.succ = g
  have g0 : g.get N = some (.c x.c 24) := by rw [← hh, Tr.get_other _ _ (by omega), Tr.get_other _ _ (by omega), Tr.get_same]
  have gy : g.get (N + 1) = some (.c y.c 24) := by rw [← hh, Tr.get_other _ _ (by omega), Tr.get_same]
  have g1 : g.get (N + 2) = some (.c z4 24) := by rw [← hh, Tr.get_same]
  have gr : Gr h N g (N + 3) := by rw [← hh]; exact (((Gr.refl h N).set (Nat.le_refl _) (by omega : N ≤ N + 1) _).set (by omega) (by omega : N + 1 ≤ N + 2) _).set (by omega) (by omega) _
  rw [ldN_c g0 (by simp), obind_s, tk4]
  obtain ⟨ha, Na, pa1, pa2⟩ := tally13 call x.t x.s x.f g (N + 3) (hx.s.gr gr) (hx.f.gr gr) (by omega) (by omega)
  rw [show N.succ.succ.succ = N + 3 from rfl, pa1, orun_s, unV_not, obind_s]
  have la := pa2.le
  have gra := gr.trans pa2
  have a0 : ha.get N = some (.c x.c 24) := by rw [pa2.old N (by omega)]; exact g0
  have ay : ha.get (N + 1) = some (.c y.c 24) := by rw [pa2.old (N + 1) (by omega)]; exact gy
  have a1 : ha.get (N + 2) = some (.c z4 24) := by rw [pa2.old (N + 2) (by omega)]; exact g1
  have err : ∀ (h1 : Tr Ob) (N1 : Nat), Gr h N h1 N1 → N + 3 ≤ N1 → h1.get (N + 2) = some (.c z4 24) → ∀ e : Int, rjoinE x.t y.t = e → e ≠ 0 → ∃ z h' N', obind (sto 4 (.pointer (some ⟨N.succ.succ, 0, none⟩)) (.agg ⟨z4⟩) h1) (fun h7 => (obind (Ev.ldN 4 h7 (.pointer (some ⟨N.succ.succ, 0, none⟩))) (fun v8 => (some ((Value.tuple ⟨[v8, iS e]⟩), (h7, N1)))))) = some (Value.tuple ⟨[z.v, iS (rjoinE x.t y.t)]⟩, h', N') ∧ Gr h N h' N' ∧ z.t = rjoinT x.t y.t ∧ OwnT h' N N' z := by
    intro h1 N1 gr1 hN1 k1 e he hne
    rw [lay4z (by rfl) k1, obind_s, ldN_c (T := 24) (xs := z4) (by rw [Tr.get_same]) (by simp), obind_s]
    have et : rjoinT x.t y.t = zT := by unfold rjoinT; rw [he, if_neg hne]
    rw [he, et]
    exact ⟨zX, _, _, rfl, gr1.set (by omega) (Nat.le_refl _) _, rfl, zX_own (by omega)⟩
  cases c1 : okT x.t with
  | false =>
    simp only [Bool.not_false, wnt_tf, obind_s, br_f, orun_s, pck_t, cnd_t]
    exact err ha Na gra la a1 70 (by unfold rjoinE; rw [c1]; rfl) (by decide)
  | true =>
  simp only [Bool.not_true, wnt_ff, obind_s, br_t, orun_s, pck_f]
  rw [ldN_c ay (by simp), obind_s, tk4, orun_s]
  obtain ⟨h1, N1, p1, p2⟩ := tally13 call y.t y.s y.f ha Na (hy.s.gr gra) (hy.f.gr gra) (by omega) (by omega)
  rw [p1, orun_s, orun_s, unV_not, obind_s, orun_s]
  have l1 := p2.le
  have gr1 := gra.trans p2
  have k0 : h1.get N = some (.c x.c 24) := by rw [p2.old N (by omega)]; exact a0
  have ky : h1.get (N + 1) = some (.c y.c 24) := by rw [p2.old (N + 1) (by omega)]; exact ay
  have k1 : h1.get (N + 2) = some (.c z4 24) := by rw [p2.old (N + 2) (by omega)]; exact a1
  cases c2 : okT y.t with
  | false =>
    simp only [Bool.not_false, pck_f, obind_s, cnd_t]
    exact err h1 N1 gr1 (by omega) k1 70 (by unfold rjoinE; rw [c1, c2]; rfl) (by decide)
  | true =>
  simp only [Bool.not_true, pck_f, obind_s, cnd_f]
  have s1 : iop .add (nS x.t.st.length) (nS y.t.st.length) = some (nS (x.t.st.length + y.t.st.length)) := by rw [iop_add (by constructor <;> omega)]; rfl
  have s2 : iop .add (nS x.t.fo.length) (nS y.t.fo.length) = some (nS (x.t.fo.length + y.t.fo.length)) := by rw [iop_add (by constructor <;> omega)]; rfl
  have d1 : decide (Int.ofNat 12 < ((x.t.st.length + y.t.st.length : Nat) : Int)) = decide (12 < x.t.st.length + y.t.st.length) := by rw [Bool.eq_iff_iff, decide_eq_true_eq, decide_eq_true_eq]; have : Int.ofNat 12 = 12 := rfl; omega
  have d2 : decide (Int.ofNat 12 < ((x.t.fo.length + y.t.fo.length : Nat) : Int)) = decide (12 < x.t.fo.length + y.t.fo.length) := by rw [Bool.eq_iff_iff, decide_eq_true_eq, decide_eq_true_eq]; have : Int.ofNat 12 = 12 := rfl; omega
  cases c3 : decide (12 < x.t.st.length + y.t.st.length) with
  | true =>
    simp only [fad_p, obind_s, Nat.zero_add, ld1_c k0, ld1_c ky, nt2, nt3, hx.s.lenS, hx.f.lenS, hy.s.lenS, hy.f.lenS, s1, s2, iop_gtr, d1, d2, c3, wnt_tf, br_f, orun_s, pck_t, cnd_t]
    exact err h1 N1 gr1 (by omega) k1 9 (by unfold rjoinE overT; rw [c1, c2, c3]; rfl) (by decide)
  | false =>
  cases c4 : decide (12 < x.t.fo.length + y.t.fo.length) with
  | true =>
    simp only [fad_p, obind_s, Nat.zero_add, ld1_c k0, ld1_c ky, nt2, nt3, hx.s.lenS, hx.f.lenS, hy.s.lenS, hy.f.lenS, s1, s2, iop_gtr, d1, d2, c3, c4, wnt_ff, br_t, orun_s, pck_f, cnd_t]
    exact err h1 N1 gr1 (by omega) k1 9 (by unfold rjoinE overT; rw [c1, c2, c3, c4]; rfl) (by decide)
  | false =>
  simp only [fad_p, obind_s, Nat.zero_add, ld1_c k0, ld1_c ky, nt2, nt3, hx.s.lenS, hx.f.lenS, hy.s.lenS, hy.f.lenS, s1, s2, iop_gtr, d1, d2, c3, c4, wnt_ff, br_t, orun_s, pck_f, cnd_f]
  have ee : rjoinE x.t y.t = 0 := by unfold rjoinE overT; rw [c1, c2, c3, c4]; rfl
  have et : rjoinT x.t y.t = ⟨x.t.id, x.t.house, x.t.st ++ y.t.st, x.t.fo ++ y.t.fo⟩ := by unfold rjoinT; rw [ee]; rfl
  rw [ee, et, ldN_c k0 (by simp), obind_s, tk4]
  clear ee et err c1 c2 c3 c4 d1 d2 s1 s2
  obtain ⟨z, h2, N2, q1, q2, q3, q4⟩ := twin5 call x h1 N1 (hx.gr gr1)
  rw [q1, orun_s]
  obtain ⟨⟨pv, nv, cv, ev⟩, ⟨pw, nw, cw, ew⟩⟩ := q4.sl
  obtain ⟨i, j, oi, oj, hij, hi1, hj1, hi2, hj2⟩ := q4.own
  have l2 := q2.le
  have gr2 := gr1.trans q2
  have m1 : h2.get (N + 2) = some (.c z4 24) := by rw [q2.old (N + 2) (by omega)]; exact k1
  have my : h2.get (N + 1) = some (.c y.c 24) := by rw [q2.old (N + 1) (by omega)]; exact ky
  rw [lay4' z.t.id z.t.house z.s z.f (one_sl ev) (one_sl ew) (xs := z4) (T := 24) (by rfl) (by rw [Tr.get_same]), obind_s]
  generalize hh5 : (h2.set (some (.c z4 24)) N2).set (some (.c z.c 24)) N2 = h5
  have n1 : h5.get (N + 2) = some (.c z4 24) := by rw [← hh5, Tr.get_other _ _ (by omega), Tr.get_other _ _ (by omega)]; exact m1
  have ny : h5.get (N + 1) = some (.c y.c 24) := by rw [← hh5, Tr.get_other _ _ (by omega), Tr.get_other _ _ (by omega)]; exact my
  have n2 : h5.get N2 = some (.c z.c 24) := by rw [← hh5, Tr.get_same]
  have si : h5.get i = h2.get i := by rw [← hh5, Tr.get_other _ _ (by omega), Tr.get_other _ _ (by omega)]
  have sj : h5.get j = h2.get j := by rw [← hh5, Tr.get_other _ _ (by omega), Tr.get_other _ _ (by omega)]
  have gr5 : Gr h N h5 (N2 + 1) := by rw [← hh5]; exact (gr2.set (by omega) (by omega : N2 ≤ N2 + 1) _).set (by omega) (Nat.le_refl _) _
  obtain ⟨pys, cys, eys, -⟩ := hy.s.at_
  obtain ⟨pyf, cyf, eyf, -⟩ := hy.f.at_
  rw [ld1_c n2, nt2, obind_s, ld1_c ny, nt2, obind_s, ld1_c n2, nt3, obind_s, ld1_c ny, nt3, obind_s]
  rw [ag_sl eyf ny (nt3 _ _ _ _), ocond_t, ag_sl ew n2 (nt3 _ _ _ _), ocond_t, ag_sl eys ny (nt2 _ _ _ _), ocond_t, ag_sl ev n2 (nt2 _ _ _ _), ocond_t]
  obtain ⟨v, i', h6, N6, t1, t2, t3, t4, t5, t6⟩ := app_own (N := N2 + 1) appT22 (oi.keep si) (by omega) (hy.s.gr gr5) (by rw [q3]; omega)
  rw [show N2.succ = N2 + 1 from rfl, t1, orun_s]
  have u1 : h6.get (N + 2) = some (.c z4 24) := by rw [t6 (N + 2) (by omega) (by omega)]; exact n1
  have uy : h6.get (N + 1) = some (.c y.c 24) := by rw [t6 (N + 1) (by omega) (by omega)]; exact ny
  have u2 : h6.get N2 = some (.c z.c 24) := by rw [t6 N2 (by omega) (by omega)]; exact n2
  have uj : h6.get j = h2.get j := by rw [t6 j (by omega) (by omega)]; exact sj
  have gr6 : Gr h N h6 N6 := ⟨by have := gr5.le; omega, fun m hm => by have := gr5.le; rw [t6 m (by omega) (by omega), gr5.old m hm]⟩
  rw [ag_sl eyf uy (nt3 _ _ _ _), ocond_t, ag_sl ew u2 (nt3 _ _ _ _), ocond_t]
  obtain ⟨w, j', h7, N7, y1, y2, y3, y4, y5, y6⟩ := app_own (N := N6) appT22 (oj.keep uj) (by omega) (hy.f.gr gr6) (by rw [q3]; omega)
  rw [y1, orun_s]
  have x1 : h7.get (N + 2) = some (.c z4 24) := by rw [y6 (N + 2) (by omega) (by omega)]; exact u1
  have x2 : h7.get N2 = some (.c z.c 24) := by rw [y6 N2 (by omega) (by omega)]; exact u2
  have xi : h7.get i' = h6.get i' := y6 i' (by omega) (by omega)
  have gr7 : Gr h N h7 N7 := ⟨by have := gr6.le; omega, fun m hm => by have := gr5.le; rw [y6 m (by omega) (by omega), gr6.old m hm]⟩
  obtain ⟨pa, na, ca, ea⟩ := own_slice t2
  obtain ⟨pb, nb, cb, eb⟩ := own_slice y2
  rw [sto1 ea x2 (by simp), obind_s]
  have lla : lay z.c [v] 2 = [iS z.t.id, iS z.t.house, v, z.f] := rfl
  rw [lla, sto1 (xs := [iS z.t.id, iS z.t.house, v, z.f]) (T := 24) eb (by rw [Tr.get_same]) (by simp), obind_s]
  have lb : lay [iS z.t.id, iS z.t.house, v, z.f] [w] 3 = [iS z.t.id, iS z.t.house, v, w] := rfl
  rw [lb, ldN_c (T := 24) (xs := [iS z.t.id, iS z.t.house, v, w]) (by rw [Tr.get_same]) (by simp), obind_s, tk4]
  rw [lay4' z.t.id z.t.house v w (one_sl ea) (one_sl eb) (xs := z4) (T := 24) (j := N + 2) (by rfl) (by rw [Tr.get_other _ _ (by omega), Tr.get_other _ _ (by omega)]; exact x1), obind_s]
  rw [ldN_c (T := 24) (xs := [iS z.t.id, iS z.t.house, v, w]) (by rw [Tr.get_same]) (by simp), obind_s, tk4]
  refine ⟨⟨⟨z.t.id, z.t.house, z.t.st ++ y.t.st, z.t.fo ++ y.t.fo⟩, v, w⟩, _, _, rfl, (((gr7.set (by omega) (Nat.le_refl _) _).set (by omega) (Nat.le_refl _) _).set (by omega) (Nat.le_refl _) _), by rw [q3], ⟨i', j', ?_, ?_, by omega, by omega, by omega, by omega, by omega⟩⟩
  · refine t2.keep ?_
    rw [Tr.get_other _ _ (by omega), Tr.get_other _ _ (by omega), Tr.get_other _ _ (by omega), xi]
  · refine y2.keep ?_
    rw [Tr.get_other _ _ (by omega), Tr.get_other _ _ (by omega), Tr.get_other _ _ (by omega)]
end Go.Proofs.Ytnbilohdnopkfaa
end

section
namespace Go.Proofs.Ytnbilohdnopkfaa
open Go.Ev Go.RowKit
set_option linter.unusedVariables false
set_option linter.unusedSimpArgs false
set_option maxRecDepth 100000
set_option maxHeartbeats 4000000
noncomputable def lp11_0  : C3 → C3 :=
  (fun g32 v33 v34 v35 d36 h37 N38 => (obind (Ev.iop .lss v35 v34) (fun v39 => (Ev.cnd v39 (obind (Ev.fad 3 v33) (fun v40 => (obind (Ev.ld1 h37 v40) (fun v41 => (obind (Ev.iadS 1 v41 v35) (fun v42 => (obind (Ev.sto 1 v42 (.int .i64 (.negSucc 6)) h37) (fun h43 => (obind (Ev.iop .add v35 (.int .i64 (.ofNat 1))) (fun v44 => (g32 v33 v34 v44 d36 h43 N38))))))))))) (obind (Ev.unmark d36 h37) (fun h45 => (some ((.tuple ⟨[]⟩), (h45, N38)))))))))

noncomputable def lp11_1  : C3 → C3 :=
  (fun g10 v11 v12 v13 d14 h15 N16 => (obind (Ev.iop .lss v13 v12) (fun v17 => (Ev.cnd v17 (obind (Ev.fad 2 v11) (fun v18 => (obind (Ev.ld1 h15 v18) (fun v19 => (obind (Ev.iadS 1 v19 v13) (fun v20 => (obind (Ev.sto 1 v20 (.int .i64 (.negSucc 6)) h15) (fun h21 => (obind (Ev.iop .add v13 (.int .i64 (.ofNat 1))) (fun v22 => (g10 v11 v12 v22 d14 h21 N16))))))))))) (obind (Ev.fad 3 v11) (fun v23 => (obind (Ev.ld1 h15 v23) (fun v24 => (obind (Ev.lenS v24) (fun v25 => (lpR (α := C3) (fun v26 v27 v28 d29 h30 N31 => none) (lp11_0) v11 v25 (.int .i64 (.ofNat 0)) d14 h15 N16)))))))))))

theorem s11_eq (call : CallF) (a0 : Value) (h : Tr Ob) (N : Nat) : s11 call a0 h N =
  (fN (.succ N) (fun N0 => (obind (Ev.fad 2 (.pointer (some ⟨N, 0, none⟩))) (fun v1 => (obind (Ev.ld1 (Tr.set h (some (.c (Ev.cel a0) 24)) N) v1) (fun v2 => (obind (Ev.lenS v2) (fun v3 => (lpR (α := C3) (fun v4 v5 v6 d7 h8 N9 => none) (lp11_1) (.pointer (some ⟨N, 0, none⟩)) v3 (.int .i64 (.ofNat 0)) [] (Tr.set h (some (.c (Ev.cel a0) 24)) N) N0))))))))) := rfl

/-- A list of one's own that may be written: nothing in it, or a block. -/
def Wr (h : Tr Ob) (v : Value) (n i : Nat) : Prop := n = 0 ∨ ∃ xs, v = .slice (some ⟨i, 0, some 0⟩) n 0 ∧ h.get i = some (.g xs 3 1) ∧ xs.length = n
theorem Own.wr {h : Tr Ob} {v : Value} {L : List Int} {i : Nat} (o : Own h 3 v L i) : Wr h v L.length i ∧ lenS v = some (nS L.length) := by
  rcases o with ⟨rfl, rfl⟩ | ⟨rfl, rfl, _⟩ | ⟨rfl, h2⟩
  · exact ⟨.inl rfl, rfl⟩
  · exact ⟨.inl rfl, rfl⟩
  · exact ⟨.inr ⟨_, rfl, h2, by simp⟩, rfl⟩
theorem Wr.keep {h h' : Tr Ob} {v : Value} {n i : Nat} (o : Wr h v n i) (he : h'.get i = h.get i) : Wr h' v n i := by
  rcases o with h1 | ⟨xs, h1, h2, h3⟩
  · exact .inl h1
  · exact .inr ⟨xs, h1, by rw [he]; exact h2, h3⟩
theorem sto_g {h : Tr Ob} {i off : Nat} {xs : List Value} (z : Int) (hi : h.get i = some (.g xs 3 1)) (hl : off + 1 ≤ xs.length) :
    sto 1 (.pointer (some ⟨i, off, none⟩)) (iS z) h = some (h.set (some (.g (lay xs [iS z] off) 3 1)) i) := by
  show ocond (Nat.beq 1 1) (ocond true (evWrite h i off [iS z])) = _
  have hw : evWrite h i off [iS z] = some (h.set (some (.g (lay xs [iS z] off) 3 1)) i) := by
    unfold evWrite; rw [hi]
    show ocond (Nat.ble (off + 1) (len xs)) _ = _
    rw [len_eq, Nat.ble_eq_true_of_le hl]; rfl
  rw [hw]; rfl
theorem lay_len {xs ys : List Value} {off : Nat} (hl : off + ys.length ≤ xs.length) : (lay xs ys off).length = xs.length := by
  rw [lay_eq, Go.Sx.setL_eq _ _ _ hl]; simp; omega
theorem loop11_0 (P j len : Nat) (a b s f : Value) (hl : len < 100000) (hne : P ≠ j) (N : Nat) (z : C3) : ∀ (n k fuel : Nat) (h : Tr Ob), k + n = len → n < fuel → h.get P = some (.c [a, b, s, f] 24) → Wr h f len j →
    ∃ h', lpN z lp11_0 fuel (pS P) (nS len) (nS k) [] h N = some (.tuple ⟨[]⟩, h', N) ∧ ∀ m, m ≠ j → h'.get m = h.get m := by
  intro n
  induction n with
  | zero =>
    intro k fuel h hk hf hp hw
    obtain ⟨fuel, rfl⟩ : ∃ f, fuel = f + 1 := ⟨fuel - 1, by omega⟩
    refine ⟨h, ?_, fun _ _ => rfl⟩
    rw [lpN_succ]
    unfold lp11_0
    simp only [iop_lss, obind_s, cnd_d]
    rw [if_neg (by omega), unmark_nil, obind_s]
  | succ n ih =>
    intro k fuel h hk hf hp hw
    obtain ⟨fuel, rfl⟩ : ∃ f, fuel = f + 1 := ⟨fuel - 1, by omega⟩
    rw [lpN_succ]
    obtain ⟨L, hL⟩ : ∃ L, L = lpN z lp11_0 fuel := ⟨_, rfl⟩
    rw [← hL]
    rcases hw with h0 | ⟨xs, e1, e2, e3⟩
    · omega
    unfold lp11_0
    simp only [iop_lss, obind_s, cnd_d]
    rw [if_pos (by omega), fad_p, obind_s, Nat.zero_add, ld1_c hp, nt3, obind_s, e1, iadS_p (by omega), obind_s]
    have hs := sto_g (off := 0 + k * 1) (-7) e2 (by omega)
    have hs' : sto 1 (.pointer (some ⟨j, 0 + k * 1, none⟩)) (.int .i64 (.negSucc 6)) h = some (h.set (some (.g (lay xs [iS (-7)] (0 + k * 1)) 3 1)) j) := hs
    rw [hs', obind_s, add1 (by omega), obind_s, hL]
    generalize hh : h.set (some (.g (lay xs [iS (-7)] (0 + k * 1)) 3 1)) j = g
    have g1 : g.get j = some (.g (lay xs [iS (-7)] (0 + k * 1)) 3 1) := by rw [← hh, Tr.get_same]
    have g2 : ∀ m, m ≠ j → g.get m = h.get m := fun m hm => by rw [← hh, Tr.get_other _ _ hm]
    obtain ⟨h', p1, p2⟩ := ih (k + 1) fuel g (by omega) (by omega) (by rw [g2 P hne]; exact hp) (.inr ⟨_, e1, g1, by rw [lay_len (by simp; omega)]; exact e3⟩)
    exact ⟨h', p1, fun m hm => by rw [p2 m hm, g2 m hm]⟩
theorem loop11_1 (P i j len len2 : Nat) (a b s f : Value) (hl : len < 100000) (hl2 : len2 < 100000) (hne : P ≠ i) (hne2 : P ≠ j) (hij : i ≠ j) (hf2 : lenS f = some (nS len2)) (N : Nat) (z : C3) : ∀ (n k fuel : Nat) (h : Tr Ob), k + n = len → n < fuel → h.get P = some (.c [a, b, s, f] 24) → Wr h s len i → Wr h f len2 j →
    ∃ h', lpN z lp11_1 fuel (pS P) (nS len) (nS k) [] h N = some (.tuple ⟨[]⟩, h', N) ∧ ∀ m, m ≠ i → m ≠ j → h'.get m = h.get m := by
  intro n
  induction n with
  | zero =>
    intro k fuel h hk hf hp hw hw2
    obtain ⟨fuel, rfl⟩ : ∃ f, fuel = f + 1 := ⟨fuel - 1, by omega⟩
    rw [lpN_succ]
    unfold lp11_1
    simp only [iop_lss, obind_s, cnd_d]
    rw [if_neg (by omega), fad_p, obind_s, Nat.zero_add, ld1_c hp, nt3, obind_s, hf2, obind_s, lpR_eq]
    obtain ⟨h', p1, p2⟩ := loop11_0 P j len2 a b s f hl2 hne2 N (fun v26 v27 v28 d29 h30 N31 => none) len2 0 rounds h (by omega) (by show _ < 1000000; omega) hp hw2
    exact ⟨h', p1, fun m _ hm => p2 m hm⟩
  | succ n ih =>
    intro k fuel h hk hf hp hw hw2
    obtain ⟨fuel, rfl⟩ : ∃ f, fuel = f + 1 := ⟨fuel - 1, by omega⟩
    rw [lpN_succ]
    obtain ⟨L, hL⟩ : ∃ L, L = lpN z lp11_1 fuel := ⟨_, rfl⟩
    rw [← hL]
    rcases hw with h0 | ⟨xs, e1, e2, e3⟩
    · omega
    unfold lp11_1
    simp only [iop_lss, obind_s, cnd_d]
    rw [if_pos (by omega), fad_p, obind_s, Nat.zero_add, ld1_c hp, nt2, obind_s, e1, iadS_p (by omega), obind_s]
    have hs := sto_g (off := 0 + k * 1) (-7) e2 (by omega)
    have hs' : sto 1 (.pointer (some ⟨i, 0 + k * 1, none⟩)) (.int .i64 (.negSucc 6)) h = some (h.set (some (.g (lay xs [iS (-7)] (0 + k * 1)) 3 1)) i) := hs
    rw [hs', obind_s, add1 (by omega), obind_s, hL]
    generalize hh : h.set (some (.g (lay xs [iS (-7)] (0 + k * 1)) 3 1)) i = g
    have g1 : g.get i = some (.g (lay xs [iS (-7)] (0 + k * 1)) 3 1) := by rw [← hh, Tr.get_same]
    have g2 : ∀ m, m ≠ i → g.get m = h.get m := fun m hm => by rw [← hh, Tr.get_other _ _ hm]
    obtain ⟨h', p1, p2⟩ := ih (k + 1) fuel g (by omega) (by omega) (by rw [g2 P hne]; exact hp) (.inr ⟨_, e1, g1, by rw [lay_len (by simp; omega)]; exact e3⟩) (hw2.keep (g2 j (by omega)))
    exact ⟨h', p1, fun m hm hm2 => by rw [p2 m hm hm2, g2 m hm]⟩
theorem spoil11 (call : CallF) (z : Tx) (h : Tr Ob) (N M M' : Nat) (o : OwnT h M M' z) (hM : M' ≤ N) (l1 : z.t.st.length < 1000) (l2 : z.t.fo.length < 1000) :
    ∃ h', s11 call z.v h N = some (.tuple ⟨[]⟩, h', N + 1) ∧ ∀ m, (m < M ∨ M' ≤ m) → m < N → h'.get m = h.get m := by
  obtain ⟨i, j, oi, oj, hij, hi1, hj1, hi2, hj2⟩ := o.own
  obtain ⟨wi, ei⟩ := Own.wr oi
  obtain ⟨wj, ej⟩ := Own.wr oj
  rw [s11_eq, fN_eq]
  have c0 : cel z.v = z.c := rfl
  rw [c0]
  generalize hh : h.set (some (.c z.c 24)) N = g
  have g0 : g.get N = some (.c z.c 24) := by rw [← hh, Tr.get_same]
  have g2 : ∀ m, m ≠ N → g.get m = h.get m := fun m hm => by rw [← hh, Tr.get_other _ _ hm]
  rw [fad_p, obind_s, Nat.zero_add, ld1_c g0, nt2, obind_s, ei, obind_s, lpR_eq]
  obtain ⟨h', p1, p2⟩ := loop11_1 N i j z.t.st.length z.t.fo.length (iS z.t.id) (iS z.t.house) z.s z.f (by omega) (by omega) (by omega) (by omega) hij ej (N + 1) (fun v4 v5 v6 d7 h8 N9 => none) z.t.st.length 0 rounds g (by omega) (by show _ < 1000000; omega) g0 (wi.keep (g2 i (by omega))) (wj.keep (g2 j (by omega)))
  exact ⟨h', p1, fun m hm hm2 => by rw [p2 m (by omega) (by omega), g2 m (by omega)]⟩
end Go.Proofs.Ytnbilohdnopkfaa
end

section
namespace Go.Proofs.Ytnbilohdnopkfaa
open Go.Ev Go.RowKit
set_option linter.unusedVariables false
set_option linter.unusedSimpArgs false
set_option maxRecDepth 100000
set_option maxHeartbeats 4000000
theorem okT_true {t : Ta} (h : okT t = true) : okN 1 9999 t.id = true ∧ okN 1 9999 t.house = true ∧ t.st.length ≤ 12 ∧ t.fo.length ≤ 12 := by
  unfold okT at h
  simp only [Bool.and_eq_true, decide_eq_true_eq] at h
  exact ⟨h.1, h.2.1, h.2.2.1, h.2.2.2.1⟩
theorem okT_not {t : Ta} {k : Int} (h : okT t = true) (hk : okN 1 4 k = true) : okT (notT t k) = true := by
  obtain ⟨h1, h2, _, _⟩ := okT_true h
  unfold okT notT
  simp [h1, h2, hk]
theorem notch_eq (t : Ta) (k : Int) : notchE t k = rnotchE t k ∧ notchT t k = rnotchT t k := by
  have key : notchE t k = rnotchE t k := by
    unfold notchE rnotchE noteE
    cases h1 : okT t with
    | false => rfl
    | true =>
      cases h2 : okN 1 4 k with
      | false => rfl
      | true =>
        obtain ⟨_, _, l1, l2⟩ := okT_true h1
        have e0 : (if true = true then (if true = true then (0 : Int) else 72) else 70) = 0 := rfl
        rw [e0, if_pos rfl, if_pos rfl, if_pos rfl]
        unfold joinE
        rw [h1, okT_not h1 h2, show (true && true) = true from rfl, if_pos rfl]
        by_cases c : t.st.length = 12 ∨ t.fo.length = 12
        · have c1 : ¬ roomT t (notT t k) := by unfold roomT notT; simp only [List.length_singleton]; omega
          have c2 : fullT t = true := by unfold fullT; simp only [Bool.or_eq_true, decide_eq_true_eq]; exact c
          rw [if_neg c1, if_pos c2]
        · have c1 : roomT t (notT t k) := by unfold roomT notT; simp only [List.length_singleton]; omega
          have c2 : ¬ fullT t = true := by unfold fullT; simp only [Bool.or_eq_true, decide_eq_true_eq]; exact c
          rw [if_pos c1, if_neg c2]
  refine ⟨key, ?_⟩
  unfold notchT rnotchT
  rw [← key]
  unfold notchE
  by_cases c : noteE t k = 0
  · rw [if_pos c, if_pos c]; unfold joinT notT; rfl
  · rw [if_neg c, if_neg c, if_neg c]
theorem join_eq (a b : Ta) : joinE a b = rjoinE a b ∧ joinT a b = rjoinT a b := by
  have key : joinE a b = rjoinE a b := by
    unfold joinE rjoinE
    cases h1 : (okT a && okT b) with
    | false => rfl
    | true =>
      rw [if_pos rfl, if_pos rfl]
      by_cases c : 12 < a.st.length + b.st.length ∨ 12 < a.fo.length + b.fo.length
      · have c1 : ¬ roomT a b := by unfold roomT; omega
        have c2 : overT a b = true := by unfold overT; simp only [Bool.or_eq_true, decide_eq_true_eq]; exact c
        rw [if_neg c1, if_pos c2]
      · have c1 : roomT a b := by unfold roomT; omega
        have c2 : ¬ overT a b = true := by unfold overT; simp only [Bool.or_eq_true, decide_eq_true_eq]; exact c
        rw [if_pos c1, if_neg c2]
  refine ⟨key, ?_⟩
  unfold joinT rjoinT
  rw [← key]
theorem sameT_self (t : Ta) : sameT t t = true := by unfold sameT; simp
theorem greatT_len {t : Ta} (h : greatT t = false) : t.st.length ≤ 30 ∧ t.fo.length ≤ 30 := by
  unfold greatT at h
  simp only [Bool.or_eq_false_iff, decide_eq_false_iff_not] at h
  omega
theorem joinT_len (a b : Ta) (n : Nat) (h1 : a.st.length + b.st.length ≤ n) (h2 : a.fo.length + b.fo.length ≤ n) : (joinT a b).st.length ≤ n ∧ (joinT a b).fo.length ≤ n := by
  unfold joinT
  split
  · simp; omega
  · exact ⟨Nat.zero_le _, Nat.zero_le _⟩
theorem notchT_len (t : Ta) (k : Int) (n : Nat) (h1 : t.st.length + 1 ≤ n) (h2 : t.fo.length + 1 ≤ n) : (notchT t k).st.length ≤ n ∧ (notchT t k).fo.length ≤ n := by
  unfold notchT
  split
  · exact joinT_len _ _ n h1 h2
  · exact ⟨Nat.zero_le _, Nat.zero_le _⟩
theorem valEq_ptr (d i : Nat) : valEq (d + 1) (.pointer (some ⟨i, 0, none⟩)) (.pointer (some ⟨i, 0, none⟩)) = true := by
  show addrEq ⟨i, 0, none⟩ ⟨i, 0, none⟩ = true
  simp [addrEq, band, Nat.beq_refl, optN]
theorem againA (a b : Nat) (g : Tr Ob) (N0 : Nat) (hg : g.get N0 = some (.c z4 24)) : Ev.again Pr g (.mk a (.mk (some b) (.alloc 24) 0 "law.go:100" ⟨[]⟩ none) (.e 32) (.pointer (some ⟨N0, 0, none⟩)) N0 true) = true := by
  have e : evPas Pr (.mk (some b) (.alloc 24) 0 "law.go:100" ⟨[]⟩ none) (.e 32) g N0 = some (.pointer (some ⟨N0, 0, none⟩), some (.c z4 24)) := by
    rfl
  unfold Ev.again
  rw [e]
  show band (valEq 3 (.pointer (some ⟨N0, 0, none⟩)) (.pointer (some ⟨N0, 0, none⟩))) (band true (obEq (g.get N0) (.c z4 24))) = true
  rw [hg, valEq_ptr 2]
  rfl
theorem self4 {a b : Int} {s f : Value} {p1 p2 : Option Addr} {n1 c1 n2 c2 : Nat} (e1 : s = .slice p1 n1 c1) (e2 : f = .slice p2 n2 c2) : valEq 3 (.agg ⟨[iS a, iS b, s, f]⟩) (.agg ⟨[iS a, iS b, s, f]⟩) = true := by
  subst e1; subst e2
  exact valEq_cons (valEq_int 1 _ _) (valEq_cons (valEq_int 1 _ _) (valEq_cons (valEq_sl 1 _ _ _) (valEq_cons (valEq_sl 1 _ _ _) (valEq_nil 1))))
end Go.Proofs.Ytnbilohdnopkfaa
end

section
namespace Go.Proofs.Ytnbilohdnopkfaa
open Go.Ev Go.RowKit
set_option linter.unusedVariables false
set_option linter.unusedSimpArgs false
set_option maxRecDepth 100000
set_option maxHeartbeats 4000000
noncomputable def st3 : Ev.St := [(4, F4), (5, F5), (6, F6), (7, F7), (8, F8), (9, F9), (10, F10), (11, F11)]
noncomputable def s3 (call : CallF) (a0 a1 a2 : Value) (h : Tr Ob) (N : Nat) : OpR :=
  (fN (.succ N) (fun N0 => (fN (.succ N0) (fun N1 => (obind (Ev.ldN 4 (Tr.set (Tr.set h (some (.c (Ev.cel a0) 24)) N) (some (.c (Ev.cel a1) 24)) N0) (.pointer (some ⟨N, 0, none⟩))) (fun v2 => (orun (s4 call v2 (Tr.set (Tr.set h (some (.c (Ev.cel a0) 24)) N) (some (.c (Ev.cel a1) 24)) N0) N1) (fun v3 h4 N5 => (obind (Ev.wntV v3 false) (fun v6 => (orun (Bool.rec (motive := fun _ => OpR) (some ((.tuple ⟨[]⟩), (h4, N5))) (obind (Ev.ldN 4 h4 (.pointer (some ⟨N0, 0, none⟩))) (fun v7 => (some (v7, (h4, N5))))) v6) (fun v8 h9 N10 => (obind (Ev.wntV v3 false) (fun v11 => (orun (Bool.rec (motive := fun _ => OpR) (some ((.tuple ⟨[]⟩), (h9, N10))) (orun (s4 call v8 h9 N10) (fun v12 h13 N14 => (some (v12, (h13, N14))))) v11) (fun v15 h16 N17 => (obind (Ev.pck v3 (some (.bool true)) (some v15)) (fun v18 => (Ev.cnd v18 (some ((.bool true), (h16, N17))) (obind (Ev.ldN 4 h16 (.pointer (some ⟨N, 0, none⟩))) (fun v19 => (obind (Ev.ldN 4 h16 (.pointer (some ⟨N0, 0, none⟩))) (fun v20 => ((ocond (Ev.again Pr (Tr.set (Tr.set h16 (some (.c [(.int .i64 (.ofNat 0)), (.int .i64 (.ofNat 0)), (.slice none 0 0), (.slice none 0 0)] 24)) N17) (some (.c [(.int .i64 (.ofNat 0)), (.int .i64 (.ofNat 0)), (.slice none 0 0), (.slice none 0 0)] 24)) (.succ N17)) (.mk 5 (.mk (some 8) (.alloc 24) 0 "law.go:100" ⟨[]⟩ none) (.e 32) (.pointer (some ⟨(.succ N17), 0, none⟩)) (.succ N17) true)) (ocond (Ev.again Pr (Tr.set (Tr.set h16 (some (.c [(.int .i64 (.ofNat 0)), (.int .i64 (.ofNat 0)), (.slice none 0 0), (.slice none 0 0)] 24)) N17) (some (.c [(.int .i64 (.ofNat 0)), (.int .i64 (.ofNat 0)), (.slice none 0 0), (.slice none 0 0)] 24)) (.succ N17)) (.mk 4 (.mk (some 7) (.alloc 24) 0 "law.go:100" ⟨[]⟩ none) (.e 32) (.pointer (some ⟨N17, 0, none⟩)) N17 true)) (ocond (Ev.agLN 4 (Tr.set (Tr.set h16 (some (.c [(.int .i64 (.ofNat 0)), (.int .i64 (.ofNat 0)), (.slice none 0 0), (.slice none 0 0)] 24)) N17) (some (.c [(.int .i64 (.ofNat 0)), (.int .i64 (.ofNat 0)), (.slice none 0 0), (.slice none 0 0)] 24)) (.succ N17)) (.pointer (some ⟨N0, 0, none⟩)) v20) (ocond (Ev.agLN 4 (Tr.set (Tr.set h16 (some (.c [(.int .i64 (.ofNat 0)), (.int .i64 (.ofNat 0)), (.slice none 0 0), (.slice none 0 0)] 24)) N17) (some (.c [(.int .i64 (.ofNat 0)), (.int .i64 (.ofNat 0)), (.slice none 0 0), (.slice none 0 0)] 24)) (.succ N17)) (.pointer (some ⟨N, 0, none⟩)) v19) (orun (s5 call v19 (Tr.set (Tr.set h16 (some (.c [(.int .i64 (.ofNat 0)), (.int .i64 (.ofNat 0)), (.slice none 0 0), (.slice none 0 0)] 24)) N17) (some (.c [(.int .i64 (.ofNat 0)), (.int .i64 (.ofNat 0)), (.slice none 0 0), (.slice none 0 0)] 24)) (.succ N17)) (.succ (.succ N17))) (fun v23 h24 N25 => (ocond (Ev.again Pr h24 (.mk 5 (.mk (some 8) (.alloc 24) 0 "law.go:100" ⟨[]⟩ none) (.e 32) (.pointer (some ⟨(.succ N17), 0, none⟩)) (.succ N17) true)) (ocond (Ev.again Pr h24 (.mk 4 (.mk (some 7) (.alloc 24) 0 "law.go:100" ⟨[]⟩ none) (.e 32) (.pointer (some ⟨N17, 0, none⟩)) N17 true)) (ocond (Ev.agLN 4 h24 (.pointer (some ⟨N0, 0, none⟩)) v20) (orun (s5 call v20 h24 N25) (fun v26 h27 N28 => (ocond (Ev.again Pr h27 (.mk 5 (.mk (some 8) (.alloc 24) 0 "law.go:100" ⟨[]⟩ none) (.e 32) (.pointer (some ⟨(.succ N17), 0, none⟩)) (.succ N17) true)) (ocond (Ev.again Pr h27 (.mk 4 (.mk (some 7) (.alloc 24) 0 "law.go:100" ⟨[]⟩ none) (.e 32) (.pointer (some ⟨N17, 0, none⟩)) N17 true)) (obind (Ev.sto 4 (.pointer (some ⟨N17, 0, none⟩)) v23 h27) (fun h29 => (obind (Ev.sto 4 (.pointer (some ⟨(.succ N17), 0, none⟩)) v26 h29) (fun h30 => (obind (Ev.ldN 4 h30 (.pointer (some ⟨N17, 0, none⟩))) (fun v31 => (orun (s6 call v31 a2 h30 N28) (fun v32 h33 N34 => (obind (Ev.extr 0 v32) (fun v35 => (obind (Ev.extr 1 v32) (fun v36 => (fN (.succ N34) (fun N37 => (obind (Ev.sto 4 (.pointer (some ⟨N34, 0, none⟩)) v35 (Tr.set h33 (some (.c [(.int .i64 (.ofNat 0)), (.int .i64 (.ofNat 0)), (.slice none 0 0), (.slice none 0 0)] 24)) N34)) (fun h38 => (obind (Ev.ldN 4 h38 (.pointer (some ⟨N, 0, none⟩))) (fun v39 => (orun (s7 call v39 a2 h38 N37) (fun v40 h41 N42 => (obind (Ev.extr 0 v40) (fun v43 => (obind (Ev.extr 1 v40) (fun v44 => (fN (.succ N42) (fun N45 => (obind (Ev.sto 4 (.pointer (some ⟨N42, 0, none⟩)) v43 (Tr.set h41 (some (.c [(.int .i64 (.ofNat 0)), (.int .i64 (.ofNat 0)), (.slice none 0 0), (.slice none 0 0)] 24)) N42)) (fun h46 => (obind (Ev.ldN 4 h46 (.pointer (some ⟨N17, 0, none⟩))) (fun v47 => (obind (Ev.ldN 4 h46 (.pointer (some ⟨(.succ N17), 0, none⟩))) (fun v48 => (orun (s8 call v47 v48 h46 N45) (fun v49 h50 N51 => (obind (Ev.extr 0 v49) (fun v52 => (obind (Ev.extr 1 v49) (fun v53 => (fN (.succ N51) (fun N54 => (obind (Ev.sto 4 (.pointer (some ⟨N51, 0, none⟩)) v52 (Tr.set h50 (some (.c [(.int .i64 (.ofNat 0)), (.int .i64 (.ofNat 0)), (.slice none 0 0), (.slice none 0 0)] 24)) N51)) (fun h55 => (obind (Ev.ldN 4 h55 (.pointer (some ⟨N, 0, none⟩))) (fun v56 => (obind (Ev.ldN 4 h55 (.pointer (some ⟨N0, 0, none⟩))) (fun v57 => (orun (s9 call v56 v57 h55 N54) (fun v58 h59 N60 => (obind (Ev.extr 0 v58) (fun v61 => (obind (Ev.extr 1 v58) (fun v62 => (fN (.succ N60) (fun N63 => (obind (Ev.sto 4 (.pointer (some ⟨N60, 0, none⟩)) v61 (Tr.set h59 (some (.c [(.int .i64 (.ofNat 0)), (.int .i64 (.ofNat 0)), (.slice none 0 0), (.slice none 0 0)] 24)) N60)) (fun h64 => (obind (Ev.ldN 4 h64 (.pointer (some ⟨N34, 0, none⟩))) (fun v65 => (obind (Ev.ldN 4 h64 (.pointer (some ⟨N42, 0, none⟩))) (fun v66 => (orun (s10 call v65 v66 h64 N63) (fun v67 h68 N69 => (obind (Ev.wntV v67 true) (fun v70 => (orun (Bool.rec (motive := fun _ => OpR) (some ((.tuple ⟨[]⟩), (h68, N69))) (some (v36, (h68, N69))) v70) (fun v71 h72 N73 => (obind (Ev.wntV v67 true) (fun v74 => (orun (Bool.rec (motive := fun _ => OpR) (some ((.tuple ⟨[]⟩), (h72, N73))) (some (v44, (h72, N73))) v74) (fun v75 h76 N77 => (obind (Ev.wntV v67 true) (fun v78 => (orun (Bool.rec (motive := fun _ => OpR) (some ((.tuple ⟨[]⟩), (h76, N77))) (obind (Ev.iop .eql v71 v75) (fun v79 => (some (v79, (h76, N77))))) v78) (fun v80 h81 N82 => (obind (Ev.pck v67 (some v80) (some (.bool false))) (fun v83 => (obind (Ev.wntV v83 true) (fun v84 => (orun (Bool.rec (motive := fun _ => OpR) (some ((.tuple ⟨[]⟩), (h81, N82))) (obind (Ev.ldN 4 h81 (.pointer (some ⟨N51, 0, none⟩))) (fun v85 => (some (v85, (h81, N82))))) v84) (fun v86 h87 N88 => (obind (Ev.wntV v83 true) (fun v89 => (orun (Bool.rec (motive := fun _ => OpR) (some ((.tuple ⟨[]⟩), (h87, N88))) (obind (Ev.ldN 4 h87 (.pointer (some ⟨N60, 0, none⟩))) (fun v90 => (some (v90, (h87, N88))))) v89) (fun v91 h92 N93 => (obind (Ev.wntV v83 true) (fun v94 => (orun (Bool.rec (motive := fun _ => OpR) (some ((.tuple ⟨[]⟩), (h92, N93))) (orun (s10 call v86 v91 h92 N93) (fun v95 h96 N97 => (some (v95, (h96, N97))))) v94) (fun v98 h99 N100 => (obind (Ev.pck v83 (some v98) (some (.bool false))) (fun v101 => (obind (Ev.wntV v101 true) (fun v102 => (orun (Bool.rec (motive := fun _ => OpR) (some ((.tuple ⟨[]⟩), (h99, N100))) (some (v53, (h99, N100))) v102) (fun v103 h104 N105 => (obind (Ev.wntV v101 true) (fun v106 => (orun (Bool.rec (motive := fun _ => OpR) (some ((.tuple ⟨[]⟩), (h104, N105))) (some (v62, (h104, N105))) v106) (fun v107 h108 N109 => (obind (Ev.wntV v101 true) (fun v110 => (orun (Bool.rec (motive := fun _ => OpR) (some ((.tuple ⟨[]⟩), (h108, N109))) (obind (Ev.iop .eql v103 v107) (fun v111 => (some (v111, (h108, N109))))) v110) (fun v112 h113 N114 => (obind (Ev.pck v101 (some v112) (some (.bool false))) (fun v115 => (obind (Ev.ldN 4 h113 (.pointer (some ⟨N34, 0, none⟩))) (fun v116 => (orun (s11 call v116 h113 N114) (fun v117 h118 N119 => (obind (Ev.ldN 4 h118 (.pointer (some ⟨N51, 0, none⟩))) (fun v120 => (orun (s11 call v120 h118 N119) (fun v121 h122 N123 => (obind (Ev.wntV v115 true) (fun v124 => (orun (Bool.rec (motive := fun _ => OpR) (some ((.tuple ⟨[]⟩), (h122, N123))) (obind (Ev.ldN 4 h122 (.pointer (some ⟨N17, 0, none⟩))) (fun v125 => (some (v125, (h122, N123))))) v124) (fun v126 h127 N128 => (obind (Ev.wntV v115 true) (fun v129 => (orun (Bool.rec (motive := fun _ => OpR) (some ((.tuple ⟨[]⟩), (h127, N128))) (obind (Ev.ldN 4 h127 (.pointer (some ⟨N, 0, none⟩))) (fun v130 => (some (v130, (h127, N128))))) v129) (fun v131 h132 N133 => (obind (Ev.wntV v115 true) (fun v134 => (orun (Bool.rec (motive := fun _ => OpR) (some ((.tuple ⟨[]⟩), (h132, N133))) (orun (s10 call v126 v131 h132 N133) (fun v135 h136 N137 => (some (v135, (h136, N137))))) v134) (fun v138 h139 N140 => (obind (Ev.pck v115 (some v138) (some (.bool false))) (fun v141 => (obind (Ev.wntV v141 true) (fun v142 => (orun (Bool.rec (motive := fun _ => OpR) (some ((.tuple ⟨[]⟩), (h139, N140))) (obind (Ev.ldN 4 h139 (.pointer (some ⟨(.succ N17), 0, none⟩))) (fun v143 => (some (v143, (h139, N140))))) v142) (fun v144 h145 N146 => (obind (Ev.wntV v141 true) (fun v147 => (orun (Bool.rec (motive := fun _ => OpR) (some ((.tuple ⟨[]⟩), (h145, N146))) (obind (Ev.ldN 4 h145 (.pointer (some ⟨N0, 0, none⟩))) (fun v148 => (some (v148, (h145, N146))))) v147) (fun v149 h150 N151 => (obind (Ev.wntV v141 true) (fun v152 => (orun (Bool.rec (motive := fun _ => OpR) (some ((.tuple ⟨[]⟩), (h150, N151))) (orun (s10 call v144 v149 h150 N151) (fun v153 h154 N155 => (some (v153, (h154, N155))))) v152) (fun v156 h157 N158 => (obind (Ev.pck v141 (some v156) (some (.bool false))) (fun v159 => (some (v159, (h157, N158))))))))))))))))))))))))))))))))))))))))))))))))))))))))))))))))))))))))))))))))))))))))))))))))))))))))))))))))))))))))))))))))))))))))))))))))))))))))))))))))))))))))))))))))))))
noncomputable def F3 : Ev.Fs := fun call args h N => ar3 args fun a0 a1 a2 => s3 call a0 a1 a2 h N
theorem Gr.sub {h h' : Tr Ob} {N N' : Nat} (g : Gr h N h' N') {M : Nat} (hM : M ≤ N) : Gr h M h' N' := ⟨by have := g.le; omega, fun j hj => g.old j (by omega)⟩
/-- A new block with a tally in it. -/
theorem new4 {h : Tr Ob} {N : Nat} {z : Tx} (e1 : z.s.oneCell' = true) (e2 : z.f.oneCell' = true) :
    sto 4 (.pointer (some ⟨N, 0, none⟩)) z.v (Tr.set h (some (.c z4 24)) N) = some ((Tr.set h (some (.c z4 24)) N).set (some (.c z.c 24)) N) :=
  lay4' z.t.id z.t.house z.s z.f e1 e2 (xs := z4) (T := 24) (by rfl) (by rw [Tr.get_same])
theorem law3 (x y : Tx) (k : Int) (h : Tr Ob) (N : Nat) (hx : x.At h N) (hy : y.At h N) :
    ∃ h' N', s3 cT x.v y.v (iS k) h N = some (.bool true, h', N') := by
  obtain ⟨pxs, cxs, exs, -⟩ := hx.s.at_
  obtain ⟨pxf, cxf, exf, -⟩ := hx.f.at_
  obtain ⟨pys, cys, eys, -⟩ := hy.s.at_
  obtain ⟨pyf, cyf, eyf, -⟩ := hy.f.at_
  unfold s3
  have c0 : cel x.v = x.c := rfl
  have c00 : cel y.v = y.c := rfl
  simp only [fN_eq, c0, c00]
  generalize hh : Tr.set (Tr.set h (some (.c x.c 24)) N) (some (.c y.c 24)) N.succ = g
  have g0 : g.get N = some (.c x.c 24) := by rw [← hh, Tr.get_other _ _ (by omega), Tr.get_same]
  have g1 : g.get (N + 1) = some (.c y.c 24) := by rw [← hh, Tr.get_same]
  have gr : Gr h N g (N + 2) := by rw [← hh]; exact ((Gr.refl h N).set (Nat.le_refl _) (by omega : N ≤ N + 1) _).set (by omega) (by omega) _
  clear hh
  rw [ldN_c g0 (by simp), obind_s, tk4]
  obtain ⟨ha, Na, pa, qa⟩ := great4 cT x.t x.s x.f g (N + 2) (hx.s.gr gr) (hx.f.gr gr)
  rw [show N.succ.succ = N + 2 from rfl, pa, orun_s]
  have la := qa.le
  have gra := gr.trans qa
  have a0 : ha.get N = some (.c x.c 24) := by rw [qa.old N (by omega)]; exact g0
  have a1 : ha.get (N + 1) = some (.c y.c 24) := by rw [qa.old (N + 1) (by omega)]; exact g1
  cases c1 : greatT x.t with
  | true =>
    simp only [wnt_tf, obind_s, br_f, orun_s, pck_t, cnd_t]
    exact ⟨_, _, rfl⟩
  | false =>
  simp only [wnt_ff, obind_s, br_t, orun_s, pck_f]
  rw [ldN_c a1 (by simp), obind_s, tk4, orun_s]
  obtain ⟨hb, Nb, pb, qb⟩ := great4 cT y.t y.s y.f ha Na (hy.s.gr gra) (hy.f.gr gra)
  rw [pb, orun_s, orun_s]
  have lb := qb.le
  have grb := gra.trans qb
  have b0 : hb.get N = some (.c x.c 24) := by rw [qb.old N (by omega)]; exact a0
  have b1 : hb.get (N + 1) = some (.c y.c 24) := by rw [qb.old (N + 1) (by omega)]; exact a1
  cases c2 : greatT y.t with
  | true =>
    simp only [cnd_t]
    exact ⟨_, _, rfl⟩
  | false =>
  rw [cnd_f, ldN_c b0 (by simp), obind_s, tk4, ldN_c b1 (by simp), obind_s, tk4]
  obtain ⟨x1, x2⟩ := greatT_len c1
  obtain ⟨y1, y2⟩ := greatT_len c2
  clear pa qa pb qb gra a0 a1 g0 g1 gr
  generalize hh : Tr.set (Tr.set hb (some (.c z4 24)) Nb) (some (.c z4 24)) Nb.succ = g
  have g0 : g.get N = some (.c x.c 24) := by rw [← hh, Tr.get_other _ _ (by omega), Tr.get_other _ _ (by omega)]; exact b0
  have g1 : g.get (N + 1) = some (.c y.c 24) := by rw [← hh, Tr.get_other _ _ (by omega), Tr.get_other _ _ (by omega)]; exact b1
  have g2 : g.get Nb = some (.c z4 24) := by rw [← hh, Tr.get_other _ _ (by omega), Tr.get_same]
  have g3 : g.get (Nb + 1) = some (.c z4 24) := by rw [← hh, Tr.get_same]
  have gr : Gr h N g (Nb + 2) := by rw [← hh]; exact (grb.set (by omega) (by omega : Nb ≤ Nb + 1) _).set (by omega) (by omega) _
  clear hh
  rw [againA _ _ _ _ g3, ocond_t, againA _ _ _ _ g2, ocond_t]
  rw [agLN_c (m := 4) g1 (by simp) (tk4 _ _ _ _) (self4 eys eyf), ocond_t, agLN_c (m := 4) g0 (by simp) (tk4 _ _ _ _) (self4 exs exf), ocond_t]
  obtain ⟨x', h1, N1, p1, q1, t1, o1⟩ := twin5 cT x g (Nb + 2) (hx.gr gr)
  rw [show Nb.succ.succ = Nb + 2 from rfl, p1, orun_s]
  have l1 := q1.le
  have u0 : h1.get N = some (.c x.c 24) := by rw [q1.old N (by omega)]; exact g0
  have u1 : h1.get (N + 1) = some (.c y.c 24) := by rw [q1.old (N + 1) (by omega)]; exact g1
  have u2 : h1.get Nb = some (.c z4 24) := by rw [q1.old Nb (by omega)]; exact g2
  have u3 : h1.get (Nb + 1) = some (.c z4 24) := by rw [q1.old (Nb + 1) (by omega)]; exact g3
  rw [againA _ _ _ _ u3, ocond_t, againA _ _ _ _ u2, ocond_t, agLN_c (m := 4) u1 (by simp) (tk4 _ _ _ _) (self4 eys eyf), ocond_t]
  obtain ⟨y', h2, N2, p2, q2, t2, o2⟩ := twin5 cT y h1 N1 (hy.gr (gr.trans q1))
  rw [p2, orun_s]
  have l2 := q2.le
  have v0 : h2.get N = some (.c x.c 24) := by rw [q2.old N (by omega)]; exact u0
  have v1 : h2.get (N + 1) = some (.c y.c 24) := by rw [q2.old (N + 1) (by omega)]; exact u1
  have v2 : h2.get Nb = some (.c z4 24) := by rw [q2.old Nb (by omega)]; exact u2
  have v3 : h2.get (Nb + 1) = some (.c z4 24) := by rw [q2.old (Nb + 1) (by omega)]; exact u3
  have gr2 := (gr.trans q1).trans q2
  rw [againA _ _ _ _ v3, ocond_t, againA _ _ _ _ v2, ocond_t]
  obtain ⟨⟨_, _, _, ex1⟩, ⟨_, _, _, ex2⟩⟩ := o1.sl
  obtain ⟨⟨_, _, _, ey1⟩, ⟨_, _, _, ey2⟩⟩ := o2.sl
  rw [lay4' x'.t.id x'.t.house x'.s x'.f (one_sl ex1) (one_sl ex2) (xs := z4) (T := 24) (by rfl) v2, obind_s]
  rw [lay4' y'.t.id y'.t.house y'.s y'.f (one_sl ey1) (one_sl ey2) (xs := z4) (T := 24) (j := Nb + 1) (by rfl) (by rw [Tr.get_other _ _ (by omega)]; exact v3), obind_s]
  generalize hh : (h2.set (some (.c x'.c 24)) Nb).set (some (.c y'.c 24)) (Nb + 1) = h3
  have w0 : h3.get N = some (.c x.c 24) := by rw [← hh, Tr.get_other _ _ (by omega), Tr.get_other _ _ (by omega)]; exact v0
  have w1 : h3.get (N + 1) = some (.c y.c 24) := by rw [← hh, Tr.get_other _ _ (by omega), Tr.get_other _ _ (by omega)]; exact v1
  have w2 : h3.get Nb = some (.c x'.c 24) := by rw [← hh, Tr.get_other _ _ (by omega), Tr.get_same]
  have w3 : h3.get (Nb + 1) = some (.c y'.c 24) := by rw [← hh, Tr.get_same]
  have o1' : OwnT h3 (Nb + 2) N1 x' := o1.keep (Nat.le_refl _) (Nat.le_refl _) fun j hj hj2 => by rw [← hh, Tr.get_other _ _ (by omega), Tr.get_other _ _ (by omega), q2.old j hj2]
  have o2' : OwnT h3 N1 N2 y' := o2.keep (Nat.le_refl _) (Nat.le_refl _) fun j hj hj2 => by rw [← hh, Tr.get_other _ _ (by omega), Tr.get_other _ _ (by omega)]
  have gr3 : Gr h N h3 N2 := by rw [← hh]; exact (gr2.set (by omega) (Nat.le_refl _) _).set (by omega) (Nat.le_refl _) _
  clear hh g0 g1 g2 g3 u0 u1 u2 u3 v0 v1 v2 v3 o1 o2 gr2
  rw [ldN_c w2 (by simp), obind_s, tk4]
  have x'1 : x'.At h3 N2 := by
    have e := o1'.at_ (by rw [t1]; omega) (by rw [t1]; omega)
    exact e.gr ((Gr.refl h3 N1).num l2)
  have y'1 : y'.At h3 N2 := o2'.at_ (by rw [t2]; omega) (by rw [t2]; omega)
  have eN := notch_eq x.t k
  have eJ := join_eq x.t y.t
  have lN := notchT_len x.t k 100 (by omega) (by omega)
  have lJ := joinT_len x.t y.t 100 (by omega) (by omega)
  clear o1' o2'
  -- Notch
  obtain ⟨n1, h4, N4, p4, q4, t4, o4⟩ := notch6 x' k h3 N2 x'1
  rw [p4, orun_s, ext0, obind_s, ext1, obind_s]
  obtain ⟨⟨_, _, _, e41⟩, ⟨_, _, _, e42⟩⟩ := o4.sl
  have l4 := q4.le
  rw [new4 (one_sl e41) (one_sl e42), obind_s]
  generalize hh : (Tr.set h4 (some (.c z4 24)) N4).set (some (.c n1.c 24)) N4 = h5
  have G5 : Gr h3 N2 h5 (N4 + 1) := by rw [← hh]; exact (q4.set l4 (by omega : N4 ≤ N4 + 1) _).set l4 (Nat.le_refl _) _
  have P1 : h5.get N4 = some (.c n1.c 24) := by rw [← hh, Tr.get_same]
  have o5 : OwnT h5 N2 N4 n1 := o4.keep (Nat.le_refl _) (Nat.le_refl _) fun j hj hj2 => by rw [← hh, Tr.get_other _ _ (by omega), Tr.get_other _ _ (by omega)]
  clear hh
  rw [ldN_c (by rw [G5.old N (by omega)]; exact w0) (by simp), obind_s, tk4]
  -- the reference's Notch
  obtain ⟨r1, h6, N6, p6, q6, t6, o6⟩ := rnotch7 cT x k h5 (N4 + 1) (hx.gr (gr3.trans G5))
  rw [show N4.succ = N4 + 1 from rfl, p6, orun_s, ext0, obind_s, ext1, obind_s]
  obtain ⟨⟨_, _, _, e61⟩, ⟨_, _, _, e62⟩⟩ := o6.sl
  have l6 := q6.le
  rw [new4 (one_sl e61) (one_sl e62), obind_s]
  generalize hh : (Tr.set h6 (some (.c z4 24)) N6).set (some (.c r1.c 24)) N6 = h7
  have G7 : Gr h5 (N4 + 1) h7 (N6 + 1) := by rw [← hh]; exact (q6.set l6 (by omega : N6 ≤ N6 + 1) _).set l6 (Nat.le_refl _) _
  have P2 : h7.get N6 = some (.c r1.c 24) := by rw [← hh, Tr.get_same]
  have o7 : OwnT h7 (N4 + 1) N6 r1 := o6.keep (Nat.le_refl _) (Nat.le_refl _) fun j hj hj2 => by rw [← hh, Tr.get_other _ _ (by omega), Tr.get_other _ _ (by omega)]
  clear hh
  have G37 : Gr h3 N2 h7 (N6 + 1) := G5.trans (G7)
  rw [ldN_c (by rw [G37.old Nb (by omega)]; exact w2) (by simp), obind_s, tk4, ldN_c (by rw [G37.old (Nb + 1) (by omega)]; exact w3) (by simp), obind_s, tk4]
  -- Join
  obtain ⟨j1, h8, N8, p8, q8, t8, o8⟩ := join8 x' y' h7 (N6 + 1) (x'1.gr G37) (y'1.gr G37)
  rw [show N6.succ = N6 + 1 from rfl, p8, orun_s, ext0, obind_s, ext1, obind_s]
  obtain ⟨⟨_, _, _, e81⟩, ⟨_, _, _, e82⟩⟩ := o8.sl
  have l8 := q8.le
  rw [new4 (one_sl e81) (one_sl e82), obind_s]
  generalize hh : (Tr.set h8 (some (.c z4 24)) N8).set (some (.c j1.c 24)) N8 = h9
  have G9 : Gr h7 (N6 + 1) h9 (N8 + 1) := by rw [← hh]; exact (q8.set l8 (by omega : N8 ≤ N8 + 1) _).set l8 (Nat.le_refl _) _
  have P3 : h9.get N8 = some (.c j1.c 24) := by rw [← hh, Tr.get_same]
  have o9 : OwnT h9 (N6 + 1) N8 j1 := o8.keep (Nat.le_refl _) (Nat.le_refl _) fun j hj hj2 => by rw [← hh, Tr.get_other _ _ (by omega), Tr.get_other _ _ (by omega)]
  clear hh
  have G39 : Gr h3 N2 h9 (N8 + 1) := G37.trans G9
  rw [ldN_c (by rw [G39.old N (by omega)]; exact w0) (by simp), obind_s, tk4, ldN_c (by rw [G39.old (N + 1) (by omega)]; exact w1) (by simp), obind_s, tk4]
  -- the reference's Join
  obtain ⟨s1, h10, N10, p10, q10, t10, o10⟩ := rjoin9 cT x y h9 (N8 + 1) (hx.gr (gr3.trans G39)) (hy.gr (gr3.trans G39))
  rw [show N8.succ = N8 + 1 from rfl, p10, orun_s, ext0, obind_s, ext1, obind_s]
  obtain ⟨⟨_, _, _, e101⟩, ⟨_, _, _, e102⟩⟩ := o10.sl
  have l10 := q10.le
  rw [new4 (one_sl e101) (one_sl e102), obind_s]
  generalize hh : (Tr.set h10 (some (.c z4 24)) N10).set (some (.c s1.c 24)) N10 = h11
  have G11 : Gr h9 (N8 + 1) h11 (N10 + 1) := by rw [← hh]; exact (q10.set l10 (by omega : N10 ≤ N10 + 1) _).set l10 (Nat.le_refl _) _
  have P4 : h11.get N10 = some (.c s1.c 24) := by rw [← hh, Tr.get_same]
  have o11 : OwnT h11 (N8 + 1) N10 s1 := o10.keep (Nat.le_refl _) (Nat.le_refl _) fun j hj hj2 => by rw [← hh, Tr.get_other _ _ (by omega), Tr.get_other _ _ (by omega)]
  clear hh
  have G311 : Gr h3 N2 h11 (N10 + 1) := G39.trans G11
  have G511 : Gr h5 (N4 + 1) h11 (N10 + 1) := (G7.trans G9).trans G11
  have G711 : Gr h7 (N6 + 1) h11 (N10 + 1) := G9.trans G11
  -- alike
  have tn : n1.t = notchT x.t k := by rw [t4, t1]
  have tr : r1.t = notchT x.t k := by rw [t6, eN.2]
  have tj : j1.t = joinT x.t y.t := by rw [t8, t1, t2]
  have ts : s1.t = joinT x.t y.t := by rw [t10, eJ.2]
  have an : n1.At h11 (N10 + 1) := (o5.at_ (by rw [tn]; omega) (by rw [tn]; omega)).gr (((Gr.refl h5 N4).num (by omega : N4 ≤ N4 + 1)).trans G511)
  have ar : r1.At h11 (N10 + 1) := (o7.at_ (by rw [tr]; omega) (by rw [tr]; omega)).gr (((Gr.refl h7 N6).num (by omega : N6 ≤ N6 + 1)).trans G711)
  rw [ldN_c (by rw [G511.old N4 (by omega)]; exact P1) (by simp), obind_s, tk4, ldN_c (by rw [G711.old N6 (by omega)]; exact P2) (by simp), obind_s, tk4]
  obtain ⟨h12, N12, p12, q12⟩ := same10 cT n1.t r1.t n1.s n1.f r1.s r1.f h11 (N10 + 1) an.s an.f ar.s ar.f (by have := an.ls; omega) (by have := an.lf; omega)
  rw [show N10.succ = N10 + 1 from rfl, p12, orun_s, tn, tr, sameT_self]
  have l12 := q12.le
  simp only [wnt_tt, obind_s, br_t, orun_s, iop_eql, pck_t]
  have d1 : decide (notchE x'.t k = rnotchE x.t k) = true := decide_eq_true (by rw [t1]; exact eN.1)
  rw [d1]
  simp only [wnt_tt, obind_s, br_t, orun_s]
  have G312 := G311.trans q12
  have G512 := G511.trans q12
  have G912 := G11.trans q12
  have aj : j1.At h12 N12 := (o9.at_ (by rw [tj]; omega) (by rw [tj]; omega)).gr (((Gr.refl h9 N8).num (by omega : N8 ≤ N8 + 1)).trans G912)
  have as' : s1.At h12 N12 := (o11.at_ (by rw [ts]; omega) (by rw [ts]; omega)).gr (((Gr.refl h11 N10).num (by omega : N10 ≤ N10 + 1)).trans q12)
  rw [ldN_c (by rw [G912.old N8 (by omega)]; exact P3) (by simp), obind_s, tk4, orun_s]
  rw [ldN_c (by rw [q12.old N10 (by omega)]; exact P4) (by simp), obind_s, tk4, orun_s]
  obtain ⟨h13, N13, p13, q13⟩ := same10 cT j1.t s1.t j1.s j1.f s1.s s1.f h12 N12 aj.s aj.f as'.s as'.f (by have := aj.ls; omega) (by have := aj.lf; omega)
  rw [p13, orun_s, tj, ts, sameT_self]
  have l13 := q13.le
  have d2 : decide (joinE x'.t y'.t = rjoinE x.t y.t) = true := decide_eq_true (by rw [t1, t2]; exact eJ.1)
  simp only [wnt_tt, obind_s, br_t, orun_s, iop_eql, pck_t, d2]
  have G313 := G312.trans q13
  have G513 := G512.trans q13
  have G913 := G912.trans q13
  rw [ldN_c (by rw [G513.old N4 (by omega)]; exact P1) (by simp), obind_s, tk4]
  have on : OwnT h13 N2 N4 n1 := o5.keep (Nat.le_refl _) (Nat.le_refl _) fun j hj hj2 => G513.old j (by omega)
  obtain ⟨h14, p14, q14⟩ := spoil11 cT n1 h13 N13 N2 N4 on (by omega) (by rw [tn]; omega) (by rw [tn]; omega)
  rw [p14, orun_s]
  rw [ldN_c (by rw [q14 N8 (by omega) (by omega), G913.old N8 (by omega)]; exact P3) (by simp), obind_s, tk4]
  have oj : OwnT h14 (N6 + 1) N8 j1 := o9.keep (Nat.le_refl _) (Nat.le_refl _) fun j hj hj2 => by rw [q14 j (by omega) (by omega), G913.old j (by omega)]
  obtain ⟨h15, p15, q15⟩ := spoil11 cT j1 h14 (N13 + 1) (N6 + 1) N8 oj (by omega) (by rw [tj]; omega) (by rw [tj]; omega)
  rw [p15, orun_s]
  have G15 : Gr h3 N2 h15 (N13 + 2) := ⟨by omega, fun j hj => by rw [q15 j (by omega) (by omega), q14 j (by omega) (by omega), G313.old j hj]⟩
  have ax := x'1.gr G15
  have ay := y'1.gr G15
  have bx := hx.gr (gr3.trans G15)
  have by_ := hy.gr (gr3.trans G15)
  rw [ldN_c (by rw [G15.old Nb (by omega)]; exact w2) (by simp), obind_s, tk4, orun_s]
  rw [ldN_c (by rw [G15.old N (by omega)]; exact w0) (by simp), obind_s, tk4, orun_s]
  obtain ⟨h16, N16, p16, q16⟩ := same10 cT x'.t x.t x'.s x'.f x.s x.f h15 (N13 + 2) ax.s ax.f bx.s bx.f (by have := ax.ls; omega) (by have := ax.lf; omega)
  rw [show N13 + 1 + 1 = N13 + 2 from rfl, p16, orun_s, t1, sameT_self]
  simp only [wnt_tt, obind_s, br_t, orun_s, pck_t]
  have G16 := G15.trans q16
  rw [ldN_c (by rw [G16.old (Nb + 1) (by omega)]; exact w3) (by simp), obind_s, tk4, orun_s]
  rw [ldN_c (by rw [G16.old (N + 1) (by omega)]; exact w1) (by simp), obind_s, tk4, orun_s]
  have ay2 := ay.gr q16
  have by2 := by_.gr q16
  obtain ⟨h17, N17, p17, q17⟩ := same10 cT y'.t y.t y'.s y'.f y.s y.f h16 N16 ay2.s ay2.f by2.s by2.f (by have := ay2.ls; omega) (by have := ay2.lf; omega)
  rw [p17, orun_s, t2, sameT_self]
  simp only [orun_s, pck_t, obind_s]
  exact ⟨_, _, rfl⟩
end Go.Proofs.Ytnbilohdnopkfaa
end

section
namespace Go.Proofs.Ytnbilohdnopkfaa
open Go.Ev
set_option linter.unusedVariables false
set_option maxRecDepth 100000
set_option maxHeartbeats 4000000
theorem o3 : FOk Pr 3 F3 := ar3_ok (F := cFn Pr st3 3 .n) (s := s3) (fun call a0 a1 a2 h N => by kernel_rfl) (cFn_ok hmix (st := st3) (StOk.cons o4 (StOk.cons o5 (StOk.cons o6 (StOk.cons o7 (StOk.cons o8 (StOk.cons o9 (StOk.cons o10 (StOk.cons o11 StOk.nil)))))))) 3 .n)
end Go.Proofs.Ytnbilohdnopkfaa
end

section
namespace Go.Proofs.Ytnbilohdnopkfaa
open Go.Ev Go.Sx Go.RowKit Go.ChangeShapes Go.WideShapes Go.ChangeAt
set_option linter.unusedVariables false
set_option linter.unusedSimpArgs false
set_option maxRecDepth 100000
set_option maxHeartbeats 4000000
section
variable {H : Type} {enc : TypeId × Value → H} {P : Program} {w : World} {base fuel : Nat} {spare : Nat → Bool} {held : Bool} {x : DataW H × List MemPlace} {cs : List Value}
theorem mapM_at {α β : Type} {f : α → Option β} : ∀ {l : List α} {r : List β}, l.mapM f = some r → r.length = l.length ∧ ∀ (i : Nat) (a : α), l[i]? = some a → ∃ b, f a = some b ∧ r[i]? = some b
  | [], r, h => by
    simp at h; subst h
    exact ⟨rfl, fun i a h => by simp at h⟩
  | a :: l, r, h => by
    rw [List.mapM_cons] at h
    cases ha : f a with
    | none => simp [ha] at h
    | some b =>
      cases hl : l.mapM f with
      | none => simp [ha, hl] at h
      | some r' =>
        simp [ha, hl] at h
        subst h
        obtain ⟨h1, h2⟩ := mapM_at hl
        refine ⟨by simp [h1], fun i c hc => ?_⟩
        cases i with
        | zero => simp at hc; subst hc; exact ⟨b, ha, by simp⟩
        | succ i => obtain ⟨b', h3, h4⟩ := h2 i c (by simpa using hc); exact ⟨b', h3, by simpa using h4⟩

/-- Cells that are read lie in one block, one behind the other. -/
theorem cells_row {a : Addr} {n : Nat} (hn : 0 < n) (h : w.cells? base a n = some cs) : a.spot = none ∧ cs.length = n ∧ ∃ row, reads w a.block row ∧ ∀ j, j < n → row[a.off + j]? = cs[j]? := by
  unfold World.cells? at h
  split at h
  · obtain ⟨h1, h2⟩ := mapM_at h
    simp only [List.length_range] at h1
    have each : ∀ j, j < n → ∃ b, w.cell? (a.add j) = some b ∧ cs[j]? = some b := fun j hj => h2 j j (by simp [hj])
    obtain ⟨b, h3, _⟩ := each 0 hn
    have e0 : a.add 0 = a := by simp [Addr.add]
    rw [e0] at h3
    unfold World.cell? at h3
    cases hb : w.heap[a.block]? with
    | none => rw [hb] at h3; cases h3
    | some o =>
      rw [hb] at h3
      cases o with
      | cells c e f =>
        have hs : a.spot = none := by
          cases hs : a.spot with
          | none => rfl
          | some s => simp [hs] at h3
        refine ⟨hs, h1, c.toList, ⟨e, f, by simpa using hb⟩, fun j hj => ?_⟩
        obtain ⟨b', h4, h5⟩ := each j hj
        rw [h5]
        have e1 : (a.add j).block = a.block ∧ (a.add j).spot = none ∧ (a.add j).off = a.off + j := by
          unfold Addr.add
          split
          · rename_i h6; subst h6; exact ⟨rfl, hs, rfl⟩
          · exact ⟨rfl, rfl, rfl⟩
        unfold World.cell? at h4
        rw [e1.1, hb] at h4
        simp only [e1.2.1, e1.2.2] at h4
        simpa using h4
      | _ => simp at h3
  · cases h

theorem list_of {α : Type} {R : Nat → α → Prop} : ∀ n : Nat, (∀ i, i < n → ∃ a, R i a) → ∃ L : List α, L.length = n ∧ ∀ (i : Nat) (a : α), L[i]? = some a → R i a
  | 0, _ => ⟨[], rfl, fun i a h => by simp at h⟩
  | n + 1, h => by
    obtain ⟨L, h1, h2⟩ := list_of n (fun i hi => h i (by omega))
    obtain ⟨a, ha⟩ := h n (by omega)
    refine ⟨L ++ [a], by simp [h1], fun i b hb => ?_⟩
    rcases Nat.lt_or_ge i n with hi | hi
    · rw [List.getElem?_append_left (by omega)] at hb; exact h2 i b hb
    · rw [List.getElem?_append_right (by omega)] at hb
      have : i = n := by
        rcases Nat.lt_or_ge (i - L.length) 1 with h3 | h3
        · omega
        · rw [List.getElem?_eq_none (by simpa using h3)] at hb; cases hb
      subst this
      simp [h1] at hb
      subst hb; exact ha

/-- A slice of rows that came in. -/
theorem open_rows {α : Type} {f : α → List Value} {m : Nat} {t e : TypeId} (hm : 0 < m) (hf : ∀ r, (f r).length = m) (hc : P.cellsOf e = m) (ht : P.underlying t = some (.slice e))
    (hrow : ∀ fuel cs x, DataW.trod enc P w base spare held fuel e cs = some x → ∃ r : α, cs = f r) (h : DataW.trod enc P w base spare held fuel t cs = some x) :
    ∃ (p : Option Addr) (L : List α) (cap : Nat), cs = [.slice p L.length cap] ∧ ∃ (b off : Nat) (row : List Value), L ≠ [] → p = some ⟨b, off, none⟩ ∧ reads w b row ∧ ∀ (i : Nat) (r : α), L[i]? = some r → sub row (off + i * m) m = f r := by
  rcases Deep.open_slice ht h with ⟨rfl, _⟩ | ⟨a, len, cap, mm, n, D, Pl, rfl, _, hlc, _, hmm, _, hel⟩
  · exact ⟨none, [], 0, rfl, 0, 0, [], fun h => absurd rfl h⟩
  · have hle : len ≤ mm := by rw [hmm]; split <;> omega
    have each : ∀ i, i < len → ∃ r : α, w.cells? base (a.add (i * m)) m = some (f r) := fun i hi => by
      obtain ⟨cs', h1, h2⟩ := hel i (by omega)
      obtain ⟨r, rfl⟩ := hrow _ _ _ h2
      rw [hc] at h1; exact ⟨r, h1⟩
    obtain ⟨L, hL, hR⟩ := list_of (R := fun i r => w.cells? base (a.add (i * m)) m = some (f r)) len each
    refine ⟨some a, L, cap, by rw [hL], ?_⟩
    cases L with
    | nil => exact ⟨0, 0, [], fun h => absurd rfl h⟩
    | cons r0 L0 =>
      have h0 := hR 0 r0 rfl
      rw [Nat.zero_mul, show a.add 0 = a by simp [Addr.add]] at h0
      obtain ⟨hs, _, row, hrd, _⟩ := cells_row hm h0
      refine ⟨a.block, a.off, row, fun _ => ⟨?_, hrd, fun i r hr => ?_⟩⟩
      · cases a; simp at hs; subst hs; rfl
      · have h1 := hR i r hr
        obtain ⟨_, _, row', hrd', hcell⟩ := cells_row hm h1
        have e1 : (a.add (i * m)).block = a.block ∧ (a.add (i * m)).off = a.off + i * m := by
          unfold Addr.add
          split
          · rename_i h6; rw [h6]; exact ⟨rfl, rfl⟩
          · exact ⟨rfl, rfl⟩
        rw [e1.1] at hrd'
        have hrow' : row = row' := by
          obtain ⟨T, fr, g1⟩ := hrd
          obtain ⟨T', fr', g2⟩ := hrd'
          rw [g1] at g2
          simp only [Option.some.injEq, Obj.cells.injEq] at g2
          have := congrArg Array.toList g2.1
          simpa using this
        subst hrow'
        rw [e1.2] at hcell
        apply List.ext_getElem?
        intro j
        unfold sub
        rw [List.getElem?_take]
        split
        · rename_i hj
          rw [List.getElem?_drop]; exact hcell j hj
        · rename_i hj
          rw [List.getElem?_eq_none (by rw [hf]; omega)]
end
/-- A list of numbers in the world. -/
def In (W : World) (v : Value) (K : List Int) : Prop :=
  (K = [] ∧ v = .slice none 0 0) ∨ ∃ b off cap, v = .slice (some ⟨b, off, none⟩) K.length cap ∧ b < W.heap.size ∧ (K ≠ [] → ∃ pre rest T fr, pre.length = off ∧ W.heap[b]? = some (.cells ⟨pre ++ (K.map iS ++ rest)⟩ T fr))
theorem ints_rl (σ : Sg) (K : List Int) : RlL σ (K.map iS) (K.map iS) := by
  refine ⟨rfl, fun i a b ha hb => ?_⟩
  rw [ha] at hb
  cases hb
  rw [List.getElem?_map] at ha
  cases hk : K[i]? with
  | none => rw [hk] at ha; cases ha
  | some z => rw [hk] at ha; cases ha; exact .sc rfl
theorem tell {W : World} {v : Value} {K : List Int} (hin : In W v K) {σ : Sg} {h : Tr Ob} {i : Nat} (Hr : HR (.all W) σ h W) (hw : ∀ j, wrB (h.get j) = false) (hs : ∀ j, i ≤ j → σ j = none) :
    ∃ σ' h' v', HR (.all W) σ' h' W ∧ (∀ j, wrB (h'.get j) = false) ∧ (∀ j, i + 1 ≤ j → σ' j = none) ∧ SLe σ σ' ∧ Gr h i h' (i + 1) ∧ Rl σ' v' v ∧ Ints h' (i + 1) v' K := by
  rcases hin with ⟨rfl, rfl⟩ | ⟨b, off, cap, rfl, hb, hc⟩
  · exact ⟨σ, h, .slice none 0 0, Hr, hw, fun j hj => hs j (by omega), SLe.refl σ, (Gr.refl h i).num (by omega), .sc rfl, Ints.nil _ _ _ _⟩
  · have hle : SLe σ (upd σ i (b, 0)) := by
      intro j x hj
      unfold upd
      by_cases e : j = i
      · subst e; rw [hs j (Nat.le_refl _)] at hj; cases hj
      · rw [if_neg e]; exact hj
    have hup : ∀ j, i + 1 ≤ j → upd σ i (b, 0) j = none := fun j hj => by unfold upd; rw [if_neg (by omega)]; exact hs j (by omega)
    have hlow : ∀ j b' r, upd σ i (b, 0) j = some (b', r) → b' < W.heap.size := by
      intro j b' r hj
      unfold upd at hj
      by_cases e : j = i
      · rw [if_pos e] at hj; cases hj; exact hb
      · rw [if_neg e] at hj; exact Hr.low j b' r hj
    have mk : ∀ o : Option Ob, (∀ x, o = some x → OR (upd σ i (b, 0)) W b 0 x) → wrB o = false → HR (.all W) (upd σ i (b, 0)) (h.set o i) W ∧ (∀ j, wrB ((h.set o i).get j) = false) := by
      intro o ho hwo
      have hww : ∀ j, wrB ((h.set o i).get j) = false := by
        intro j
        by_cases e : j = i
        · subst e; rw [Tr.get_same]; exact hwo
        · rw [Tr.get_other _ _ e]; exact hw j
      refine ⟨⟨Hr.bel, hlow, fun j b' r x hj hx => ?_, fun j _ _ _ _ _ _ h1 _ => (by rw [hww j] at h1; cases h1), fun j _ _ _ h1 => (by rw [hww j] at h1; cases h1)⟩, hww⟩
      by_cases e : j = i
      · subst e
        rw [Tr.get_same] at hx
        unfold upd at hj
        rw [if_pos rfl] at hj
        cases hj
        exact ho x hx
      · rw [Tr.get_other _ _ e] at hx
        unfold upd at hj
        rw [if_neg e] at hj
        exact (Hr.ob j b' r x hj hx).mono hle rfl
    by_cases hK : K = []
    · subst hK
      obtain ⟨m1, m2⟩ := mk none (fun x hx => by cases hx) rfl
      exact ⟨_, _, .slice (some ⟨i, off, none⟩) 0 cap, m1, m2, hup, hle, (Gr.refl h i).set (Nat.le_refl _) (by omega) _, .sl (r := 0) (by unfold upd; rw [if_pos rfl]), Ints.nil _ _ _ _⟩
    · obtain ⟨pre, rest, T, fr, h1, h2⟩ := hc hK
      obtain ⟨m1, m2⟩ := mk (some (.r off (K.map iS))) (fun x hx => by cases hx; exact ⟨pre, _, rest, T, fr, h1, ints_rl _ K, h2⟩) rfl
      refine ⟨_, _, .slice (some ⟨i, off, none⟩) K.length cap, m1, m2, hup, hle, (Gr.refl h i).set (Nat.le_refl _) (by omega) _, .sl (r := 0) (by unfold upd; rw [if_pos rfl]), ⟨by simp, _, _, rfl, .inr ⟨i, off, none, _, rfl, by omega, cellsFrom_r (Tr.get_same _ _ _) (Nat.le_refl _), ?_⟩⟩⟩
      rw [Nat.sub_self, List.drop_zero, Nat.mul_one]
      have e : K.length = (K.map iS).length := by simp
      rw [e, List.take_length]
end Go.Proofs.Ytnbilohdnopkfaa
end
