/-
  What the functions of the law return.
  Conditions: none.
-/
import Derived.Test.YtpilgokdbliklaaLa

section
namespace Go.Proofs.Ytpilgokdbliklaa
open Go.Ev
set_option linter.unusedVariables false
set_option linter.unusedSimpArgs false
set_option maxRecDepth 100000
set_option maxHeartbeats 4000000
/- function 12 -/
noncomputable def st12 : Ev.St := []
noncomputable def s12 (call : CallF) (a0 : Value) (h : Tr Ob) (N : Nat) : OpR :=
  (fN (.succ N) (fun N0 => (obind (Ev.fad 7 (.pointer (some ⟨N, 0, none⟩))) (fun v1 => (obind (Ev.ld1 (Tr.set h (some (.c (Ev.cel a0) 27)) N) v1) (fun v2 => (obind (Ev.lenS v2) (fun v3 => (obind (Ev.iop .gtr v3 (.int .i64 30)) (fun v4 => (obind (Ev.wntV v4 false) (fun v5 => (orun (Ev.sel v5 (some ((.tuple ⟨[]⟩), ((Tr.set h (some (.c (Ev.cel a0) 27)) N), N0))) (obind (Ev.fad 8 (.pointer (some ⟨N, 0, none⟩))) (fun v6 => (some (v6, ((Tr.set h (some (.c (Ev.cel a0) 27)) N), N0)))))) (fun v7 h8 N9 => (obind (Ev.wntV v4 false) (fun v10 => (orun (Ev.sel v10 (some ((.tuple ⟨[]⟩), (h8, N9))) (obind (Ev.ld1 h8 v7) (fun v11 => (some (v11, (h8, N9)))))) (fun v12 h13 N14 => (obind (Ev.wntV v4 false) (fun v15 => (orun (Ev.sel v15 (some ((.tuple ⟨[]⟩), (h13, N14))) (obind (Ev.lenS v12) (fun v16 => (some (v16, (h13, N14)))))) (fun v17 h18 N19 => (obind (Ev.wntV v4 false) (fun v20 => (orun (Ev.sel v20 (some ((.tuple ⟨[]⟩), (h18, N19))) (obind (Ev.iop .gtr v17 (.int .i64 30)) (fun v21 => (some (v21, (h18, N19)))))) (fun v22 h23 N24 => (obind (Ev.pck v4 (some (.bool true)) (some v22)) (fun v25 => (some (v25, (h23, N24)))))))))))))))))))))))))))))))
noncomputable def F12 : Ev.Fs := fun call args h N => ar1 args fun a0 => s12 call a0 h N
theorem o12 : FOk Pr 12 F12 := ar1_ok (F := cFn Pr st12 12 .n) (s := s12) (fun call a0 h N => by kernel_rfl) (cFn_ok hmix (st := st12) StOk.nil 12 .n)
/- function 66 -/
noncomputable def st66 : Ev.St := []
noncomputable def s66 (call : CallF) (a0 a1 a2 : Value) (h : Tr Ob) (N : Nat) : OpR :=
  (obind (Ev.iop .geq a0 a1) (fun v0 => (obind (Ev.wntV v0 true) (fun v1 => (orun (Ev.sel v1 (some ((.tuple ⟨[]⟩), (h, N))) (some (a0, (h, N)))) (fun v2 h3 N4 => (obind (Ev.wntV v0 true) (fun v5 => (orun (Ev.sel v5 (some ((.tuple ⟨[]⟩), (h3, N4))) (some (a2, (h3, N4)))) (fun v6 h7 N8 => (obind (Ev.wntV v0 true) (fun v9 => (orun (Ev.sel v9 (some ((.tuple ⟨[]⟩), (h7, N8))) (obind (Ev.iop .leq v2 v6) (fun v10 => (some (v10, (h7, N8)))))) (fun v11 h12 N13 => (obind (Ev.pck v0 (some v11) (some (.bool false))) (fun v14 => (some (v14, (h12, N13)))))))))))))))))))
noncomputable def F66 : Ev.Fs := fun call args h N => ar3 args fun a0 a1 a2 => s66 call a0 a1 a2 h N
theorem o66 : FOk Pr 66 F66 := ar3_ok (F := cFn Pr st66 66 .n) (s := s66) (fun call a0 a1 a2 h N => by kernel_rfl) (cFn_ok hmix (st := st66) StOk.nil 66 .n)
/- function 84 -/
noncomputable def st84 : Ev.St := [(66, F66)]
noncomputable def s84 (call : CallF) (a0 a1 a2 : Value) (h : Tr Ob) (N : Nat) : OpR :=
  (fN (.succ N) (fun N0 => (obind (Ev.fad 1 (.pointer (some ⟨N, 0, none⟩))) (fun v1 => (obind (Ev.ld1 (Tr.set h (some (.c (Ev.cel a0) 23)) N) v1) (fun v2 => (orun (s66 call v2 a1 a2 (Tr.set h (some (.c (Ev.cel a0) 23)) N) N0) (fun v3 h4 N5 => (obind (Ev.wntV v3 true) (fun v6 => (orun (Ev.sel v6 (some ((.tuple ⟨[]⟩), (h4, N5))) (obind (Ev.fad 0 (.pointer (some ⟨N, 0, none⟩))) (fun v7 => (some (v7, (h4, N5)))))) (fun v8 h9 N10 => (obind (Ev.wntV v3 true) (fun v11 => (orun (Ev.sel v11 (some ((.tuple ⟨[]⟩), (h9, N10))) (obind (Ev.ld1 h9 v8) (fun v12 => (some (v12, (h9, N10)))))) (fun v13 h14 N15 => (obind (Ev.wntV v3 true) (fun v16 => (orun (Ev.sel v16 (some ((.tuple ⟨[]⟩), (h14, N15))) (some (a1, (h14, N15)))) (fun v17 h18 N19 => (obind (Ev.wntV v3 true) (fun v20 => (orun (Ev.sel v20 (some ((.tuple ⟨[]⟩), (h18, N19))) (obind (Ev.fad 1 (.pointer (some ⟨N, 0, none⟩))) (fun v21 => (some (v21, (h18, N19)))))) (fun v22 h23 N24 => (obind (Ev.wntV v3 true) (fun v25 => (orun (Ev.sel v25 (some ((.tuple ⟨[]⟩), (h23, N24))) (obind (Ev.ld1 h23 v22) (fun v26 => (some (v26, (h23, N24)))))) (fun v27 h28 N29 => (obind (Ev.wntV v3 true) (fun v30 => (orun (Ev.sel v30 (some ((.tuple ⟨[]⟩), (h28, N29))) (orun (s66 call v13 v17 v27 h28 N29) (fun v31 h32 N33 => (some (v31, (h32, N33)))))) (fun v34 h35 N36 => (obind (Ev.pck v3 (some v34) (some (.bool false))) (fun v37 => (some (v37, (h35, N36)))))))))))))))))))))))))))))))))))))
noncomputable def F84 : Ev.Fs := fun call args h N => ar3 args fun a0 a1 a2 => s84 call a0 a1 a2 h N
theorem o84 : FOk Pr 84 F84 := ar3_ok (F := cFn Pr st84 84 .n) (s := s84) (fun call a0 a1 a2 h N => by kernel_rfl) (cFn_ok hmix (st := st84) (StOk.cons o66 StOk.nil) 84 .n)
/- function 44 -/
noncomputable def st44 : Ev.St := [(66, F66), (84, F84)]
noncomputable def s44 (call : CallF) (a0 a1 : Value) (h : Tr Ob) (N : Nat) : OpR :=
  (fN (.succ N) (fun N0 => (obind (Ev.fad 0 (.pointer (some ⟨N, 0, none⟩))) (fun v1 => (obind (Ev.ld1 (Tr.set h (some (.c (Ev.cel a0) 71)) N) v1) (fun v2 => (orun (s66 call v2 (.int .i64 1) (.int .i64 9999) (Tr.set h (some (.c (Ev.cel a0) 71)) N) N0) (fun v3 h4 N5 => (obind (Ev.wntV v3 true) (fun v6 => (orun (Ev.sel v6 (some ((.tuple ⟨[]⟩), (h4, N5))) (obind (Ev.fad 1 (.pointer (some ⟨N, 0, none⟩))) (fun v7 => (some (v7, (h4, N5)))))) (fun v8 h9 N10 => (obind (Ev.wntV v3 true) (fun v11 => (orun (Ev.sel v11 (some ((.tuple ⟨[]⟩), (h9, N10))) (obind (Ev.ld1 h9 v8) (fun v12 => (some (v12, (h9, N10)))))) (fun v13 h14 N15 => (obind (Ev.wntV v3 true) (fun v16 => (orun (Ev.sel v16 (some ((.tuple ⟨[]⟩), (h14, N15))) (some (a1, (h14, N15)))) (fun v17 h18 N19 => (obind (Ev.wntV v3 true) (fun v20 => (orun (Ev.sel v20 (some ((.tuple ⟨[]⟩), (h18, N19))) (obind (Ev.iop .sub v17 (.int .i64 1)) (fun v21 => (some (v21, (h18, N19)))))) (fun v22 h23 N24 => (obind (Ev.wntV v3 true) (fun v25 => (orun (Ev.sel v25 (some ((.tuple ⟨[]⟩), (h23, N24))) (orun (s66 call v13 (.int .i64 0) v22 h23 N24) (fun v26 h27 N28 => (some (v26, (h27, N28)))))) (fun v29 h30 N31 => (obind (Ev.pck v3 (some v29) (some (.bool false))) (fun v32 => (obind (Ev.wntV v32 true) (fun v33 => (orun (Ev.sel v33 (some ((.tuple ⟨[]⟩), (h30, N31))) (obind (Ev.fad 2 (.pointer (some ⟨N, 0, none⟩))) (fun v34 => (some (v34, (h30, N31)))))) (fun v35 h36 N37 => (obind (Ev.wntV v32 true) (fun v38 => (orun (Ev.sel v38 (some ((.tuple ⟨[]⟩), (h36, N37))) (obind (Ev.ld1 h36 v35) (fun v39 => (some (v39, (h36, N37)))))) (fun v40 h41 N42 => (obind (Ev.wntV v32 true) (fun v43 => (orun (Ev.sel v43 (some ((.tuple ⟨[]⟩), (h41, N42))) (orun (s66 call v40 (.int .i64 1) (.int .i64 40) h41 N42) (fun v44 h45 N46 => (some (v44, (h45, N46)))))) (fun v47 h48 N49 => (obind (Ev.pck v32 (some v47) (some (.bool false))) (fun v50 => (obind (Ev.wntV v50 true) (fun v51 => (orun (Ev.sel v51 (some ((.tuple ⟨[]⟩), (h48, N49))) (obind (Ev.fad 3 (.pointer (some ⟨N, 0, none⟩))) (fun v52 => (some (v52, (h48, N49)))))) (fun v53 h54 N55 => (obind (Ev.wntV v50 true) (fun v56 => (orun (Ev.sel v56 (some ((.tuple ⟨[]⟩), (h54, N55))) (obind (Ev.ldN 2 h54 v53) (fun v57 => (some (v57, (h54, N55)))))) (fun v58 h59 N60 => (obind (Ev.wntV v50 true) (fun v61 => (orun (Ev.sel v61 (some ((.tuple ⟨[]⟩), (h59, N60))) (orun (s84 call v58 (.int .i64 0) (.int .i64 99) h59 N60) (fun v62 h63 N64 => (some (v62, (h63, N64)))))) (fun v65 h66 N67 => (obind (Ev.pck v50 (some v65) (some (.bool false))) (fun v68 => (obind (Ev.wntV v68 true) (fun v69 => (orun (Ev.sel v69 (some ((.tuple ⟨[]⟩), (h66, N67))) (obind (Ev.fad 3 (.pointer (some ⟨N, 0, none⟩))) (fun v70 => (some (v70, (h66, N67)))))) (fun v71 h72 N73 => (obind (Ev.wntV v68 true) (fun v74 => (orun (Ev.sel v74 (some ((.tuple ⟨[]⟩), (h72, N73))) (obind (Ev.fad 1 v71) (fun v75 => (some (v75, (h72, N73)))))) (fun v76 h77 N78 => (obind (Ev.wntV v68 true) (fun v79 => (orun (Ev.sel v79 (some ((.tuple ⟨[]⟩), (h77, N78))) (obind (Ev.ld1 h77 v76) (fun v80 => (some (v80, (h77, N78)))))) (fun v81 h82 N83 => (obind (Ev.wntV v68 true) (fun v84 => (orun (Ev.sel v84 (some ((.tuple ⟨[]⟩), (h82, N83))) (obind (Ev.iop .gtr v81 (.int .i64 0)) (fun v85 => (some (v85, (h82, N83)))))) (fun v86 h87 N88 => (obind (Ev.pck v68 (some v86) (some (.bool false))) (fun v89 => (some (v89, (h87, N88)))))))))))))))))))))))))))))))))))))))))))))))))))))))))))))))))))))))))))))))
noncomputable def F44 : Ev.Fs := fun call args h N => ar2 args fun a0 a1 => s44 call a0 a1 h N
theorem o44 : FOk Pr 44 F44 := ar2_ok (F := cFn Pr st44 44 .n) (s := s44) (fun call a0 a1 h N => by kernel_rfl) (cFn_ok hmix (st := st44) (StOk.cons o66 (StOk.cons o84 StOk.nil)) 44 .n)
/- function 65 -/
noncomputable def st65 : Ev.St := [(66, F66), (84, F84), (44, F44)]
noncomputable def s65 (call : CallF) (a0 : Value) (h : Tr Ob) (N : Nat) : OpR :=
  (fN (.succ N) (fun N0 => (obind (Ev.fad 0 (.pointer (some ⟨N, 0, none⟩))) (fun v1 => (obind (Ev.ld1 (Tr.set h (some (.c (Ev.cel a0) 27)) N) v1) (fun v2 => (orun (s66 call v2 (.int .i64 1) (.int .i64 10) (Tr.set h (some (.c (Ev.cel a0) 27)) N) N0) (fun v3 h4 N5 => (obind (Ev.unV Pr .not v3) (fun v6 => (obind (Ev.wntV v6 false) (fun v7 => (orun (Ev.sel v7 (some ((.tuple ⟨[]⟩), (h4, N5))) (obind (Ev.fad 1 (.pointer (some ⟨N, 0, none⟩))) (fun v8 => (some (v8, (h4, N5)))))) (fun v9 h10 N11 => (obind (Ev.wntV v6 false) (fun v12 => (orun (Ev.sel v12 (some ((.tuple ⟨[]⟩), (h10, N11))) (obind (Ev.ld1 h10 v9) (fun v13 => (some (v13, (h10, N11)))))) (fun v14 h15 N16 => (obind (Ev.wntV v6 false) (fun v17 => (orun (Ev.sel v17 (some ((.tuple ⟨[]⟩), (h15, N16))) (orun (s66 call v14 (.int .i64 0) (.int .i64 100) h15 N16) (fun v18 h19 N20 => (some (v18, (h19, N20)))))) (fun v21 h22 N23 => (obind (Ev.wntV v6 false) (fun v24 => (orun (Ev.sel v24 (some ((.tuple ⟨[]⟩), (h22, N23))) (obind (Ev.unV Pr .not v21) (fun v25 => (some (v25, (h22, N23)))))) (fun v26 h27 N28 => (obind (Ev.pck v6 (some (.bool true)) (some v26)) (fun v29 => (obind (Ev.wntV v29 false) (fun v30 => (orun (Ev.sel v30 (some ((.tuple ⟨[]⟩), (h27, N28))) (obind (Ev.fad 2 (.pointer (some ⟨N, 0, none⟩))) (fun v31 => (some (v31, (h27, N28)))))) (fun v32 h33 N34 => (obind (Ev.wntV v29 false) (fun v35 => (orun (Ev.sel v35 (some ((.tuple ⟨[]⟩), (h33, N34))) (obind (Ev.ld1 h33 v32) (fun v36 => (some (v36, (h33, N34)))))) (fun v37 h38 N39 => (obind (Ev.wntV v29 false) (fun v40 => (orun (Ev.sel v40 (some ((.tuple ⟨[]⟩), (h38, N39))) (orun (s66 call v37 (.int .i64 0) (.int .i64 100) h38 N39) (fun v41 h42 N43 => (some (v41, (h42, N43)))))) (fun v44 h45 N46 => (obind (Ev.wntV v29 false) (fun v47 => (orun (Ev.sel v47 (some ((.tuple ⟨[]⟩), (h45, N46))) (obind (Ev.unV Pr .not v44) (fun v48 => (some (v48, (h45, N46)))))) (fun v49 h50 N51 => (obind (Ev.pck v29 (some (.bool true)) (some v49)) (fun v52 => (obind (Ev.wntV v52 false) (fun v53 => (orun (Ev.sel v53 (some ((.tuple ⟨[]⟩), (h50, N51))) (obind (Ev.fad 3 (.pointer (some ⟨N, 0, none⟩))) (fun v54 => (some (v54, (h50, N51)))))) (fun v55 h56 N57 => (obind (Ev.wntV v52 false) (fun v58 => (orun (Ev.sel v58 (some ((.tuple ⟨[]⟩), (h56, N57))) (obind (Ev.ldN 2 h56 v55) (fun v59 => (some (v59, (h56, N57)))))) (fun v60 h61 N62 => (obind (Ev.wntV v52 false) (fun v63 => (orun (Ev.sel v63 (some ((.tuple ⟨[]⟩), (h61, N62))) (orun (s84 call v60 (.int .i64 1) (.int .i64 600) h61 N62) (fun v64 h65 N66 => (some (v64, (h65, N66)))))) (fun v67 h68 N69 => (obind (Ev.wntV v52 false) (fun v70 => (orun (Ev.sel v70 (some ((.tuple ⟨[]⟩), (h68, N69))) (obind (Ev.unV Pr .not v67) (fun v71 => (some (v71, (h68, N69)))))) (fun v72 h73 N74 => (obind (Ev.pck v52 (some (.bool true)) (some v72)) (fun v75 => (obind (Ev.wntV v75 false) (fun v76 => (orun (Ev.sel v76 (some ((.tuple ⟨[]⟩), (h73, N74))) (obind (Ev.fad 5 (.pointer (some ⟨N, 0, none⟩))) (fun v77 => (some (v77, (h73, N74)))))) (fun v78 h79 N80 => (obind (Ev.wntV v75 false) (fun v81 => (orun (Ev.sel v81 (some ((.tuple ⟨[]⟩), (h79, N80))) (obind (Ev.ldN 2 h79 v78) (fun v82 => (some (v82, (h79, N80)))))) (fun v83 h84 N85 => (obind (Ev.wntV v75 false) (fun v86 => (orun (Ev.sel v86 (some ((.tuple ⟨[]⟩), (h84, N85))) (orun (s84 call v83 (.int .i64 0) (.int .i64 20) h84 N85) (fun v87 h88 N89 => (some (v87, (h88, N89)))))) (fun v90 h91 N92 => (obind (Ev.wntV v75 false) (fun v93 => (orun (Ev.sel v93 (some ((.tuple ⟨[]⟩), (h91, N92))) (obind (Ev.unV Pr .not v90) (fun v94 => (some (v94, (h91, N92)))))) (fun v95 h96 N97 => (obind (Ev.pck v75 (some (.bool true)) (some v95)) (fun v98 => (obind (Ev.wntV v98 false) (fun v99 => (orun (Ev.sel v99 (some ((.tuple ⟨[]⟩), (h96, N97))) (obind (Ev.fad 7 (.pointer (some ⟨N, 0, none⟩))) (fun v100 => (some (v100, (h96, N97)))))) (fun v101 h102 N103 => (obind (Ev.wntV v98 false) (fun v104 => (orun (Ev.sel v104 (some ((.tuple ⟨[]⟩), (h102, N103))) (obind (Ev.ld1 h102 v101) (fun v105 => (some (v105, (h102, N103)))))) (fun v106 h107 N108 => (obind (Ev.wntV v98 false) (fun v109 => (orun (Ev.sel v109 (some ((.tuple ⟨[]⟩), (h107, N108))) (obind (Ev.lenS v106) (fun v110 => (some (v110, (h107, N108)))))) (fun v111 h112 N113 => (obind (Ev.wntV v98 false) (fun v114 => (orun (Ev.sel v114 (some ((.tuple ⟨[]⟩), (h112, N113))) (obind (Ev.iop .gtr v111 (.int .i64 8)) (fun v115 => (some (v115, (h112, N113)))))) (fun v116 h117 N118 => (obind (Ev.pck v98 (some (.bool true)) (some v116)) (fun v119 => (obind (Ev.wntV v119 false) (fun v120 => (orun (Ev.sel v120 (some ((.tuple ⟨[]⟩), (h117, N118))) (obind (Ev.fad 8 (.pointer (some ⟨N, 0, none⟩))) (fun v121 => (some (v121, (h117, N118)))))) (fun v122 h123 N124 => (obind (Ev.wntV v119 false) (fun v125 => (orun (Ev.sel v125 (some ((.tuple ⟨[]⟩), (h123, N124))) (obind (Ev.ld1 h123 v122) (fun v126 => (some (v126, (h123, N124)))))) (fun v127 h128 N129 => (obind (Ev.wntV v119 false) (fun v130 => (orun (Ev.sel v130 (some ((.tuple ⟨[]⟩), (h128, N129))) (obind (Ev.lenS v127) (fun v131 => (some (v131, (h128, N129)))))) (fun v132 h133 N134 => (obind (Ev.wntV v119 false) (fun v135 => (orun (Ev.sel v135 (some ((.tuple ⟨[]⟩), (h133, N134))) (obind (Ev.iop .gtr v132 (.int .i64 12)) (fun v136 => (some (v136, (h133, N134)))))) (fun v137 h138 N139 => (obind (Ev.pck v119 (some (.bool true)) (some v137)) (fun v140 => (Ev.cnd v140 (some ((.bool false), (h138, N139))) (obind (Ev.fad 7 (.pointer (some ⟨N, 0, none⟩))) (fun v141 => (obind (Ev.ld1 h138 v141) (fun v142 => (obind (Ev.lenS v142) (fun v143 => (lpR (α := C4) (fun v144 v145 v146 v147 d148 h149 N150 => none) (fun g151 v152 v153 v154 v155 d156 h157 N158 => (obind (Ev.iop .lss v155 v154) (fun v159 => (Ev.cnd v159 (obind (Ev.iadS 5 v153 v155) (fun v160 => (obind (Ev.ldN 5 h157 v160) (fun v161 => (fN (.succ N158) (fun N162 => (obind (Ev.sto 5 (.pointer (some ⟨N158, 0, none⟩)) v161 (Tr.set h157 (some (.c [(.int .i64 0), (.int .i64 0), (.int .i64 0), (.int .i64 0), (.int .i64 0)] 73)) N158)) (fun h163 => (obind (Ev.fad 0 (.pointer (some ⟨N158, 0, none⟩))) (fun v164 => (obind (Ev.ldN 2 h163 v164) (fun v165 => (orun (s84 call v165 (.int .i64 0) (.int .i64 20) h163 N162) (fun v166 h167 N168 => (obind (Ev.unV Pr .not v166) (fun v169 => (obind (Ev.wntV v169 false) (fun v170 => (orun (Ev.sel v170 (some ((.tuple ⟨[]⟩), (h167, N168))) (obind (Ev.fad 2 (.pointer (some ⟨N158, 0, none⟩))) (fun v171 => (some (v171, (h167, N168)))))) (fun v172 h173 N174 => (obind (Ev.wntV v169 false) (fun v175 => (orun (Ev.sel v175 (some ((.tuple ⟨[]⟩), (h173, N174))) (obind (Ev.ld1 h173 v172) (fun v176 => (some (v176, (h173, N174)))))) (fun v177 h178 N179 => (obind (Ev.wntV v169 false) (fun v180 => (orun (Ev.sel v180 (some ((.tuple ⟨[]⟩), (h178, N179))) (obind (Ev.fad 0 v152) (fun v181 => (some (v181, (h178, N179)))))) (fun v182 h183 N184 => (obind (Ev.wntV v169 false) (fun v185 => (orun (Ev.sel v185 (some ((.tuple ⟨[]⟩), (h183, N184))) (obind (Ev.ld1 h183 v182) (fun v186 => (some (v186, (h183, N184)))))) (fun v187 h188 N189 => (obind (Ev.wntV v169 false) (fun v190 => (orun (Ev.sel v190 (some ((.tuple ⟨[]⟩), (h188, N189))) (obind (Ev.iop .sub v187 (.int .i64 1)) (fun v191 => (some (v191, (h188, N189)))))) (fun v192 h193 N194 => (obind (Ev.wntV v169 false) (fun v195 => (orun (Ev.sel v195 (some ((.tuple ⟨[]⟩), (h193, N194))) (orun (s66 call v177 (.int .i64 0) v192 h193 N194) (fun v196 h197 N198 => (some (v196, (h197, N198)))))) (fun v199 h200 N201 => (obind (Ev.wntV v169 false) (fun v202 => (orun (Ev.sel v202 (some ((.tuple ⟨[]⟩), (h200, N201))) (obind (Ev.unV Pr .not v199) (fun v203 => (some (v203, (h200, N201)))))) (fun v204 h205 N206 => (obind (Ev.pck v169 (some (.bool true)) (some v204)) (fun v207 => (obind (Ev.wntV v207 false) (fun v208 => (orun (Ev.sel v208 (some ((.tuple ⟨[]⟩), (h205, N206))) (obind (Ev.fad 3 (.pointer (some ⟨N158, 0, none⟩))) (fun v209 => (some (v209, (h205, N206)))))) (fun v210 h211 N212 => (obind (Ev.wntV v207 false) (fun v213 => (orun (Ev.sel v213 (some ((.tuple ⟨[]⟩), (h211, N212))) (obind (Ev.ldN 2 h211 v210) (fun v214 => (some (v214, (h211, N212)))))) (fun v215 h216 N217 => (obind (Ev.wntV v207 false) (fun v218 => (orun (Ev.sel v218 (some ((.tuple ⟨[]⟩), (h216, N217))) (orun (s84 call v215 (.int .i64 0) (.int .i64 100) h216 N217) (fun v219 h220 N221 => (some (v219, (h220, N221)))))) (fun v222 h223 N224 => (obind (Ev.wntV v207 false) (fun v225 => (orun (Ev.sel v225 (some ((.tuple ⟨[]⟩), (h223, N224))) (obind (Ev.unV Pr .not v222) (fun v226 => (some (v226, (h223, N224)))))) (fun v227 h228 N229 => (obind (Ev.pck v207 (some (.bool true)) (some v227)) (fun v230 => (Ev.cnd v230 (obind (Ev.unmark d156 h228) (fun h231 => (some ((.bool false), (h231, N229))))) (obind (Ev.iop .add v155 (.int .i64 1)) (fun v232 => (g151 v152 v153 v154 v232 d156 h228 N229)))))))))))))))))))))))))))))))))))))))))))))))))))))))))))))))))))) (obind (Ev.fad 8 v152) (fun v233 => (obind (Ev.ld1 h157 v233) (fun v234 => (obind (Ev.lenS v234) (fun v235 => (lpR (α := C4) (fun v236 v237 v238 v239 d240 h241 N242 => none) (fun g243 v244 v245 v246 v247 d248 h249 N250 => (obind (Ev.iop .lss v247 v246) (fun v251 => (Ev.cnd v251 (obind (Ev.iadS 5 v245 v247) (fun v252 => (obind (Ev.ldN 5 h249 v252) (fun v253 => (fN (.succ N250) (fun N254 => (obind (Ev.sto 5 (.pointer (some ⟨N250, 0, none⟩)) v253 (Tr.set h249 (some (.c [(.int .i64 0), (.int .i64 0), (.int .i64 0), (.int .i64 0), (.int .i64 0)] 71)) N250)) (fun h255 => (obind (Ev.ldN 5 h255 (.pointer (some ⟨N250, 0, none⟩))) (fun v256 => (obind (Ev.fad 0 v244) (fun v257 => (obind (Ev.ld1 h255 v257) (fun v258 => (ocond (Ev.agL1 h255 v257 v258) (ocond (Ev.agLN 5 h255 (.pointer (some ⟨N250, 0, none⟩)) v256) (orun (s44 call v256 v258 h255 N254) (fun v259 h260 N261 => (obind (Ev.unV Pr .not v259) (fun v262 => (obind (Ev.wntV v262 false) (fun v263 => (orun (Ev.sel v263 (some ((.tuple ⟨[]⟩), (h260, N261))) (some (v247, (h260, N261)))) (fun v264 h265 N266 => (obind (Ev.wntV v262 false) (fun v267 => (orun (Ev.sel v267 (some ((.tuple ⟨[]⟩), (h265, N266))) (obind (Ev.iop .gtr v264 (.int .i64 0)) (fun v268 => (some (v268, (h265, N266)))))) (fun v269 h270 N271 => (obind (Ev.wntV v262 false) (fun v272 => (orun (Ev.sel v272 (some ((.tuple ⟨[]⟩), (h270, N271))) (some (v269, (h270, N271)))) (fun v273 h274 N275 => (obind (Ev.wntV v273 true) (fun v276 => (orun (Ev.sel v276 (some ((.tuple ⟨[]⟩), (h274, N275))) (obind (Ev.fad 8 v244) (fun v277 => (some (v277, (h274, N275)))))) (fun v278 h279 N280 => (obind (Ev.wntV v273 true) (fun v281 => (orun (Ev.sel v281 (some ((.tuple ⟨[]⟩), (h279, N280))) (obind (Ev.ld1 h279 v278) (fun v282 => (some (v282, (h279, N280)))))) (fun v283 h284 N285 => (obind (Ev.wntV v273 true) (fun v286 => (orun (Ev.sel v286 (some ((.tuple ⟨[]⟩), (h284, N285))) (some (v247, (h284, N285)))) (fun v287 h288 N289 => (obind (Ev.wntV v273 true) (fun v290 => (orun (Ev.sel v290 (some ((.tuple ⟨[]⟩), (h288, N289))) (obind (Ev.iop .sub v287 (.int .i64 1)) (fun v291 => (some (v291, (h288, N289)))))) (fun v292 h293 N294 => (obind (Ev.wntV v273 true) (fun v295 => (orun (Ev.sel v295 (some ((.tuple ⟨[]⟩), (h293, N294))) (obind (Ev.iadS 5 v283 v292) (fun v296 => (some (v296, (h293, N294)))))) (fun v297 h298 N299 => (obind (Ev.wntV v273 true) (fun v300 => (orun (Ev.sel v300 (some ((.tuple ⟨[]⟩), (h298, N299))) (obind (Ev.fad 0 v297) (fun v301 => (some (v301, (h298, N299)))))) (fun v302 h303 N304 => (obind (Ev.wntV v273 true) (fun v305 => (orun (Ev.sel v305 (some ((.tuple ⟨[]⟩), (h303, N304))) (obind (Ev.ld1 h303 v302) (fun v306 => (some (v306, (h303, N304)))))) (fun v307 h308 N309 => (obind (Ev.wntV v273 true) (fun v310 => (orun (Ev.sel v310 (some ((.tuple ⟨[]⟩), (h308, N309))) (obind (Ev.fad 0 (.pointer (some ⟨N250, 0, none⟩))) (fun v311 => (some (v311, (h308, N309)))))) (fun v312 h313 N314 => (obind (Ev.wntV v273 true) (fun v315 => (orun (Ev.sel v315 (some ((.tuple ⟨[]⟩), (h313, N314))) (obind (Ev.ld1 h313 v312) (fun v316 => (some (v316, (h313, N314)))))) (fun v317 h318 N319 => (obind (Ev.wntV v273 true) (fun v320 => (orun (Ev.sel v320 (some ((.tuple ⟨[]⟩), (h318, N319))) (obind (Ev.iop .geq v307 v317) (fun v321 => (some (v321, (h318, N319)))))) (fun v322 h323 N324 => (obind (Ev.wntV v262 false) (fun v325 => (orun (Ev.sel v325 (some ((.tuple ⟨[]⟩), (h323, N324))) (obind (Ev.pck v273 (some v322) (some (.bool false))) (fun v326 => (some (v326, (h323, N324)))))) (fun v327 h328 N329 => (obind (Ev.pck v262 (some (.bool true)) (some v327)) (fun v330 => (ocond (Ev.impB v315 (Ev.agL1 h328 v312 v317)) (ocond (Ev.impB v305 (Ev.agL1 h328 v302 v307)) (ocond (Ev.impB v281 (Ev.agL1 h328 v278 v283)) (Ev.cnd v330 (obind (Ev.unmark d248 h328) (fun h331 => (some ((.bool false), (h331, N329))))) (obind (Ev.iop .add v247 (.int .i64 1)) (fun v332 => (g243 v244 v245 v246 v332 d248 h328 N329))))))))))))))))))))))))))))))))))))))))))))))))))))))))))))))))))))))))))))))))))))) (obind (Ev.unmark d248 h249) (fun h333 => (some ((.bool true), (h333, N250))))))))) v152 v234 v235 (.int .i64 0) d156 h157 N158))))))))))) (.pointer (some ⟨N, 0, none⟩)) v142 v143 (.int .i64 0) [] h138 N139))))))))))))))))))))))))))))))))))))))))))))))))))))))))))))))))))))))))))))))))))))))))))))))))))))))))))))))))))))))))))))))
noncomputable def F65 : Ev.Fs := fun call args h N => ar1 args fun a0 => s65 call a0 h N
theorem o65 : FOk Pr 65 F65 := ar1_ok (F := cFn Pr st65 65 (.s .n (.s .n (.s (.s .n (.s (.j [1, 48, 49, 50] .n .n) .n)) (.s (.s .n (.s (.j [1, 75, 76, 77] .n .n) .n)) .n))))) (s := s65) (fun call a0 h N => by kernel_rfl) (cFn_ok hmix (st := st65) (StOk.cons o66 (StOk.cons o84 (StOk.cons o44 StOk.nil))) 65 (.s .n (.s .n (.s (.s .n (.s (.j [1, 48, 49, 50] .n .n) .n)) (.s (.s .n (.s (.j [1, 75, 76, 77] .n .n) .n)) .n)))))
/- function 101 -/
noncomputable def st101 : Ev.St := []
noncomputable def s101 (call : CallF) (a0 a1 a2 : Value) (h : Tr Ob) (N : Nat) : OpR :=
  (fN (.succ N) (fun N0 => (fN (.succ N0) (fun N1 => (obind (Ev.iop .gtr a2 (.int .i64 0)) (fun v2 => (obind (Ev.wntV v2 true) (fun v3 => (orun (Ev.sel v3 (some ((.tuple ⟨[]⟩), ((Tr.set (Tr.set h (some (.c (Ev.cel a0) 27)) N) (some (.c (Ev.cel a1) 71)) N0), N1))) (obind (Ev.fad 3 (.pointer (some ⟨N0, 0, none⟩))) (fun v4 => (some (v4, ((Tr.set (Tr.set h (some (.c (Ev.cel a0) 27)) N) (some (.c (Ev.cel a1) 71)) N0), N1)))))) (fun v5 h6 N7 => (obind (Ev.wntV v2 true) (fun v8 => (orun (Ev.sel v8 (some ((.tuple ⟨[]⟩), (h6, N7))) (obind (Ev.fad 0 v5) (fun v9 => (some (v9, (h6, N7)))))) (fun v10 h11 N12 => (obind (Ev.wntV v2 true) (fun v13 => (orun (Ev.sel v13 (some ((.tuple ⟨[]⟩), (h11, N12))) (obind (Ev.ld1 h11 v10) (fun v14 => (some (v14, (h11, N12)))))) (fun v15 h16 N17 => (obind (Ev.wntV v2 true) (fun v18 => (orun (Ev.sel v18 (some ((.tuple ⟨[]⟩), (h16, N17))) (obind (Ev.fad 3 (.pointer (some ⟨N, 0, none⟩))) (fun v19 => (some (v19, (h16, N17)))))) (fun v20 h21 N22 => (obind (Ev.wntV v2 true) (fun v23 => (orun (Ev.sel v23 (some ((.tuple ⟨[]⟩), (h21, N22))) (obind (Ev.fad 0 v20) (fun v24 => (some (v24, (h21, N22)))))) (fun v25 h26 N27 => (obind (Ev.wntV v2 true) (fun v28 => (orun (Ev.sel v28 (some ((.tuple ⟨[]⟩), (h26, N27))) (obind (Ev.ld1 h26 v25) (fun v29 => (some (v29, (h26, N27)))))) (fun v30 h31 N32 => (obind (Ev.wntV v2 true) (fun v33 => (orun (Ev.sel v33 (some ((.tuple ⟨[]⟩), (h31, N32))) (obind (Ev.iop .mul v15 v30) (fun v34 => (some (v34, (h31, N32)))))) (fun v35 h36 N37 => (obind (Ev.wntV v2 true) (fun v38 => (orun (Ev.sel v38 (some ((.tuple ⟨[]⟩), (h36, N37))) (some (a2, (h36, N37)))) (fun v39 h40 N41 => (obind (Ev.wntV v2 true) (fun v42 => (orun (Ev.sel v42 (some ((.tuple ⟨[]⟩), (h40, N41))) (obind (Ev.iop .mul v35 v39) (fun v43 => (some (v43, (h40, N41)))))) (fun v44 h45 N46 => (obind (Ev.wntV v2 true) (fun v47 => (orun (Ev.sel v47 (some ((.tuple ⟨[]⟩), (h45, N46))) (obind (Ev.fad 2 (.pointer (some ⟨N0, 0, none⟩))) (fun v48 => (some (v48, (h45, N46)))))) (fun v49 h50 N51 => (obind (Ev.wntV v2 true) (fun v52 => (orun (Ev.sel v52 (some ((.tuple ⟨[]⟩), (h50, N51))) (obind (Ev.ld1 h50 v49) (fun v53 => (some (v53, (h50, N51)))))) (fun v54 h55 N56 => (obind (Ev.wntV v2 true) (fun v57 => (orun (Ev.sel v57 (some ((.tuple ⟨[]⟩), (h55, N56))) (obind (Ev.iop .mul (.int .i64 3600) v54) (fun v58 => (some (v58, (h55, N56)))))) (fun v59 h60 N61 => (obind (Ev.wntV v2 true) (fun v62 => (orun (Ev.sel v62 (some ((.tuple ⟨[]⟩), (h60, N61))) (obind (Ev.iop .leq v44 v59) (fun v63 => (some (v63, (h60, N61)))))) (fun v64 h65 N66 => (obind (Ev.pck v2 (some v64) (some (.bool false))) (fun v67 => (obind (Ev.wntV v67 true) (fun v68 => (orun (Ev.sel v68 (some ((.tuple ⟨[]⟩), (h65, N66))) (obind (Ev.fad 2 (.pointer (some ⟨N0, 0, none⟩))) (fun v69 => (some (v69, (h65, N66)))))) (fun v70 h71 N72 => (obind (Ev.wntV v67 true) (fun v73 => (orun (Ev.sel v73 (some ((.tuple ⟨[]⟩), (h71, N72))) (obind (Ev.ld1 h71 v70) (fun v74 => (some (v74, (h71, N72)))))) (fun v75 h76 N77 => (obind (Ev.wntV v67 true) (fun v78 => (orun (Ev.sel v78 (some ((.tuple ⟨[]⟩), (h76, N77))) (obind (Ev.iop .mul (.int .i64 3600) v75) (fun v79 => (some (v79, (h76, N77)))))) (fun v80 h81 N82 => (obind (Ev.wntV v67 true) (fun v83 => (orun (Ev.sel v83 (some ((.tuple ⟨[]⟩), (h81, N82))) (obind (Ev.fad 3 (.pointer (some ⟨N0, 0, none⟩))) (fun v84 => (some (v84, (h81, N82)))))) (fun v85 h86 N87 => (obind (Ev.wntV v67 true) (fun v88 => (orun (Ev.sel v88 (some ((.tuple ⟨[]⟩), (h86, N87))) (obind (Ev.fad 1 v85) (fun v89 => (some (v89, (h86, N87)))))) (fun v90 h91 N92 => (obind (Ev.wntV v67 true) (fun v93 => (orun (Ev.sel v93 (some ((.tuple ⟨[]⟩), (h91, N92))) (obind (Ev.ld1 h91 v90) (fun v94 => (some (v94, (h91, N92)))))) (fun v95 h96 N97 => (obind (Ev.wntV v67 true) (fun v98 => (orun (Ev.sel v98 (some ((.tuple ⟨[]⟩), (h96, N97))) (obind (Ev.fad 3 (.pointer (some ⟨N, 0, none⟩))) (fun v99 => (some (v99, (h96, N97)))))) (fun v100 h101 N102 => (obind (Ev.wntV v67 true) (fun v103 => (orun (Ev.sel v103 (some ((.tuple ⟨[]⟩), (h101, N102))) (obind (Ev.fad 1 v100) (fun v104 => (some (v104, (h101, N102)))))) (fun v105 h106 N107 => (obind (Ev.wntV v67 true) (fun v108 => (orun (Ev.sel v108 (some ((.tuple ⟨[]⟩), (h106, N107))) (obind (Ev.ld1 h106 v105) (fun v109 => (some (v109, (h106, N107)))))) (fun v110 h111 N112 => (obind (Ev.wntV v67 true) (fun v113 => (orun (Ev.sel v113 (some ((.tuple ⟨[]⟩), (h111, N112))) (obind (Ev.iop .mul v95 v110) (fun v114 => (some (v114, (h111, N112)))))) (fun v115 h116 N117 => (obind (Ev.wntV v67 true) (fun v118 => (orun (Ev.sel v118 (some ((.tuple ⟨[]⟩), (h116, N117))) (some (a2, (h116, N117)))) (fun v119 h120 N121 => (obind (Ev.wntV v67 true) (fun v122 => (orun (Ev.sel v122 (some ((.tuple ⟨[]⟩), (h120, N121))) (obind (Ev.iop .mul v115 v119) (fun v123 => (some (v123, (h120, N121)))))) (fun v124 h125 N126 => (obind (Ev.wntV v67 true) (fun v127 => (orun (Ev.sel v127 (some ((.tuple ⟨[]⟩), (h125, N126))) (obind (Ev.iop .leq v80 v124) (fun v128 => (some (v128, (h125, N126)))))) (fun v129 h130 N131 => (obind (Ev.pck v67 (some v129) (some (.bool false))) (fun v132 => (some (v132, (h130, N131)))))))))))))))))))))))))))))))))))))))))))))))))))))))))))))))))))))))))))))))))))))))))))))))))))))))))))))))))))))
noncomputable def F101 : Ev.Fs := fun call args h N => ar3 args fun a0 a1 a2 => s101 call a0 a1 a2 h N
theorem o101 : FOk Pr 101 F101 := ar3_ok (F := cFn Pr st101 101 .n) (s := s101) (fun call a0 a1 a2 h N => by kernel_rfl) (cFn_ok hmix (st := st101) StOk.nil 101 .n)
/- function 90 -/
noncomputable def st90 : Ev.St := [(101, F101)]
noncomputable def s90 (call : CallF) (a0 : Value) (h : Tr Ob) (N : Nat) : OpR :=
  (fN (.succ N) (fun N0 => (fN (.succ N0) (fun N1 => (fN (.succ N1) (fun N2 => (lpR (α := C4) (fun v3 v4 v5 v6 d7 h8 N9 => none) (fun g10 v11 v12 v13 v14 d15 h16 N17 => (obind (Ev.fad 0 v11) (fun v18 => (obind (Ev.ld1 h16 v18) (fun v19 => (obind (Ev.iop .lss v14 v19) (fun v20 => (Ev.cnd v20 (obind (Ev.fad 1 v11) (fun v21 => (obind (Ev.ld1 h16 v21) (fun v22 => (obind (Ev.iop .add v22 (.int .i64 1)) (fun v23 => (obind (Ev.fad 0 v13) (fun v24 => (obind (Ev.iadA 10 1 v24 v14) (fun v25 => (obind (Ev.sto 1 v25 v23 h16) (fun h26 => (obind (Ev.fad 10 v13) (fun v27 => (obind (Ev.iadA 10 1 v27 v14) (fun v28 => (obind (Ev.sto 1 v28 (.int .i64 (-1)) h26) (fun h29 => (lpR (α := C5) (fun v30 v31 v32 v33 v34 d35 h36 N37 => none) (fun g38 v39 v40 v41 v42 v43 d44 h45 N46 => (obind (Ev.fad 1 v39) (fun v47 => (obind (Ev.ld1 h45 v47) (fun v48 => (obind (Ev.iop .leq v43 v48) (fun v49 => (Ev.cnd v49 (obind (Ev.fad 8 v39) (fun v50 => (obind (Ev.ld1 h45 v50) (fun v51 => (obind (Ev.lenS v51) (fun v52 => (lpR (α := C9) (fun v53 v54 v55 v56 v57 v58 v59 v60 v61 d62 h63 N64 => none) (fun g65 v66 v67 v68 v69 v70 v71 v72 v73 v74 d75 h76 N77 => (obind (Ev.iop .lss v74 v73) (fun v78 => (Ev.cnd v78 (obind (Ev.iadS 5 v72 v74) (fun v79 => (obind (Ev.ldN 5 h76 v79) (fun v80 => (fN (.succ N77) (fun N81 => (obind (Ev.sto 5 (.pointer (some ⟨N77, 0, none⟩)) v80 (Tr.set h76 (some (.c [(.int .i64 0), (.int .i64 0), (.int .i64 0), (.int .i64 0), (.int .i64 0)] 71)) N77)) (fun h82 => (obind (Ev.wntV v71 true) (fun v83 => (orun (Ev.sel v83 (some ((.tuple ⟨[]⟩), (h82, N81))) (obind (Ev.fad 1 (.pointer (some ⟨N77, 0, none⟩))) (fun v84 => (some (v84, (h82, N81)))))) (fun v85 h86 N87 => (obind (Ev.wntV v71 true) (fun v88 => (orun (Ev.sel v88 (some ((.tuple ⟨[]⟩), (h86, N87))) (obind (Ev.ld1 h86 v85) (fun v89 => (some (v89, (h86, N87)))))) (fun v90 h91 N92 => (obind (Ev.wntV v71 true) (fun v93 => (orun (Ev.sel v93 (some ((.tuple ⟨[]⟩), (h91, N92))) (some (v69, (h91, N92)))) (fun v94 h95 N96 => (obind (Ev.wntV v71 true) (fun v97 => (orun (Ev.sel v97 (some ((.tuple ⟨[]⟩), (h95, N96))) (obind (Ev.iop .neq v90 v94) (fun v98 => (some (v98, (h95, N96)))))) (fun v99 h100 N101 => (obind (Ev.wntV v71 true) (fun v102 => (orun (Ev.sel v102 (some ((.tuple ⟨[]⟩), (h100, N101))) (some (v99, (h100, N101)))) (fun v103 h104 N105 => (obind (Ev.wntV v103 false) (fun v106 => (orun (Ev.sel v106 (some ((.tuple ⟨[]⟩), (h104, N105))) (obind (Ev.ldN 9 h104 v66) (fun v107 => (some (v107, (h104, N105)))))) (fun v108 h109 N110 => (obind (Ev.wntV v103 false) (fun v111 => (orun (Ev.sel v111 (some ((.tuple ⟨[]⟩), (h109, N110))) (obind (Ev.ldN 5 h109 (.pointer (some ⟨N77, 0, none⟩))) (fun v112 => (some (v112, (h109, N110)))))) (fun v113 h114 N115 => (obind (Ev.wntV v103 false) (fun v116 => (orun (Ev.sel v116 (some ((.tuple ⟨[]⟩), (h114, N115))) (some (v70, (h114, N115)))) (fun v117 h118 N119 => (obind (Ev.wntV v103 false) (fun v120 => (orun (Ev.sel v120 (some ((.tuple ⟨[]⟩), (h118, N119))) (orun (s101 call v108 v113 v117 h118 N119) (fun v121 h122 N123 => (some (v121, (h122, N123)))))) (fun v124 h125 N126 => (obind (Ev.wntV v71 true) (fun v127 => (orun (Ev.sel v127 (some ((.tuple ⟨[]⟩), (h125, N126))) (obind (Ev.pck v103 (some (.bool true)) (some v124)) (fun v128 => (some (v128, (h125, N126)))))) (fun v129 h130 N131 => (obind (Ev.pck v71 (some v129) (some (.bool false))) (fun v132 => (obind (Ev.iop .add v74 (.int .i64 1)) (fun v133 => (g65 v66 v67 v68 v69 v70 v132 v72 v73 v133 d75 h130 N131))))))))))))))))))))))))))))))))))))))))))))))))))))) (jnR (α := C5) (fun v134 v135 v136 v137 v138 d139 h140 N141 => (obind (Ev.iop .add v138 (.int .i64 1)) (fun v142 => (g38 v134 v135 v136 v137 v142 d139 h140 N141)))) (fun g143 => (Ev.cnd v71 (obind (Ev.fad 0 v68) (fun v144 => (obind (Ev.iadA 10 1 v144 v69) (fun v145 => (obind (Ev.ld1 h76 v145) (fun v146 => (obind (Ev.mnV Pr ⟨[3, 3]⟩ 3 [v146, v70]) (fun v147 => (obind (Ev.fad 0 v68) (fun v148 => (obind (Ev.iadA 10 1 v148 v69) (fun v149 => (obind (Ev.sto 1 v149 v147 h76) (fun h150 => (obind (Ev.fad 10 v68) (fun v151 => (obind (Ev.iadA 10 1 v151 v69) (fun v152 => (obind (Ev.sto 1 v152 v70 h150) (fun h153 => (g143 v66 v67 v68 v69 v70 d75 h153 N77))))))))))))))))))))) (g143 v66 v67 v68 v69 v70 d75 h76 N77)))))))) v39 v40 v41 v42 v43 (.bool true) v51 v52 (.int .i64 0) d44 h45 N46))))))) (obind (Ev.iop .add v42 (.int .i64 1)) (fun v154 => (g10 v39 v40 v41 v154 d44 h45 N46))))))))))) v11 v12 v13 v14 (.int .i64 0) d15 h29 N17))))))))))))))))))) (obind (Ev.ldN 20 h16 v13) (fun v155 => (obind (Ev.sto 20 v12 v155 h16) (fun h156 => (obind (Ev.unmark d15 h156) (fun h157 => (obind (Ev.ldN 20 h157 v12) (fun v158 => (some (v158, (h157, N17))))))))))))))))))) (.pointer (some ⟨N, 0, none⟩)) (.pointer (some ⟨N0, 0, none⟩)) (.pointer (some ⟨N1, 0, none⟩)) (.int .i64 0) [] (Tr.set (Tr.set (Tr.set h (some (.c (Ev.cel a0) 27)) N) (some (.c [(.int .i64 0), (.int .i64 0), (.int .i64 0), (.int .i64 0), (.int .i64 0), (.int .i64 0), (.int .i64 0), (.int .i64 0), (.int .i64 0), (.int .i64 0), (.int .i64 0), (.int .i64 0), (.int .i64 0), (.int .i64 0), (.int .i64 0), (.int .i64 0), (.int .i64 0), (.int .i64 0), (.int .i64 0), (.int .i64 0)] 104)) N0) (some (.c [(.int .i64 0), (.int .i64 0), (.int .i64 0), (.int .i64 0), (.int .i64 0), (.int .i64 0), (.int .i64 0), (.int .i64 0), (.int .i64 0), (.int .i64 0), (.int .i64 0), (.int .i64 0), (.int .i64 0), (.int .i64 0), (.int .i64 0), (.int .i64 0), (.int .i64 0), (.int .i64 0), (.int .i64 0), (.int .i64 0)] 104)) N1) N2)))))))
noncomputable def F90 : Ev.Fs := fun call args h N => ar1 args fun a0 => s90 call a0 h N
theorem o90 : FOk Pr 90 F90 := ar1_ok (F := cFn Pr st90 90 (.s .n (.s .n (.s (.s .n (.s (.j [1, 2, 3, 4] (.s .n (.s (.s (.s .n (.s .n (.s (.j [1, 2, 3, 4, 5] (.s .n (.s (.s (.s .n (.s (.s .n (.s (.j [1, 2, 3, 4, 5, 6, 31, 32, 33] .n .n) .n)) (.s .n (.j [1, 2, 3, 4, 5] .n .n)))) .n) .n)) .n) .n))) .n) .n)) .n) .n)) .n)))) (s := s90) (fun call a0 h N => by kernel_rfl) (cFn_ok hmix (st := st90) (StOk.cons o101 StOk.nil) 90 (.s .n (.s .n (.s (.s .n (.s (.j [1, 2, 3, 4] (.s .n (.s (.s (.s .n (.s .n (.s (.j [1, 2, 3, 4, 5] (.s .n (.s (.s (.s .n (.s (.s .n (.s (.j [1, 2, 3, 4, 5, 6, 31, 32, 33] .n .n) .n)) (.s .n (.j [1, 2, 3, 4, 5] .n .n)))) .n) .n)) .n) .n))) .n) .n)) .n) .n)) .n))))
/- function 122 -/
noncomputable def st122 : Ev.St := [(66, F66)]
noncomputable def s122 (call : CallF) (a0 a1 a2 : Value) (h : Tr Ob) (N : Nat) : OpR :=
  (fN (.succ N) (fun N0 => (fN (.succ N0) (fun N1 => (fN (.succ N1) (fun N2 => (obind (Ev.fad 7 (.pointer (some ⟨N, 0, none⟩))) (fun v3 => (obind (Ev.ld1 (Tr.set (Tr.set (Tr.set h (some (.c (Ev.cel a0) 27)) N) (some (.c (Ev.cel a1) 104)) N0) (some (.c [(.int .i64 0), (.int .i64 0), (.int .i64 0), (.int .i64 0), (.int .i64 0), (.int .i64 0), (.int .i64 0), (.int .i64 0), (.int .i64 0), (.int .i64 0), (.int .i64 0), (.int .i64 0), (.int .i64 0), (.int .i64 0), (.int .i64 0), (.int .i64 0), (.int .i64 0), (.int .i64 0), (.int .i64 0), (.int .i64 0)] 104)) N1) v3) (fun v4 => (obind (Ev.lenS v4) (fun v5 => (lpR (α := C7) (fun v6 v7 v8 v9 v10 v11 v12 d13 h14 N15 => none) (fun g16 v17 v18 v19 v20 v21 v22 v23 d24 h25 N26 => (obind (Ev.iop .lss v23 v22) (fun v27 => (Ev.cnd v27 (obind (Ev.iadS 5 v21 v23) (fun v28 => (obind (Ev.ldN 5 h25 v28) (fun v29 => (fN (.succ N26) (fun N30 => (obind (Ev.sto 5 (.pointer (some ⟨N26, 0, none⟩)) v29 (Tr.set h25 (some (.c [(.int .i64 0), (.int .i64 0), (.int .i64 0), (.int .i64 0), (.int .i64 0)] 73)) N26)) (fun h31 => (obind (Ev.fad 0 (.pointer (some ⟨N26, 0, none⟩))) (fun v32 => (obind (Ev.fad 0 v32) (fun v33 => (obind (Ev.ld1 h31 v33) (fun v34 => (obind (Ev.fad 0 (.pointer (some ⟨N26, 0, none⟩))) (fun v35 => (obind (Ev.fad 1 v35) (fun v36 => (obind (Ev.ld1 h31 v36) (fun v37 => (orun (s66 call v17 v34 v37 h31 N30) (fun v38 h39 N40 => (jnR (α := C7) (fun v41 v42 v43 v44 v45 v46 v47 d48 h49 N50 => (obind (Ev.iop .add v47 (.int .i64 1)) (fun v51 => (g16 v41 v42 v43 v44 v45 v46 v51 d48 h49 N50)))) (fun g52 => (Ev.cnd v38 (obind (Ev.fad 2 (.pointer (some ⟨N26, 0, none⟩))) (fun v53 => (obind (Ev.ld1 h39 v53) (fun v54 => (obind (Ev.fad 2 (.pointer (some ⟨N26, 0, none⟩))) (fun v55 => (obind (Ev.ld1 h39 v55) (fun v56 => (obind (Ev.fad 2 (.pointer (some ⟨N26, 0, none⟩))) (fun v57 => (obind (Ev.ld1 h39 v57) (fun v58 => (obind (Ev.fad 0 v19) (fun v59 => (obind (Ev.iadA 10 1 v59 v58) (fun v60 => (obind (Ev.ld1 h39 v60) (fun v61 => (obind (Ev.fad 3 (.pointer (some ⟨N26, 0, none⟩))) (fun v62 => (obind (Ev.fad 0 v62) (fun v63 => (obind (Ev.ld1 h39 v63) (fun v64 => (obind (Ev.mxV Pr ⟨[3, 3]⟩ 3 [v61, v64]) (fun v65 => (obind (Ev.fad 2 (.pointer (some ⟨N26, 0, none⟩))) (fun v66 => (obind (Ev.ld1 h39 v66) (fun v67 => (obind (Ev.fad 10 v19) (fun v68 => (obind (Ev.iadA 10 1 v68 v67) (fun v69 => (obind (Ev.ld1 h39 v69) (fun v70 => (obind (Ev.fad 3 (.pointer (some ⟨N26, 0, none⟩))) (fun v71 => (obind (Ev.fad 1 v71) (fun v72 => (obind (Ev.ld1 h39 v72) (fun v73 => (obind (Ev.mnV Pr ⟨[3, 3]⟩ 3 [v70, v73]) (fun v74 => (obind (Ev.fad 0 v19) (fun v75 => (obind (Ev.iadA 10 1 v75 v54) (fun v76 => (obind (Ev.fad 10 v19) (fun v77 => (ocond (Ev.agL1 h39 v72 v73) (ocond (Ev.agL1 h39 v69 v70) (ocond (Ev.agL1 h39 v66 v67) (ocond (Ev.agL1 h39 v63 v64) (ocond (Ev.agL1 h39 v60 v61) (ocond (Ev.agL1 h39 v57 v58) (ocond (Ev.agL1 h39 v55 v56) (ocond (Ev.agL1 h39 v53 v54) (obind (Ev.sto 1 v76 v65 h39) (fun h78 => (obind (Ev.iadA 10 1 v77 v56) (fun v79 => (ocond (Ev.agL1 h78 v72 v73) (ocond (Ev.agL1 h78 v55 v56) (obind (Ev.sto 1 v79 v74 h78) (fun h80 => (g52 v17 v18 v19 v20 v21 v22 v23 d24 h80 N40))))))))))))))))))))))))))))))))))))))))))))))))))))))))))))))))))) (g52 v17 v18 v19 v20 v21 v22 v23 d24 h39 N40)))))))))))))))))))))))))) (lpR (α := C4) (fun v81 v82 v83 v84 d85 h86 N87 => none) (fun g88 v89 v90 v91 v92 d93 h94 N95 => (obind (Ev.fad 0 v89) (fun v96 => (obind (Ev.ld1 h94 v96) (fun v97 => (obind (Ev.iop .lss v92 v97) (fun v98 => (Ev.cnd v98 (obind (Ev.fad 0 v90) (fun v99 => (obind (Ev.iadA 10 1 v99 v92) (fun v100 => (obind (Ev.ld1 h94 v100) (fun v101 => (obind (Ev.iop .sub v92 (.int .i64 1)) (fun v102 => (obind (Ev.fad 0 v90) (fun v103 => (obind (Ev.iadA 10 1 v103 v102) (fun v104 => (obind (Ev.ld1 h94 v104) (fun v105 => (obind (Ev.fad 2 v89) (fun v106 => (obind (Ev.ld1 h94 v106) (fun v107 => (obind (Ev.iop .sub v105 v107) (fun v108 => (obind (Ev.mxV Pr ⟨[3, 3]⟩ 3 [v101, v108]) (fun v109 => (obind (Ev.fad 10 v90) (fun v110 => (obind (Ev.iadA 10 1 v110 v92) (fun v111 => (obind (Ev.ld1 h94 v111) (fun v112 => (obind (Ev.iop .sub v92 (.int .i64 1)) (fun v113 => (obind (Ev.fad 10 v90) (fun v114 => (obind (Ev.iadA 10 1 v114 v113) (fun v115 => (obind (Ev.ld1 h94 v115) (fun v116 => (obind (Ev.mnV Pr ⟨[3, 3]⟩ 3 [v112, v116]) (fun v117 => (obind (Ev.fad 0 v90) (fun v118 => (obind (Ev.iadA 10 1 v118 v92) (fun v119 => (obind (Ev.fad 10 v90) (fun v120 => (ocond (Ev.agL1 h94 v115 v116) (ocond (Ev.agL1 h94 v111 v112) (ocond (Ev.agL1 h94 v106 v107) (ocond (Ev.agL1 h94 v104 v105) (ocond (Ev.agL1 h94 v100 v101) (obind (Ev.sto 1 v119 v109 h94) (fun h121 => (obind (Ev.iadA 10 1 v120 v92) (fun v122 => (obind (Ev.sto 1 v122 v117 h121) (fun h123 => (obind (Ev.iop .add v92 (.int .i64 1)) (fun v124 => (g88 v89 v90 v91 v124 d93 h123 N95)))))))))))))))))))))))))))))))))))))))))))))))))))))))))) (obind (Ev.fad 0 v89) (fun v125 => (obind (Ev.ld1 h94 v125) (fun v126 => (obind (Ev.iop .sub v126 (.int .i64 2)) (fun v127 => (lpR (α := C4) (fun v128 v129 v130 v131 d132 h133 N134 => none) (fun g135 v136 v137 v138 v139 d140 h141 N142 => (obind (Ev.iop .geq v139 (.int .i64 0)) (fun v143 => (Ev.cnd v143 (obind (Ev.fad 0 v137) (fun v144 => (obind (Ev.iadA 10 1 v144 v139) (fun v145 => (obind (Ev.ld1 h141 v145) (fun v146 => (obind (Ev.iop .add v139 (.int .i64 1)) (fun v147 => (obind (Ev.fad 0 v137) (fun v148 => (obind (Ev.iadA 10 1 v148 v147) (fun v149 => (obind (Ev.ld1 h141 v149) (fun v150 => (obind (Ev.mxV Pr ⟨[3, 3]⟩ 3 [v146, v150]) (fun v151 => (obind (Ev.fad 10 v137) (fun v152 => (obind (Ev.iadA 10 1 v152 v139) (fun v153 => (obind (Ev.ld1 h141 v153) (fun v154 => (obind (Ev.iop .add v139 (.int .i64 1)) (fun v155 => (obind (Ev.fad 10 v137) (fun v156 => (obind (Ev.iadA 10 1 v156 v155) (fun v157 => (obind (Ev.ld1 h141 v157) (fun v158 => (obind (Ev.fad 2 v136) (fun v159 => (obind (Ev.ld1 h141 v159) (fun v160 => (obind (Ev.iop .add v158 v160) (fun v161 => (obind (Ev.mnV Pr ⟨[3, 3]⟩ 3 [v154, v161]) (fun v162 => (obind (Ev.fad 0 v137) (fun v163 => (obind (Ev.iadA 10 1 v163 v139) (fun v164 => (obind (Ev.fad 10 v137) (fun v165 => (ocond (Ev.agL1 h141 v159 v160) (ocond (Ev.agL1 h141 v157 v158) (ocond (Ev.agL1 h141 v153 v154) (ocond (Ev.agL1 h141 v149 v150) (ocond (Ev.agL1 h141 v145 v146) (obind (Ev.sto 1 v164 v151 h141) (fun h166 => (obind (Ev.iadA 10 1 v165 v139) (fun v167 => (ocond (Ev.agL1 h166 v159 v160) (obind (Ev.sto 1 v167 v162 h166) (fun h168 => (obind (Ev.iop .sub v139 (.int .i64 1)) (fun v169 => (g135 v136 v137 v138 v169 d140 h168 N142))))))))))))))))))))))))))))))))))))))))))))))))))))))))))) (lpR (α := C4) (fun v170 v171 v172 v173 d174 h175 N176 => none) (fun g177 v178 v179 v180 v181 d182 h183 N184 => (obind (Ev.fad 0 v178) (fun v185 => (obind (Ev.ld1 h183 v185) (fun v186 => (obind (Ev.iop .lss v181 v186) (fun v187 => (Ev.cnd v187 (obind (Ev.fad 0 v179) (fun v188 => (obind (Ev.iadA 10 1 v188 v181) (fun v189 => (obind (Ev.ld1 h183 v189) (fun v190 => (obind (Ev.fad 10 v179) (fun v191 => (obind (Ev.iadA 10 1 v191 v181) (fun v192 => (obind (Ev.ld1 h183 v192) (fun v193 => (obind (Ev.iop .gtr v190 v193) (fun v194 => (ocond (Ev.agL1 h183 v192 v193) (ocond (Ev.agL1 h183 v189 v190) (Ev.cnd v194 (obind (Ev.ldN 20 h183 v179) (fun v195 => (obind (Ev.sto 20 v180 v195 h183) (fun h196 => (obind (Ev.unmark d182 h196) (fun h197 => (obind (Ev.ldN 20 h197 v180) (fun v198 => (some ((.tuple ⟨[v198, (.bool false)]⟩), (h197, N184))))))))))) (obind (Ev.iop .add v181 (.int .i64 1)) (fun v199 => (g177 v178 v179 v180 v199 d182 h183 N184)))))))))))))))))))) (obind (Ev.ldN 20 h183 v179) (fun v200 => (obind (Ev.sto 20 v180 v200 h183) (fun h201 => (obind (Ev.unmark d182 h201) (fun h202 => (obind (Ev.ldN 20 h202 v180) (fun v203 => (some ((.tuple ⟨[v203, (.bool true)]⟩), (h202, N184))))))))))))))))))) v136 v137 v138 (.int .i64 0) d140 h141 N142))))) v89 v90 v91 v127 d93 h94 N95))))))))))))))) v18 v19 v20 (.int .i64 1) d24 h25 N26))))) a2 (.pointer (some ⟨N, 0, none⟩)) (.pointer (some ⟨N0, 0, none⟩)) (.pointer (some ⟨N1, 0, none⟩)) v4 v5 (.int .i64 0) [] (Tr.set (Tr.set (Tr.set h (some (.c (Ev.cel a0) 27)) N) (some (.c (Ev.cel a1) 104)) N0) (some (.c [(.int .i64 0), (.int .i64 0), (.int .i64 0), (.int .i64 0), (.int .i64 0), (.int .i64 0), (.int .i64 0), (.int .i64 0), (.int .i64 0), (.int .i64 0), (.int .i64 0), (.int .i64 0), (.int .i64 0), (.int .i64 0), (.int .i64 0), (.int .i64 0), (.int .i64 0), (.int .i64 0), (.int .i64 0), (.int .i64 0)] 104)) N1) N2)))))))))))))
noncomputable def F122 : Ev.Fs := fun call args h N => ar3 args fun a0 a1 a2 => s122 call a0 a1 a2 h N
theorem o122 : FOk Pr 122 F122 := ar3_ok (F := cFn Pr st122 122 (.s .n (.s (.s .n (.s (.j [2, 3, 4, 6, 14, 15, 16] (.s .n (.s .n (.s (.s (.s .n (.s .n (.j [2, 3, 4, 6, 14, 15, 16] .n .n))) .n) .n))) .n) .n)) (.s (.s .n (.s (.j [3, 4, 6, 10] .n .n) .n)) (.s (.s .n (.s (.j [3, 4, 6, 11] .n .n) .n)) (.s (.s .n (.s (.j [3, 4, 6, 12] .n .n) .n)) .n)))))) (s := s122) (fun call a0 a1 a2 h N => by kernel_rfl) (cFn_ok hmix (st := st122) (StOk.cons o66 StOk.nil) 122 (.s .n (.s (.s .n (.s (.j [2, 3, 4, 6, 14, 15, 16] (.s .n (.s .n (.s (.s (.s .n (.s .n (.j [2, 3, 4, 6, 14, 15, 16] .n .n))) .n) .n))) .n) .n)) (.s (.s .n (.s (.j [3, 4, 6, 10] .n .n) .n)) (.s (.s .n (.s (.j [3, 4, 6, 11] .n .n) .n)) (.s (.s .n (.s (.j [3, 4, 6, 12] .n .n) .n)) .n))))))
/- function 100 -/
noncomputable def st100 : Ev.St := [(122, F122)]
noncomputable def s100 (call : CallF) (a0 a1 : Value) (h : Tr Ob) (N : Nat) : OpR :=
  (fN (.succ N) (fun N0 => (fN (.succ N0) (fun N1 => (obind (Ev.fad 5 (.pointer (some ⟨N, 0, none⟩))) (fun v2 => (obind (Ev.fad 0 v2) (fun v3 => (obind (Ev.ld1 (Tr.set (Tr.set h (some (.c (Ev.cel a0) 27)) N) (some (.c (Ev.cel a1) 104)) N0) v3) (fun v4 => (lpR (α := C5) (fun v5 v6 v7 v8 v9 d10 h11 N12 => none) (fun g13 v14 v15 v16 v17 v18 d19 h20 N21 => (obind (Ev.fad 5 v14) (fun v22 => (obind (Ev.fad 1 v22) (fun v23 => (obind (Ev.ld1 h20 v23) (fun v24 => (obind (Ev.iop .leq v18 v24) (fun v25 => (Ev.cnd v25 (obind (Ev.ldN 9 h20 v14) (fun v26 => (obind (Ev.ldN 20 h20 v15) (fun v27 => (orun (s122 call v26 v27 v18 h20 N21) (fun v28 h29 N30 => (obind (Ev.extr 0 v28) (fun v31 => (obind (Ev.extr 1 v28) (fun v32 => (fN (.succ N30) (fun N33 => (obind (Ev.sto 20 (.pointer (some ⟨N30, 0, none⟩)) v31 (Tr.set h29 (some (.c [(.int .i64 0), (.int .i64 0), (.int .i64 0), (.int .i64 0), (.int .i64 0), (.int .i64 0), (.int .i64 0), (.int .i64 0), (.int .i64 0), (.int .i64 0), (.int .i64 0), (.int .i64 0), (.int .i64 0), (.int .i64 0), (.int .i64 0), (.int .i64 0), (.int .i64 0), (.int .i64 0), (.int .i64 0), (.int .i64 0)] 104)) N30)) (fun h34 => (jnR (α := C5) (fun v35 v36 v37 v38 v39 d40 h41 N42 => (obind (Ev.iop .add v39 (.int .i64 1)) (fun v43 => (g13 v35 v36 v37 v38 v43 d40 h41 N42)))) (fun g44 => (Ev.cnd v32 (orun (Ev.evBuildSlice Pr 35 1 [(0, v18)] h34 N33) (fun v45 h46 N47 => (obind (Ev.ldN 20 h46 (.pointer (some ⟨N30, 0, none⟩))) (fun v48 => (orun (Ev.evBuildSlice Pr 94 1 [(0, v48)] h46 N47) (fun v49 h50 N51 => (ocond (Ev.again Pr h50 (.mk 6 (.mk (some 35) (.buildSlice 94 1 ⟨[(0, (.tmp 34))]⟩) 94 "ref.go:114" ⟨[(.mk 5 .data)]⟩ none) (Tr.set (.e 32) (some v48) 34) v49 N47 true)) (ocond (Ev.agLN 20 h50 (.pointer (some ⟨N30, 0, none⟩)) v48) (ocond (Ev.again Pr h50 (.mk 2 (.mk (some 31) (.buildSlice 35 1 ⟨[(0, (.tmp 30))]⟩) 35 "ref.go:114" ⟨[(.mk 1 .data)]⟩ none) (Tr.set (.e 32) (some v18) 30) v45 N33 true)) (orun (Ev.evAppend Pr 35 v16 v45 h50 N51) (fun v52 h53 N54 => (ocond (Ev.again Pr h53 (.mk 6 (.mk (some 35) (.buildSlice 94 1 ⟨[(0, (.tmp 34))]⟩) 94 "ref.go:114" ⟨[(.mk 5 .data)]⟩ none) (Tr.set (.e 32) (some v48) 34) v49 N47 true)) (ocond (Ev.agLN 20 h53 (.pointer (some ⟨N30, 0, none⟩)) v48) (orun (Ev.evAppend Pr 94 v17 v49 h53 N54) (fun v55 h56 N57 => (g44 v14 v15 v52 v55 v18 d19 h56 N57)))))))))))))))) (g44 v14 v15 v16 v17 v18 d19 h34 N33)))))))))))))))))) (obind (Ev.unmark d19 h20) (fun h58 => (some ((.tuple ⟨[v16, v17]⟩), (h58, N21))))))))))))))) (.pointer (some ⟨N, 0, none⟩)) (.pointer (some ⟨N0, 0, none⟩)) (.slice none 0 0) (.slice none 0 0) v4 [] (Tr.set (Tr.set h (some (.c (Ev.cel a0) 27)) N) (some (.c (Ev.cel a1) 104)) N0) N1)))))))))))
noncomputable def F100 : Ev.Fs := fun call args h N => ar2 args fun a0 a1 => s100 call a0 a1 h N
theorem o100 : FOk Pr 100 F100 := ar2_ok (F := cFn Pr st100 100 (.s .n (.s .n (.s .n (.s (.s .n (.s (.j [2, 3, 6, 7, 8] (.s .n (.s (.s (.s .n (.s .n (.j [2, 3, 6, 7, 8] .n .n))) .n) .n)) .n) .n)) .n))))) (s := s100) (fun call a0 a1 h N => by kernel_rfl) (cFn_ok hmix (st := st100) (StOk.cons o122 StOk.nil) 100 (.s .n (.s .n (.s .n (.s (.s .n (.s (.j [2, 3, 6, 7, 8] (.s .n (.s (.s (.s .n (.s .n (.j [2, 3, 6, 7, 8] .n .n))) .n) .n)) .n) .n)) .n)))))
/- function 79 -/
noncomputable def st79 : Ev.St := [(90, F90), (100, F100)]
noncomputable def s79 (call : CallF) (a0 : Value) (h : Tr Ob) (N : Nat) : OpR :=
  (fN (.succ N) (fun N0 => (obind (Ev.ldN 9 (Tr.set h (some (.c (Ev.cel a0) 27)) N) (.pointer (some ⟨N, 0, none⟩))) (fun v1 => (obind (Ev.ldN 9 (Tr.set h (some (.c (Ev.cel a0) 27)) N) (.pointer (some ⟨N, 0, none⟩))) (fun v2 => (ocond (Ev.agLN 9 (Tr.set h (some (.c (Ev.cel a0) 27)) N) (.pointer (some ⟨N, 0, none⟩)) v2) (ocond (Ev.agLN 9 (Tr.set h (some (.c (Ev.cel a0) 27)) N) (.pointer (some ⟨N, 0, none⟩)) v1) (orun (s90 call v2 (Tr.set h (some (.c (Ev.cel a0) 27)) N) N0) (fun v3 h4 N5 => (ocond (Ev.agLN 9 h4 (.pointer (some ⟨N, 0, none⟩)) v1) (orun (s100 call v1 v3 h4 N5) (fun v6 h7 N8 => (obind (Ev.extr 0 v6) (fun v9 => (obind (Ev.extr 1 v6) (fun v10 => (some ((.tuple ⟨[v9, v10]⟩), (h7, N8))))))))))))))))))))
noncomputable def F79 : Ev.Fs := fun call args h N => ar1 args fun a0 => s79 call a0 h N
theorem o79 : FOk Pr 79 F79 := ar1_ok (F := cFn Pr st79 79 .n) (s := s79) (fun call a0 h N => by kernel_rfl) (cFn_ok hmix (st := st79) (StOk.cons o90 (StOk.cons o100 StOk.nil)) 79 .n)
/- function 13 -/
noncomputable def st13 : Ev.St := []
noncomputable def s13 (call : CallF) (a0 : Value) (h : Tr Ob) (N : Nat) : OpR :=
  (fN (.succ N) (fun N0 => (fN (.succ N0) (fun N1 => (orun (Ev.evBuildSlice Pr 24 0 [] (Tr.set (Tr.set h (some (.c (Ev.cel a0) 27)) N) (some (.c [(.int .i64 0), (.int .i64 0), (.int .i64 0), (.int .i64 0), (.int .i64 0), (.int .i64 0), (.int .i64 0), (.slice none 0 0), (.slice none 0 0)] 27)) N0) N1) (fun v2 h3 N4 => (obind (Ev.fad 7 (.pointer (some ⟨N, 0, none⟩))) (fun v5 => (obind (Ev.ld1 h3 v5) (fun v6 => (orun (Ev.evBuildSlice Pr 25 0 [] h3 N4) (fun v7 h8 N9 => (obind (Ev.fad 8 (.pointer (some ⟨N, 0, none⟩))) (fun v10 => (obind (Ev.ld1 h8 v10) (fun v11 => (ocond (Ev.agL1 h8 v10 v11) (ocond (Ev.again Pr h8 (.mk 4 (.mk (some 7) (.buildSlice 25 0 ⟨[]⟩) 25 "ref.go:499" ⟨[]⟩ none) (.e 32) v7 N4 true)) (ocond (Ev.agL1 h8 v5 v6) (ocond (Ev.again Pr h8 (.mk 0 (.mk (some 3) (.buildSlice 24 0 ⟨[]⟩) 24 "ref.go:499" ⟨[]⟩ none) (.e 32) v2 N1 true)) (orun (Ev.evAppend Pr 24 v2 v6 h8 N9) (fun v12 h13 N14 => (obind (Ev.fad 7 (.pointer (some ⟨N, 0, none⟩))) (fun v15 => (ocond (Ev.agL1 h13 v10 v11) (ocond (Ev.again Pr h13 (.mk 4 (.mk (some 7) (.buildSlice 25 0 ⟨[]⟩) 25 "ref.go:499" ⟨[]⟩ none) (.e 32) v7 N4 true)) (orun (Ev.evAppend Pr 25 v7 v11 h13 N14) (fun v16 h17 N18 => (obind (Ev.sto 1 v15 v12 h17) (fun h19 => (obind (Ev.fad 8 (.pointer (some ⟨N, 0, none⟩))) (fun v20 => (obind (Ev.sto 1 v20 v16 h19) (fun h21 => (obind (Ev.ldN 9 h21 (.pointer (some ⟨N, 0, none⟩))) (fun v22 => (obind (Ev.sto 9 (.pointer (some ⟨N0, 0, none⟩)) v22 h21) (fun h23 => (obind (Ev.ldN 9 h23 (.pointer (some ⟨N0, 0, none⟩))) (fun v24 => (some (v24, (h23, N18)))))))))))))))))))))))))))))))))))))))))))
noncomputable def F13 : Ev.Fs := fun call args h N => ar1 args fun a0 => s13 call a0 h N
theorem o13 : FOk Pr 13 F13 := ar1_ok (F := cFn Pr st13 13 .n) (s := s13) (fun call a0 h N => by kernel_rfl) (cFn_ok hmix (st := st13) StOk.nil 13 .n)
/- function 56 -/
noncomputable def st56 : Ev.St := []
noncomputable def s56 (call : CallF) (a0 a1 : Value) (h : Tr Ob) (N : Nat) : OpR :=
  (fN (.succ N) (fun N0 => (obind (Ev.iadS 20 a0 (.int .i64 0)) (fun v1 => (obind (Ev.fad 0 v1) (fun v2 => (obind (Ev.iadA 10 1 v2 a1) (fun v3 => (obind (Ev.ld1 (Tr.set h (some (.c [(.int .i64 0), (.int .i64 0)] 23)) N) v3) (fun v4 => (obind (Ev.iadS 20 a0 (.int .i64 0)) (fun v5 => (obind (Ev.fad 10 v5) (fun v6 => (obind (Ev.iadA 10 1 v6 a1) (fun v7 => (obind (Ev.ld1 (Tr.set h (some (.c [(.int .i64 0), (.int .i64 0)] 23)) N) v7) (fun v8 => (obind (Ev.evBuild Pr 23 [(0, v4), (1, v8)]) (fun v9 => (fN (.succ N0) (fun N10 => (ocond (Ev.again Pr (Tr.set (Tr.set h (some (.c [(.int .i64 0), (.int .i64 0)] 23)) N) (some (.c [(.int .i64 0), (.int .i64 0)] 23)) N0) (.mk 13 (.mk (some 5) (.alloc 23) 0 "ref.go:160" ⟨[]⟩ none) (.e 32) (.pointer (some ⟨N0, 0, none⟩)) N0 true)) (ocond (Ev.again Pr (Tr.set (Tr.set h (some (.c [(.int .i64 0), (.int .i64 0)] 23)) N) (some (.c [(.int .i64 0), (.int .i64 0)] 23)) N0) (.mk 12 (.mk (some 20) (.build 23 ⟨[(0, (.tmp 13)), (1, (.tmp 19))]⟩) 23 "ref.go:160" ⟨[(.mk 5 .data), (.mk 11 .data)]⟩ none) (Tr.set (Tr.set (.e 32) (some v8) 19) (some v4) 13) v9 N0 false)) (ocond (Ev.agL1 (Tr.set (Tr.set h (some (.c [(.int .i64 0), (.int .i64 0)] 23)) N) (some (.c [(.int .i64 0), (.int .i64 0)] 23)) N0) v7 v8) (ocond (Ev.agL1 (Tr.set (Tr.set h (some (.c [(.int .i64 0), (.int .i64 0)] 23)) N) (some (.c [(.int .i64 0), (.int .i64 0)] 23)) N0) v3 v4) (obind (Ev.sto 2 (.pointer (some ⟨N0, 0, none⟩)) v9 (Tr.set (Tr.set h (some (.c [(.int .i64 0), (.int .i64 0)] 23)) N) (some (.c [(.int .i64 0), (.int .i64 0)] 23)) N0)) (fun h11 => (obind (Ev.lenS a0) (fun v12 => (lpR (α := C6) (fun v13 v14 v15 v16 v17 v18 d19 h20 N21 => none) (fun g22 v23 v24 v25 v26 v27 v28 d29 h30 N31 => (obind (Ev.iop .lss v28 v27) (fun v32 => (Ev.cnd v32 (obind (Ev.iadS 20 v26 v28) (fun v33 => (obind (Ev.ldN 20 h30 v33) (fun v34 => (fN (.succ N31) (fun N35 => (obind (Ev.sto 20 (.pointer (some ⟨N31, 0, none⟩)) v34 (Tr.set h30 (some (.c [(.int .i64 0), (.int .i64 0), (.int .i64 0), (.int .i64 0), (.int .i64 0), (.int .i64 0), (.int .i64 0), (.int .i64 0), (.int .i64 0), (.int .i64 0), (.int .i64 0), (.int .i64 0), (.int .i64 0), (.int .i64 0), (.int .i64 0), (.int .i64 0), (.int .i64 0), (.int .i64 0), (.int .i64 0), (.int .i64 0)] 104)) N31)) (fun h36 => (obind (Ev.fad 0 v25) (fun v37 => (obind (Ev.ld1 h36 v37) (fun v38 => (obind (Ev.fad 0 (.pointer (some ⟨N31, 0, none⟩))) (fun v39 => (obind (Ev.iadA 10 1 v39 v23) (fun v40 => (obind (Ev.ld1 h36 v40) (fun v41 => (obind (Ev.mnV Pr ⟨[3, 3]⟩ 3 [v38, v41]) (fun v42 => (obind (Ev.fad 1 v25) (fun v43 => (obind (Ev.ld1 h36 v43) (fun v44 => (obind (Ev.fad 10 (.pointer (some ⟨N31, 0, none⟩))) (fun v45 => (obind (Ev.iadA 10 1 v45 v23) (fun v46 => (obind (Ev.ld1 h36 v46) (fun v47 => (obind (Ev.mxV Pr ⟨[3, 3]⟩ 3 [v44, v47]) (fun v48 => (obind (Ev.evBuild Pr 23 [(0, v42), (1, v48)]) (fun v49 => (ocond (Ev.again Pr h36 (.mk 14 (.mk (some 41) (.build 23 ⟨[(0, (.tmp 33)), (1, (.tmp 40))]⟩) 23 "ref.go:162" ⟨[(.mk 6 .data), (.mk 13 .data)]⟩ none) (Tr.set (Tr.set (.e 32) (some v48) 40) (some v42) 33) v49 N35 false)) (ocond (Ev.agL1 h36 v46 v47) (ocond (Ev.agL1 h36 v43 v44) (ocond (Ev.agL1 h36 v40 v41) (ocond (Ev.agL1 h36 v37 v38) (obind (Ev.sto 2 v25 v49 h36) (fun h50 => (obind (Ev.iop .add v28 (.int .i64 1)) (fun v51 => (g22 v23 v24 v25 v26 v27 v51 d29 h50 N35)))))))))))))))))))))))))))))))))))))))))))) (obind (Ev.ldN 2 h30 v25) (fun v52 => (obind (Ev.sto 2 v24 v52 h30) (fun h53 => (obind (Ev.unmark d29 h53) (fun h54 => (obind (Ev.ldN 2 h54 v24) (fun v55 => (some (v55, (h54, N31))))))))))))))) a1 (.pointer (some ⟨N, 0, none⟩)) (.pointer (some ⟨N0, 0, none⟩)) a0 v12 (.int .i64 0) [] h11 N10)))))))))))))))))))))))))))))))
noncomputable def F56 : Ev.Fs := fun call args h N => ar2 args fun a0 a1 => s56 call a0 a1 h N
theorem o56 : FOk Pr 56 F56 := ar2_ok (F := cFn Pr st56 56 (.s .n (.s .n (.s (.s .n (.s (.j [1, 4, 5, 21, 22, 23] .n .n) .n)) .n)))) (s := s56) (fun call a0 a1 h N => by kernel_rfl) (cFn_ok hmix (st := st56) StOk.nil 56 (.s .n (.s .n (.s (.s .n (.s (.j [1, 4, 5, 21, 22, 23] .n .n) .n)) .n))))
/- function 91 -/
noncomputable def st91 : Ev.St := [(100, F100), (56, F56)]
noncomputable def s91 (call : CallF) (a0 a1 : Value) (h : Tr Ob) (N : Nat) : OpR :=
  (fN (.succ N) (fun N0 => (fN (.succ N0) (fun N1 => (obind (Ev.ldN 9 (Tr.set (Tr.set h (some (.c (Ev.cel a0) 27)) N) (some (.c (Ev.cel a1) 104)) N0) (.pointer (some ⟨N, 0, none⟩))) (fun v2 => (obind (Ev.ldN 20 (Tr.set (Tr.set h (some (.c (Ev.cel a0) 27)) N) (some (.c (Ev.cel a1) 104)) N0) (.pointer (some ⟨N0, 0, none⟩))) (fun v3 => (orun (s100 call v2 v3 (Tr.set (Tr.set h (some (.c (Ev.cel a0) 27)) N) (some (.c (Ev.cel a1) 104)) N0) N1) (fun v4 h5 N6 => (obind (Ev.extr 0 v4) (fun v7 => (obind (Ev.extr 1 v4) (fun v8 => (obind (Ev.lenS v8) (fun v9 => (obind (Ev.iop .eql v9 (.int .i64 0)) (fun v10 => (Ev.cnd v10 (some ((.int .i64 (-1)), (h5, N6))) (lpR (α := C4) (fun v11 v12 v13 v14 d15 h16 N17 => none) (fun g18 v19 v20 v21 v22 d23 h24 N25 => (obind (Ev.fad 0 v19) (fun v26 => (obind (Ev.ld1 h24 v26) (fun v27 => (obind (Ev.iop .lss v22 v27) (fun v28 => (Ev.cnd v28 (orun (s56 call v20 v22 h24 N25) (fun v29 h30 N31 => (fN (.succ N31) (fun N32 => (obind (Ev.sto 2 (.pointer (some ⟨N31, 0, none⟩)) v29 (Tr.set h30 (some (.c [(.int .i64 0), (.int .i64 0)] 23)) N31)) (fun h33 => (obind (Ev.fad 1 (.pointer (some ⟨N31, 0, none⟩))) (fun v34 => (obind (Ev.ld1 h33 v34) (fun v35 => (obind (Ev.fad 0 (.pointer (some ⟨N31, 0, none⟩))) (fun v36 => (obind (Ev.ld1 h33 v36) (fun v37 => (obind (Ev.iop .sub v35 v37) (fun v38 => (obind (Ev.iop .add v21 v38) (fun v39 => (obind (Ev.iop .add v22 (.int .i64 1)) (fun v40 => (g18 v19 v20 v39 v40 d23 h33 N32))))))))))))))))))))) (obind (Ev.unmark d23 h24) (fun h41 => (some (v21, (h41, N25))))))))))))) (.pointer (some ⟨N, 0, none⟩)) v8 (.int .i64 0) (.int .i64 0) [] h5 N6))))))))))))))))))))
noncomputable def F91 : Ev.Fs := fun call args h N => ar2 args fun a0 a1 => s91 call a0 a1 h N
theorem o91 : FOk Pr 91 F91 := ar2_ok (F := cFn Pr st91 91 (.s .n (.s .n (.s .n (.s .n (.s (.s .n (.s (.j [2, 6, 7, 8] .n .n) .n)) .n)))))) (s := s91) (fun call a0 a1 h N => by kernel_rfl) (cFn_ok hmix (st := st91) (StOk.cons o100 (StOk.cons o56 StOk.nil)) 91 (.s .n (.s .n (.s .n (.s .n (.s (.s .n (.s (.j [2, 6, 7, 8] .n .n) .n)) .n))))))
/- function 51 -/
noncomputable def st51 : Ev.St := [(90, F90), (91, F91)]
noncomputable def s51 (call : CallF) (a0 a1 : Value) (h : Tr Ob) (N : Nat) : OpR :=
  (fN (.succ N) (fun N0 => (obind (Ev.ldN 9 (Tr.set h (some (.c (Ev.cel a0) 27)) N) (.pointer (some ⟨N, 0, none⟩))) (fun v1 => (orun (s90 call v1 (Tr.set h (some (.c (Ev.cel a0) 27)) N) N0) (fun v2 h3 N4 => (fN (.succ N4) (fun N5 => (obind (Ev.sto 20 (.pointer (some ⟨N4, 0, none⟩)) v2 (Tr.set h3 (some (.c [(.int .i64 0), (.int .i64 0), (.int .i64 0), (.int .i64 0), (.int .i64 0), (.int .i64 0), (.int .i64 0), (.int .i64 0), (.int .i64 0), (.int .i64 0), (.int .i64 0), (.int .i64 0), (.int .i64 0), (.int .i64 0), (.int .i64 0), (.int .i64 0), (.int .i64 0), (.int .i64 0), (.int .i64 0), (.int .i64 0)] 104)) N4)) (fun h6 => (obind (Ev.fad 0 (.pointer (some ⟨N4, 0, none⟩))) (fun v7 => (obind (Ev.iadA 10 1 v7 a1) (fun v8 => (obind (Ev.ld1 h6 v8) (fun v9 => (lpR (α := C5) (fun v10 v11 v12 v13 v14 d15 h16 N17 => none) (fun g18 v19 v20 v21 v22 v23 d24 h25 N26 => (obind (Ev.fad 10 v21) (fun v27 => (obind (Ev.iadA 10 1 v27 v19) (fun v28 => (obind (Ev.ld1 h25 v28) (fun v29 => (obind (Ev.iop .leq v23 v29) (fun v30 => (Ev.cnd v30 (obind (Ev.ldN 20 h25 v21) (fun v31 => (fN (.succ N26) (fun N32 => (obind (Ev.sto 20 (.pointer (some ⟨N26, 0, none⟩)) v31 (Tr.set h25 (some (.c [(.int .i64 0), (.int .i64 0), (.int .i64 0), (.int .i64 0), (.int .i64 0), (.int .i64 0), (.int .i64 0), (.int .i64 0), (.int .i64 0), (.int .i64 0), (.int .i64 0), (.int .i64 0), (.int .i64 0), (.int .i64 0), (.int .i64 0), (.int .i64 0), (.int .i64 0), (.int .i64 0), (.int .i64 0), (.int .i64 0)] 104)) N26)) (fun h33 => (obind (Ev.fad 0 (.pointer (some ⟨N26, 0, none⟩))) (fun v34 => (obind (Ev.iadA 10 1 v34 v19) (fun v35 => (obind (Ev.sto 1 v35 v23 h33) (fun h36 => (obind (Ev.fad 10 (.pointer (some ⟨N26, 0, none⟩))) (fun v37 => (obind (Ev.iadA 10 1 v37 v19) (fun v38 => (obind (Ev.sto 1 v38 v23 h36) (fun h39 => (obind (Ev.ldN 9 h39 v20) (fun v40 => (obind (Ev.ldN 20 h39 (.pointer (some ⟨N26, 0, none⟩))) (fun v41 => (orun (s91 call v40 v41 h39 N32) (fun v42 h43 N44 => (obind (Ev.mxV Pr ⟨[3, 3]⟩ 3 [v22, v42]) (fun v45 => (obind (Ev.iop .add v23 (.int .i64 1)) (fun v46 => (g18 v19 v20 v21 v45 v46 d24 h43 N44))))))))))))))))))))))))))))) (obind (Ev.unmark d24 h25) (fun h47 => (some (v22, (h47, N26))))))))))))))) a1 (.pointer (some ⟨N, 0, none⟩)) (.pointer (some ⟨N4, 0, none⟩)) (.int .i64 0) v9 [] h6 N5)))))))))))))))))
noncomputable def F51 : Ev.Fs := fun call args h N => ar2 args fun a0 a1 => s51 call a0 a1 h N
theorem o51 : FOk Pr 51 F51 := ar2_ok (F := cFn Pr st51 51 (.s .n (.s .n (.s .n (.s (.s .n (.s (.j [1, 2, 5, 6, 7] .n .n) .n)) .n))))) (s := s51) (fun call a0 a1 h N => by kernel_rfl) (cFn_ok hmix (st := st51) (StOk.cons o90 (StOk.cons o91 StOk.nil)) 51 (.s .n (.s .n (.s .n (.s (.s .n (.s (.j [1, 2, 5, 6, 7] .n .n) .n)) .n)))))
/- function 55 -/
noncomputable def st55 : Ev.St := [(65, F65), (66, F66), (79, F79)]
noncomputable def s55 (call : CallF) (a0 a1 : Value) (h : Tr Ob) (N : Nat) : OpR :=
  (fN (.succ N) (fun N0 => (obind (Ev.ldN 9 (Tr.set h (some (.c (Ev.cel a0) 27)) N) (.pointer (some ⟨N, 0, none⟩))) (fun v1 => (orun (s65 call v1 (Tr.set h (some (.c (Ev.cel a0) 27)) N) N0) (fun v2 h3 N4 => (obind (Ev.unV Pr .not v2) (fun v5 => (Ev.cnd v5 (some ((.tuple ⟨[(.slice none 0 0), (.slice none 0 0), (.int .i64 10)]⟩), (h3, N4))) (obind (Ev.fad 0 (.pointer (some ⟨N, 0, none⟩))) (fun v6 => (obind (Ev.ld1 h3 v6) (fun v7 => (obind (Ev.iop .sub v7 (.int .i64 1)) (fun v8 => (orun (s66 call a1 (.int .i64 0) v8 h3 N4) (fun v9 h10 N11 => (obind (Ev.unV Pr .not v9) (fun v12 => (Ev.cnd v12 (some ((.tuple ⟨[(.slice none 0 0), (.slice none 0 0), (.int .i64 11)]⟩), (h10, N11))) (obind (Ev.ldN 9 h10 (.pointer (some ⟨N, 0, none⟩))) (fun v13 => (orun (s79 call v13 h10 N11) (fun v14 h15 N16 => (obind (Ev.extr 0 v14) (fun v17 => (obind (Ev.extr 1 v14) (fun v18 => (obind (Ev.lenS v17) (fun v19 => (obind (Ev.iop .eql v19 (.int .i64 0)) (fun v20 => (Ev.cnd v20 (some ((.tuple ⟨[(.slice none 0 0), (.slice none 0 0), (.int .i64 8)]⟩), (h15, N16))) (some ((.tuple ⟨[v17, v18, (.int .i64 0)]⟩), (h15, N16))))))))))))))))))))))))))))))))))))
noncomputable def F55 : Ev.Fs := fun call args h N => ar2 args fun a0 a1 => s55 call a0 a1 h N
theorem o55 : FOk Pr 55 F55 := ar2_ok (F := cFn Pr st55 55 .n) (s := s55) (fun call a0 a1 h N => by kernel_rfl) (cFn_ok hmix (st := st55) (StOk.cons o65 (StOk.cons o66 (StOk.cons o79 StOk.nil))) 55 .n)
/- function 15 -/
noncomputable def st15 : Ev.St := [(55, F55), (56, F56)]
noncomputable def s15 (call : CallF) (a0 a1 : Value) (h : Tr Ob) (N : Nat) : OpR :=
  (fN (.succ N) (fun N0 => (obind (Ev.ldN 9 (Tr.set h (some (.c (Ev.cel a0) 27)) N) (.pointer (some ⟨N, 0, none⟩))) (fun v1 => (orun (s55 call v1 (.int .i64 0) (Tr.set h (some (.c (Ev.cel a0) 27)) N) N0) (fun v2 h3 N4 => (obind (Ev.extr 0 v2) (fun v5 => (obind (Ev.extr 1 v2) (fun v6 => (obind (Ev.extr 2 v2) (fun v7 => (obind (Ev.iop .neq v7 (.int .i64 0)) (fun v8 => (Ev.cnd v8 (some ((.tuple ⟨[(.int .i64 0), v7]⟩), (h3, N4))) (lpR (α := C4) (fun v9 v10 v11 v12 d13 h14 N15 => none) (fun g16 v17 v18 v19 v20 d21 h22 N23 => (obind (Ev.fad 0 v18) (fun v24 => (obind (Ev.ld1 h22 v24) (fun v25 => (obind (Ev.iop .lss v20 v25) (fun v26 => (Ev.cnd v26 (orun (s56 call v19 v20 h22 N23) (fun v27 h28 N29 => (obind (Ev.fl1 0 v27) (fun v30 => (obind (Ev.iop .lss v30 v17) (fun v31 => (Ev.cnd v31 (obind (Ev.unmark d21 h28) (fun h32 => (some ((.tuple ⟨[v20, (.int .i64 0)]⟩), (h32, N29))))) (obind (Ev.iop .add v20 (.int .i64 1)) (fun v33 => (g16 v17 v18 v19 v33 d21 h28 N29)))))))))) (obind (Ev.unmark d21 h22) (fun h34 => (some ((.tuple ⟨[(.int .i64 0), (.int .i64 6)]⟩), (h34, N23))))))))))))) a1 (.pointer (some ⟨N, 0, none⟩)) v6 (.int .i64 0) [] h3 N4))))))))))))))))
noncomputable def F15 : Ev.Fs := fun call args h N => ar2 args fun a0 a1 => s15 call a0 a1 h N
theorem o15 : FOk Pr 15 F15 := ar2_ok (F := cFn Pr st15 15 (.s .n (.s .n (.s .n (.s (.s .n (.s (.j [1, 2, 7, 9] .n .n) .n)) .n))))) (s := s15) (fun call a0 a1 h N => by kernel_rfl) (cFn_ok hmix (st := st15) (StOk.cons o55 (StOk.cons o56 StOk.nil)) 15 (.s .n (.s .n (.s .n (.s (.s .n (.s (.j [1, 2, 7, 9] .n .n) .n)) .n)))))
/- function 17 -/
noncomputable def st17 : Ev.St := [(55, F55), (56, F56)]
noncomputable def s17 (call : CallF) (a0 a1 : Value) (h : Tr Ob) (N : Nat) : OpR :=
  (fN (.succ N) (fun N0 => (obind (Ev.ldN 9 (Tr.set h (some (.c (Ev.cel a0) 27)) N) (.pointer (some ⟨N, 0, none⟩))) (fun v1 => (orun (s55 call v1 (.int .i64 0) (Tr.set h (some (.c (Ev.cel a0) 27)) N) N0) (fun v2 h3 N4 => (obind (Ev.extr 0 v2) (fun v5 => (obind (Ev.extr 1 v2) (fun v6 => (obind (Ev.extr 2 v2) (fun v7 => (obind (Ev.iop .neq v7 (.int .i64 0)) (fun v8 => (Ev.cnd v8 (some ((.tuple ⟨[(.int .i64 0), v7]⟩), (h3, N4))) (lpR (α := C4) (fun v9 v10 v11 v12 d13 h14 N15 => none) (fun g16 v17 v18 v19 v20 d21 h22 N23 => (obind (Ev.fad 0 v18) (fun v24 => (obind (Ev.ld1 h22 v24) (fun v25 => (obind (Ev.iop .lss v20 v25) (fun v26 => (Ev.cnd v26 (orun (s56 call v19 v20 h22 N23) (fun v27 h28 N29 => (obind (Ev.fl1 1 v27) (fun v30 => (obind (Ev.iop .lss v30 v17) (fun v31 => (Ev.cnd v31 (obind (Ev.unmark d21 h28) (fun h32 => (some ((.tuple ⟨[v20, (.int .i64 0)]⟩), (h32, N29))))) (obind (Ev.iop .add v20 (.int .i64 1)) (fun v33 => (g16 v17 v18 v19 v33 d21 h28 N29)))))))))) (obind (Ev.unmark d21 h22) (fun h34 => (some ((.tuple ⟨[(.int .i64 0), (.int .i64 6)]⟩), (h34, N23))))))))))))) a1 (.pointer (some ⟨N, 0, none⟩)) v6 (.int .i64 0) [] h3 N4))))))))))))))))
noncomputable def F17 : Ev.Fs := fun call args h N => ar2 args fun a0 a1 => s17 call a0 a1 h N
theorem o17 : FOk Pr 17 F17 := ar2_ok (F := cFn Pr st17 17 (.s .n (.s .n (.s .n (.s (.s .n (.s (.j [1, 2, 7, 9] .n .n) .n)) .n))))) (s := s17) (fun call a0 a1 h N => by kernel_rfl) (cFn_ok hmix (st := st17) (StOk.cons o55 (StOk.cons o56 StOk.nil)) 17 (.s .n (.s .n (.s .n (.s (.s .n (.s (.j [1, 2, 7, 9] .n .n) .n)) .n)))))
/- function 19 -/
noncomputable def st19 : Ev.St := [(55, F55)]
noncomputable def s19 (call : CallF) (a0 : Value) (h : Tr Ob) (N : Nat) : OpR :=
  (fN (.succ N) (fun N0 => (obind (Ev.ldN 9 (Tr.set h (some (.c (Ev.cel a0) 27)) N) (.pointer (some ⟨N, 0, none⟩))) (fun v1 => (orun (s55 call v1 (.int .i64 0) (Tr.set h (some (.c (Ev.cel a0) 27)) N) N0) (fun v2 h3 N4 => (obind (Ev.extr 0 v2) (fun v5 => (obind (Ev.extr 1 v2) (fun v6 => (obind (Ev.extr 2 v2) (fun v7 => (obind (Ev.iop .neq v7 (.int .i64 0)) (fun v8 => (Ev.cnd v8 (some ((.tuple ⟨[(.int .i64 0), (.slice none 0 0), v7]⟩), (h3, N4))) (obind (Ev.lenS v6) (fun v9 => (lpR (α := C8) (fun v10 v11 v12 v13 v14 v15 v16 v17 d18 h19 N20 => none) (fun g21 v22 v23 v24 v25 v26 v27 v28 v29 d30 h31 N32 => (obind (Ev.iop .lss v29 v28) (fun v33 => (Ev.cnd v33 (obind (Ev.iadS 20 v27 v29) (fun v34 => (obind (Ev.ldN 20 h31 v34) (fun v35 => (fN (.succ N32) (fun N36 => (obind (Ev.sto 20 (.pointer (some ⟨N32, 0, none⟩)) v35 (Tr.set h31 (some (.c [(.int .i64 0), (.int .i64 0), (.int .i64 0), (.int .i64 0), (.int .i64 0), (.int .i64 0), (.int .i64 0), (.int .i64 0), (.int .i64 0), (.int .i64 0), (.int .i64 0), (.int .i64 0), (.int .i64 0), (.int .i64 0), (.int .i64 0), (.int .i64 0), (.int .i64 0), (.int .i64 0), (.int .i64 0), (.int .i64 0)] 104)) N32)) (fun h37 => (lpR (α := C12) (fun v38 v39 v40 v41 v42 v43 v44 v45 v46 v47 v48 v49 d50 h51 N52 => none) (fun g53 v54 v55 v56 v57 v58 v59 v60 v61 v62 v63 v64 v65 d66 h67 N68 => (obind (Ev.fad 0 v54) (fun v69 => (obind (Ev.ld1 h67 v69) (fun v70 => (obind (Ev.iop .lss v62 v70) (fun v71 => (Ev.cnd v71 (obind (Ev.fad 0 v60) (fun v72 => (obind (Ev.iadA 10 1 v72 v62) (fun v73 => (obind (Ev.ld1 h67 v73) (fun v74 => (obind (Ev.iop .add v61 v74) (fun v75 => (obind (Ev.iop .add v62 (.int .i64 1)) (fun v76 => (g53 v54 v55 v56 v57 v58 v59 v60 v75 v76 v63 v64 v65 d66 h67 N68))))))))))) (obind (Ev.iop .eql v59 (.int .i64 0)) (fun v77 => (obind (Ev.wntV v77 false) (fun v78 => (orun (Ev.sel v78 (some ((.tuple ⟨[]⟩), (h67, N68))) (some (v61, (h67, N68)))) (fun v79 h80 N81 => (obind (Ev.wntV v77 false) (fun v82 => (orun (Ev.sel v82 (some ((.tuple ⟨[]⟩), (h80, N81))) (some (v58, (h80, N81)))) (fun v83 h84 N85 => (obind (Ev.wntV v77 false) (fun v86 => (orun (Ev.sel v86 (some ((.tuple ⟨[]⟩), (h84, N85))) (obind (Ev.iop .lss v79 v83) (fun v87 => (some (v87, (h84, N85)))))) (fun v88 h89 N90 => (obind (Ev.pck v77 (some (.bool true)) (some v88)) (fun v91 => (jnR (α := C8) (fun v92 v93 v94 v95 v96 v97 v98 v99 d100 h101 N102 => (obind (Ev.iop .add v99 (.int .i64 1)) (fun v103 => (g21 v92 v93 v94 v95 v96 v97 v98 v103 d100 h101 N102)))) (fun g104 => (Ev.cnd v91 (g104 v54 v55 v56 v59 v61 v63 v64 v65 d66 h89 N90) (g104 v54 v55 v56 v57 v58 v63 v64 v65 d66 h89 N90)))))))))))))))))))))))))))) v22 v23 v24 v25 v26 v29 (.pointer (some ⟨N32, 0, none⟩)) (.int .i64 0) (.int .i64 0) v27 v28 v29 d30 h37 N36))))))))) (obind (Ev.iadS 1 v23 v25) (fun v105 => (obind (Ev.ld1 h31 v105) (fun v106 => (orun (Ev.evBuildSlice Pr 35 0 [] h31 N32) (fun v107 h108 N109 => (obind (Ev.iadS 20 v24 v25) (fun v110 => (obind (Ev.fad 0 v110) (fun v111 => (obind (Ev.fad 0 v22) (fun v112 => (obind (Ev.ld1 h108 v112) (fun v113 => (obind (Ev.evSlice Pr 102 v111 none (some v113) none) (fun v114 => (ocond (Ev.agL1 h108 v112 v113) (ocond (Ev.again Pr h108 (.mk 4 (.mk (some 56) (.buildSlice 35 0 ⟨[]⟩) 35 "ref.go:235" ⟨[]⟩ none) (.e 32) v107 N32 true)) (ocond (Ev.agL1 h108 v105 v106) (orun (Ev.evAppend Pr 35 v107 v114 h108 N109) (fun v115 h116 N117 => (ocond (Ev.agL1 h116 v105 v106) (obind (Ev.unmark d30 h116) (fun h118 => (some ((.tuple ⟨[v106, v115, (.int .i64 0)]⟩), (h118, N117))))))))))))))))))))))))))))))) (.pointer (some ⟨N, 0, none⟩)) v5 v6 (.int .i64 0) (.int .i64 0) v6 v9 (.int .i64 0) [] h3 N4))))))))))))))))))
noncomputable def F19 : Ev.Fs := fun call args h N => ar1 args fun a0 => s19 call a0 h N
theorem o19 : FOk Pr 19 F19 := ar1_ok (F := cFn Pr st19 19 (.s .n (.s .n (.s .n (.s .n (.s (.s .n (.s (.j [1, 5, 6, 8, 9, 23, 24, 25] (.s .n (.s .n (.s (.s (.s .n (.s .n (.s (.s .n (.s (.j [1, 5, 6, 8, 9, 10, 11, 12, 13, 23, 24, 25] .n .n) .n)) (.s .n (.j [1, 5, 6, 8, 9, 23, 24, 25] .n .n))))) .n) .n))) .n) .n)) .n)))))) (s := s19) (fun call a0 h N => by kernel_rfl) (cFn_ok hmix (st := st19) (StOk.cons o55 StOk.nil) 19 (.s .n (.s .n (.s .n (.s .n (.s (.s .n (.s (.j [1, 5, 6, 8, 9, 23, 24, 25] (.s .n (.s .n (.s (.s (.s .n (.s .n (.s (.s .n (.s (.j [1, 5, 6, 8, 9, 10, 11, 12, 13, 23, 24, 25] .n .n) .n)) (.s .n (.j [1, 5, 6, 8, 9, 23, 24, 25] .n .n))))) .n) .n))) .n) .n)) .n))))))
/- function 21 -/
noncomputable def st21 : Ev.St := [(55, F55)]
noncomputable def s21 (call : CallF) (a0 : Value) (h : Tr Ob) (N : Nat) : OpR :=
  (fN (.succ N) (fun N0 => (obind (Ev.ldN 9 (Tr.set h (some (.c (Ev.cel a0) 27)) N) (.pointer (some ⟨N, 0, none⟩))) (fun v1 => (orun (s55 call v1 (.int .i64 0) (Tr.set h (some (.c (Ev.cel a0) 27)) N) N0) (fun v2 h3 N4 => (obind (Ev.extr 0 v2) (fun v5 => (obind (Ev.extr 1 v2) (fun v6 => (obind (Ev.extr 2 v2) (fun v7 => (obind (Ev.iop .neq v7 (.int .i64 0)) (fun v8 => (Ev.cnd v8 (some ((.tuple ⟨[(.int .i64 0), (.slice none 0 0), v7]⟩), (h3, N4))) (obind (Ev.lenS v6) (fun v9 => (lpR (α := C8) (fun v10 v11 v12 v13 v14 v15 v16 v17 d18 h19 N20 => none) (fun g21 v22 v23 v24 v25 v26 v27 v28 v29 d30 h31 N32 => (obind (Ev.iop .lss v29 v28) (fun v33 => (Ev.cnd v33 (obind (Ev.iadS 20 v27 v29) (fun v34 => (obind (Ev.ldN 20 h31 v34) (fun v35 => (fN (.succ N32) (fun N36 => (obind (Ev.sto 20 (.pointer (some ⟨N32, 0, none⟩)) v35 (Tr.set h31 (some (.c [(.int .i64 0), (.int .i64 0), (.int .i64 0), (.int .i64 0), (.int .i64 0), (.int .i64 0), (.int .i64 0), (.int .i64 0), (.int .i64 0), (.int .i64 0), (.int .i64 0), (.int .i64 0), (.int .i64 0), (.int .i64 0), (.int .i64 0), (.int .i64 0), (.int .i64 0), (.int .i64 0), (.int .i64 0), (.int .i64 0)] 104)) N32)) (fun h37 => (lpR (α := C12) (fun v38 v39 v40 v41 v42 v43 v44 v45 v46 v47 v48 v49 d50 h51 N52 => none) (fun g53 v54 v55 v56 v57 v58 v59 v60 v61 v62 v63 v64 v65 d66 h67 N68 => (obind (Ev.fad 0 v54) (fun v69 => (obind (Ev.ld1 h67 v69) (fun v70 => (obind (Ev.iop .lss v62 v70) (fun v71 => (Ev.cnd v71 (obind (Ev.fad 10 v60) (fun v72 => (obind (Ev.iadA 10 1 v72 v62) (fun v73 => (obind (Ev.ld1 h67 v73) (fun v74 => (obind (Ev.iop .add v61 v74) (fun v75 => (obind (Ev.iop .add v62 (.int .i64 1)) (fun v76 => (g53 v54 v55 v56 v57 v58 v59 v60 v75 v76 v63 v64 v65 d66 h67 N68))))))))))) (obind (Ev.iop .gtr v61 v58) (fun v77 => (jnR (α := C8) (fun v78 v79 v80 v81 v82 v83 v84 v85 d86 h87 N88 => (obind (Ev.iop .add v85 (.int .i64 1)) (fun v89 => (g21 v78 v79 v80 v81 v82 v83 v84 v89 d86 h87 N88)))) (fun g90 => (Ev.cnd v77 (g90 v54 v55 v56 v59 v61 v63 v64 v65 d66 h67 N68) (g90 v54 v55 v56 v57 v58 v63 v64 v65 d66 h67 N68)))))))))))))) v22 v23 v24 v25 v26 v29 (.pointer (some ⟨N32, 0, none⟩)) (.int .i64 0) (.int .i64 0) v27 v28 v29 d30 h37 N36))))))))) (obind (Ev.iadS 1 v23 v25) (fun v91 => (obind (Ev.ld1 h31 v91) (fun v92 => (orun (Ev.evBuildSlice Pr 35 0 [] h31 N32) (fun v93 h94 N95 => (obind (Ev.iadS 20 v24 v25) (fun v96 => (obind (Ev.fad 10 v96) (fun v97 => (obind (Ev.fad 0 v22) (fun v98 => (obind (Ev.ld1 h94 v98) (fun v99 => (obind (Ev.evSlice Pr 102 v97 none (some v99) none) (fun v100 => (ocond (Ev.agL1 h94 v98 v99) (ocond (Ev.again Pr h94 (.mk 4 (.mk (some 52) (.buildSlice 35 0 ⟨[]⟩) 35 "ref.go:254" ⟨[]⟩ none) (.e 32) v93 N32 true)) (ocond (Ev.agL1 h94 v91 v92) (orun (Ev.evAppend Pr 35 v93 v100 h94 N95) (fun v101 h102 N103 => (ocond (Ev.agL1 h102 v91 v92) (obind (Ev.unmark d30 h102) (fun h104 => (some ((.tuple ⟨[v92, v101, (.int .i64 0)]⟩), (h104, N103))))))))))))))))))))))))))))))) (.pointer (some ⟨N, 0, none⟩)) v5 v6 (.int .i64 0) (.int .i64 (-1)) v6 v9 (.int .i64 0) [] h3 N4))))))))))))))))))
noncomputable def F21 : Ev.Fs := fun call args h N => ar1 args fun a0 => s21 call a0 h N
theorem o21 : FOk Pr 21 F21 := ar1_ok (F := cFn Pr st21 21 (.s .n (.s .n (.s .n (.s .n (.s (.s .n (.s (.j [1, 5, 6, 8, 9, 23, 24, 25] (.s .n (.s .n (.s (.s (.s .n (.s .n (.s (.s .n (.s (.j [1, 5, 6, 8, 9, 10, 11, 12, 13, 23, 24, 25] .n .n) .n)) (.s .n (.j [1, 5, 6, 8, 9, 23, 24, 25] .n .n))))) .n) .n))) .n) .n)) .n)))))) (s := s21) (fun call a0 h N => by kernel_rfl) (cFn_ok hmix (st := st21) (StOk.cons o55 StOk.nil) 21 (.s .n (.s .n (.s .n (.s .n (.s (.s .n (.s (.j [1, 5, 6, 8, 9, 23, 24, 25] (.s .n (.s .n (.s (.s (.s .n (.s .n (.s (.s .n (.s (.j [1, 5, 6, 8, 9, 10, 11, 12, 13, 23, 24, 25] .n .n) .n)) (.s .n (.j [1, 5, 6, 8, 9, 23, 24, 25] .n .n))))) .n) .n))) .n) .n)) .n))))))
/- function 67 -/
noncomputable def st67 : Ev.St := [(55, F55), (56, F56)]
noncomputable def s67 (call : CallF) (a0 a1 : Value) (h : Tr Ob) (N : Nat) : OpR :=
  (fN (.succ N) (fun N0 => (fN (.succ N0) (fun N1 => (obind (Ev.ldN 9 (Tr.set (Tr.set h (some (.c (Ev.cel a0) 27)) N) (some (.c [(.int .i64 0), (.int .i64 0)] 23)) N0) (.pointer (some ⟨N, 0, none⟩))) (fun v2 => (orun (s55 call v2 a1 (Tr.set (Tr.set h (some (.c (Ev.cel a0) 27)) N) (some (.c [(.int .i64 0), (.int .i64 0)] 23)) N0) N1) (fun v3 h4 N5 => (obind (Ev.extr 0 v3) (fun v6 => (obind (Ev.extr 1 v3) (fun v7 => (obind (Ev.extr 2 v3) (fun v8 => (obind (Ev.iop .neq v8 (.int .i64 0)) (fun v9 => (Ev.cnd v9 (obind (Ev.sto 2 (.pointer (some ⟨N0, 0, none⟩)) (.agg ⟨[(.int .i64 0), (.int .i64 0)]⟩) h4) (fun h10 => (obind (Ev.ldN 2 h10 (.pointer (some ⟨N0, 0, none⟩))) (fun v11 => (some ((.tuple ⟨[v11, v8]⟩), (h10, N5))))))) (orun (s56 call v7 a1 h4 N5) (fun v12 h13 N14 => (obind (Ev.sto 2 (.pointer (some ⟨N0, 0, none⟩)) v12 h13) (fun h15 => (obind (Ev.ldN 2 h15 (.pointer (some ⟨N0, 0, none⟩))) (fun v16 => (some ((.tuple ⟨[v16, (.int .i64 0)]⟩), (h15, N14))))))))))))))))))))))))))
noncomputable def F67 : Ev.Fs := fun call args h N => ar2 args fun a0 a1 => s67 call a0 a1 h N
theorem o67 : FOk Pr 67 F67 := ar2_ok (F := cFn Pr st67 67 .n) (s := s67) (fun call a0 a1 h N => by kernel_rfl) (cFn_ok hmix (st := st67) (StOk.cons o55 (StOk.cons o56 StOk.nil)) 67 .n)
/- function 23 -/
noncomputable def st23 : Ev.St := [(65, F65), (66, F66), (67, F67)]
noncomputable def s23 (call : CallF) (a0 a1 a2 : Value) (h : Tr Ob) (N : Nat) : OpR :=
  (fN (.succ N) (fun N0 => (fN (.succ N0) (fun N1 => (obind (Ev.ldN 9 (Tr.set (Tr.set h (some (.c (Ev.cel a0) 27)) N) (some (.c [(.int .i64 0), (.int .i64 0)] 23)) N0) (.pointer (some ⟨N, 0, none⟩))) (fun v2 => (orun (s65 call v2 (Tr.set (Tr.set h (some (.c (Ev.cel a0) 27)) N) (some (.c [(.int .i64 0), (.int .i64 0)] 23)) N0) N1) (fun v3 h4 N5 => (obind (Ev.unV Pr .not v3) (fun v6 => (Ev.cnd v6 (obind (Ev.sto 2 (.pointer (some ⟨N0, 0, none⟩)) (.agg ⟨[(.int .i64 0), (.int .i64 0)]⟩) h4) (fun h7 => (obind (Ev.ldN 2 h7 (.pointer (some ⟨N0, 0, none⟩))) (fun v8 => (some ((.tuple ⟨[v8, (.int .i64 10)]⟩), (h7, N5))))))) (obind (Ev.fad 0 (.pointer (some ⟨N, 0, none⟩))) (fun v9 => (obind (Ev.ld1 h4 v9) (fun v10 => (obind (Ev.iop .sub v10 (.int .i64 1)) (fun v11 => (orun (s66 call a1 (.int .i64 0) v11 h4 N5) (fun v12 h13 N14 => (obind (Ev.unV Pr .not v12) (fun v15 => (Ev.cnd v15 (obind (Ev.sto 2 (.pointer (some ⟨N0, 0, none⟩)) (.agg ⟨[(.int .i64 0), (.int .i64 0)]⟩) h13) (fun h16 => (obind (Ev.ldN 2 h16 (.pointer (some ⟨N0, 0, none⟩))) (fun v17 => (some ((.tuple ⟨[v17, (.int .i64 11)]⟩), (h16, N14))))))) (orun (s66 call a2 (.int .i64 1) (.int .i64 40) h13 N14) (fun v18 h19 N20 => (obind (Ev.unV Pr .not v18) (fun v21 => (Ev.cnd v21 (obind (Ev.sto 2 (.pointer (some ⟨N0, 0, none⟩)) (.agg ⟨[(.int .i64 0), (.int .i64 0)]⟩) h19) (fun h22 => (obind (Ev.ldN 2 h22 (.pointer (some ⟨N0, 0, none⟩))) (fun v23 => (some ((.tuple ⟨[v23, (.int .i64 14)]⟩), (h22, N20))))))) (obind (Ev.ldN 9 h19 (.pointer (some ⟨N, 0, none⟩))) (fun v24 => (orun (s67 call v24 a1 h19 N20) (fun v25 h26 N27 => (obind (Ev.extr 0 v25) (fun v28 => (obind (Ev.extr 1 v25) (fun v29 => (fN (.succ N27) (fun N30 => (obind (Ev.sto 2 (.pointer (some ⟨N27, 0, none⟩)) v28 (Tr.set h26 (some (.c [(.int .i64 0), (.int .i64 0)] 23)) N27)) (fun h31 => (obind (Ev.iop .neq v29 (.int .i64 0)) (fun v32 => (Ev.cnd v32 (obind (Ev.sto 2 (.pointer (some ⟨N0, 0, none⟩)) (.agg ⟨[(.int .i64 0), (.int .i64 0)]⟩) h31) (fun h33 => (obind (Ev.ldN 2 h33 (.pointer (some ⟨N0, 0, none⟩))) (fun v34 => (some ((.tuple ⟨[v34, v29]⟩), (h33, N30))))))) (obind (Ev.fad 0 (.pointer (some ⟨N27, 0, none⟩))) (fun v35 => (obind (Ev.ld1 h31 v35) (fun v36 => (obind (Ev.iop .eql v36 (.int .i64 0)) (fun v37 => (Ev.cnd v37 (obind (Ev.sto 2 (.pointer (some ⟨N0, 0, none⟩)) (.agg ⟨[(.int .i64 0), (.int .i64 0)]⟩) h31) (fun h38 => (obind (Ev.ldN 2 h38 (.pointer (some ⟨N0, 0, none⟩))) (fun v39 => (some ((.tuple ⟨[v39, (.int .i64 6)]⟩), (h38, N30))))))) (obind (Ev.iop .mul (.int .i64 3600) a2) (fun v40 => (obind (Ev.fad 1 (.pointer (some ⟨N27, 0, none⟩))) (fun v41 => (obind (Ev.ld1 h31 v41) (fun v42 => (obind (Ev.evBin Pr .quo 3 (.tmp 40) (.tmp 42) v40 v42) (fun v43 => (obind (Ev.iop .mul (.int .i64 3600) a2) (fun v44 => (obind (Ev.fad 0 (.pointer (some ⟨N27, 0, none⟩))) (fun v45 => (obind (Ev.ld1 h31 v45) (fun v46 => (obind (Ev.iop .add v44 v46) (fun v47 => (obind (Ev.iop .sub v47 (.int .i64 1)) (fun v48 => (obind (Ev.fad 0 (.pointer (some ⟨N27, 0, none⟩))) (fun v49 => (obind (Ev.ld1 h31 v49) (fun v50 => (obind (Ev.evBin Pr .quo 3 (.tmp 49) (.tmp 51) v48 v50) (fun v51 => (obind (Ev.evBuild Pr 23 [(0, v43), (1, v51)]) (fun v52 => (ocond (Ev.again Pr h31 (.mk 14 (.mk (some 53) (.build 23 ⟨[(0, (.tmp 43)), (1, (.tmp 52))]⟩) 23 "ref.go:275" ⟨[(.mk 4 .data), (.mk 13 .data)]⟩ none) (Tr.set (Tr.set (.e 32) (some v51) 52) (some v43) 43) v52 N30 false)) (ocond (Ev.agL1 h31 v49 v50) (ocond (Ev.agL1 h31 v45 v46) (ocond (Ev.agL1 h31 v41 v42) (obind (Ev.sto 2 (.pointer (some ⟨N0, 0, none⟩)) v52 h31) (fun h53 => (obind (Ev.ldN 2 h53 (.pointer (some ⟨N0, 0, none⟩))) (fun v54 => (some ((.tuple ⟨[v54, (.int .i64 0)]⟩), (h53, N30))))))))))))))))))))))))))))))))))))))))))))))))))))))))))))))))))))))))))))))))))))))
noncomputable def F23 : Ev.Fs := fun call args h N => ar3 args fun a0 a1 a2 => s23 call a0 a1 a2 h N
theorem o23 : FOk Pr 23 F23 := ar3_ok (F := cFn Pr st23 23 .n) (s := s23) (fun call a0 a1 a2 h N => by kernel_rfl) (cFn_ok hmix (st := st23) (StOk.cons o65 (StOk.cons o66 (StOk.cons o67 StOk.nil))) 23 .n)
/- function 25 -/
noncomputable def st25 : Ev.St := [(55, F55), (51, F51)]
noncomputable def s25 (call : CallF) (a0 : Value) (h : Tr Ob) (N : Nat) : OpR :=
  (fN (.succ N) (fun N0 => (obind (Ev.ldN 9 (Tr.set h (some (.c (Ev.cel a0) 27)) N) (.pointer (some ⟨N, 0, none⟩))) (fun v1 => (orun (s55 call v1 (.int .i64 0) (Tr.set h (some (.c (Ev.cel a0) 27)) N) N0) (fun v2 h3 N4 => (obind (Ev.extr 0 v2) (fun v5 => (obind (Ev.extr 1 v2) (fun v6 => (obind (Ev.extr 2 v2) (fun v7 => (obind (Ev.iop .neq v7 (.int .i64 0)) (fun v8 => (Ev.cnd v8 (some ((.tuple ⟨[(.int .i64 0), (.int .i64 0), v7]⟩), (h3, N4))) (obind (Ev.ldN 9 h3 (.pointer (some ⟨N, 0, none⟩))) (fun v9 => (orun (s51 call v9 (.int .i64 0) h3 N4) (fun v10 h11 N12 => (lpR (α := C4) (fun v13 v14 v15 v16 d17 h18 N19 => none) (fun g20 v21 v22 v23 v24 d25 h26 N27 => (obind (Ev.fad 0 v21) (fun v28 => (obind (Ev.ld1 h26 v28) (fun v29 => (obind (Ev.iop .lss v24 v29) (fun v30 => (Ev.cnd v30 (obind (Ev.ldN 9 h26 v21) (fun v31 => (orun (s51 call v31 v24 h26 N27) (fun v32 h33 N34 => (obind (Ev.iop .lss v32 v23) (fun v35 => (jnR (α := C4) (fun v36 v37 v38 v39 d40 h41 N42 => (obind (Ev.iop .add v39 (.int .i64 1)) (fun v43 => (g20 v36 v37 v38 v43 d40 h41 N42)))) (fun g44 => (Ev.cnd v35 (g44 v21 v24 v32 v24 d25 h33 N34) (g44 v21 v22 v23 v24 d25 h33 N34)))))))))) (obind (Ev.unmark d25 h26) (fun h45 => (some ((.tuple ⟨[v22, v23, (.int .i64 0)]⟩), (h45, N27))))))))))))) (.pointer (some ⟨N, 0, none⟩)) (.int .i64 0) v10 (.int .i64 1) [] h11 N12))))))))))))))))))))
noncomputable def F25 : Ev.Fs := fun call args h N => ar1 args fun a0 => s25 call a0 h N
theorem o25 : FOk Pr 25 F25 := ar1_ok (F := cFn Pr st25 25 (.s .n (.s .n (.s .n (.s (.s .n (.s (.j [1, 8, 9, 10] (.s .n (.s (.s (.s .n (.s .n (.j [1, 8, 9, 10] .n .n))) .n) .n)) .n) .n)) .n))))) (s := s25) (fun call a0 h N => by kernel_rfl) (cFn_ok hmix (st := st25) (StOk.cons o55 (StOk.cons o51 StOk.nil)) 25 (.s .n (.s .n (.s .n (.s (.s .n (.s (.j [1, 8, 9, 10] (.s .n (.s (.s (.s .n (.s .n (.j [1, 8, 9, 10] .n .n))) .n) .n)) .n) .n)) .n)))))
/- function 3 -/
noncomputable def st3 : Ev.St := [(12, F12), (13, F13), (14, F14), (15, F15), (16, F16), (17, F17), (18, F18), (19, F19), (20, F20), (21, F21), (22, F22), (23, F23), (24, F24), (25, F25), (26, F26), (27, F27)]
noncomputable def s3 (call : CallF) (a0 a1 a2 a3 : Value) (h : Tr Ob) (N : Nat) : OpR :=
  (fN (.succ N) (fun N0 => (obind (Ev.ldN 9 (Tr.set h (some (.c (Ev.cel a0) 27)) N) (.pointer (some ⟨N, 0, none⟩))) (fun v1 => (orun (s12 call v1 (Tr.set h (some (.c (Ev.cel a0) 27)) N) N0) (fun v2 h3 N4 => (Ev.cnd v2 (some ((.bool true), (h3, N4))) (obind (Ev.ldN 9 h3 (.pointer (some ⟨N, 0, none⟩))) (fun v5 => (orun (s13 call v5 h3 N4) (fun v6 h7 N8 => (fN (.succ N8) (fun N9 => (obind (Ev.sto 9 (.pointer (some ⟨N8, 0, none⟩)) v6 (Tr.set h7 (some (.c [(.int .i64 0), (.int .i64 0), (.int .i64 0), (.int .i64 0), (.int .i64 0), (.int .i64 0), (.int .i64 0), (.slice none 0 0), (.slice none 0 0)] 27)) N8)) (fun h10 => (obind (Ev.ldN 9 h10 (.pointer (some ⟨N8, 0, none⟩))) (fun v11 => (orun (s14 call v11 a1 h10 N9) (fun v12 h13 N14 => (obind (Ev.extr 0 v12) (fun v15 => (obind (Ev.extr 1 v12) (fun v16 => (obind (Ev.ldN 9 h13 (.pointer (some ⟨N, 0, none⟩))) (fun v17 => (orun (s15 call v17 a1 h13 N14) (fun v18 h19 N20 => (obind (Ev.extr 0 v18) (fun v21 => (obind (Ev.extr 1 v18) (fun v22 => (obind (Ev.ldN 9 h19 (.pointer (some ⟨N8, 0, none⟩))) (fun v23 => (orun (s16 call v23 a1 h19 N20) (fun v24 h25 N26 => (obind (Ev.extr 0 v24) (fun v27 => (obind (Ev.extr 1 v24) (fun v28 => (obind (Ev.ldN 9 h25 (.pointer (some ⟨N, 0, none⟩))) (fun v29 => (orun (s17 call v29 a1 h25 N26) (fun v30 h31 N32 => (obind (Ev.extr 0 v30) (fun v33 => (obind (Ev.extr 1 v30) (fun v34 => (obind (Ev.iop .neq v15 v21) (fun v35 => (obind (Ev.wntV v35 false) (fun v36 => (orun (Ev.sel v36 (some ((.tuple ⟨[]⟩), (h31, N32))) (some (v16, (h31, N32)))) (fun v37 h38 N39 => (obind (Ev.wntV v35 false) (fun v40 => (orun (Ev.sel v40 (some ((.tuple ⟨[]⟩), (h38, N39))) (some (v22, (h38, N39)))) (fun v41 h42 N43 => (obind (Ev.wntV v35 false) (fun v44 => (orun (Ev.sel v44 (some ((.tuple ⟨[]⟩), (h42, N43))) (obind (Ev.iop .neq v37 v41) (fun v45 => (some (v45, (h42, N43)))))) (fun v46 h47 N48 => (obind (Ev.pck v35 (some (.bool true)) (some v46)) (fun v49 => (obind (Ev.wntV v49 false) (fun v50 => (orun (Ev.sel v50 (some ((.tuple ⟨[]⟩), (h47, N48))) (some (v27, (h47, N48)))) (fun v51 h52 N53 => (obind (Ev.wntV v49 false) (fun v54 => (orun (Ev.sel v54 (some ((.tuple ⟨[]⟩), (h52, N53))) (some (v33, (h52, N53)))) (fun v55 h56 N57 => (obind (Ev.wntV v49 false) (fun v58 => (orun (Ev.sel v58 (some ((.tuple ⟨[]⟩), (h56, N57))) (obind (Ev.iop .neq v51 v55) (fun v59 => (some (v59, (h56, N57)))))) (fun v60 h61 N62 => (obind (Ev.pck v49 (some (.bool true)) (some v60)) (fun v63 => (obind (Ev.wntV v63 false) (fun v64 => (orun (Ev.sel v64 (some ((.tuple ⟨[]⟩), (h61, N62))) (some (v28, (h61, N62)))) (fun v65 h66 N67 => (obind (Ev.wntV v63 false) (fun v68 => (orun (Ev.sel v68 (some ((.tuple ⟨[]⟩), (h66, N67))) (some (v34, (h66, N67)))) (fun v69 h70 N71 => (obind (Ev.wntV v63 false) (fun v72 => (orun (Ev.sel v72 (some ((.tuple ⟨[]⟩), (h70, N71))) (obind (Ev.iop .neq v65 v69) (fun v73 => (some (v73, (h70, N71)))))) (fun v74 h75 N76 => (obind (Ev.pck v63 (some (.bool true)) (some v74)) (fun v77 => (Ev.cnd v77 (some ((.bool false), (h75, N76))) (obind (Ev.ldN 9 h75 (.pointer (some ⟨N8, 0, none⟩))) (fun v78 => (orun (s18 call v78 h75 N76) (fun v79 h80 N81 => (obind (Ev.extr 0 v79) (fun v82 => (obind (Ev.extr 1 v79) (fun v83 => (obind (Ev.extr 2 v79) (fun v84 => (obind (Ev.ldN 9 h80 (.pointer (some ⟨N, 0, none⟩))) (fun v85 => (orun (s19 call v85 h80 N81) (fun v86 h87 N88 => (obind (Ev.extr 0 v86) (fun v89 => (obind (Ev.extr 1 v86) (fun v90 => (obind (Ev.extr 2 v86) (fun v91 => (obind (Ev.ldN 9 h87 (.pointer (some ⟨N8, 0, none⟩))) (fun v92 => (orun (s20 call v92 h87 N88) (fun v93 h94 N95 => (obind (Ev.extr 0 v93) (fun v96 => (obind (Ev.extr 1 v93) (fun v97 => (obind (Ev.extr 2 v93) (fun v98 => (obind (Ev.ldN 9 h94 (.pointer (some ⟨N, 0, none⟩))) (fun v99 => (orun (s21 call v99 h94 N95) (fun v100 h101 N102 => (obind (Ev.extr 0 v100) (fun v103 => (obind (Ev.extr 1 v100) (fun v104 => (obind (Ev.extr 2 v100) (fun v105 => (obind (Ev.ldN 9 h101 (.pointer (some ⟨N8, 0, none⟩))) (fun v106 => (orun (s22 call v106 a2 a3 h101 N102) (fun v107 h108 N109 => (obind (Ev.extr 0 v107) (fun v110 => (obind (Ev.extr 1 v107) (fun v111 => (fN (.succ N109) (fun N112 => (obind (Ev.sto 2 (.pointer (some ⟨N109, 0, none⟩)) v110 (Tr.set h108 (some (.c [(.int .i64 0), (.int .i64 0)] 23)) N109)) (fun h113 => (obind (Ev.ldN 9 h113 (.pointer (some ⟨N, 0, none⟩))) (fun v114 => (orun (s23 call v114 a2 a3 h113 N112) (fun v115 h116 N117 => (obind (Ev.extr 0 v115) (fun v118 => (obind (Ev.extr 1 v115) (fun v119 => (fN (.succ N117) (fun N120 => (obind (Ev.sto 2 (.pointer (some ⟨N117, 0, none⟩)) v118 (Tr.set h116 (some (.c [(.int .i64 0), (.int .i64 0)] 23)) N117)) (fun h121 => (obind (Ev.ldN 9 h121 (.pointer (some ⟨N8, 0, none⟩))) (fun v122 => (orun (s24 call v122 h121 N120) (fun v123 h124 N125 => (obind (Ev.extr 0 v123) (fun v126 => (obind (Ev.extr 1 v123) (fun v127 => (obind (Ev.extr 2 v123) (fun v128 => (obind (Ev.ldN 9 h124 (.pointer (some ⟨N, 0, none⟩))) (fun v129 => (orun (s25 call v129 h124 N125) (fun v130 h131 N132 => (obind (Ev.extr 0 v130) (fun v133 => (obind (Ev.extr 1 v130) (fun v134 => (obind (Ev.extr 2 v130) (fun v135 => (obind (Ev.iop .eql v82 v89) (fun v136 => (obind (Ev.wntV v136 true) (fun v137 => (orun (Ev.sel v137 (some ((.tuple ⟨[]⟩), (h131, N132))) (some (v83, (h131, N132)))) (fun v138 h139 N140 => (obind (Ev.wntV v136 true) (fun v141 => (orun (Ev.sel v141 (some ((.tuple ⟨[]⟩), (h139, N140))) (some (v90, (h139, N140)))) (fun v142 h143 N144 => (obind (Ev.wntV v136 true) (fun v145 => (orun (Ev.sel v145 (some ((.tuple ⟨[]⟩), (h143, N144))) (orun (s26 call v138 v142 h143 N144) (fun v146 h147 N148 => (some (v146, (h147, N148)))))) (fun v149 h150 N151 => (obind (Ev.pck v136 (some v149) (some (.bool false))) (fun v152 => (obind (Ev.wntV v152 true) (fun v153 => (orun (Ev.sel v153 (some ((.tuple ⟨[]⟩), (h150, N151))) (some (v84, (h150, N151)))) (fun v154 h155 N156 => (obind (Ev.wntV v152 true) (fun v157 => (orun (Ev.sel v157 (some ((.tuple ⟨[]⟩), (h155, N156))) (some (v91, (h155, N156)))) (fun v158 h159 N160 => (obind (Ev.wntV v152 true) (fun v161 => (orun (Ev.sel v161 (some ((.tuple ⟨[]⟩), (h159, N160))) (obind (Ev.iop .eql v154 v158) (fun v162 => (some (v162, (h159, N160)))))) (fun v163 h164 N165 => (obind (Ev.pck v152 (some v163) (some (.bool false))) (fun v166 => (obind (Ev.wntV v166 true) (fun v167 => (orun (Ev.sel v167 (some ((.tuple ⟨[]⟩), (h164, N165))) (some (v96, (h164, N165)))) (fun v168 h169 N170 => (obind (Ev.wntV v166 true) (fun v171 => (orun (Ev.sel v171 (some ((.tuple ⟨[]⟩), (h169, N170))) (some (v103, (h169, N170)))) (fun v172 h173 N174 => (obind (Ev.wntV v166 true) (fun v175 => (orun (Ev.sel v175 (some ((.tuple ⟨[]⟩), (h173, N174))) (obind (Ev.iop .eql v168 v172) (fun v176 => (some (v176, (h173, N174)))))) (fun v177 h178 N179 => (obind (Ev.pck v166 (some v177) (some (.bool false))) (fun v180 => (obind (Ev.wntV v180 true) (fun v181 => (orun (Ev.sel v181 (some ((.tuple ⟨[]⟩), (h178, N179))) (some (v97, (h178, N179)))) (fun v182 h183 N184 => (obind (Ev.wntV v180 true) (fun v185 => (orun (Ev.sel v185 (some ((.tuple ⟨[]⟩), (h183, N184))) (some (v104, (h183, N184)))) (fun v186 h187 N188 => (obind (Ev.wntV v180 true) (fun v189 => (orun (Ev.sel v189 (some ((.tuple ⟨[]⟩), (h187, N188))) (orun (s26 call v182 v186 h187 N188) (fun v190 h191 N192 => (some (v190, (h191, N192)))))) (fun v193 h194 N195 => (obind (Ev.pck v180 (some v193) (some (.bool false))) (fun v196 => (obind (Ev.wntV v196 true) (fun v197 => (orun (Ev.sel v197 (some ((.tuple ⟨[]⟩), (h194, N195))) (some (v98, (h194, N195)))) (fun v198 h199 N200 => (obind (Ev.wntV v196 true) (fun v201 => (orun (Ev.sel v201 (some ((.tuple ⟨[]⟩), (h199, N200))) (some (v105, (h199, N200)))) (fun v202 h203 N204 => (obind (Ev.wntV v196 true) (fun v205 => (orun (Ev.sel v205 (some ((.tuple ⟨[]⟩), (h203, N204))) (obind (Ev.iop .eql v198 v202) (fun v206 => (some (v206, (h203, N204)))))) (fun v207 h208 N209 => (obind (Ev.pck v196 (some v207) (some (.bool false))) (fun v210 => (obind (Ev.wntV v210 true) (fun v211 => (orun (Ev.sel v211 (some ((.tuple ⟨[]⟩), (h208, N209))) (obind (Ev.ldN 2 h208 (.pointer (some ⟨N109, 0, none⟩))) (fun v212 => (some (v212, (h208, N209)))))) (fun v213 h214 N215 => (obind (Ev.wntV v210 true) (fun v216 => (orun (Ev.sel v216 (some ((.tuple ⟨[]⟩), (h214, N215))) (obind (Ev.ldN 2 h214 (.pointer (some ⟨N117, 0, none⟩))) (fun v217 => (some (v217, (h214, N215)))))) (fun v218 h219 N220 => (obind (Ev.wntV v210 true) (fun v221 => (orun (Ev.sel v221 (some ((.tuple ⟨[]⟩), (h219, N220))) (obind (Ev.evBin Pr .eql 23 (.tmp 165) (.tmp 166) v213 v218) (fun v222 => (some (v222, (h219, N220)))))) (fun v223 h224 N225 => (obind (Ev.pck v210 (some v223) (some (.bool false))) (fun v226 => (obind (Ev.wntV v226 true) (fun v227 => (orun (Ev.sel v227 (some ((.tuple ⟨[]⟩), (h224, N225))) (some (v111, (h224, N225)))) (fun v228 h229 N230 => (obind (Ev.wntV v226 true) (fun v231 => (orun (Ev.sel v231 (some ((.tuple ⟨[]⟩), (h229, N230))) (some (v119, (h229, N230)))) (fun v232 h233 N234 => (obind (Ev.wntV v226 true) (fun v235 => (orun (Ev.sel v235 (some ((.tuple ⟨[]⟩), (h233, N234))) (obind (Ev.iop .eql v228 v232) (fun v236 => (some (v236, (h233, N234)))))) (fun v237 h238 N239 => (obind (Ev.pck v226 (some v237) (some (.bool false))) (fun v240 => (obind (Ev.wntV v240 true) (fun v241 => (orun (Ev.sel v241 (some ((.tuple ⟨[]⟩), (h238, N239))) (some (v126, (h238, N239)))) (fun v242 h243 N244 => (obind (Ev.wntV v240 true) (fun v245 => (orun (Ev.sel v245 (some ((.tuple ⟨[]⟩), (h243, N244))) (some (v133, (h243, N244)))) (fun v246 h247 N248 => (obind (Ev.wntV v240 true) (fun v249 => (orun (Ev.sel v249 (some ((.tuple ⟨[]⟩), (h247, N248))) (obind (Ev.iop .eql v242 v246) (fun v250 => (some (v250, (h247, N248)))))) (fun v251 h252 N253 => (obind (Ev.pck v240 (some v251) (some (.bool false))) (fun v254 => (obind (Ev.wntV v254 true) (fun v255 => (orun (Ev.sel v255 (some ((.tuple ⟨[]⟩), (h252, N253))) (some (v127, (h252, N253)))) (fun v256 h257 N258 => (obind (Ev.wntV v254 true) (fun v259 => (orun (Ev.sel v259 (some ((.tuple ⟨[]⟩), (h257, N258))) (some (v134, (h257, N258)))) (fun v260 h261 N262 => (obind (Ev.wntV v254 true) (fun v263 => (orun (Ev.sel v263 (some ((.tuple ⟨[]⟩), (h261, N262))) (obind (Ev.iop .eql v256 v260) (fun v264 => (some (v264, (h261, N262)))))) (fun v265 h266 N267 => (obind (Ev.pck v254 (some v265) (some (.bool false))) (fun v268 => (obind (Ev.wntV v268 true) (fun v269 => (orun (Ev.sel v269 (some ((.tuple ⟨[]⟩), (h266, N267))) (some (v128, (h266, N267)))) (fun v270 h271 N272 => (obind (Ev.wntV v268 true) (fun v273 => (orun (Ev.sel v273 (some ((.tuple ⟨[]⟩), (h271, N272))) (some (v135, (h271, N272)))) (fun v274 h275 N276 => (obind (Ev.wntV v268 true) (fun v277 => (orun (Ev.sel v277 (some ((.tuple ⟨[]⟩), (h275, N276))) (obind (Ev.iop .eql v270 v274) (fun v278 => (some (v278, (h275, N276)))))) (fun v279 h280 N281 => (obind (Ev.pck v268 (some v279) (some (.bool false))) (fun v282 => (obind (Ev.wntV v282 true) (fun v283 => (orun (Ev.sel v283 (some ((.tuple ⟨[]⟩), (h280, N281))) (obind (Ev.ldN 9 h280 (.pointer (some ⟨N8, 0, none⟩))) (fun v284 => (some (v284, (h280, N281)))))) (fun v285 h286 N287 => (obind (Ev.wntV v282 true) (fun v288 => (orun (Ev.sel v288 (some ((.tuple ⟨[]⟩), (h286, N287))) (obind (Ev.ldN 9 h286 (.pointer (some ⟨N, 0, none⟩))) (fun v289 => (some (v289, (h286, N287)))))) (fun v290 h291 N292 => (obind (Ev.wntV v282 true) (fun v293 => (orun (Ev.sel v293 (some ((.tuple ⟨[]⟩), (h291, N292))) (orun (s27 call v285 v290 h291 N292) (fun v294 h295 N296 => (some (v294, (h295, N296)))))) (fun v297 h298 N299 => (obind (Ev.pck v282 (some v297) (some (.bool false))) (fun v300 => (some (v300, (h298, N299)))))))))))))))))))))))))))))))))))))))))))))))))))))))))))))))))))))))))))))))))))))))))))))))))))))))))))))))))))))))))))))))))))))))))))))))))))))))))))))))))))))))))))))))))))))))))))))))))))))))))))))))))))))))))))))))))))))))))))))))))))))))))))))))))))))))))))))))))))))))))))))))))))))))))))))))))))))))))))))))))))))))))))))))
noncomputable def F3 : Ev.Fs := fun call args h N => ar4 args fun a0 a1 a2 a3 => s3 call a0 a1 a2 a3 h N
theorem o3 : FOk Pr 3 F3 := ar4_ok (F := cFn Pr st3 3 .n) (s := s3) (fun call a0 a1 a2 a3 h N => by kernel_rfl) (cFn_ok hmix (st := st3) (StOk.cons o12 (StOk.cons o13 (StOk.cons o14 (StOk.cons o15 (StOk.cons o16 (StOk.cons o17 (StOk.cons o18 (StOk.cons o19 (StOk.cons o20 (StOk.cons o21 (StOk.cons o22 (StOk.cons o23 (StOk.cons o24 (StOk.cons o25 (StOk.cons o26 (StOk.cons o27 StOk.nil)))))))))))))))) 3 .n)
end Go.Proofs.Ytpilgokdbliklaa
end

section
namespace Go.Proofs.Ytpilgokdbliklaa
open Go.Ev Go.RowKit
set_option linter.unusedVariables false
set_option linter.unusedSimpArgs false
set_option maxRecDepth 100000
set_option maxHeartbeats 4000000
theorem bld_Span (v : List (Nat × Value)) : evBuild Pr 23 v = obind (fil (fun i => nth [(0, 1), (1, 1)] i) v [.int .i64 0, .int .i64 0]) fun cs => some (.agg ⟨cs⟩) := by kernel_rfl
structure YSpan where
  Lo : Int
  Hi : Int
instance : Rwc YSpan := ⟨2, fun x => [iS x.Lo, iS x.Hi], fun _ => rfl, fun _ => rfl, by omega⟩
structure YReading where
  Number : Int
  Week : Int
  Bucket : Int
  Songs_Lo : Int
  Songs_Hi : Int
instance : Rwc YReading := ⟨5, fun x => [iS x.Number, iS x.Week, iS x.Bucket, iS x.Songs_Lo, iS x.Songs_Hi], fun _ => rfl, fun _ => rfl, by omega⟩
theorem enc_Reading (x : YReading) : Rwc.enc x = [iS x.Number, iS x.Week, iS x.Bucket, iS x.Songs_Lo, iS x.Songs_Hi] := rfl
theorem plain_Reading (y : YReading) : ∀ v ∈ Rwc.enc y, plain v = true := by
  intro v hv
  rw [enc_Reading] at hv
  simp only [List.mem_cons, List.not_mem_nil, or_false] at hv
  rcases hv with rfl | rfl | rfl | rfl | rfl <;> rfl
theorem bld_Line (v : List (Nat × Value)) : evBuild Pr 73 v = obind (fil (fun i => nth [(0, 2), (2, 1), (3, 2)] i) v [.int .i64 0, .int .i64 0, .int .i64 0, .int .i64 0, .int .i64 0]) fun cs => some (.agg ⟨cs⟩) := by kernel_rfl
structure YLine where
  Rain_Lo : Int
  Rain_Hi : Int
  Week : Int
  Gives_Lo : Int
  Gives_Hi : Int
instance : Rwc YLine := ⟨5, fun x => [iS x.Rain_Lo, iS x.Rain_Hi, iS x.Week, iS x.Gives_Lo, iS x.Gives_Hi], fun _ => rfl, fun _ => rfl, by omega⟩
theorem enc_Line (x : YLine) : Rwc.enc x = [iS x.Rain_Lo, iS x.Rain_Hi, iS x.Week, iS x.Gives_Lo, iS x.Gives_Hi] := rfl
theorem plain_Line (y : YLine) : ∀ v ∈ Rwc.enc y, plain v = true := by
  intro v hv
  rw [enc_Line] at hv
  simp only [List.mem_cons, List.not_mem_nil, or_false] at hv
  rcases hv with rfl | rfl | rfl | rfl | rfl <;> rfl
theorem bld_spring_truth (v : List (Nat × Value)) : evBuild Pr 100 v = obind (fil (fun i => nth [(0, 1), (1, 1), (2, 1)] i) v [.int .i64 0, .int .i64 0, .slice none 0 0]) fun cs => some (.agg ⟨cs⟩) := by kernel_rfl
structure Yaguadorref01_left where
  lo_a0 : Int
  lo_a1 : Int
  lo_a2 : Int
  lo_a3 : Int
  lo_a4 : Int
  lo_a5 : Int
  lo_a6 : Int
  lo_a7 : Int
  lo_a8 : Int
  lo_a9 : Int
  hi_a0 : Int
  hi_a1 : Int
  hi_a2 : Int
  hi_a3 : Int
  hi_a4 : Int
  hi_a5 : Int
  hi_a6 : Int
  hi_a7 : Int
  hi_a8 : Int
  hi_a9 : Int
instance : Rwc Yaguadorref01_left := ⟨20, fun x => [iS x.lo_a0, iS x.lo_a1, iS x.lo_a2, iS x.lo_a3, iS x.lo_a4, iS x.lo_a5, iS x.lo_a6, iS x.lo_a7, iS x.lo_a8, iS x.lo_a9, iS x.hi_a0, iS x.hi_a1, iS x.hi_a2, iS x.hi_a3, iS x.hi_a4, iS x.hi_a5, iS x.hi_a6, iS x.hi_a7, iS x.hi_a8, iS x.hi_a9], fun _ => rfl, fun _ => rfl, by omega⟩
theorem bld_spring_work (v : List (Nat × Value)) : evBuild Pr 106 v = obind (fil (fun i => nth [(0, 9)] i) v [.int .i64 0, .int .i64 0, .int .i64 0, .int .i64 0, .int .i64 0, .int .i64 0, .int .i64 0, .slice none 0 0, .slice none 0 0]) fun cs => some (.agg ⟨cs⟩) := by kernel_rfl
theorem bld_spring_asked (v : List (Nat × Value)) : evBuild Pr 110 v = obind (fil (fun i => nth [(0, 1), (1, 1), (2, 5)] i) v [.int .i64 0, .int .i64 0, .int .i64 0, .int .i64 0, .int .i64 0, .int .i64 0, .int .i64 0]) fun cs => some (.agg ⟨cs⟩) := by kernel_rfl
structure Yspring_asked where
  week : Int
  bucket : Int
  reading_Number : Int
  reading_Week : Int
  reading_Bucket : Int
  reading_Songs_Lo : Int
  reading_Songs_Hi : Int
instance : Rwc Yspring_asked := ⟨7, fun x => [iS x.week, iS x.bucket, iS x.reading_Number, iS x.reading_Week, iS x.reading_Bucket, iS x.reading_Songs_Lo, iS x.reading_Songs_Hi], fun _ => rfl, fun _ => rfl, by omega⟩
theorem bld_spring_choice (v : List (Nat × Value)) : evBuild Pr 116 v = obind (fil (fun i => nth [(0, 1), (1, 1)] i) v [.int .i64 0, .int .i64 0]) fun cs => some (.agg ⟨cs⟩) := by kernel_rfl
structure Yspring_choice where
  week : Int
  left : Int
instance : Rwc Yspring_choice := ⟨2, fun x => [iS x.week, iS x.left], fun _ => rfl, fun _ => rfl, by omega⟩
theorem enc_spring_choice (x : Yspring_choice) : Rwc.enc x = [iS x.week, iS x.left] := rfl
theorem bsl_SLine (m : Nat) (ps : List (Nat × Value)) (h : Tr Ob) (N : Nat) : evBuildSlice Pr 24 m ps h N = ocond (Nat.ble (Nat.mul m 5) 16777216) (obind (fil (fun i => some (Nat.mul i 5, 5)) ps (reps [.int .i64 0, .int .i64 0, .int .i64 0, .int .i64 0, .int .i64 0] m)) fun cs => some (.slice (some ⟨N, 0, none⟩) m m, h.set (some (.c cs 73)) N, Nat.succ N)) := by kernel_rfl
theorem bs0_SLine (h : Tr Ob) (N : Nat) : evBuildSlice Pr 24 0 [] h N = some (.slice (some ⟨N, 0, none⟩) 0 0, h.set (some (.c [] 73)) N, N + 1) := by kernel_rfl
theorem ap_SLine : appT Pr 24 = some (73, 5) := by kernel_rfl
theorem bsl_SReading (m : Nat) (ps : List (Nat × Value)) (h : Tr Ob) (N : Nat) : evBuildSlice Pr 25 m ps h N = ocond (Nat.ble (Nat.mul m 5) 16777216) (obind (fil (fun i => some (Nat.mul i 5, 5)) ps (reps [.int .i64 0, .int .i64 0, .int .i64 0, .int .i64 0, .int .i64 0] m)) fun cs => some (.slice (some ⟨N, 0, none⟩) m m, h.set (some (.c cs 71)) N, Nat.succ N)) := by kernel_rfl
theorem bs0_SReading (h : Tr Ob) (N : Nat) : evBuildSlice Pr 25 0 [] h N = some (.slice (some ⟨N, 0, none⟩) 0 0, h.set (some (.c [] 71)) N, N + 1) := by kernel_rfl
theorem ap_SReading : appT Pr 25 = some (71, 5) := by kernel_rfl
theorem bsl_Sint (m : Nat) (ps : List (Nat × Value)) (h : Tr Ob) (N : Nat) : evBuildSlice Pr 35 m ps h N = ocond (Nat.ble (Nat.mul m 1) 16777216) (obind (fil (fun i => some (Nat.mul i 1, 1)) ps (reps [.int .i64 0] m)) fun cs => some (.slice (some ⟨N, 0, none⟩) m m, h.set (some (.c cs 3)) N, Nat.succ N)) := by kernel_rfl
theorem bs0_Sint (h : Tr Ob) (N : Nat) : evBuildSlice Pr 35 0 [] h N = some (.slice (some ⟨N, 0, none⟩) 0 0, h.set (some (.c [] 3)) N, N + 1) := by kernel_rfl
theorem ap_Sint : appT Pr 35 = some (3, 1) := by kernel_rfl
theorem bsl_Saguadorref01_left (m : Nat) (ps : List (Nat × Value)) (h : Tr Ob) (N : Nat) : evBuildSlice Pr 94 m ps h N = ocond (Nat.ble (Nat.mul m 20) 16777216) (obind (fil (fun i => some (Nat.mul i 20, 20)) ps (reps [.int .i64 0, .int .i64 0, .int .i64 0, .int .i64 0, .int .i64 0, .int .i64 0, .int .i64 0, .int .i64 0, .int .i64 0, .int .i64 0, .int .i64 0, .int .i64 0, .int .i64 0, .int .i64 0, .int .i64 0, .int .i64 0, .int .i64 0, .int .i64 0, .int .i64 0, .int .i64 0] m)) fun cs => some (.slice (some ⟨N, 0, none⟩) m m, h.set (some (.c cs 104)) N, Nat.succ N)) := by kernel_rfl
theorem ap_Saguadorref01_left : appT Pr 94 = some (104, 20) := by kernel_rfl
theorem bsl_Sspring_choice (m : Nat) (ps : List (Nat × Value)) (h : Tr Ob) (N : Nat) : evBuildSlice Pr 118 m ps h N = ocond (Nat.ble (Nat.mul m 2) 16777216) (obind (fil (fun i => some (Nat.mul i 2, 2)) ps (reps [.int .i64 0, .int .i64 0] m)) fun cs => some (.slice (some ⟨N, 0, none⟩) m m, h.set (some (.c cs 116)) N, Nat.succ N)) := by kernel_rfl
theorem ap_Sspring_choice : appT Pr 118 = some (116, 2) := by kernel_rfl
theorem bsl_Sspring_truth (m : Nat) (ps : List (Nat × Value)) (h : Tr Ob) (N : Nat) : evBuildSlice Pr 144 m ps h N = ocond (Nat.ble (Nat.mul m 3) 16777216) (obind (fil (fun i => some (Nat.mul i 3, 3)) ps (reps [.int .i64 0, .int .i64 0, .slice none 0 0] m)) fun cs => some (.slice (some ⟨N, 0, none⟩) m m, h.set (some (.c cs 100)) N, Nat.succ N)) := by kernel_rfl
theorem ap_Sspring_truth : appT Pr 144 = some (100, 3) := by kernel_rfl
theorem bsl_Sspring_bounds (m : Nat) (ps : List (Nat × Value)) (h : Tr Ob) (N : Nat) : evBuildSlice Pr 154 m ps h N = ocond (Nat.ble (Nat.mul m 20) 16777216) (obind (fil (fun i => some (Nat.mul i 20, 20)) ps (reps [.int .i64 0, .int .i64 0, .int .i64 0, .int .i64 0, .int .i64 0, .int .i64 0, .int .i64 0, .int .i64 0, .int .i64 0, .int .i64 0, .int .i64 0, .int .i64 0, .int .i64 0, .int .i64 0, .int .i64 0, .int .i64 0, .int .i64 0, .int .i64 0, .int .i64 0, .int .i64 0] m)) fun cs => some (.slice (some ⟨N, 0, none⟩) m m, h.set (some (.c cs 152)) N, Nat.succ N)) := by kernel_rfl
theorem ap_Sspring_bounds : appT Pr 154 = some (152, 20) := by kernel_rfl
instance : DecidableEq YSpan := fun x y => decidable_of_iff (x.Lo = y.Lo ∧ x.Hi = y.Hi) ⟨fun h => by cases x; cases y; simp only at h; simp only [YSpan.mk.injEq]; exact h, fun h => by subst h; exact ⟨rfl, rfl⟩⟩
theorem seq_Span (x y : YSpan) : still Pr (Op.equalIn (9999 + 1) 23 (.agg ⟨Rwc.enc x⟩) (.agg ⟨Rwc.enc y⟩)) = some (decide (x = y)) := by
  have e : still Pr (Op.equalIn (9999 + 1) 23 (.agg ⟨Rwc.enc x⟩) (.agg ⟨Rwc.enc y⟩)) = some (([decide (x.Lo = y.Lo), decide (x.Hi = y.Hi)] : List Bool).all id) := by
    refine (still_struct (xs := Rwc.enc x) (ys := Rwc.enc y) (by rfl) (by kernel_rfl) [⟨⟨"Lo", 3, 0, false, "", "", 0⟩, .int .i64 x.Lo, .int .i64 y.Lo, decide (x.Lo = y.Lo)⟩,
    ⟨⟨"Hi", 3, 1, false, "", "", 8⟩, .int .i64 x.Hi, .int .i64 y.Hi, decide (x.Hi = y.Hi)⟩] (by rfl) ?_).trans (by simp only [List.all_cons, List.all_nil, id])
    intro q hq
    simp only [List.mem_cons, List.not_mem_nil, or_false] at hq
    rcases hq with rfl | rfl
    · refine ⟨by dsimp only; decide, rfl, rfl, ?_⟩
      exact still_int (by rfl)
    · refine ⟨by dsimp only; decide, rfl, rfl, ?_⟩
      exact still_int (by rfl)
  rw [e]; congr 1
  rw [Bool.eq_iff_iff]
  cases x; cases y
  simp only [List.all_cons, List.all_nil, id, Bool.and_true, Bool.and_eq_true, decide_eq_true_eq, YSpan.mk.injEq, and_assoc]
theorem neqE_Span (u v : Operand) (x y : YSpan) : evBin Pr .neq 23 u v (.agg ⟨[iS x.Lo, iS x.Hi]⟩) (.agg ⟨[iS y.Lo, iS y.Hi]⟩) = some (.bool (!decide (x = y))) := neq_agg (by kernel_rfl) rfl rfl (seq_Span x y)
theorem eqlE_Span (u v : Operand) (x y : YSpan) : evBin Pr .eql 23 u v (.agg ⟨[iS x.Lo, iS x.Hi]⟩) (.agg ⟨[iS y.Lo, iS y.Hi]⟩) = some (.bool (decide (x = y))) := eql_agg (by kernel_rfl) rfl rfl (seq_Span x y)
instance : DecidableEq YReading := fun x y => decidable_of_iff (x.Number = y.Number ∧ x.Week = y.Week ∧ x.Bucket = y.Bucket ∧ x.Songs_Lo = y.Songs_Lo ∧ x.Songs_Hi = y.Songs_Hi) ⟨fun h => by cases x; cases y; simp only at h; simp only [YReading.mk.injEq]; exact h, fun h => by subst h; exact ⟨rfl, rfl, rfl, rfl, rfl⟩⟩
theorem seq_Reading (x y : YReading) : still Pr (Op.equalIn (9999 + 1) 71 (.agg ⟨Rwc.enc x⟩) (.agg ⟨Rwc.enc y⟩)) = some (decide (x = y)) := by
  have e : still Pr (Op.equalIn (9999 + 1) 71 (.agg ⟨Rwc.enc x⟩) (.agg ⟨Rwc.enc y⟩)) = some (([decide (x.Number = y.Number), decide (x.Week = y.Week), decide (x.Bucket = y.Bucket), decide (x.Songs_Lo = y.Songs_Lo) && (decide (x.Songs_Hi = y.Songs_Hi) && true)] : List Bool).all id) := by
    refine (still_struct (xs := Rwc.enc x) (ys := Rwc.enc y) (by rfl) (by kernel_rfl) [⟨⟨"Number", 3, 0, false, "", "", 0⟩, .int .i64 x.Number, .int .i64 y.Number, decide (x.Number = y.Number)⟩,
    ⟨⟨"Week", 3, 1, false, "", "", 8⟩, .int .i64 x.Week, .int .i64 y.Week, decide (x.Week = y.Week)⟩,
    ⟨⟨"Bucket", 3, 2, false, "", "", 16⟩, .int .i64 x.Bucket, .int .i64 y.Bucket, decide (x.Bucket = y.Bucket)⟩,
    ⟨⟨"Songs", 23, 3, false, "", "", 24⟩, .agg ⟨[.int .i64 x.Songs_Lo, .int .i64 x.Songs_Hi]⟩, .agg ⟨[.int .i64 y.Songs_Lo, .int .i64 y.Songs_Hi]⟩, decide (x.Songs_Lo = y.Songs_Lo) && (decide (x.Songs_Hi = y.Songs_Hi) && true)⟩] (by rfl) ?_).trans (by simp only [List.all_cons, List.all_nil, id])
    intro q hq
    simp only [List.mem_cons, List.not_mem_nil, or_false] at hq
    rcases hq with rfl | rfl | rfl | rfl
    · refine ⟨by dsimp only; decide, rfl, rfl, ?_⟩
      exact still_int (by rfl)
    · refine ⟨by dsimp only; decide, rfl, rfl, ?_⟩
      exact still_int (by rfl)
    · refine ⟨by dsimp only; decide, rfl, rfl, ?_⟩
      exact still_int (by rfl)
    · refine ⟨by dsimp only; decide, rfl, rfl, ?_⟩
      exact still_struct (by rfl) (by kernel_rfl) [⟨⟨"Lo", 3, 0, false, "", "", 0⟩, .int .i64 x.Songs_Lo, .int .i64 y.Songs_Lo, decide (x.Songs_Lo = y.Songs_Lo)⟩, ⟨⟨"Hi", 3, 1, false, "", "", 8⟩, .int .i64 x.Songs_Hi, .int .i64 y.Songs_Hi, decide (x.Songs_Hi = y.Songs_Hi)⟩] (by rfl) (by intro q hq; simp only [List.mem_cons, List.not_mem_nil, or_false] at hq; rcases hq with rfl | rfl; all_goals exact ⟨by dsimp only; decide, rfl, rfl, still_int (by rfl)⟩)
  rw [e]; congr 1
  rw [Bool.eq_iff_iff]
  cases x; cases y
  simp only [List.all_cons, List.all_nil, id, Bool.and_true, Bool.and_eq_true, decide_eq_true_eq, YReading.mk.injEq, and_assoc]
theorem neqE_Reading (u v : Operand) (x y : YReading) : evBin Pr .neq 71 u v (.agg ⟨[iS x.Number, iS x.Week, iS x.Bucket, iS x.Songs_Lo, iS x.Songs_Hi]⟩) (.agg ⟨[iS y.Number, iS y.Week, iS y.Bucket, iS y.Songs_Lo, iS y.Songs_Hi]⟩) = some (.bool (!decide (x = y))) := neq_agg (by kernel_rfl) rfl rfl (seq_Reading x y)
instance : DecidableEq YLine := fun x y => decidable_of_iff (x.Rain_Lo = y.Rain_Lo ∧ x.Rain_Hi = y.Rain_Hi ∧ x.Week = y.Week ∧ x.Gives_Lo = y.Gives_Lo ∧ x.Gives_Hi = y.Gives_Hi) ⟨fun h => by cases x; cases y; simp only at h; simp only [YLine.mk.injEq]; exact h, fun h => by subst h; exact ⟨rfl, rfl, rfl, rfl, rfl⟩⟩
theorem seq_Line (x y : YLine) : still Pr (Op.equalIn (9999 + 1) 73 (.agg ⟨Rwc.enc x⟩) (.agg ⟨Rwc.enc y⟩)) = some (decide (x = y)) := by
  have e : still Pr (Op.equalIn (9999 + 1) 73 (.agg ⟨Rwc.enc x⟩) (.agg ⟨Rwc.enc y⟩)) = some (([decide (x.Rain_Lo = y.Rain_Lo) && (decide (x.Rain_Hi = y.Rain_Hi) && true), decide (x.Week = y.Week), decide (x.Gives_Lo = y.Gives_Lo) && (decide (x.Gives_Hi = y.Gives_Hi) && true)] : List Bool).all id) := by
    refine (still_struct (xs := Rwc.enc x) (ys := Rwc.enc y) (by rfl) (by kernel_rfl) [⟨⟨"Rain", 23, 0, false, "", "", 0⟩, .agg ⟨[.int .i64 x.Rain_Lo, .int .i64 x.Rain_Hi]⟩, .agg ⟨[.int .i64 y.Rain_Lo, .int .i64 y.Rain_Hi]⟩, decide (x.Rain_Lo = y.Rain_Lo) && (decide (x.Rain_Hi = y.Rain_Hi) && true)⟩,
    ⟨⟨"Week", 3, 2, false, "", "", 16⟩, .int .i64 x.Week, .int .i64 y.Week, decide (x.Week = y.Week)⟩,
    ⟨⟨"Gives", 23, 3, false, "", "", 24⟩, .agg ⟨[.int .i64 x.Gives_Lo, .int .i64 x.Gives_Hi]⟩, .agg ⟨[.int .i64 y.Gives_Lo, .int .i64 y.Gives_Hi]⟩, decide (x.Gives_Lo = y.Gives_Lo) && (decide (x.Gives_Hi = y.Gives_Hi) && true)⟩] (by rfl) ?_).trans (by simp only [List.all_cons, List.all_nil, id])
    intro q hq
    simp only [List.mem_cons, List.not_mem_nil, or_false] at hq
    rcases hq with rfl | rfl | rfl
    · refine ⟨by dsimp only; decide, rfl, rfl, ?_⟩
      exact still_struct (by rfl) (by kernel_rfl) [⟨⟨"Lo", 3, 0, false, "", "", 0⟩, .int .i64 x.Rain_Lo, .int .i64 y.Rain_Lo, decide (x.Rain_Lo = y.Rain_Lo)⟩, ⟨⟨"Hi", 3, 1, false, "", "", 8⟩, .int .i64 x.Rain_Hi, .int .i64 y.Rain_Hi, decide (x.Rain_Hi = y.Rain_Hi)⟩] (by rfl) (by intro q hq; simp only [List.mem_cons, List.not_mem_nil, or_false] at hq; rcases hq with rfl | rfl; all_goals exact ⟨by dsimp only; decide, rfl, rfl, still_int (by rfl)⟩)
    · refine ⟨by dsimp only; decide, rfl, rfl, ?_⟩
      exact still_int (by rfl)
    · refine ⟨by dsimp only; decide, rfl, rfl, ?_⟩
      exact still_struct (by rfl) (by kernel_rfl) [⟨⟨"Lo", 3, 0, false, "", "", 0⟩, .int .i64 x.Gives_Lo, .int .i64 y.Gives_Lo, decide (x.Gives_Lo = y.Gives_Lo)⟩, ⟨⟨"Hi", 3, 1, false, "", "", 8⟩, .int .i64 x.Gives_Hi, .int .i64 y.Gives_Hi, decide (x.Gives_Hi = y.Gives_Hi)⟩] (by rfl) (by intro q hq; simp only [List.mem_cons, List.not_mem_nil, or_false] at hq; rcases hq with rfl | rfl; all_goals exact ⟨by dsimp only; decide, rfl, rfl, still_int (by rfl)⟩)
  rw [e]; congr 1
  rw [Bool.eq_iff_iff]
  cases x; cases y
  simp only [List.all_cons, List.all_nil, id, Bool.and_true, Bool.and_eq_true, decide_eq_true_eq, YLine.mk.injEq, and_assoc]
theorem neqE_Line (u v : Operand) (x y : YLine) : evBin Pr .neq 73 u v (.agg ⟨[iS x.Rain_Lo, iS x.Rain_Hi, iS x.Week, iS x.Gives_Lo, iS x.Gives_Hi]⟩) (.agg ⟨[iS y.Rain_Lo, iS y.Rain_Hi, iS y.Week, iS y.Gives_Lo, iS y.Gives_Hi]⟩) = some (.bool (!decide (x = y))) := neq_agg (by kernel_rfl) rfl rfl (seq_Line x y)
instance : DecidableEq Yspring_choice := fun x y => decidable_of_iff (x.week = y.week ∧ x.left = y.left) ⟨fun h => by cases x; cases y; simp only at h; simp only [Yspring_choice.mk.injEq]; exact h, fun h => by subst h; exact ⟨rfl, rfl⟩⟩
end Go.Proofs.Ytpilgokdbliklaa
end

section
namespace Go.Proofs.Ytpilgokdbliklaa
open Go.Ev Go.RowKit
set_option linter.unusedVariables false
set_option linter.unusedSimpArgs false
set_option linter.unusedSectionVars false
set_option maxRecDepth 100000
set_option maxHeartbeats 4000000
/-- Is the number in the span? -/
def inS (lo hi n : Int) : Bool := decide (lo ≤ n) && decide (n ≤ hi)
abbrev Ln := YLine
abbrev Rd := YReading
structure Sp where
  weeks : Int
  most : Int
  fall : Int
  slo : Int
  shi : Int
  wlo : Int
  whi : Int
  book : List Ln
  reads : List Rd
def isSpanB (a b lo hi : Int) : Bool := decide (a ≤ b) && (inS lo hi a && inS lo hi b)
def isWeekB (weeks k : Int) : Bool := inS 0 (weeks - 1) k
def frameB (s : Sp) : Bool := inS 1 10 s.weeks && (inS 0 100 s.most && inS 0 100 s.fall) && isSpanB s.slo s.shi 1 600 && isSpanB s.wlo s.whi 0 20
def lineB (weeks : Int) (x : Ln) : Bool := isSpanB x.Rain_Lo x.Rain_Hi 0 20 && isWeekB weeks x.Week && isSpanB x.Gives_Lo x.Gives_Hi 0 100
def readB (weeks : Int) (x : Rd) : Bool := inS 1 9999 x.Number && isWeekB weeks x.Week && inS 1 40 x.Bucket && isSpanB x.Songs_Lo x.Songs_Hi 0 99 && decide (1 ≤ x.Songs_Hi)
def bookB (weeks : Int) (L : List Ln) : Bool := decide (L.length ≤ 8) && L.all (lineB weeks)
def rdsB (weeks : Int) : Int → List Rd → Bool
  | _, [] => true
  | before, x :: xs => decide (before < x.Number) && readB weeks x && rdsB weeks x.Number xs
def readsB (weeks : Int) (L : List Rd) : Bool := decide (L.length ≤ 12) && rdsB weeks 0 L
def validB (s : Sp) : Bool := frameB s && bookB s.weeks s.book && readsB s.weeks s.reads
def upS (n d : Int) : Int := (n + d - 1) / d
def toldB (s : Sp) (x : Rd) : Int × Int := (upS (3600 * x.Bucket) (x.Songs_Hi * s.shi), if 0 < x.Songs_Lo * s.slo then min s.most (3600 * x.Bucket / (x.Songs_Lo * s.slo)) else s.most)
structure Ok (s : Sp) : Prop where
  w1 : 1 ≤ s.weeks
  w2 : s.weeks ≤ 10
  m1 : 0 ≤ s.most
  m2 : s.most ≤ 100
  f1 : 0 ≤ s.fall
  f2 : s.fall ≤ 100
  a1 : 1 ≤ s.slo
  a2 : s.slo ≤ s.shi
  a3 : s.shi ≤ 600
  v1 : 0 ≤ s.wlo
  v2 : s.wlo ≤ s.whi
  v3 : s.whi ≤ 20
structure OkR (s : Sp) (x : Rd) : Prop where
  n1 : 1 ≤ x.Number
  n2 : x.Number ≤ 9999
  w1 : 0 ≤ x.Week
  w2 : x.Week ≤ s.weeks - 1
  b1 : 1 ≤ x.Bucket
  b2 : x.Bucket ≤ 40
  l1 : 0 ≤ x.Songs_Lo
  l2 : x.Songs_Lo ≤ x.Songs_Hi
  l3 : x.Songs_Hi ≤ 99
  l4 : 1 ≤ x.Songs_Hi
theorem mul_bd {a b m n : Int} (h1 : 0 ≤ a) (h2 : a ≤ m) (h3 : 0 ≤ b) (h4 : b ≤ n) : 0 ≤ a * b ∧ a * b ≤ m * n :=
  ⟨Int.mul_nonneg h1 h3, Int.mul_le_mul h2 h4 h3 (by omega)⟩
theorem mul_pos' {a b : Int} (h1 : 1 ≤ a) (h2 : 1 ≤ b) : 1 ≤ a * b := by
  have := Int.mul_le_mul h1 h2 (by omega) (by omega : (0 : Int) ≤ a); simpa using this
abbrev Bd := Nat → Int × Int
def up (f : Bd) (k : Nat) (v : Int × Int) : Bd := fun j => if j = k then v else f j
theorem up_def (f : Bd) (k : Nat) (v : Int × Int) : up f k v = fun j => if j = k then v else f j := rfl
def bz : Bd := fun _ => (0, 0)
def BdOk (f : Bd) : Prop := ∀ j, -1000000 ≤ (f j).1 ∧ (f j).1 ≤ 1000000 ∧ -1000000 ≤ (f j).2 ∧ (f j).2 ≤ 1000000
theorem BdOk.up {f : Bd} (h : BdOk f) (k : Nat) {a b : Int} (ha : -1000000 ≤ a ∧ a ≤ 1000000) (hb : -1000000 ≤ b ∧ b ≤ 1000000) : BdOk (up f k (a, b)) := by
  intro j
  simp only [up_def]
  split
  · exact ⟨ha.1, ha.2, hb.1, hb.2⟩
  · exact h j
def fwdN (fall : Int) : Nat → Bd → Bd
  | 0, f => f
  | k + 1, f => up (fwdN fall k f) (k + 1) (max (fwdN fall k f (k + 1)).1 ((fwdN fall k f k).1 - fall), min (fwdN fall k f (k + 1)).2 (fwdN fall k f k).2)
def bwdN (fall : Int) (n : Nat) : Nat → Bd → Bd
  | 0, f => f
  | j + 1, f => up (bwdN fall n j f) (n - 2 - j) (max (bwdN fall n j f (n - 2 - j)).1 (bwdN fall n j f (n - 2 - j + 1)).1, min (bwdN fall n j f (n - 2 - j)).2 ((bwdN fall n j f (n - 2 - j + 1)).2 + fall))
theorem fwd_ok {fall : Int} (h0 : 0 ≤ fall) (h1 : fall ≤ 100) {f : Bd} (h : BdOk f) : ∀ k, BdOk (fwdN fall k f)
  | 0 => h
  | k + 1 => by
    have ih := fwd_ok h0 h1 h k
    have a1 := ih k
    have a2 := ih (k + 1)
    exact ih.up _ (by omega) (by omega)
theorem bwd_ok {fall : Int} {n : Nat} (h0 : 0 ≤ fall) (h1 : fall ≤ 100) {f : Bd} (h : BdOk f) : ∀ k, BdOk (bwdN fall n k f)
  | 0 => h
  | k + 1 => by
    have ih := bwd_ok (n := n) h0 h1 h k
    have a1 := ih (n - 2 - k)
    have a2 := ih (n - 2 - k + 1)
    exact ih.up _ (by omega) (by omega)
def narS (s : Sp) (f : Bd) : Bd := bwdN s.fall s.weeks.toNat (s.weeks.toNat - 1) (fwdN s.fall (s.weeks.toNat - 1) f)
theorem nar_ok {s : Sp} (ho : Ok s) {f : Bd} (h : BdOk f) : BdOk (narS s f) := bwd_ok ho.f1 ho.f2 (fwd_ok ho.f1 ho.f2 h _) _
structure OkLn (s : Sp) (x : Ln) : Prop where
  r1 : 0 ≤ x.Rain_Lo
  r2 : x.Rain_Lo ≤ x.Rain_Hi
  r3 : x.Rain_Hi ≤ 20
  w1 : 0 ≤ x.Week
  w2 : x.Week ≤ s.weeks - 1
  g1 : 0 ≤ x.Gives_Lo
  g2 : x.Gives_Lo ≤ x.Gives_Hi
  g3 : x.Gives_Hi ≤ 100
structure OkS (s : Sp) : Prop where
  ok : Ok s
  book : ∀ x ∈ s.book, OkLn s x
  reads : ∀ x ∈ s.reads, OkR s x
  nb : s.book.length ≤ 8
  nr : s.reads.length ≤ 12
theorem rds_ok {s : Sp} : ∀ (L : List Rd) (bef : Int), rdsB s.weeks bef L = true → ∀ x ∈ L, OkR s x
  | [], _, _, x, hx => by cases hx
  | y :: L, bef, h, x, hx => by
    simp only [rdsB, Bool.and_eq_true] at h
    rcases List.mem_cons.1 hx with e | hx
    · subst e
      have h2 := h.1.2
      simp only [readB, isWeekB, isSpanB, inS, Bool.and_eq_true, decide_eq_true_eq] at h2
      constructor <;> omega
    · exact rds_ok L _ h.2 x hx
theorem ok_of_valid {s : Sp} (h : validB s = true) : OkS s := by
  simp only [validB, Bool.and_eq_true, frameB, isSpanB, inS, bookB, readsB, decide_eq_true_eq, List.all_eq_true, lineB, isWeekB] at h
  obtain ⟨⟨hf, hb⟩, hr⟩ := h
  refine ⟨?_, ?_, rds_ok _ _ hr.2, hb.1, hr.1⟩
  · constructor <;> omega
  · intro x hx
    have := hb.2 x hx
    constructor <;> omega
def iniN (most : Int) : Nat → Bd
  | 0 => bz
  | k + 1 => up (iniN most k) k (0, most)
def addL (rain : Int) (f : Bd) (x : Ln) : Bd := if inS x.Rain_Lo x.Rain_Hi rain then up f x.Week.toNat (max (f x.Week.toNat).1 x.Gives_Lo, min (f x.Week.toNat).2 x.Gives_Hi) else f
def addR (s : Sp) (f : Bd) (x : Rd) : Bd := up f x.Week.toNat (max (f x.Week.toNat).1 (toldB s x).1, min (f x.Week.toNat).2 (toldB s x).2)
def preS (s : Sp) (rain : Int) : Bd := s.reads.foldl (addR s) (s.book.foldl (addL rain) (iniN s.most s.weeks.toNat))
def leavesS (s : Sp) (rain : Int) : Bd := narS s (preS s rain)
theorem ini_ok {most : Int} (h0 : 0 ≤ most) (h1 : most ≤ 100) : ∀ k, BdOk (iniN most k)
  | 0 => fun j => by simp [iniN, bz]
  | k + 1 => (ini_ok h0 h1 k).up _ (by omega) (by omega)
theorem told_bd {s : Sp} {x : Rd} (ho : Ok s) (hx : OkR s x) : 1 ≤ (toldB s x).1 ∧ (toldB s x).1 ≤ 1000000 ∧ 0 ≤ (toldB s x).2 ∧ (toldB s x).2 ≤ 100 := by
  obtain ⟨w1, w2, m1, m2, f1, f2, a1, a2, a3, v1, v2, v3⟩ := ho
  obtain ⟨n1, n2, k1, k2, b1, b2, l1, l2, l3, l4⟩ := hx
  have hp1 := mul_bd (a := x.Songs_Hi) (b := s.shi) (by omega) l3 (by omega) a3
  have hp2 := mul_pos' (a := x.Songs_Hi) (b := s.shi) (by omega) (by omega)
  have e1 : 1 ≤ upS (3600 * x.Bucket) (x.Songs_Hi * s.shi) := by
    unfold upS
    have : x.Songs_Hi * s.shi / (x.Songs_Hi * s.shi) ≤ (3600 * x.Bucket + x.Songs_Hi * s.shi - 1) / (x.Songs_Hi * s.shi) := Int.ediv_le_ediv (by omega) (by omega)
    rw [Int.ediv_self (by omega)] at this
    exact this
  have e2 : upS (3600 * x.Bucket) (x.Songs_Hi * s.shi) ≤ 3600 * x.Bucket + x.Songs_Hi * s.shi - 1 := Int.ediv_le_self _ (by omega)
  refine ⟨e1, by show upS _ _ ≤ _; omega, ?_, ?_⟩
  · simp only [toldB]
    split
    · rename_i hp
      have := Int.ediv_nonneg (a := 3600 * x.Bucket) (b := x.Songs_Lo * s.slo) (by omega) (by omega)
      omega
    · omega
  · simp only [toldB]
    split <;> omega
theorem addL_ok {s : Sp} {rain : Int} {f : Bd} (h : BdOk f) {x : Ln} (hx : OkLn s x) : BdOk (addL rain f x) := by
  unfold addL
  split
  · have := h x.Week.toNat
    obtain ⟨_, _, _, _, _, _, _, _⟩ := hx
    exact h.up _ (by omega) (by omega)
  · exact h
theorem addR_ok {s : Sp} {f : Bd} (ho : Ok s) (h : BdOk f) {x : Rd} (hx : OkR s x) : BdOk (addR s f x) := by
  have := h x.Week.toNat
  have := told_bd ho hx
  exact h.up _ (by omega) (by omega)
theorem fold_ok {α : Type} {step : Bd → α → Bd} {L : List α} (hs : ∀ f x, x ∈ L → BdOk f → BdOk (step f x)) {f : Bd} (h : BdOk f) : BdOk (L.foldl step f) := by
  induction L generalizing f with
  | nil => exact h
  | cons y L ih => exact ih (fun f x hx => hs f x (List.mem_cons_of_mem _ hx)) (hs f y (by simp) h)
theorem fold_take {α : Type} (step : Bd → α → Bd) {L : List α} {k : Nat} {x : α} (h : L[k]? = some x) (f : Bd) : (L.take (k + 1)).foldl step f = step ((L.take k).foldl step f) x := by
  rw [List.take_add_one, h]; simp
theorem lns_ok {s : Sp} (hs : OkS s) (rain : Int) (k : Nat) : BdOk ((s.book.take k).foldl (addL rain) (iniN s.most s.weeks.toNat)) :=
  fold_ok (fun f x hx h => addL_ok h (hs.book x (List.mem_of_mem_take hx))) (ini_ok hs.ok.m1 hs.ok.m2 _)
theorem pre_ok' {s : Sp} (hs : OkS s) (rain : Int) (k : Nat) : BdOk ((s.reads.take k).foldl (addR s) (s.book.foldl (addL rain) (iniN s.most s.weeks.toNat))) := by
  refine fold_ok (fun f x hx h => addR_ok hs.ok h (hs.reads x (List.mem_of_mem_take hx))) ?_
  have := lns_ok hs rain s.book.length
  rwa [List.take_length] at this
def okN (s : Sp) (f : Bd) : Bool := (List.range s.weeks.toNat).all fun k => decide ((f k).1 ≤ (f k).2)
def rainN (s : Sp) : Nat := (s.whi + 1 - s.wlo).toNat
def rainsN (s : Sp) (k : Nat) : List Int := ((List.range k).map fun (i : Nat) => s.wlo + (i : Int)).filter fun r => okN s (leavesS s r)
/-- The rains that there can have been. -/
def rainsS (s : Sp) : List Int := rainsN s (rainN s)
theorem rainsN_succ (s : Sp) (k : Nat) : rainsN s (k + 1) = if okN s (leavesS s (s.wlo + (k : Int))) then rainsN s k ++ [s.wlo + (k : Int)] else rainsN s k := by
  simp only [rainsN, List.range_succ, List.map_append, List.filter_append, List.map_cons, List.map_nil, List.filter_cons, List.filter_nil]
  split <;> simp
theorem rainsN_pre (s : Sp) {k n : Nat} (h : k ≤ n) : rainsN s k <+: rainsN s n := by
  refine List.IsPrefix.filter _ (List.IsPrefix.map _ ?_)
  obtain ⟨m, rfl⟩ := Nat.exists_eq_add_of_le h
  rw [List.range_add]
  exact List.prefix_append _ _
theorem okN_of {s : Sp} {f : Bd} {n : Nat} (hn : n = s.weeks.toNat) (h : ∀ j, j < n → (f j).1 ≤ (f j).2) : okN s f = true := by
  subst hn; simp only [okN, List.all_eq_true, List.mem_range, decide_eq_true_eq]; exact h
theorem okN_not {s : Sp} {f : Bd} {k : Nat} (hk : k < s.weeks.toNat) (h : ¬ (f k).1 ≤ (f k).2) : okN s f = false := by
  rw [okN, List.all_eq_false]; exact ⟨k, by simpa using hk, by simpa using h⟩
theorem leaves_ok {s : Sp} (hs : OkS s) (rain : Int) : BdOk (leavesS s rain) := by
  refine nar_ok hs.ok ?_
  have := pre_ok' hs rain s.reads.length
  rwa [List.take_length] at this
def canS (s : Sp) : Bool := !(rainsS s).isEmpty
/-- Is the reading right, if the spring gives g? -/
def rightB (s : Sp) (x : Rd) (g : Int) : Bool := decide (0 < g) && decide (x.Songs_Lo * s.slo * g ≤ 3600 * x.Bucket) && decide (3600 * x.Bucket ≤ x.Songs_Hi * s.shi * g)
theorem up_same (f : Bd) (k : Nat) (v : Int × Int) : up f k v k = v := by simp [up]
theorem up_up (f : Bd) (k : Nat) (v u : Int × Int) : up (up f k v) k u = up f k u := by
  funext j; unfold up; split <;> rfl
def allR (s : Sp) (w n : Int) (L : List Rd) : Bool := L.all fun x => !(decide (x.Week = w)) || rightB s x n
def stepW (s : Sp) (w : Int) : Nat → Int × Int
  | 0 => (s.most + 1, -1)
  | n + 1 => if allR s w n s.reads then (min (stepW s w n).1 n, (n : Int)) else stepW s w n
def baseN (s : Sp) : Nat → Bd
  | 0 => bz
  | k + 1 => up (baseN s k) k (stepW s k (s.most + 1).toNat)
def baseS (s : Sp) : Bd := baseN s s.weeks.toNat
theorem upS_le {a d n : Int} (hd : 1 ≤ d) : upS a d ≤ n ↔ a ≤ d * n := by
  unfold upS
  have h := Int.mul_ediv_add_emod (a + d - 1) d
  have h1 := Int.emod_nonneg (a + d - 1) (b := d) (by omega)
  have h2 := Int.emod_lt_of_pos (a + d - 1) (b := d) (by omega)
  generalize (a + d - 1) / d = q at h ⊢
  generalize (a + d - 1) % d = r at h h1 h2
  constructor
  · intro hq
    have : d * q ≤ d * n := Int.mul_le_mul_of_nonneg_left hq (by omega)
    omega
  · intro ha
    rcases Int.lt_or_le n q with hlt | hle
    · have : d * (n + 1) ≤ d * q := Int.mul_le_mul_of_nonneg_left (by omega) (by omega)
      rw [Int.mul_add, Int.mul_one] at this
      omega
    · exact hle
theorem right_iff {s : Sp} {x : Rd} (ho : Ok s) (hx : OkR s x) {n : Int} (hn : n ≤ s.most) : rightB s x n = true ↔ (toldB s x).1 ≤ n ∧ n ≤ (toldB s x).2 := by
  have htb := told_bd ho hx
  obtain ⟨w1, w2, m1, m2, f1, f2, a1, a2, a3, v1, v2, v3⟩ := ho
  obtain ⟨n1, n2, k1, k2, b1, b2, l1, l2, l3, l4⟩ := hx
  have hp := mul_pos' (a := x.Songs_Hi) (b := s.shi) (by omega) (by omega)
  have hq := mul_bd (a := x.Songs_Lo) (b := s.slo) (m := 99) (n := 600) l1 (by omega) (by omega) (by omega)
  have h1 : (toldB s x).1 ≤ n ↔ 3600 * x.Bucket ≤ x.Songs_Hi * s.shi * n := upS_le hp
  have h2 : n ≤ (toldB s x).2 ↔ x.Songs_Lo * s.slo * n ≤ 3600 * x.Bucket := by
    simp only [toldB]
    split
    · rename_i hlt
      have h3 : n ≤ 3600 * x.Bucket / (x.Songs_Lo * s.slo) ↔ n * (x.Songs_Lo * s.slo) ≤ 3600 * x.Bucket := Int.le_ediv_iff_mul_le hlt
      rw [Int.mul_comm n] at h3
      rw [← h3]
      omega
    · rename_i hlt
      have h0 : x.Songs_Lo * s.slo = 0 := by omega
      rw [h0, Int.zero_mul]
      omega
  rw [h1, h2]
  simp only [rightB, Bool.and_eq_true, decide_eq_true_eq]
  constructor
  · rintro ⟨⟨_, h⟩, h'⟩; exact ⟨h', h⟩
  · rintro ⟨h', h⟩
    refine ⟨⟨?_, h⟩, h'⟩
    have := h1.2 h'
    omega
theorem addR_lo {s : Sp} (L : List Rd) (f : Bd) (j : Nat) (n : Int) : (L.foldl (addR s) f j).1 ≤ n ↔ (f j).1 ≤ n ∧ ∀ x ∈ L, x.Week.toNat = j → (toldB s x).1 ≤ n := by
  induction L generalizing f with
  | nil => simp
  | cons x L ih =>
    rw [List.foldl_cons, ih]
    simp only [List.forall_mem_cons, addR, up]
    by_cases e : j = x.Week.toNat
    · subst e
      simp only [if_true, true_implies]
      constructor
      · rintro ⟨h, h'⟩; exact ⟨by omega, by omega, h'⟩
      · rintro ⟨h, h', h''⟩; exact ⟨by omega, h''⟩
    · rw [if_neg e]
      have : ¬ x.Week.toNat = j := fun h => e h.symm
      simp [this]
theorem addR_hi {s : Sp} (L : List Rd) (f : Bd) (j : Nat) (n : Int) : n ≤ (L.foldl (addR s) f j).2 ↔ n ≤ (f j).2 ∧ ∀ x ∈ L, x.Week.toNat = j → n ≤ (toldB s x).2 := by
  induction L generalizing f with
  | nil => simp
  | cons x L ih =>
    rw [List.foldl_cons, ih]
    simp only [List.forall_mem_cons, addR, up]
    by_cases e : j = x.Week.toNat
    · subst e
      simp only [if_true, true_implies]
      constructor
      · rintro ⟨h, h'⟩; exact ⟨by omega, by omega, h'⟩
      · rintro ⟨h, h', h''⟩; exact ⟨by omega, h''⟩
    · rw [if_neg e]
      have : ¬ x.Week.toNat = j := fun h => e h.symm
      simp [this]
theorem addL_lo {rain : Int} (L : List Ln) (f : Bd) (j : Nat) (n : Int) : (L.foldl (addL rain) f j).1 ≤ n ↔ (f j).1 ≤ n ∧ ∀ x ∈ L, inS x.Rain_Lo x.Rain_Hi rain = true → x.Week.toNat = j → x.Gives_Lo ≤ n := by
  induction L generalizing f with
  | nil => simp
  | cons x L ih =>
    rw [List.foldl_cons, ih]
    simp only [List.forall_mem_cons, addL]
    by_cases hr : inS x.Rain_Lo x.Rain_Hi rain = true
    · rw [if_pos hr]
      simp only [up, hr, true_implies]
      by_cases e : j = x.Week.toNat
      · subst e
        simp only [if_true, true_implies]
        constructor
        · rintro ⟨h, h'⟩; exact ⟨by omega, by omega, h'⟩
        · rintro ⟨h, h', h''⟩; exact ⟨by omega, h''⟩
      · rw [if_neg e]
        have : ¬ x.Week.toNat = j := fun h => e h.symm
        simp [this]
    · rw [if_neg hr]
      simp [hr]
theorem addL_hi {rain : Int} (L : List Ln) (f : Bd) (j : Nat) (n : Int) : n ≤ (L.foldl (addL rain) f j).2 ↔ n ≤ (f j).2 ∧ ∀ x ∈ L, inS x.Rain_Lo x.Rain_Hi rain = true → x.Week.toNat = j → n ≤ x.Gives_Hi := by
  induction L generalizing f with
  | nil => simp
  | cons x L ih =>
    rw [List.foldl_cons, ih]
    simp only [List.forall_mem_cons, addL]
    by_cases hr : inS x.Rain_Lo x.Rain_Hi rain = true
    · rw [if_pos hr]
      simp only [up, hr, true_implies]
      by_cases e : j = x.Week.toNat
      · subst e
        simp only [if_true, true_implies]
        constructor
        · rintro ⟨h, h'⟩; exact ⟨by omega, by omega, h'⟩
        · rintro ⟨h, h', h''⟩; exact ⟨by omega, h''⟩
      · rw [if_neg e]
        have : ¬ x.Week.toNat = j := fun h => e h.symm
        simp [this]
    · rw [if_neg hr]
      simp [hr]
theorem int_ext {a b : Int} (h : ∀ n, a ≤ n ↔ b ≤ n) : a = b := by have h1 := (h a).1 (Int.le_refl _); have h2 := (h b).2 (Int.le_refl _); omega
theorem int_ext' {a b : Int} (h : ∀ n, n ≤ a ↔ n ≤ b) : a = b := by have h1 := (h a).1 (Int.le_refl _); have h2 := (h b).2 (Int.le_refl _); omega
/-- What readings alone leave. -/
def redS (s : Sp) : Bd := s.reads.foldl (addR s) (iniN s.most s.weeks.toNat)
theorem ini_at {most : Int} : ∀ (k j : Nat), iniN most k j = if j < k then (0, most) else (0, 0)
  | 0, j => by simp [iniN, bz]
  | k + 1, j => by
    simp only [iniN, up]
    by_cases e : j = k
    · subst e; simp
    · rw [if_neg e, ini_at k j]
      by_cases h : j < k
      · rw [if_pos h, if_pos (by omega)]
      · rw [if_neg h, if_neg (by omega)]
theorem allR_iff {s : Sp} (hs : OkS s) {j : Nat} {n : Int} (hn : n ≤ s.most) : allR s j n s.reads = true ↔ ∀ x ∈ s.reads, x.Week.toNat = j → (toldB s x).1 ≤ n ∧ n ≤ (toldB s x).2 := by
  simp only [allR, List.all_eq_true, Bool.or_eq_true, Bool.not_eq_true', decide_eq_false_iff_not]
  constructor
  · intro h x hx hj
    have hw := (hs.reads x hx).w1
    rcases h x hx with h | h
    · exact absurd (by omega : x.Week = (j : Int)) h
    · exact (right_iff hs.ok (hs.reads x hx) hn).1 h
  · intro h x hx
    by_cases e : x.Week = (j : Int)
    · exact .inr ((right_iff hs.ok (hs.reads x hx) hn).2 (h x hx (by omega)))
    · exact .inl e
theorem red_iff {s : Sp} (hs : OkS s) {j : Nat} (hj : j < s.weeks.toNat) {n : Int} : ((redS s j).1 ≤ n ∧ n ≤ (redS s j).2) ↔ 0 ≤ n ∧ n ≤ s.most ∧ allR s j n s.reads = true := by
  unfold redS
  rw [addR_lo, addR_hi, ini_at, if_pos hj]
  constructor
  · rintro ⟨⟨h1, h2⟩, h3, h4⟩
    exact ⟨h1, h3, (allR_iff hs h3).2 fun x hx e => ⟨h2 x hx e, h4 x hx e⟩⟩
  · rintro ⟨h1, h2, h3⟩
    have := (allR_iff hs h2).1 h3
    exact ⟨⟨h1, fun x hx e => (this x hx e).1⟩, h2, fun x hx e => (this x hx e).2⟩
theorem red_bd {s : Sp} {j : Nat} (hj : j < s.weeks.toNat) : 0 ≤ (redS s j).1 ∧ (redS s j).2 ≤ s.most := by
  have h1 := (addR_lo (s := s) s.reads (iniN s.most s.weeks.toNat) j (redS s j).1).1 (Int.le_refl _)
  have h2 := (addR_hi (s := s) s.reads (iniN s.most s.weeks.toNat) j (redS s j).2).1 (Int.le_refl _)
  rw [ini_at, if_pos hj] at h1 h2
  exact ⟨h1.1, h2.1⟩
theorem step_eq {s : Sp} (hs : OkS s) {j : Nat} (hj : j < s.weeks.toNat) : ∀ k : Nat, (k : Int) ≤ s.most + 1 →
    stepW s j k = if (redS s j).1 < k ∧ (redS s j).1 ≤ (redS s j).2 then ((redS s j).1, min (redS s j).2 (k - 1)) else (s.most + 1, -1)
  | 0, _ => by
    have := red_bd (s := s) hj
    rw [if_neg (by omega)]; rfl
  | k + 1, hk => by
    have hb := red_bd (s := s) hj
    have ih := step_eq hs hj k (by omega)
    have hi := red_iff hs hj (n := (k : Int))
    simp only [stepW]
    by_cases ha : allR s j k s.reads = true
    · have hin := hi.2 ⟨by omega, by omega, ha⟩
      have e2 : (redS s j).1 < ((k + 1 : Nat) : Int) ∧ (redS s j).1 ≤ (redS s j).2 := ⟨by omega, by omega⟩
      rw [if_pos ha, if_pos e2, ih]
      by_cases hlt : (redS s j).1 < k
      · rw [if_pos ⟨hlt, e2.2⟩]
        apply Prod.ext <;> simp <;> omega
      · rw [if_neg (fun h => hlt h.1)]
        apply Prod.ext <;> simp <;> omega
    · rw [if_neg ha, ih]
      have hn : ¬ ((redS s j).1 ≤ (k : Int) ∧ (k : Int) ≤ (redS s j).2) := fun h => ha (hi.1 h).2.2
      by_cases hle : (redS s j).1 ≤ (redS s j).2
      · by_cases hlt : (redS s j).1 < k
        · have e2 : (redS s j).1 < ((k + 1 : Nat) : Int) ∧ (redS s j).1 ≤ (redS s j).2 := ⟨by omega, hle⟩
          rw [if_pos ⟨hlt, hle⟩, if_pos e2]
          apply Prod.ext <;> simp <;> omega
        · have e2 : ¬ ((redS s j).1 < ((k + 1 : Nat) : Int) ∧ (redS s j).1 ≤ (redS s j).2) := fun h => by omega
          rw [if_neg (fun h => hlt h.1), if_neg e2]
      · rw [if_neg (fun h => hle h.2), if_neg (fun h => hle h.2)]
theorem base_at (s : Sp) : ∀ (k j : Nat), baseN s k j = if j < k then stepW s j (s.most + 1).toNat else (0, 0)
  | 0, j => by simp [baseN, bz]
  | k + 1, j => by
    simp only [baseN, up]
    by_cases e : j = k
    · subst e; simp
    · rw [if_neg e, base_at s k j]
      by_cases h : j < k
      · rw [if_pos h, if_pos (by omega)]
      · rw [if_neg h, if_neg (by omega)]
/-- What the reference's lines leave of what readings leave. -/
def preR (s : Sp) (rain : Int) : Bd := s.book.foldl (addL rain) (baseS s)
def leavesR (s : Sp) (rain : Int) : Bd := narS s (preR s rain)
theorem base_red {s : Sp} (hs : OkS s) (j : Nat) : baseS s j = if j < s.weeks.toNat then (if (redS s j).1 ≤ (redS s j).2 then redS s j else (s.most + 1, -1)) else (0, 0) := by
  unfold baseS
  rw [base_at]
  by_cases h : j < s.weeks.toNat
  · have hb := red_bd (s := s) h
    have hm := hs.ok.m1
    rw [if_pos h, if_pos h, step_eq hs h _ (by omega)]
    by_cases hle : (redS s j).1 ≤ (redS s j).2
    · rw [if_pos (by omega), if_pos hle]
      apply Prod.ext <;> simp <;> omega
    · rw [if_neg (by omega), if_neg hle]
  · rw [if_neg h, if_neg h]
theorem pre_lo {s : Sp} (rain : Int) (j : Nat) (n : Int) : (preS s rain j).1 ≤ n ↔ (redS s j).1 ≤ n ∧ ∀ x ∈ s.book, inS x.Rain_Lo x.Rain_Hi rain = true → x.Week.toNat = j → x.Gives_Lo ≤ n := by
  unfold preS redS
  rw [addR_lo, addL_lo, addR_lo]
  constructor
  · rintro ⟨⟨h1, h2⟩, h3⟩; exact ⟨⟨h1, h3⟩, h2⟩
  · rintro ⟨⟨h1, h2⟩, h3⟩; exact ⟨⟨h1, h3⟩, h2⟩
theorem pre_hi {s : Sp} (rain : Int) (j : Nat) (n : Int) : n ≤ (preS s rain j).2 ↔ n ≤ (redS s j).2 ∧ ∀ x ∈ s.book, inS x.Rain_Lo x.Rain_Hi rain = true → x.Week.toNat = j → n ≤ x.Gives_Hi := by
  unfold preS redS
  rw [addR_hi, addL_hi, addR_hi]
  constructor
  · rintro ⟨⟨h1, h2⟩, h3⟩; exact ⟨⟨h1, h3⟩, h2⟩
  · rintro ⟨⟨h1, h2⟩, h3⟩; exact ⟨⟨h1, h3⟩, h2⟩
theorem red_out {s : Sp} (hs : OkS s) {j : Nat} (hj : ¬ j < s.weeks.toNat) : redS s j = (0, 0) := by
  have hno : ∀ x ∈ s.reads, ¬ x.Week.toNat = j := fun x hx e => by
    have := (hs.reads x hx).w1
    have := (hs.reads x hx).w2
    omega
  apply Prod.ext
  · refine int_ext fun n => ?_
    unfold redS
    rw [addR_lo, ini_at, if_neg hj]
    exact ⟨fun h => h.1, fun h => ⟨h, fun x hx e => absurd e (hno x hx)⟩⟩
  · refine int_ext' fun n => ?_
    unfold redS
    rw [addR_hi, ini_at, if_neg hj]
    exact ⟨fun h => h.1, fun h => ⟨h, fun x hx e => absurd e (hno x hx)⟩⟩
theorem pre_same {s : Sp} (hs : OkS s) (h : ∀ j, j < s.weeks.toNat → (redS s j).1 ≤ (redS s j).2) (rain : Int) : preR s rain = preS s rain := by
  have hb : ∀ j, baseS s j = redS s j := fun j => by
    rw [base_red hs]
    by_cases hj : j < s.weeks.toNat
    · rw [if_pos hj, if_pos (h j hj)]
    · rw [if_neg hj, red_out hs hj]
  funext j
  apply Prod.ext
  · refine int_ext fun n => ?_
    rw [pre_lo]
    unfold preR
    rw [addL_lo, hb]
  · refine int_ext' fun n => ?_
    rw [pre_hi]
    unfold preR
    rw [addL_hi, hb]
/-- Narrowing never widens. -/
theorem fwd_in {fall : Int} (f : Bd) : ∀ (k j : Nat), (f j).1 ≤ (fwdN fall k f j).1 ∧ (fwdN fall k f j).2 ≤ (f j).2
  | 0, j => ⟨Int.le_refl _, Int.le_refl _⟩
  | k + 1, j => by
    have ih := fwd_in (fall := fall) f k j
    simp only [fwdN, up]
    split
    · rename_i e; subst e; constructor <;> simp only [] <;> omega
    · exact ih
theorem bwd_in {fall : Int} {n : Nat} (f : Bd) : ∀ (k j : Nat), (f j).1 ≤ (bwdN fall n k f j).1 ∧ (bwdN fall n k f j).2 ≤ (f j).2
  | 0, j => ⟨Int.le_refl _, Int.le_refl _⟩
  | k + 1, j => by
    have ih := bwd_in (fall := fall) (n := n) f k j
    simp only [bwdN, up]
    split
    · rename_i e; subst e; constructor <;> simp only [] <;> omega
    · exact ih
theorem nar_in (s : Sp) (f : Bd) (j : Nat) : (f j).1 ≤ (narS s f j).1 ∧ (narS s f j).2 ≤ (f j).2 := by
  unfold narS
  have h1 := bwd_in (fall := s.fall) (n := s.weeks.toNat) (fwdN s.fall (s.weeks.toNat - 1) f) (s.weeks.toNat - 1) j
  have h2 := fwd_in (fall := s.fall) f (s.weeks.toNat - 1) j
  omega
theorem no_truth {s : Sp} {f : Bd} {j : Nat} (hj : j < s.weeks.toNat) (h : (f j).2 < (f j).1) : okN s (narS s f) = false :=
  okN_not hj (by have := nar_in s f j; omega)
theorem leaves_same {s : Sp} (hs : OkS s) (rain : Int) : okN s (leavesR s rain) = okN s (leavesS s rain) ∧ (okN s (leavesS s rain) = true → leavesR s rain = leavesS s rain) := by
  by_cases h : ∀ j, j < s.weeks.toNat → (redS s j).1 ≤ (redS s j).2
  · have : leavesR s rain = leavesS s rain := by unfold leavesR leavesS; rw [pre_same hs h]
    rw [this]; exact ⟨rfl, fun _ => rfl⟩
  · obtain ⟨j, hj, hlt⟩ : ∃ j, j < s.weeks.toNat ∧ ¬ (redS s j).1 ≤ (redS s j).2 := by
      by_cases hex : ∃ j, j < s.weeks.toNat ∧ ¬ (redS s j).1 ≤ (redS s j).2
      · exact hex
      · exact absurd (fun j hj => by
          by_cases hle : (redS s j).1 ≤ (redS s j).2
          · exact hle
          · exact absurd ⟨j, hj, hle⟩ hex) h
    have hS : okN s (leavesS s rain) = false := by
      refine no_truth hj ?_
      have h1 := ((pre_lo (s := s) rain j _).1 (Int.le_refl _)).1
      have h2 := ((pre_hi (s := s) rain j _).1 (Int.le_refl _)).1
      omega
    have hR : okN s (leavesR s rain) = false := by
      refine no_truth hj ?_
      have h1 := ((addL_lo (rain := rain) s.book (baseS s) j _).1 (Int.le_refl _)).1
      have h2 := ((addL_hi (rain := rain) s.book (baseS s) j _).1 (Int.le_refl _)).1
      rw [base_red hs, if_pos hj, if_neg hlt] at h1 h2
      have := hs.ok.m1
      show (s.book.foldl (addL rain) (baseS s) j).2 < (s.book.foldl (addL rain) (baseS s) j).1
      simp only [] at h1 h2
      omega
    rw [hS, hR]
    exact ⟨rfl, fun h => by cases h⟩
def arS (v u : Int × Int) : Int × Int := (min v.1 u.1, max v.2 u.2)
def gvL (s : Sp) (w : Nat) (L : List Int) (v : Int × Int) : Int × Int := L.foldl (fun v r => arS v (leavesS s r w)) v
/-- What a spring gives in a week. -/
def gvS (s : Sp) (w : Nat) : Int × Int := gvL s w (rainsS s) (s.most, 0)
theorem rains_mem {s : Sp} {r : Int} (h : r ∈ rainsS s) : okN s (leavesS s r) = true ∧ s.wlo ≤ r ∧ r ≤ s.whi := by
  unfold rainsS rainsN at h
  obtain ⟨h1, h2⟩ := List.mem_filter.1 h
  obtain ⟨i, hi, rfl⟩ := List.mem_map.1 h1
  have := List.mem_range.1 hi
  unfold rainN at this
  exact ⟨h2, by omega, by omega⟩
theorem okN_at {s : Sp} {f : Bd} (h : okN s f = true) {w : Nat} (hw : w < s.weeks.toNat) : (f w).1 ≤ (f w).2 := by
  simp only [okN, List.all_eq_true, List.mem_range, decide_eq_true_eq] at h
  exact h w hw
theorem leaves_bd {s : Sp} {r : Int} (h : okN s (leavesS s r) = true) {w : Nat} (hw : w < s.weeks.toNat) : 0 ≤ (leavesS s r w).1 ∧ (leavesS s r w).1 ≤ (leavesS s r w).2 ∧ (leavesS s r w).2 ≤ s.most := by
  have h1 := nar_in s (preS s r) w
  have h2 := ((pre_lo (s := s) r w _).1 (Int.le_refl _)).1
  have h3 := ((pre_hi (s := s) r w _).1 (Int.le_refl _)).1
  have h4 := red_bd (s := s) hw
  have h5 := okN_at h hw
  unfold leavesS at h5 ⊢
  omega
theorem hull_eq {s : Sp} {w : Nat} (hw : w < s.weeks.toNat) {r : Int} {L : List Int} (h : rainsS s = r :: L) : gvL s w (rainsS s) (leavesS s r w) = gvS s w := by
  have hb := leaves_bd (rains_mem (s := s) (r := r) (by rw [h]; simp)).1 hw
  unfold gvS
  rw [h]
  unfold gvL
  simp only [List.foldl_cons]
  congr 1
  apply Prod.ext <;> simp [arS] <;> omega
theorem base_ok {s : Sp} (hs : OkS s) : BdOk (baseS s) := by
  obtain ⟨w1, w2, m1, m2, f1, f2, a1, a2, a3, v1, v2, v3⟩ := hs.ok
  intro j
  rw [base_red hs]
  split
  · rename_i hj
    have h := red_bd (s := s) hj
    split
    · omega
    · simp; omega
  · simp
def leavesF (s : Sp) (f : Bd) (r : Int) : Bd := narS s (s.book.foldl (addL r) f)
def rainsFN (s : Sp) (f : Bd) (k : Nat) : List Int := ((List.range k).map fun (i : Nat) => s.wlo + (i : Int)).filter fun r => okN s (leavesF s f r)
def rainsF (s : Sp) (f : Bd) : List Int := rainsFN s f (rainN s)
theorem rainsFN_succ (s : Sp) (f : Bd) (k : Nat) : rainsFN s f (k + 1) = if okN s (leavesF s f (s.wlo + (k : Int))) then rainsFN s f k ++ [s.wlo + (k : Int)] else rainsFN s f k := by
  simp only [rainsFN, List.range_succ, List.map_append, List.filter_append, List.map_cons, List.map_nil, List.filter_cons, List.filter_nil]
  split <;> simp
theorem rainsFN_len (s : Sp) (f : Bd) (k : Nat) : (rainsFN s f k).length ≤ k := by
  refine Nat.le_trans (List.length_filter_le _ _) ?_
  simp
theorem rainsF_base {s : Sp} (hs : OkS s) : rainsF s (baseS s) = rainsS s := by
  unfold rainsF rainsFN rainsS rainsN
  refine List.filter_congr fun r _ => ?_
  exact (leaves_same hs r).1
end Go.Proofs.Ytpilgokdbliklaa
end

section
namespace Go.Proofs.Ytpilgokdbliklaa
open Go.Ev Go.RowKit
set_option linter.unusedVariables false
set_option linter.unusedSimpArgs false
set_option linter.unusedSectionVars false
set_option maxRecDepth 100000
set_option maxHeartbeats 4000000
theorem s1_Sa {p : Prop} (h : p := by (simp (disch := omega) only [obind_s, orun_s, ocond_t, fad_p, ld1_e, ldN_e, sto_e, cellO_c, wrO_c, Tr.get_same, Tr.get_other, nth_0, nth_s, drp_0, drp_s, drp_n, tak_0, tak_s, tak_n, over_n, over_c, lay_0, lay_s, lay_n, len_n, len_c, app_n, app_c, reps_0, reps_s, cel_agg, cel_int, cel_bool, cel_str, cel_sl, cel_ptr, cel_map, cel_func, cel_nilf, fil_n, fil_c, beq_r, ble_d, allF_n, allF_c, one_int, one_bool, one_str, one_sl, one_ptr, one_map, one_func, one_nilf, Bool.and_true, Bool.true_and, Bool.not_true, Bool.not_false, iadA_z, Int.reduceToNat, Int.toNat_zero, fl1_a, flN_a, extr_t, unot, not_d, Nat.add_eq, Nat.mul_eq, Nat.mul_one, Nat.one_mul, Nat.zero_mul, Nat.reduceMul, Nat.zero_add, Nat.add_zero, Nat.le_refl, decide_true, Nat.reduceAdd, Nat.reduceLeDiff, bsl_Sint, bld_Span, bld_spring_work, bld_spring_asked, enc_Line, enc_Reading, ocond_d, Int.toNat_natCast, *]); first | done | fail) : p := h
theorem s2_Sa {p : Prop} (h : p := by (simp (disch := omega) only [obind_s, orun_s, ocond_t, fad_p, ld1_e, ldN_e, sto_e, cellO_c, wrO_c, Tr.get_same, Tr.get_other, nth_0, nth_s, drp_0, drp_s, drp_n, tak_0, tak_s, tak_n, over_n, over_c, lay_0, lay_s, lay_n, len_n, len_c, app_n, app_c, reps_0, reps_s, cel_agg, cel_int, cel_bool, cel_str, cel_sl, cel_ptr, cel_map, cel_func, cel_nilf, fil_n, fil_c, beq_r, ble_d, allF_n, allF_c, one_int, one_bool, one_str, one_sl, one_ptr, one_map, one_func, one_nilf, Bool.and_true, Bool.true_and, Bool.not_true, Bool.not_false, iadA_z, Int.reduceToNat, Int.toNat_zero, fl1_a, flN_a, extr_t, unot, not_d, Nat.add_eq, Nat.mul_eq, Nat.mul_one, Nat.one_mul, Nat.zero_mul, Nat.reduceMul, Nat.zero_add, Nat.add_zero, Nat.le_refl, decide_true, Nat.reduceAdd, Nat.reduceLeDiff, bsl_Sint, bld_Span, bld_spring_work, bld_spring_asked, enc_Line, enc_Reading, ocond_d, Int.toNat_natCast, *]); rfl) : p := h
theorem sb_Sa {p : Prop} (h : p := by first | ((simp (disch := omega) only [obind_s, orun_s, ocond_t, fad_p, ld1_e, ldN_e, sto_e, cellO_c, wrO_c, Tr.get_same, Tr.get_other, nth_0, nth_s, drp_0, drp_s, drp_n, tak_0, tak_s, tak_n, over_n, over_c, lay_0, lay_s, lay_n, len_n, len_c, app_n, app_c, reps_0, reps_s, cel_agg, cel_int, cel_bool, cel_str, cel_sl, cel_ptr, cel_map, cel_func, cel_nilf, fil_n, fil_c, beq_r, ble_d, allF_n, allF_c, one_int, one_bool, one_str, one_sl, one_ptr, one_map, one_func, one_nilf, Bool.and_true, Bool.true_and, Bool.not_true, Bool.not_false, iadA_z, Int.reduceToNat, Int.toNat_zero, fl1_a, flN_a, extr_t, unot, not_d, Nat.add_eq, Nat.mul_eq, Nat.mul_one, Nat.one_mul, Nat.zero_mul, Nat.reduceMul, Nat.zero_add, Nat.add_zero, Nat.le_refl, decide_true, Nat.reduceAdd, Nat.reduceLeDiff, bsl_Sint, bld_Span, bld_spring_work, bld_spring_asked, enc_Line, enc_Reading, ocond_d, Int.toNat_natCast, Nat.succ_eq_add_one, Nat.add_assoc, *]); rfl) | ((simp (disch := omega) only [obind_s, orun_s, ocond_t, fad_p, ld1_e, ldN_e, sto_e, cellO_c, wrO_c, Tr.get_same, Tr.get_other, nth_0, nth_s, drp_0, drp_s, drp_n, tak_0, tak_s, tak_n, over_n, over_c, lay_0, lay_s, lay_n, len_n, len_c, app_n, app_c, reps_0, reps_s, cel_agg, cel_int, cel_bool, cel_str, cel_sl, cel_ptr, cel_map, cel_func, cel_nilf, fil_n, fil_c, beq_r, ble_d, allF_n, allF_c, one_int, one_bool, one_str, one_sl, one_ptr, one_map, one_func, one_nilf, Bool.and_true, Bool.true_and, Bool.not_true, Bool.not_false, iadA_z, Int.reduceToNat, Int.toNat_zero, fl1_a, flN_a, extr_t, unot, not_d, Nat.add_eq, Nat.mul_eq, Nat.mul_one, Nat.one_mul, Nat.zero_mul, Nat.reduceMul, Nat.zero_add, Nat.add_zero, Nat.le_refl, decide_true, Nat.reduceAdd, Nat.reduceLeDiff, bsl_Sint, bld_Span, bld_spring_work, bld_spring_asked, enc_Line, enc_Reading, ocond_d, Int.toNat_natCast, Nat.succ_eq_add_one, Nat.add_assoc, *]); done)) : p := h
theorem fr_Sa {p : Prop} (h : p := by first | assumption | exact Fr.refl _ _ | (simp (disch := omega) only [Fr_set, Fr_refl, *])) : p := h
theorem fl_Sa {p : Prop} (h : p := by first | with_unfolding_all rfl | exact Sl.flat (by assumption) | assumption) : p := h
theorem fll_Sa {p : Prop} (h : p := by first | with_unfolding_all rfl | ((repeat (refine flatL_k fl_Sa ?_)); with_unfolding_all rfl)) : p := h
theorem en_Sa {p : Prop} (h : p := by first | ((simp only [enc_int, enc_str, enc_u8, enc_bool, tak_s, tak_0, tak_n, drp_0, drp_s, drp_n, nth_s, nth_0, bsl_Sint, bld_Span, bld_spring_work, bld_spring_asked, enc_Line, enc_Reading, ocond_d, Int.toNat_natCast]); rfl) | ((simp only [enc_int, enc_str, enc_u8, enc_bool, tak_s, tak_0, tak_n, drp_0, drp_s, drp_n, nth_s, nth_0, bsl_Sint, bld_Span, bld_spring_work, bld_spring_asked, enc_Line, enc_Reading, ocond_d, Int.toNat_natCast]); done) | with_unfolding_all rfl) : p := h
theorem sM_Sa {p : Prop} (h : p := by (first | assumption | (simp (disch := omega) only [Tr.get_same, Tr.get_other, *]; rfl) | (simp (disch := omega) only [Tr.get_same, Tr.get_other, *]; done))) : p := h
theorem sS_Sa {p : Prop} (h : p := by first | assumption | exact s1_Sa) : p := h
theorem op_Sa {p : Prop} (h : p := by first | with_reducible exact fad_p _ _ _ | with_reducible exact iop_lss _ _ | with_reducible exact iop_leq _ _ | with_reducible exact iop_gtr _ _ | with_reducible exact iop_geq _ _ | with_reducible exact iop_eql _ _ | with_reducible exact iop_neq _ _ | with_reducible exact Sl.len (by assumption) | with_reducible exact lenS_s _ _ _ | with_reducible exact Sl.iad (by assumption) (by with_unfolding_all rfl) (by first | assumption | omega) | with_reducible exact Sl.fad (by assumption) (by first | assumption | omega) | with_reducible exact Sl.ld1 (by assumption) fr_Sa (by with_unfolding_all rfl) (by assumption) en_Sa | with_reducible exact Sl.ldN (by assumption) fr_Sa (by with_unfolding_all rfl) (by assumption) (by with_unfolding_all rfl) en_Sa | with_reducible exact zadd1 (by omega) | with_reducible exact zsub1 (by omega) (by omega) | with_reducible exact zaddI (by omega) (by omega) | with_reducible exact zsubI (by omega) (by omega) | with_reducible exact min_z | with_reducible exact max_z | with_reducible exact zmulI (by assumption) | with_reducible exact zmulK (by omega) (by omega) | with_reducible exact quo_z (by omega) (by omega) (by omega) | with_reducible exact cv_u8 (by omega) | with_reducible exact rem_z (by omega) (by omega) (by omega) | with_reducible exact neq_bool (by kernel_rfl) | with_reducible exact eql_u8 | with_reducible exact wntT_t (by assumption) | with_reducible exact wntT_f (by assumption) | with_reducible exact wntF_t (by assumption) | with_reducible exact wntF_f (by assumption) | with_reducible exact wnt_tt | with_reducible exact wnt_tf | with_reducible exact wnt_ft | with_reducible exact wnt_ff | with_reducible exact wnt_u _ _ | with_reducible exact pck_t _ _ | with_reducible exact pck_f _ _ | with_reducible exact pckT (by assumption) | with_reducible exact pckF (by assumption) | with_reducible exact wntT_t (by decide) | with_reducible exact wntT_f (by decide) | with_reducible exact wntF_t (by decide) | with_reducible exact wntF_f (by decide) | with_reducible exact pckT (by decide) | with_reducible exact pckF (by decide) | with_reducible exact wntN_tt (by decide) | with_reducible exact wntN_tf (by decide) | with_reducible exact wntN_ft (by decide) | with_reducible exact wntN_ff (by decide) | with_reducible exact pckNT (by decide) | with_reducible exact pckNF (by decide) | with_reducible exact wntN_tt (by assumption) | with_reducible exact wntN_tf (by assumption) | with_reducible exact wntN_ft (by assumption) | with_reducible exact wntN_ff (by assumption) | with_reducible exact pckNT (by assumption) | with_reducible exact pckNF (by assumption) | with_reducible exact wntB_tt (by assumption) | with_reducible exact wntB_tf (by assumption) | with_reducible exact wntB_ft (by assumption) | with_reducible exact wntB_ff (by assumption) | with_reducible exact pckBT (by assumption) | with_reducible exact pckBF (by assumption) | exact s2_Sa | exact s1_Sa) : p := h
theorem co_Sa {p : Prop} (h : p := by first | (simp only [impB_1, impB_0, offB_1, offB_0]; done) | ((try simp only [impB_1, impB_0, offB_1, offB_0]); first | with_reducible exact Sl.ag1 (by assumption) fr_Sa (by with_unfolding_all rfl) (by assumption) en_Sa | with_reducible exact Sl.agN (by assumption) fr_Sa (by with_unfolding_all rfl) (by assumption) (by with_unfolding_all rfl) en_Sa | ((with_reducible refine agL1_e ?_ ?_); (· exact s1_Sa); (· exact fl_Sa)) | ((with_reducible refine agLN_e ?_ ?_); (· exact s1_Sa); (· exact fll_Sa)) | ((with_reducible apply ag_bs); (· exact sM_Sa); (· rfl); (· exact sb_Sa); (· exact fll_Sa)) | ((with_reducible apply ag_al); (· exact sM_Sa); (· rfl); (· exact fll_Sa)) | ((with_reducible apply ag_bx); (· exact sM_Sa); (· rfl); (· rfl); (· exact fll_Sa)) | ((with_reducible apply ag_bd); (· rfl); (· exact s1_Sa); (· exact fll_Sa)) | exact s1_Sa)) : p := h
theorem gs_Sa {r p : Prop} (k : r) (h : Go.Ev.Im r p := by (first | with_reducible apply Im.runS | ((with_reducible apply Im.num); · (simp only [Nat.succ_eq_add_one, Nat.add_assoc, Nat.reduceAdd]; rfl)) | (with_reducible apply Im.unm) | (with_reducible apply Im.selT) | (with_reducible apply Im.selF) | ((with_reducible apply Im.cndT); · assumption) | ((with_reducible apply Im.cndF); · assumption) | ((with_reducible apply Im.cndT); · decide) | ((with_reducible apply Im.cndF); · decide) | ((with_reducible apply Im.cndNT); · decide) | ((with_reducible apply Im.cndNF); · decide) | ((with_reducible apply Im.cndBT); · exact rfl) | ((with_reducible apply Im.cndBF); · exact rfl) | ((with_reducible apply Im.cndNT); · assumption) | ((with_reducible apply Im.cndNF); · assumption) | ((with_reducible apply Im.cndBT); · assumption) | ((with_reducible apply Im.cndBF); · assumption) | ((with_reducible apply Im.bind); · exact op_Sa) | ((with_reducible apply Im.cond); · exact co_Sa) | ((with_reducible apply Im.runB); · exact op_Sa) | ((with_reducible apply Im.runC); · exact co_Sa) | ((with_reducible apply Im.runN); · (simp only [Nat.succ_eq_add_one, Nat.add_assoc, Nat.reduceAdd]; rfl)) | with_reducible apply Im.runR | ((with_reducible apply Im.runE (x := evBuildSlice _ _ _ _ _ _)); · exact sb_Sa)); (repeat (first | with_reducible apply Im.runS | ((with_reducible apply Im.num); · (simp only [Nat.succ_eq_add_one, Nat.add_assoc, Nat.reduceAdd]; rfl)) | (with_reducible apply Im.unm) | (with_reducible apply Im.selT) | (with_reducible apply Im.selF) | ((with_reducible apply Im.cndT); · assumption) | ((with_reducible apply Im.cndF); · assumption) | ((with_reducible apply Im.cndT); · decide) | ((with_reducible apply Im.cndF); · decide) | ((with_reducible apply Im.cndNT); · decide) | ((with_reducible apply Im.cndNF); · decide) | ((with_reducible apply Im.cndBT); · exact rfl) | ((with_reducible apply Im.cndBF); · exact rfl) | ((with_reducible apply Im.cndNT); · assumption) | ((with_reducible apply Im.cndNF); · assumption) | ((with_reducible apply Im.cndBT); · assumption) | ((with_reducible apply Im.cndBF); · assumption) | ((with_reducible apply Im.bind); · exact op_Sa) | ((with_reducible apply Im.cond); · exact co_Sa) | ((with_reducible apply Im.runB); · exact op_Sa) | ((with_reducible apply Im.runC); · exact co_Sa) | ((with_reducible apply Im.runN); · (simp only [Nat.succ_eq_add_one, Nat.add_assoc, Nat.reduceAdd]; rfl)) | with_reducible apply Im.runR | ((with_reducible apply Im.runE (x := evBuildSlice _ _ _ _ _ _)); · exact sb_Sa))); exact Go.Ev.Im.id) : p := h k
def inL (lo hi : Int) (L : List Int) : Bool := L.all fun x => decide (lo ≤ x ∧ x ≤ hi)
theorem inS_d (lo hi n : Int) : inS lo hi n = decide (lo ≤ n ∧ n ≤ hi) := by
  unfold inS; rw [Bool.decide_and]
theorem inL1 (lo hi x : Int) : inL lo hi [x] = inS lo hi x := by simp [inL, inS_d]
theorem inL2 (lo hi x y : Int) : inL lo hi [x, y] = (inS lo hi x && inS lo hi y) := by simp [inL, inS_d]
theorem c_span (call : CallF) {a b : Int} {h N} : Rn (s63 call (iS a) (iS b) h N) fun v h' N' => v = .agg ⟨[iS a, iS b]⟩ ∧ Gw h N h' N' := by
  unfold s63
  simp only [bld_Span]
  try refine gs_Sa ?_
  exact Rn.ret ⟨rfl, (Gw.of fr_Sa (by omega))⟩
theorem c_within (call : CallF) {a b : Int} {v : Value} {L : List Int} {h N} (hl : L.length < 1000) (hs : Sl h N v L) : Rn (s115 call (.agg ⟨[iS a, iS b]⟩) v h N) fun v h' N' => v = .bool (inL a b L) ∧ Gw h N h' N' := by
  unfold s115
  try refine gs_Sa ?_
  refine Rn.loop4 (fun n p u l k g M => ∃ i : Nat, p = .pointer (some ⟨N, 0, none⟩) ∧ u = v ∧ l = nS L.length ∧ k = nS i ∧ i + n = L.length ∧ Fr h N g ∧ N + 1 ≤ M ∧ g.get N = some (.c [iS a, iS b] 23) ∧ inL a b (L.drop i) = inL a b L) L.length (by omega) ⟨0, rfl, rfl, rfl, rfl, by omega, fr_Sa, by omega, sS_Sa, rfl⟩ ?_
  rintro n g ih _ _ _ _ h1 N1 ⟨i, rfl, rfl, rfl, rfl, e1, f1, l1, g1, q1⟩
  try refine gs_Sa ?_
  (first | with_reducible refine Rn.cnd (fun _ => ?_) (fun _ => ?_) | with_reducible refine Rn.cndN (fun _ => ?_) (fun _ => ?_) | with_reducible refine Rn.cndB (fun _ => ?_) (fun _ => ?_))
  · obtain ⟨x, hx⟩ := at_of (L := L) (k := i) (by omega)
    rw [drop_at hx] at q1
    try refine gs_Sa ?_
    repeat' (first | (refine gs_Sa ?_) | (first | with_reducible refine Rn.part (fun _ => ?_) (fun _ => ?_) | with_reducible refine Rn.partN (fun _ => ?_) (fun _ => ?_) | with_reducible refine Rn.partB (fun _ => ?_) (fun _ => ?_)) | (first | with_reducible refine Rn.cnd (fun _ => ?_) (fun _ => ?_) | with_reducible refine Rn.cndN (fun _ => ?_) (fun _ => ?_) | with_reducible refine Rn.cndB (fun _ => ?_) (fun _ => ?_)))
    · exact Rn.ret ⟨by rw [← q1]; simp only [inL, List.all_cons]; rw [decide_eq_false (by omega)]; rfl, (Gw.of fr_Sa (by omega))⟩
    · exact Rn.ret ⟨by rw [← q1]; simp only [inL, List.all_cons]; rw [decide_eq_false (by omega)]; rfl, (Gw.of fr_Sa (by omega))⟩
    · refine ih (n - 1) (by omega) _ _ _ _ _ _ ⟨i + 1, rfl, rfl, rfl, rfl, by omega, fr_Sa, by omega, sS_Sa, ?_⟩
      rw [← q1]; simp only [inL, List.all_cons]; rw [decide_eq_true (by omega)]; rfl
  · try refine gs_Sa ?_
    exact Rn.ret ⟨by rw [← q1, List.drop_eq_nil_of_le (by omega)]; rfl, (Gw.of fr_Sa (by omega))⟩
theorem c_within1 (call : CallF) {a b x : Int} {v : Value} {h N} (hs : Sl h N v [x]) : Rn (s115 call (.agg ⟨[iS a, iS b]⟩) v h N) fun v h' N' => v = .bool (inS a b x) ∧ Gw h N h' N' := by
  rw [← inL1]; exact c_within call (by simp) hs
theorem c_within2 (call : CallF) {a b x y : Int} {v : Value} {h N} (hs : Sl h N v [x, y]) : Rn (s115 call (.agg ⟨[iS a, iS b]⟩) v h N) fun v h' N' => v = .bool (inS a b x && inS a b y) ∧ Gw h N h' N' := by
  rw [← inL2]; exact c_within call (by simp) hs
theorem c_isSpan (call : CallF) {a b c d : Int} {h N} : Rn (s127 call (.agg ⟨[iS a, iS b]⟩) (.agg ⟨[iS c, iS d]⟩) h N) fun v h' N' => v = .bool (isSpanB a b c d) ∧ Gw h N h' N' := by
  unfold s127
  repeat' (first | refine gs_Sa ?_ | (first | with_reducible refine Rn.part (fun _ => ?_) (fun _ => ?_) | with_reducible refine Rn.partN (fun _ => ?_) (fun _ => ?_) | with_reducible refine Rn.partB (fun _ => ?_) (fun _ => ?_)) | (first | with_reducible refine Rn.cnd (fun _ => ?_) (fun _ => ?_) | with_reducible refine Rn.cndN (fun _ => ?_) (fun _ => ?_) | with_reducible refine Rn.cndB (fun _ => ?_) (fun _ => ?_)))
  · refine Rn.call (c_within2 call (x := a) (y := b) (Sl.lit _ sM_Sa (by omega) rfl rfl)) ?_
    rintro _ h2 N2 ⟨rfl, f2, o2, l2⟩
    try refine gs_Sa ?_
    exact Rn.ret ⟨congrArg Value.bool (by unfold isSpanB; rw [decide_eq_true (by omega)]; rfl), (Gw.of fr_Sa (by omega))⟩
  · exact Rn.ret ⟨congrArg Value.bool (by unfold isSpanB; rw [decide_eq_false (by omega)]; rfl), (Gw.of fr_Sa (by omega))⟩
section
variable {s : Sp} {b r : Value}
theorem c_isWeek (call : CallF) {k : Int} {h N} (hw : -1000000000 ≤ s.weeks ∧ s.weeks ≤ 1000000000) (cb : flatV b = true) (cr : flatV r = true) : Rn (s113 call (.agg ⟨[iS s.weeks, iS s.most, iS s.fall, iS s.slo, iS s.shi, iS s.wlo, iS s.whi, b, r]⟩) (iS k) h N) fun v h' N' => v = .bool (isWeekB s.weeks k) ∧ Gw h N h' N' := by
  unfold s113
  try refine gs_Sa ?_
  refine Rn.call (c_span call) ?_
  rintro _ h1 N1 ⟨rfl, f1, o1, l1⟩
  try refine gs_Sa ?_
  refine Rn.call (c_within1 call (x := k) (Sl.lit _ sM_Sa (by omega) rfl rfl)) ?_
  rintro _ h2 N2 ⟨rfl, f2, o2, l2⟩
  try refine gs_Sa ?_
  exact Rn.ret ⟨rfl, (Gw.of fr_Sa (by omega))⟩
theorem c_validFrame (call : CallF) {h N} (cb : flatV b = true) (cr : flatV r = true) : Rn (s124 call (.agg ⟨[iS s.weeks, iS s.most, iS s.fall, iS s.slo, iS s.shi, iS s.wlo, iS s.whi, b, r]⟩) h N) fun v h' N' => v = .bool (frameB s) ∧ Gw h N h' N' := by
  unfold s124
  have x1 := flatV_one cb; have y1 := cel_flat cb; have x2 := flatV_one cr; have y2 := cel_flat cr
  try refine gs_Sa ?_
  refine Rn.call (c_span call) ?_
  rintro _ h1 N1 ⟨rfl, f1, o1, l1⟩
  try refine gs_Sa ?_
  refine Rn.call (c_within1 call (x := s.weeks) (Sl.lit _ sM_Sa (by omega) rfl rfl)) ?_
  rintro _ h2 N2 ⟨rfl, f2, o2, l2⟩
  repeat' (first | refine gs_Sa ?_ | (first | with_reducible refine Rn.part (fun _ => ?_) (fun _ => ?_) | with_reducible refine Rn.partN (fun _ => ?_) (fun _ => ?_) | with_reducible refine Rn.partB (fun _ => ?_) (fun _ => ?_)) | (first | with_reducible refine Rn.cnd (fun _ => ?_) (fun _ => ?_) | with_reducible refine Rn.cndN (fun _ => ?_) (fun _ => ?_) | with_reducible refine Rn.cndB (fun _ => ?_) (fun _ => ?_)))
  rotate_left
  · exact Rn.ret ⟨congrArg Value.bool (by simp only [frameB, lineB, readB, *, Bool.and_true, Bool.true_and, Bool.false_and, Bool.and_false]), (Gw.of fr_Sa (by omega))⟩
  refine Rn.call (c_span call) ?_
  rintro _ h3 N3 ⟨rfl, f3, o3, l3⟩
  try refine gs_Sa ?_
  refine Rn.call (c_within2 call (x := s.most) (y := s.fall) (Sl.lit _ sM_Sa (by omega) rfl rfl)) ?_
  rintro _ h4 N4 ⟨rfl, f4, o4, l4⟩
  repeat' (first | refine gs_Sa ?_ | (first | with_reducible refine Rn.part (fun _ => ?_) (fun _ => ?_) | with_reducible refine Rn.partN (fun _ => ?_) (fun _ => ?_) | with_reducible refine Rn.partB (fun _ => ?_) (fun _ => ?_)) | (first | with_reducible refine Rn.cnd (fun _ => ?_) (fun _ => ?_) | with_reducible refine Rn.cndN (fun _ => ?_) (fun _ => ?_) | with_reducible refine Rn.cndB (fun _ => ?_) (fun _ => ?_)))
  rotate_left
  · exact Rn.ret ⟨congrArg Value.bool (by simp only [frameB, lineB, readB, *, Bool.and_true, Bool.true_and, Bool.false_and, Bool.and_false]), (Gw.of fr_Sa (by omega))⟩
  refine Rn.call (c_span call) ?_
  rintro _ h5 N5 ⟨rfl, f5, o5, l5⟩
  try refine gs_Sa ?_
  refine Rn.call (c_isSpan call) ?_
  rintro _ h6 N6 ⟨rfl, f6, o6, l6⟩
  repeat' (first | refine gs_Sa ?_ | (first | with_reducible refine Rn.part (fun _ => ?_) (fun _ => ?_) | with_reducible refine Rn.partN (fun _ => ?_) (fun _ => ?_) | with_reducible refine Rn.partB (fun _ => ?_) (fun _ => ?_)) | (first | with_reducible refine Rn.cnd (fun _ => ?_) (fun _ => ?_) | with_reducible refine Rn.cndN (fun _ => ?_) (fun _ => ?_) | with_reducible refine Rn.cndB (fun _ => ?_) (fun _ => ?_)))
  rotate_left
  · exact Rn.ret ⟨congrArg Value.bool (by simp only [frameB, lineB, readB, *, Bool.and_true, Bool.true_and, Bool.false_and, Bool.and_false]), (Gw.of fr_Sa (by omega))⟩
  refine Rn.call (c_span call) ?_
  rintro _ h7 N7 ⟨rfl, f7, o7, l7⟩
  try refine gs_Sa ?_
  refine Rn.call (c_isSpan call) ?_
  rintro _ h8 N8 ⟨rfl, f8, o8, l8⟩
  repeat' (first | refine gs_Sa ?_ | (first | with_reducible refine Rn.part (fun _ => ?_) (fun _ => ?_) | with_reducible refine Rn.partN (fun _ => ?_) (fun _ => ?_) | with_reducible refine Rn.partB (fun _ => ?_) (fun _ => ?_)) | (first | with_reducible refine Rn.cnd (fun _ => ?_) (fun _ => ?_) | with_reducible refine Rn.cndN (fun _ => ?_) (fun _ => ?_) | with_reducible refine Rn.cndB (fun _ => ?_) (fun _ => ?_)))
  exact Rn.ret ⟨congrArg Value.bool (by simp only [frameB, lineB, readB, *, Bool.and_true, Bool.true_and, Bool.false_and, Bool.and_false]), (Gw.of fr_Sa (by omega))⟩
theorem c_validLine (call : CallF) {x : Ln} {h N} (hw : -1000000000 ≤ s.weeks ∧ s.weeks ≤ 1000000000) (cb : flatV b = true) (cr : flatV r = true) : Rn (s130 call (.agg ⟨[iS s.weeks, iS s.most, iS s.fall, iS s.slo, iS s.shi, iS s.wlo, iS s.whi, b, r]⟩) (.agg ⟨Rwc.enc x⟩) h N) fun v h' N' => v = .bool (lineB s.weeks x) ∧ Gw h N h' N' := by
  unfold s130
  simp only [enc_Line]
  have x1 := flatV_one cb; have y1 := cel_flat cb; have x2 := flatV_one cr; have y2 := cel_flat cr
  try refine gs_Sa ?_
  refine Rn.call (c_span call) ?_
  rintro _ h1 N1 ⟨rfl, f1, o1, l1⟩
  try refine gs_Sa ?_
  refine Rn.call (c_isSpan call) ?_
  rintro _ h2 N2 ⟨rfl, f2, o2, l2⟩
  repeat' (first | refine gs_Sa ?_ | (first | with_reducible refine Rn.part (fun _ => ?_) (fun _ => ?_) | with_reducible refine Rn.partN (fun _ => ?_) (fun _ => ?_) | with_reducible refine Rn.partB (fun _ => ?_) (fun _ => ?_)) | (first | with_reducible refine Rn.cnd (fun _ => ?_) (fun _ => ?_) | with_reducible refine Rn.cndN (fun _ => ?_) (fun _ => ?_) | with_reducible refine Rn.cndB (fun _ => ?_) (fun _ => ?_)))
  rotate_left
  · exact Rn.ret ⟨congrArg Value.bool (by simp only [frameB, lineB, readB, *, Bool.and_true, Bool.true_and, Bool.false_and, Bool.and_false]), (Gw.of fr_Sa (by omega))⟩
  refine Rn.call (c_isWeek call hw cb cr) ?_
  rintro _ h3 N3 ⟨rfl, f3, o3, l3⟩
  repeat' (first | refine gs_Sa ?_ | (first | with_reducible refine Rn.part (fun _ => ?_) (fun _ => ?_) | with_reducible refine Rn.partN (fun _ => ?_) (fun _ => ?_) | with_reducible refine Rn.partB (fun _ => ?_) (fun _ => ?_)) | (first | with_reducible refine Rn.cnd (fun _ => ?_) (fun _ => ?_) | with_reducible refine Rn.cndN (fun _ => ?_) (fun _ => ?_) | with_reducible refine Rn.cndB (fun _ => ?_) (fun _ => ?_)))
  rotate_left
  · exact Rn.ret ⟨congrArg Value.bool (by simp only [frameB, lineB, readB, *, Bool.and_true, Bool.true_and, Bool.false_and, Bool.and_false]), (Gw.of fr_Sa (by omega))⟩
  refine Rn.call (c_span call) ?_
  rintro _ h5 N5 ⟨rfl, f5, o5, l5⟩
  try refine gs_Sa ?_
  refine Rn.call (c_isSpan call) ?_
  rintro _ h6 N6 ⟨rfl, f6, o6, l6⟩
  repeat' (first | refine gs_Sa ?_ | (first | with_reducible refine Rn.part (fun _ => ?_) (fun _ => ?_) | with_reducible refine Rn.partN (fun _ => ?_) (fun _ => ?_) | with_reducible refine Rn.partB (fun _ => ?_) (fun _ => ?_)) | (first | with_reducible refine Rn.cnd (fun _ => ?_) (fun _ => ?_) | with_reducible refine Rn.cndN (fun _ => ?_) (fun _ => ?_) | with_reducible refine Rn.cndB (fun _ => ?_) (fun _ => ?_)))
  exact Rn.ret ⟨congrArg Value.bool (by simp only [frameB, lineB, readB, *, Bool.and_true, Bool.true_and, Bool.false_and, Bool.and_false]), (Gw.of fr_Sa (by omega))⟩
theorem c_validReading (call : CallF) {x : Rd} {h N} (hw : -1000000000 ≤ s.weeks ∧ s.weeks ≤ 1000000000) (cb : flatV b = true) (cr : flatV r = true) : Rn (s117 call (.agg ⟨[iS s.weeks, iS s.most, iS s.fall, iS s.slo, iS s.shi, iS s.wlo, iS s.whi, b, r]⟩) (.agg ⟨Rwc.enc x⟩) h N) fun v h' N' => v = .bool (readB s.weeks x) ∧ Gw h N h' N' := by
  unfold s117
  simp only [enc_Reading]
  have x1 := flatV_one cb; have y1 := cel_flat cb; have x2 := flatV_one cr; have y2 := cel_flat cr
  try refine gs_Sa ?_
  refine Rn.call (c_span call) ?_
  rintro _ h1 N1 ⟨rfl, f1, o1, l1⟩
  try refine gs_Sa ?_
  refine Rn.call (c_within1 call (x := x.Number) (Sl.lit _ sM_Sa (by omega) rfl rfl)) ?_
  rintro _ h2 N2 ⟨rfl, f2, o2, l2⟩
  repeat' (first | refine gs_Sa ?_ | (first | with_reducible refine Rn.part (fun _ => ?_) (fun _ => ?_) | with_reducible refine Rn.partN (fun _ => ?_) (fun _ => ?_) | with_reducible refine Rn.partB (fun _ => ?_) (fun _ => ?_)) | (first | with_reducible refine Rn.cnd (fun _ => ?_) (fun _ => ?_) | with_reducible refine Rn.cndN (fun _ => ?_) (fun _ => ?_) | with_reducible refine Rn.cndB (fun _ => ?_) (fun _ => ?_)))
  rotate_left
  · exact Rn.ret ⟨congrArg Value.bool (by simp only [frameB, lineB, readB, *, Bool.and_true, Bool.true_and, Bool.false_and, Bool.and_false]), (Gw.of fr_Sa (by omega))⟩
  refine Rn.call (c_isWeek call hw cb cr) ?_
  rintro _ h3 N3 ⟨rfl, f3, o3, l3⟩
  repeat' (first | refine gs_Sa ?_ | (first | with_reducible refine Rn.part (fun _ => ?_) (fun _ => ?_) | with_reducible refine Rn.partN (fun _ => ?_) (fun _ => ?_) | with_reducible refine Rn.partB (fun _ => ?_) (fun _ => ?_)) | (first | with_reducible refine Rn.cnd (fun _ => ?_) (fun _ => ?_) | with_reducible refine Rn.cndN (fun _ => ?_) (fun _ => ?_) | with_reducible refine Rn.cndB (fun _ => ?_) (fun _ => ?_)))
  rotate_left
  · exact Rn.ret ⟨congrArg Value.bool (by simp only [frameB, lineB, readB, *, Bool.and_true, Bool.true_and, Bool.false_and, Bool.and_false]), (Gw.of fr_Sa (by omega))⟩
  refine Rn.call (c_span call) ?_
  rintro _ h5 N5 ⟨rfl, f5, o5, l5⟩
  try refine gs_Sa ?_
  refine Rn.call (c_within1 call (x := x.Bucket) (Sl.lit _ sM_Sa (by omega) rfl rfl)) ?_
  rintro _ h6 N6 ⟨rfl, f6, o6, l6⟩
  repeat' (first | refine gs_Sa ?_ | (first | with_reducible refine Rn.part (fun _ => ?_) (fun _ => ?_) | with_reducible refine Rn.partN (fun _ => ?_) (fun _ => ?_) | with_reducible refine Rn.partB (fun _ => ?_) (fun _ => ?_)) | (first | with_reducible refine Rn.cnd (fun _ => ?_) (fun _ => ?_) | with_reducible refine Rn.cndN (fun _ => ?_) (fun _ => ?_) | with_reducible refine Rn.cndB (fun _ => ?_) (fun _ => ?_)))
  rotate_left
  · exact Rn.ret ⟨congrArg Value.bool (by simp only [frameB, lineB, readB, *, Bool.and_true, Bool.true_and, Bool.false_and, Bool.and_false]), (Gw.of fr_Sa (by omega))⟩
  refine Rn.call (c_span call) ?_
  rintro _ h7 N7 ⟨rfl, f7, o7, l7⟩
  try refine gs_Sa ?_
  refine Rn.call (c_isSpan call) ?_
  rintro _ h8 N8 ⟨rfl, f8, o8, l8⟩
  repeat' (first | refine gs_Sa ?_ | (first | with_reducible refine Rn.part (fun _ => ?_) (fun _ => ?_) | with_reducible refine Rn.partN (fun _ => ?_) (fun _ => ?_) | with_reducible refine Rn.partB (fun _ => ?_) (fun _ => ?_)) | (first | with_reducible refine Rn.cnd (fun _ => ?_) (fun _ => ?_) | with_reducible refine Rn.cndN (fun _ => ?_) (fun _ => ?_) | with_reducible refine Rn.cndB (fun _ => ?_) (fun _ => ?_)))
  · exact Rn.ret ⟨congrArg Value.bool (by simp only [frameB, lineB, readB, *, Bool.and_true, Bool.true_and, Bool.false_and, Bool.and_false]), (Gw.of fr_Sa (by omega))⟩
  · exact Rn.ret ⟨congrArg Value.bool (by simp only [frameB, lineB, readB, *, Bool.and_true, Bool.true_and, Bool.false_and, Bool.and_false]), (Gw.of fr_Sa (by omega))⟩
theorem c_validBook (call : CallF) {h N} (hw : -1000000000 ≤ s.weeks ∧ s.weeks ≤ 1000000000) (nb : s.book.length < 1000) (hb : Sl h N b s.book) (cr : flatV r = true) : Rn (s125 call (.agg ⟨[iS s.weeks, iS s.most, iS s.fall, iS s.slo, iS s.shi, iS s.wlo, iS s.whi, b, r]⟩) h N) fun v h' N' => v = .bool (bookB s.weeks s.book) ∧ Gw h N h' N' := by
  unfold s125
  have cb := hb.flat
  have x1 := flatV_one cb; have y1 := cel_flat cb; have x2 := flatV_one cr; have y2 := cel_flat cr
  try refine gs_Sa ?_
  (first | with_reducible refine Rn.cnd (fun _ => ?_) (fun _ => ?_) | with_reducible refine Rn.cndN (fun _ => ?_) (fun _ => ?_) | with_reducible refine Rn.cndB (fun _ => ?_) (fun _ => ?_))
  · try refine gs_Sa ?_
    exact Rn.ret ⟨congrArg Value.bool (by unfold bookB; rw [decide_eq_false (by omega)]; rfl), (Gw.of fr_Sa (by omega))⟩
  have e2 : bookB s.weeks s.book = s.book.all (lineB s.weeks) := by unfold bookB; rw [decide_eq_true (by omega)]; rfl
  rw [e2]
  try refine gs_Sa ?_
  refine Rn.loop4 (fun n p u l k g M => ∃ i : Nat, p = .pointer (some ⟨N, 0, none⟩) ∧ u = b ∧ l = nS s.book.length ∧ k = nS i ∧ i + n = s.book.length ∧ Fr h N g ∧ N + 1 ≤ M ∧ g.get N = some (.c [iS s.weeks, iS s.most, iS s.fall, iS s.slo, iS s.shi, iS s.wlo, iS s.whi, b, r] 27) ∧ (s.book.drop i).all (lineB s.weeks) = s.book.all (lineB s.weeks)) s.book.length (by omega) ⟨0, rfl, rfl, rfl, rfl, by omega, fr_Sa, by omega, sS_Sa, rfl⟩ ?_
  rintro n g ih _ _ _ _ h1 N1 ⟨i, rfl, rfl, rfl, rfl, e1, f1, l1, g1, q1⟩
  try refine gs_Sa ?_
  (first | with_reducible refine Rn.cnd (fun _ => ?_) (fun _ => ?_) | with_reducible refine Rn.cndN (fun _ => ?_) (fun _ => ?_) | with_reducible refine Rn.cndB (fun _ => ?_) (fun _ => ?_))
  · obtain ⟨x, hx⟩ := at_of (L := s.book) (k := i) (by omega)
    rw [drop_at hx] at q1
    simp only [List.all_cons] at q1
    try refine gs_Sa ?_
    refine Rn.call (c_validLine call (x := x) hw cb cr) ?_
    rintro _ h2 N2 ⟨rfl, f2, o2, l2⟩
    repeat' (first | refine gs_Sa ?_ | (first | with_reducible refine Rn.part (fun _ => ?_) (fun _ => ?_) | with_reducible refine Rn.partN (fun _ => ?_) (fun _ => ?_) | with_reducible refine Rn.partB (fun _ => ?_) (fun _ => ?_)) | (first | with_reducible refine Rn.cnd (fun _ => ?_) (fun _ => ?_) | with_reducible refine Rn.cndN (fun _ => ?_) (fun _ => ?_) | with_reducible refine Rn.cndB (fun _ => ?_) (fun _ => ?_)))
    · rw [‹lineB s.weeks x = false›] at q1
      exact Rn.ret ⟨congrArg Value.bool q1, (Gw.of fr_Sa (by omega))⟩
    · rw [‹lineB s.weeks x = true›] at q1
      exact ih (n - 1) (by omega) _ _ _ _ _ _ ⟨i + 1, rfl, rfl, rfl, rfl, by omega, fr_Sa, by omega, sS_Sa, q1⟩
  · try refine gs_Sa ?_
    rw [List.drop_eq_nil_of_le (by omega)] at q1
    exact Rn.ret ⟨congrArg Value.bool q1, (Gw.of fr_Sa (by omega))⟩
end
end Go.Proofs.Ytpilgokdbliklaa
end

section
namespace Go.Proofs.Ytpilgokdbliklaa
open Go.Ev Go.RowKit
set_option linter.unusedVariables false
set_option linter.unusedSimpArgs false
set_option linter.unusedSectionVars false
set_option maxRecDepth 100000
set_option maxHeartbeats 4000000
section
variable {s : Sp} {b r : Value}
theorem c_validReadings (call : CallF) {h N} (hw : -1000000000 ≤ s.weeks ∧ s.weeks ≤ 1000000000) (nr : s.reads.length < 1000) (cb : flatV b = true) (hr : Sl h N r s.reads) : Rn (s126 call (.agg ⟨[iS s.weeks, iS s.most, iS s.fall, iS s.slo, iS s.shi, iS s.wlo, iS s.whi, b, r]⟩) h N) fun v h' N' => v = .bool (readsB s.weeks s.reads) ∧ Gw h N h' N' := by
  unfold s126
  have cr := hr.flat
  have x1 := flatV_one cb; have y1 := cel_flat cb; have x2 := flatV_one cr; have y2 := cel_flat cr
  try refine gs_Sa ?_
  (first | with_reducible refine Rn.cnd (fun _ => ?_) (fun _ => ?_) | with_reducible refine Rn.cndN (fun _ => ?_) (fun _ => ?_) | with_reducible refine Rn.cndB (fun _ => ?_) (fun _ => ?_))
  · try refine gs_Sa ?_
    exact Rn.ret ⟨congrArg Value.bool (by unfold readsB; rw [decide_eq_false (by omega)]; rfl), (Gw.of fr_Sa (by omega))⟩
  have e2 : readsB s.weeks s.reads = rdsB s.weeks 0 s.reads := by unfold readsB; rw [decide_eq_true (by omega)]; rfl
  rw [e2]
  try refine gs_Sa ?_
  refine Rn.loop5 (fun n p z u l k g M => ∃ (i : Nat) (y : Int), p = .pointer (some ⟨N, 0, none⟩) ∧ z = iS y ∧ u = r ∧ l = nS s.reads.length ∧ k = nS i ∧ i + n = s.reads.length ∧ Fr h N g ∧ N + 1 ≤ M ∧ g.get N = some (.c [iS s.weeks, iS s.most, iS s.fall, iS s.slo, iS s.shi, iS s.wlo, iS s.whi, b, r] 27) ∧ rdsB s.weeks y (s.reads.drop i) = rdsB s.weeks 0 s.reads) s.reads.length (by omega) ⟨0, 0, rfl, rfl, rfl, rfl, rfl, by omega, fr_Sa, by omega, sS_Sa, rfl⟩ ?_
  rintro n g ih _ _ _ _ _ h1 N1 ⟨i, y, rfl, rfl, rfl, rfl, rfl, e1, f1, l1, g1, q1⟩
  try refine gs_Sa ?_
  (first | with_reducible refine Rn.cnd (fun _ => ?_) (fun _ => ?_) | with_reducible refine Rn.cndN (fun _ => ?_) (fun _ => ?_) | with_reducible refine Rn.cndB (fun _ => ?_) (fun _ => ?_))
  · obtain ⟨x, hx⟩ := at_of (L := s.reads) (k := i) (by omega)
    rw [drop_at hx] at q1
    simp only [rdsB] at q1
    repeat' (first | refine gs_Sa ?_ | (first | with_reducible refine Rn.part (fun _ => ?_) (fun _ => ?_) | with_reducible refine Rn.partN (fun _ => ?_) (fun _ => ?_) | with_reducible refine Rn.partB (fun _ => ?_) (fun _ => ?_)) | (first | with_reducible refine Rn.cnd (fun _ => ?_) (fun _ => ?_) | with_reducible refine Rn.cndN (fun _ => ?_) (fun _ => ?_) | with_reducible refine Rn.cndB (fun _ => ?_) (fun _ => ?_)))
    · rw [show decide (y < x.Number) = false from decide_eq_false (by omega)] at q1
      exact Rn.ret ⟨congrArg Value.bool q1, (Gw.of fr_Sa (by omega))⟩
    rw [show decide (y < x.Number) = true from decide_eq_true (by omega)] at q1
    simp only [Bool.true_and] at q1
    refine Rn.call (c_validReading call (x := x) hw cb cr) ?_
    rintro _ h2 N2 ⟨rfl, f2, o2, l2⟩
    repeat' (first | refine gs_Sa ?_ | (first | with_reducible refine Rn.part (fun _ => ?_) (fun _ => ?_) | with_reducible refine Rn.partN (fun _ => ?_) (fun _ => ?_) | with_reducible refine Rn.partB (fun _ => ?_) (fun _ => ?_)) | (first | with_reducible refine Rn.cnd (fun _ => ?_) (fun _ => ?_) | with_reducible refine Rn.cndN (fun _ => ?_) (fun _ => ?_) | with_reducible refine Rn.cndB (fun _ => ?_) (fun _ => ?_)))
    · rw [‹readB s.weeks x = false›] at q1
      exact Rn.ret ⟨congrArg Value.bool q1, (Gw.of fr_Sa (by omega))⟩
    · rw [‹readB s.weeks x = true›] at q1
      exact ih (n - 1) (by omega) _ _ _ _ _ _ _ ⟨i + 1, x.Number, rfl, rfl, rfl, rfl, rfl, by omega, fr_Sa, by omega, sS_Sa, q1⟩
  · try refine gs_Sa ?_
    rw [List.drop_eq_nil_of_le (by omega)] at q1
    exact Rn.ret ⟨congrArg Value.bool q1, (Gw.of fr_Sa (by omega))⟩
theorem frame_weeks {s : Sp} (h : frameB s = true) : 1 ≤ s.weeks ∧ s.weeks ≤ 10 := by simp [frameB, inS] at h; omega
theorem c_valid (call : CallF) {h N} (nb : s.book.length < 1000) (nr : s.reads.length < 1000) (hb : Sl h N b s.book) (hr : Sl h N r s.reads) : Rn (s111 call (.agg ⟨[iS s.weeks, iS s.most, iS s.fall, iS s.slo, iS s.shi, iS s.wlo, iS s.whi, b, r]⟩) h N) fun v h' N' => v = .bool (validB s) ∧ Gw h N h' N' := by
  unfold s111
  have cb := hb.flat
  have cr := hr.flat
  have x1 := flatV_one cb; have y1 := cel_flat cb; have x2 := flatV_one cr; have y2 := cel_flat cr
  try refine gs_Sa ?_
  refine Rn.call (c_validFrame call cb cr) ?_
  rintro _ h1 N1 ⟨rfl, f1, o1, l1⟩
  repeat' (first | refine gs_Sa ?_ | (first | with_reducible refine Rn.part (fun _ => ?_) (fun _ => ?_) | with_reducible refine Rn.partN (fun _ => ?_) (fun _ => ?_) | with_reducible refine Rn.partB (fun _ => ?_) (fun _ => ?_)) | (first | with_reducible refine Rn.cnd (fun _ => ?_) (fun _ => ?_) | with_reducible refine Rn.cndN (fun _ => ?_) (fun _ => ?_) | with_reducible refine Rn.cndB (fun _ => ?_) (fun _ => ?_)))
  rotate_left
  · exact Rn.ret ⟨congrArg Value.bool (by simp only [validB, *, Bool.false_and]), (Gw.of fr_Sa (by omega))⟩
  have hw := frame_weeks ‹frameB s = true›
  refine Rn.call (c_validBook call (by omega) nb (Sl.up (by assumption) fr_Sa (by omega)) cr) ?_
  rintro _ h2 N2 ⟨rfl, f2, o2, l2⟩
  repeat' (first | refine gs_Sa ?_ | (first | with_reducible refine Rn.part (fun _ => ?_) (fun _ => ?_) | with_reducible refine Rn.partN (fun _ => ?_) (fun _ => ?_) | with_reducible refine Rn.partB (fun _ => ?_) (fun _ => ?_)) | (first | with_reducible refine Rn.cnd (fun _ => ?_) (fun _ => ?_) | with_reducible refine Rn.cndN (fun _ => ?_) (fun _ => ?_) | with_reducible refine Rn.cndB (fun _ => ?_) (fun _ => ?_)))
  rotate_left
  · exact Rn.ret ⟨congrArg Value.bool (by simp only [validB, *, Bool.false_and, Bool.and_false]), (Gw.of fr_Sa (by omega))⟩
  refine Rn.call (c_validReadings call (by omega) nr cb (Sl.up (by assumption) fr_Sa (by omega))) ?_
  rintro _ h3 N3 ⟨rfl, f3, o3, l3⟩
  repeat' (first | refine gs_Sa ?_ | (first | with_reducible refine Rn.part (fun _ => ?_) (fun _ => ?_) | with_reducible refine Rn.partN (fun _ => ?_) (fun _ => ?_) | with_reducible refine Rn.partB (fun _ => ?_) (fun _ => ?_)) | (first | with_reducible refine Rn.cnd (fun _ => ?_) (fun _ => ?_) | with_reducible refine Rn.cndN (fun _ => ?_) (fun _ => ?_) | with_reducible refine Rn.cndB (fun _ => ?_) (fun _ => ?_)))
  exact Rn.ret ⟨congrArg Value.bool (by simp only [validB, *, Bool.true_and]), (Gw.of fr_Sa (by omega))⟩
end
theorem c_dividedUp (call : CallF) {a c : Int} {h N} (h1 : 0 ≤ a ∧ a ≤ 1000000000) (h2 : 1 ≤ c ∧ c ≤ 1000000000) : Rn (s64 call (iS a) (iS c) h N) fun v h' N' => v = iS (upS a c) ∧ Gw h N h' N' := by
  unfold s64
  try refine gs_Sa ?_
  exact Rn.ret ⟨rfl, (Gw.of fr_Sa (by omega))⟩
theorem c_both (call : CallF) {a c d e : Int} {h N} : Rn (s121 call (.agg ⟨[iS a, iS c]⟩) (.agg ⟨[iS d, iS e]⟩) h N) fun v h' N' => v = .agg ⟨[iS (max a d), iS (min c e)]⟩ ∧ Gw h N h' N' := by
  unfold s121
  try refine gs_Sa ?_
  refine Rn.call (c_span call) ?_
  rintro _ h2 N2 ⟨rfl, f2, o2, l2⟩
  try refine gs_Sa ?_
  exact Rn.ret ⟨rfl, (Gw.of fr_Sa (by omega))⟩
theorem c_around (call : CallF) {a c d e : Int} {h N} : Rn (s95 call (.agg ⟨[iS a, iS c]⟩) (.agg ⟨[iS d, iS e]⟩) h N) fun v h' N' => v = .agg ⟨[iS (min a d), iS (max c e)]⟩ ∧ Gw h N h' N' := by
  unfold s95
  try refine gs_Sa ?_
  refine Rn.call (c_span call) ?_
  rintro _ h2 N2 ⟨rfl, f2, o2, l2⟩
  try refine gs_Sa ?_
  exact Rn.ret ⟨rfl, (Gw.of fr_Sa (by omega))⟩
section
variable {s : Sp} {b r : Value}
theorem c_told (call : CallF) {x : Rd} {h N} (ho : Ok s) (hx : OkR s x) (cb : flatV b = true) (cr : flatV r = true) : Rn (s85 call (.agg ⟨[iS s.weeks, iS s.most, iS s.fall, iS s.slo, iS s.shi, iS s.wlo, iS s.whi, b, r]⟩) (.agg ⟨Rwc.enc x⟩) h N) fun v h' N' => v = .agg ⟨[iS (toldB s x).1, iS (toldB s x).2]⟩ ∧ Gw h N h' N' := by
  have htb := told_bd ho hx
  obtain ⟨w1, w2, m1, m2, p1, p2, a1, a2, a3, v1, v2, v3⟩ := ho
  obtain ⟨n1, n2, k1, k2, b1, b2, l1, l2, l3, l4⟩ := hx
  have hp1 := mul_bd (a := x.Songs_Hi) (b := s.shi) (by omega) l3 (by omega) a3
  have hp2 := mul_pos' (a := x.Songs_Hi) (b := s.shi) (by omega) (by omega)
  have hp3 := mul_bd (a := x.Songs_Lo) (b := s.slo) (m := 99) (n := 600) l1 (by omega) (by omega) (by omega)
  unfold s85
  simp only [enc_Reading]
  have x1 := flatV_one cb; have y1 := cel_flat cb; have x2 := flatV_one cr; have y2 := cel_flat cr
  try refine gs_Sa ?_
  refine Rn.call (c_dividedUp call (by omega) (by omega)) ?_
  rintro _ h2 N2 ⟨rfl, f2, o2, l2⟩
  try refine gs_Sa ?_
  refine Rn.call (c_span call) ?_
  rintro _ h3 N3 ⟨rfl, f3, o3, l3⟩
  try refine gs_Sa ?_
  unfold jnR
  (first | with_reducible refine Rn.cnd (fun _ => ?_) (fun _ => ?_) | with_reducible refine Rn.cndN (fun _ => ?_) (fun _ => ?_) | with_reducible refine Rn.cndB (fun _ => ?_) (fun _ => ?_))
  · try refine gs_Sa ?_
    refine Rn.ret ⟨?_, (Gw.of fr_Sa (by omega))⟩
    simp only [toldB]; rw [if_pos (by assumption)]
  · try refine gs_Sa ?_
    refine Rn.ret ⟨?_, (Gw.of fr_Sa (by omega))⟩
    simp only [toldB]; rw [if_neg (by assumption)]
end
end Go.Proofs.Ytpilgokdbliklaa
end

section
namespace Go.Proofs.Ytpilgokdbliklaa
open Go.Ev Go.RowKit
set_option linter.unusedVariables false
set_option linter.unusedSimpArgs false
set_option linter.unusedSectionVars false
set_option maxRecDepth 100000
set_option maxHeartbeats 4000000
theorem s1_Sc {p : Prop} (h : p := by (simp (disch := omega) only [obind_s, orun_s, ocond_t, fad_p, ld1_e, ldN_e, sto_e, cellO_c, wrO_c, Tr.get_same, Tr.get_other, nth_0, nth_s, drp_0, drp_s, drp_n, tak_0, tak_s, tak_n, over_n, over_c, lay_0, lay_s, lay_n, len_n, len_c, app_n, app_c, reps_0, reps_s, cel_agg, cel_int, cel_bool, cel_str, cel_sl, cel_ptr, cel_map, cel_func, cel_nilf, fil_n, fil_c, beq_r, ble_d, allF_n, allF_c, one_int, one_bool, one_str, one_sl, one_ptr, one_map, one_func, one_nilf, Bool.and_true, Bool.true_and, Bool.not_true, Bool.not_false, iadA_z, Int.reduceToNat, Int.toNat_zero, fl1_a, flN_a, extr_t, unot, not_d, Nat.add_eq, Nat.mul_eq, Nat.mul_one, Nat.one_mul, Nat.zero_mul, Nat.reduceMul, Nat.zero_add, Nat.add_zero, Nat.le_refl, decide_true, Nat.reduceAdd, Nat.reduceLeDiff, bsl_Sint, bld_Span, bld_spring_work, bld_spring_asked, enc_Line, enc_Reading, ocond_d, Int.toNat_natCast, bd_drp0, bd_drp1, bd_lay, bd_len, bd_self, bd_tak, bd_over, qc_drp0, qc_drp1, setSt_e, stO_n, stO_s, isReady_r, anySt_t, unmark_e, unO_d, *]); first | done | fail) : p := h
theorem s2_Sc {p : Prop} (h : p := by (simp (disch := omega) only [obind_s, orun_s, ocond_t, fad_p, ld1_e, ldN_e, sto_e, cellO_c, wrO_c, Tr.get_same, Tr.get_other, nth_0, nth_s, drp_0, drp_s, drp_n, tak_0, tak_s, tak_n, over_n, over_c, lay_0, lay_s, lay_n, len_n, len_c, app_n, app_c, reps_0, reps_s, cel_agg, cel_int, cel_bool, cel_str, cel_sl, cel_ptr, cel_map, cel_func, cel_nilf, fil_n, fil_c, beq_r, ble_d, allF_n, allF_c, one_int, one_bool, one_str, one_sl, one_ptr, one_map, one_func, one_nilf, Bool.and_true, Bool.true_and, Bool.not_true, Bool.not_false, iadA_z, Int.reduceToNat, Int.toNat_zero, fl1_a, flN_a, extr_t, unot, not_d, Nat.add_eq, Nat.mul_eq, Nat.mul_one, Nat.one_mul, Nat.zero_mul, Nat.reduceMul, Nat.zero_add, Nat.add_zero, Nat.le_refl, decide_true, Nat.reduceAdd, Nat.reduceLeDiff, bsl_Sint, bld_Span, bld_spring_work, bld_spring_asked, enc_Line, enc_Reading, ocond_d, Int.toNat_natCast, bd_drp0, bd_drp1, bd_lay, bd_len, bd_self, bd_tak, bd_over, qc_drp0, qc_drp1, setSt_e, stO_n, stO_s, isReady_r, anySt_t, unmark_e, unO_d, *]); rfl) : p := h
theorem sb_Sc {p : Prop} (h : p := by first | ((simp (disch := omega) only [obind_s, orun_s, ocond_t, fad_p, ld1_e, ldN_e, sto_e, cellO_c, wrO_c, Tr.get_same, Tr.get_other, nth_0, nth_s, drp_0, drp_s, drp_n, tak_0, tak_s, tak_n, over_n, over_c, lay_0, lay_s, lay_n, len_n, len_c, app_n, app_c, reps_0, reps_s, cel_agg, cel_int, cel_bool, cel_str, cel_sl, cel_ptr, cel_map, cel_func, cel_nilf, fil_n, fil_c, beq_r, ble_d, allF_n, allF_c, one_int, one_bool, one_str, one_sl, one_ptr, one_map, one_func, one_nilf, Bool.and_true, Bool.true_and, Bool.not_true, Bool.not_false, iadA_z, Int.reduceToNat, Int.toNat_zero, fl1_a, flN_a, extr_t, unot, not_d, Nat.add_eq, Nat.mul_eq, Nat.mul_one, Nat.one_mul, Nat.zero_mul, Nat.reduceMul, Nat.zero_add, Nat.add_zero, Nat.le_refl, decide_true, Nat.reduceAdd, Nat.reduceLeDiff, bsl_Sint, bld_Span, bld_spring_work, bld_spring_asked, enc_Line, enc_Reading, ocond_d, Int.toNat_natCast, bd_drp0, bd_drp1, bd_lay, bd_len, bd_self, bd_tak, bd_over, qc_drp0, qc_drp1, setSt_e, stO_n, stO_s, isReady_r, anySt_t, unmark_e, unO_d, Nat.succ_eq_add_one, Nat.add_assoc, *]); rfl) | ((simp (disch := omega) only [obind_s, orun_s, ocond_t, fad_p, ld1_e, ldN_e, sto_e, cellO_c, wrO_c, Tr.get_same, Tr.get_other, nth_0, nth_s, drp_0, drp_s, drp_n, tak_0, tak_s, tak_n, over_n, over_c, lay_0, lay_s, lay_n, len_n, len_c, app_n, app_c, reps_0, reps_s, cel_agg, cel_int, cel_bool, cel_str, cel_sl, cel_ptr, cel_map, cel_func, cel_nilf, fil_n, fil_c, beq_r, ble_d, allF_n, allF_c, one_int, one_bool, one_str, one_sl, one_ptr, one_map, one_func, one_nilf, Bool.and_true, Bool.true_and, Bool.not_true, Bool.not_false, iadA_z, Int.reduceToNat, Int.toNat_zero, fl1_a, flN_a, extr_t, unot, not_d, Nat.add_eq, Nat.mul_eq, Nat.mul_one, Nat.one_mul, Nat.zero_mul, Nat.reduceMul, Nat.zero_add, Nat.add_zero, Nat.le_refl, decide_true, Nat.reduceAdd, Nat.reduceLeDiff, bsl_Sint, bld_Span, bld_spring_work, bld_spring_asked, enc_Line, enc_Reading, ocond_d, Int.toNat_natCast, bd_drp0, bd_drp1, bd_lay, bd_len, bd_self, bd_tak, bd_over, qc_drp0, qc_drp1, setSt_e, stO_n, stO_s, isReady_r, anySt_t, unmark_e, unO_d, Nat.succ_eq_add_one, Nat.add_assoc, *]); done)) : p := h
theorem fr_Sc {p : Prop} (h : p := by first | assumption | exact Fr.refl _ _ | (simp (disch := omega) only [Fr_set, Fr_refl, *])) : p := h
theorem fl_Sc {p : Prop} (h : p := by first | with_unfolding_all rfl | exact Sl.flat (by assumption) | assumption) : p := h
theorem fll_Sc {p : Prop} (h : p := by first | with_unfolding_all rfl | ((repeat (refine flatL_k fl_Sc ?_)); with_unfolding_all rfl)) : p := h
theorem en_Sc {p : Prop} (h : p := by first | ((simp only [enc_int, enc_str, enc_u8, enc_bool, tak_s, tak_0, tak_n, drp_0, drp_s, drp_n, nth_s, nth_0, bsl_Sint, bld_Span, bld_spring_work, bld_spring_asked, enc_Line, enc_Reading, ocond_d, Int.toNat_natCast, bd_drp0, bd_drp1, bd_lay, bd_len, bd_self, bd_tak, bd_over, qc_drp0, qc_drp1, setSt_e, stO_n, stO_s, isReady_r, anySt_t, unmark_e, unO_d]); rfl) | ((simp only [enc_int, enc_str, enc_u8, enc_bool, tak_s, tak_0, tak_n, drp_0, drp_s, drp_n, nth_s, nth_0, bsl_Sint, bld_Span, bld_spring_work, bld_spring_asked, enc_Line, enc_Reading, ocond_d, Int.toNat_natCast, bd_drp0, bd_drp1, bd_lay, bd_len, bd_self, bd_tak, bd_over, qc_drp0, qc_drp1, setSt_e, stO_n, stO_s, isReady_r, anySt_t, unmark_e, unO_d]); done) | with_unfolding_all rfl) : p := h
theorem sM_Sc {p : Prop} (h : p := by (first | assumption | (simp (disch := omega) only [Tr.get_same, Tr.get_other, *]; rfl) | (simp (disch := omega) only [Tr.get_same, Tr.get_other, *]; done))) : p := h
theorem sS_Sc {p : Prop} (h : p := by first | assumption | exact s1_Sc) : p := h
theorem sR_Sc {p : Prop} (h : p := by first | assumption | exact s1_Sc | exact s2_Sc | with_unfolding_all rfl) : p := h
theorem op_Sc {p : Prop} (h : p := by first | with_reducible exact fad_p _ _ _ | with_reducible exact iop_lss _ _ | with_reducible exact iop_leq _ _ | with_reducible exact iop_gtr _ _ | with_reducible exact iop_geq _ _ | with_reducible exact iop_eql _ _ | with_reducible exact iop_neq _ _ | with_reducible exact Sl.len (by assumption) | with_reducible exact lenS_s _ _ _ | with_reducible exact Sl.iad (by assumption) (by with_unfolding_all rfl) (by first | assumption | omega) | with_reducible exact Sl.fad (by assumption) (by first | assumption | omega) | with_reducible exact Sl.ld1 (by assumption) fr_Sc (by with_unfolding_all rfl) (by assumption) en_Sc | with_reducible exact Sl.ldN (by assumption) fr_Sc (by with_unfolding_all rfl) (by assumption) (by with_unfolding_all rfl) en_Sc | with_reducible exact zadd1 (by omega) | with_reducible exact zsub1 (by omega) (by omega) | with_reducible exact zaddI (by omega) (by omega) | with_reducible exact zsubI (by omega) (by omega) | with_reducible exact min_z | with_reducible exact max_z | with_reducible exact zmulI (by assumption) | with_reducible exact zmulK (by omega) (by omega) | with_reducible exact quo_z (by omega) (by omega) (by omega) | with_reducible exact cv_u8 (by omega) | with_reducible exact rem_z (by omega) (by omega) (by omega) | with_reducible exact neq_bool (by kernel_rfl) | with_reducible exact eql_u8 | with_reducible exact wntT_t (by assumption) | with_reducible exact wntT_f (by assumption) | with_reducible exact wntF_t (by assumption) | with_reducible exact wntF_f (by assumption) | with_reducible exact wnt_tt | with_reducible exact wnt_tf | with_reducible exact wnt_ft | with_reducible exact wnt_ff | with_reducible exact wnt_u _ _ | with_reducible exact pck_t _ _ | with_reducible exact pck_f _ _ | with_reducible exact pckT (by assumption) | with_reducible exact pckF (by assumption) | with_reducible exact wntT_t (by decide) | with_reducible exact wntT_f (by decide) | with_reducible exact wntF_t (by decide) | with_reducible exact wntF_f (by decide) | with_reducible exact pckT (by decide) | with_reducible exact pckF (by decide) | with_reducible exact wntN_tt (by decide) | with_reducible exact wntN_tf (by decide) | with_reducible exact wntN_ft (by decide) | with_reducible exact wntN_ff (by decide) | with_reducible exact pckNT (by decide) | with_reducible exact pckNF (by decide) | with_reducible exact wntN_tt (by assumption) | with_reducible exact wntN_tf (by assumption) | with_reducible exact wntN_ft (by assumption) | with_reducible exact wntN_ff (by assumption) | with_reducible exact pckNT (by assumption) | with_reducible exact pckNF (by assumption) | with_reducible exact wntB_tt (by assumption) | with_reducible exact wntB_tf (by assumption) | with_reducible exact wntB_ft (by assumption) | with_reducible exact wntB_ff (by assumption) | with_reducible exact pckBT (by assumption) | with_reducible exact pckBF (by assumption) | exact s2_Sc | exact s1_Sc) : p := h
theorem co_Sc {p : Prop} (h : p := by first | (simp only [impB_1, impB_0, offB_1, offB_0]; done) | ((try simp only [impB_1, impB_0, offB_1, offB_0]); first | with_reducible exact Sl.ag1 (by assumption) fr_Sc (by with_unfolding_all rfl) (by assumption) en_Sc | with_reducible exact Sl.agN (by assumption) fr_Sc (by with_unfolding_all rfl) (by assumption) (by with_unfolding_all rfl) en_Sc | ((with_reducible refine agL1_e ?_ ?_); (· exact s1_Sc); (· exact fl_Sc)) | ((with_reducible refine agLN_e ?_ ?_); (· exact s1_Sc); (· exact fll_Sc)) | ((with_reducible apply ag_bs); (· exact sM_Sc); (· rfl); (· exact sb_Sc); (· exact fll_Sc)) | ((with_reducible apply ag_al); (· exact sM_Sc); (· rfl); (· exact fll_Sc)) | ((with_reducible apply ag_bx); (· exact sM_Sc); (· rfl); (· rfl); (· exact fll_Sc)) | ((with_reducible apply ag_bd); (· rfl); (· exact s1_Sc); (· exact fll_Sc)) | exact s1_Sc)) : p := h
theorem gs_Sc {r p : Prop} (k : r) (h : Go.Ev.Im r p := by (first | with_reducible apply Im.runS | ((with_reducible apply Im.num); · (simp only [Nat.succ_eq_add_one, Nat.add_assoc, Nat.reduceAdd]; rfl)) | (with_reducible apply Im.unm) | (with_reducible apply Im.selT) | (with_reducible apply Im.selF) | ((with_reducible apply Im.cndT); · assumption) | ((with_reducible apply Im.cndF); · assumption) | ((with_reducible apply Im.cndT); · decide) | ((with_reducible apply Im.cndF); · decide) | ((with_reducible apply Im.cndNT); · decide) | ((with_reducible apply Im.cndNF); · decide) | ((with_reducible apply Im.cndBT); · exact rfl) | ((with_reducible apply Im.cndBF); · exact rfl) | ((with_reducible apply Im.cndNT); · assumption) | ((with_reducible apply Im.cndNF); · assumption) | ((with_reducible apply Im.cndBT); · assumption) | ((with_reducible apply Im.cndBF); · assumption) | ((with_reducible apply Im.bind); · exact op_Sc) | ((with_reducible apply Im.cond); · exact co_Sc) | ((with_reducible apply Im.runB); · exact op_Sc) | ((with_reducible apply Im.runC); · exact co_Sc) | ((with_reducible apply Im.runN); · (simp only [Nat.succ_eq_add_one, Nat.add_assoc, Nat.reduceAdd]; rfl)) | with_reducible apply Im.runR | ((with_reducible apply Im.runE (x := evBuildSlice _ _ _ _ _ _)); · exact sb_Sc)); (repeat (first | with_reducible apply Im.runS | ((with_reducible apply Im.num); · (simp only [Nat.succ_eq_add_one, Nat.add_assoc, Nat.reduceAdd]; rfl)) | (with_reducible apply Im.unm) | (with_reducible apply Im.selT) | (with_reducible apply Im.selF) | ((with_reducible apply Im.cndT); · assumption) | ((with_reducible apply Im.cndF); · assumption) | ((with_reducible apply Im.cndT); · decide) | ((with_reducible apply Im.cndF); · decide) | ((with_reducible apply Im.cndNT); · decide) | ((with_reducible apply Im.cndNF); · decide) | ((with_reducible apply Im.cndBT); · exact rfl) | ((with_reducible apply Im.cndBF); · exact rfl) | ((with_reducible apply Im.cndNT); · assumption) | ((with_reducible apply Im.cndNF); · assumption) | ((with_reducible apply Im.cndBT); · assumption) | ((with_reducible apply Im.cndBF); · assumption) | ((with_reducible apply Im.bind); · exact op_Sc) | ((with_reducible apply Im.cond); · exact co_Sc) | ((with_reducible apply Im.runB); · exact op_Sc) | ((with_reducible apply Im.runC); · exact co_Sc) | ((with_reducible apply Im.runN); · (simp only [Nat.succ_eq_add_one, Nat.add_assoc, Nat.reduceAdd]; rfl)) | with_reducible apply Im.runR | ((with_reducible apply Im.runE (x := evBuildSlice _ _ _ _ _ _)); · exact sb_Sc))); exact Go.Ev.Im.id) : p := h k
def bdC (f : Bd) : List Value := [iS (f 0).1, iS (f 0).2, iS (f 1).1, iS (f 1).2, iS (f 2).1, iS (f 2).2, iS (f 3).1, iS (f 3).2, iS (f 4).1, iS (f 4).2, iS (f 5).1, iS (f 5).2, iS (f 6).1, iS (f 6).2, iS (f 7).1, iS (f 7).2, iS (f 8).1, iS (f 8).2, iS (f 9).1, iS (f 9).2]
theorem ten {p : Nat → Prop} (h0 : p 0) (h1 : p 1) (h2 : p 2) (h3 : p 3) (h4 : p 4) (h5 : p 5) (h6 : p 6) (h7 : p 7) (h8 : p 8) (h9 : p 9) : ∀ k, k < 10 → p k
  | 0, _ => h0
  | 1, _ => h1
  | 2, _ => h2
  | 3, _ => h3
  | 4, _ => h4
  | 5, _ => h5
  | 6, _ => h6
  | 7, _ => h7
  | 8, _ => h8
  | 9, _ => h9
  | k + 10, h => absurd h (by omega)
theorem bd_drp0 (f : Bd) {k : Nat} (hk : k < 10) : drp (bdC f) (k * 2) = iS (f k).1 :: iS (f k).2 :: drp (bdC f) (k * 2 + 2) :=
  ten (p := fun k => drp (bdC f) (k * 2) = iS (f k).1 :: iS (f k).2 :: drp (bdC f) (k * 2 + 2)) rfl rfl rfl rfl rfl rfl rfl rfl rfl rfl k hk
theorem bd_drp1 (f : Bd) {k : Nat} (hk : k < 10) : drp (bdC f) (k * 2 + 1) = iS (f k).2 :: drp (bdC f) (k * 2 + 2) :=
  ten (p := fun k => drp (bdC f) (k * 2 + 1) = iS (f k).2 :: drp (bdC f) (k * 2 + 2)) rfl rfl rfl rfl rfl rfl rfl rfl rfl rfl k hk
theorem bd_lay (f : Bd) {k : Nat} (hk : k < 10) (a b : Int) : lay (bdC f) [iS a, iS b] (k * 2) = bdC (up f k (a, b)) :=
  ten (p := fun k => lay (bdC f) [iS a, iS b] (k * 2) = bdC (up f k (a, b))) rfl rfl rfl rfl rfl rfl rfl rfl rfl rfl k hk
theorem bd_len (f : Bd) : len (bdC f) = 20 := rfl
theorem bd_self (f g : Bd) : lay (bdC f) (bdC g) 0 = bdC g := rfl
theorem bd_tak (f : Bd) : tak (bdC f) 20 = bdC f := rfl
theorem bd_over (f : Bd) : over (bdC f) [iS 0, iS 0, iS 0, iS 0, iS 0, iS 0, iS 0, iS 0, iS 0, iS 0, iS 0, iS 0, iS 0, iS 0, iS 0, iS 0, iS 0, iS 0, iS 0, iS 0] = bdC f := rfl
def errN : Nat → Int
  | 0 => 10
  | 1 => 11
  | 2 => 14
  | 3 => 12
  | _ => 8
def fnum : Nat → Nat
  | 0 => 110
  | 1 => 112
  | 2 => 114
  | 3 => 116
  | _ => 118
def qC : List Value := [.func (.func 110) ⟨[]⟩ ⟨[]⟩, iS 10, .func (.func 112) ⟨[]⟩ ⟨[]⟩, iS 11, .func (.func 114) ⟨[]⟩ ⟨[]⟩, iS 14, .func (.func 116) ⟨[]⟩ ⟨[]⟩, iS 12, .func (.func 118) ⟨[]⟩ ⟨[]⟩, iS 8]
theorem five {p : Nat → Prop} (h0 : p 0) (h1 : p 1) (h2 : p 2) (h3 : p 3) (h4 : p 4) : ∀ k, k < 5 → p k
  | 0, _ => h0
  | 1, _ => h1
  | 2, _ => h2
  | 3, _ => h3
  | 4, _ => h4
  | k + 5, h => absurd h (by omega)
theorem qc_drp0 {k : Nat} (hk : k < 5) : drp qC (k * 2) = .func (.func (fnum k)) ⟨[]⟩ ⟨[]⟩ :: iS (errN k) :: drp qC (k * 2 + 2) :=
  five (p := fun k => drp qC (k * 2) = .func (.func (fnum k)) ⟨[]⟩ ⟨[]⟩ :: iS (errN k) :: drp qC (k * 2 + 2)) rfl rfl rfl rfl rfl k hk
theorem qc_drp1 {k : Nat} (hk : k < 5) : drp qC (k * 2 + 1) = iS (errN k) :: drp qC (k * 2 + 2) :=
  five (p := fun k => drp qC (k * 2 + 1) = iS (errN k) :: drp qC (k * 2 + 2)) rfl rfl rfl rfl rfl k hk
section
variable {s : Sp} {b r : Value}
theorem c_narrow (call : CallF) {f : Bd} {h N} (ho : Ok s) (hf : BdOk f) (cb : flatV b = true) (cr : flatV r = true) : Rn (s120 call (.agg ⟨[iS s.weeks, iS s.most, iS s.fall, iS s.slo, iS s.shi, iS s.wlo, iS s.whi, b, r]⟩) (.agg ⟨bdC f⟩) h N) fun v h' N' => v = .agg ⟨bdC (narS s f)⟩ ∧ Gw h N h' N' := by
  obtain ⟨w1, w2, m1, m2, p1, p2, a1, a2, a3, v1, v2, v3⟩ := ho
  unfold s120
  have x1 := flatV_one cb; have y1 := cel_flat cb; have x2 := flatV_one cr; have y2 := cel_flat cr
  try refine gs_Sc ?_
  refine Rn.loop5 (fun n p q u l k g M => ∃ i : Nat, p = .pointer (some ⟨N, 0, none⟩) ∧ q = .pointer (some ⟨N + 1, 0, none⟩) ∧ u = .pointer (some ⟨N + 2, 0, none⟩) ∧ l = iS (s.weeks - 1) ∧ k = nS i ∧ (i : Int) + n = s.weeks - 1 ∧ Fr h N g ∧ N + 3 ≤ M ∧ g.get N = some (.c [iS s.weeks, iS s.most, iS s.fall, iS s.slo, iS s.shi, iS s.wlo, iS s.whi, b, r] 106) ∧ g.get (N + 1) = some (.c (bdC (fwdN s.fall i f)) 152) ∧ g.get (N + 2) = some (.c (bdC bz) 152)) (s.weeks - 1).toNat (by omega) ⟨0, rfl, rfl, rfl, rfl, rfl, by omega, fr_Sc, by omega, sS_Sc, sR_Sc, sR_Sc⟩ ?_
  rintro n g ih _ _ _ _ _ h1 N1 ⟨i, rfl, rfl, rfl, rfl, rfl, e1, f1, l1, g1, g2, g3⟩
  have hb1 := fwd_ok p1 p2 hf i i
  have hb2 := fwd_ok p1 p2 hf i (i + 1)
  try refine gs_Sc ?_
  (first | with_reducible refine Rn.cnd (fun _ => ?_) (fun _ => ?_) | with_reducible refine Rn.cndN (fun _ => ?_) (fun _ => ?_) | with_reducible refine Rn.cndB (fun _ => ?_) (fun _ => ?_))
  · try refine gs_Sc ?_
    refine Rn.call (c_span call) ?_
    rintro _ h2 N2 ⟨rfl, f2, o2, l2⟩
    try refine gs_Sc ?_
    refine Rn.call (c_both call) ?_
    rintro _ h3 N3 ⟨rfl, f3, o3, l3⟩
    try refine gs_Sc ?_
    refine ih (n - 1) (by omega) _ _ _ _ _ _ _ ⟨i + 1, rfl, rfl, rfl, rfl, rfl, by omega, fr_Sc, by omega, sS_Sc, sR_Sc, sS_Sc⟩
  · have en : s.weeks.toNat - 1 = i := by omega
    try refine gs_Sc ?_
    refine Rn.loop5 (fun n p q u l k g M => ∃ j : Nat, p = .pointer (some ⟨N, 0, none⟩) ∧ q = .pointer (some ⟨N + 1, 0, none⟩) ∧ u = .pointer (some ⟨N + 2, 0, none⟩) ∧ l = iS (s.weeks - 1) ∧ k = nS j ∧ (j : Int) + n = s.weeks - 1 ∧ Fr h N g ∧ N + 3 ≤ M ∧ g.get N = some (.c [iS s.weeks, iS s.most, iS s.fall, iS s.slo, iS s.shi, iS s.wlo, iS s.whi, b, r] 106) ∧ g.get (N + 1) = some (.c (bdC (bwdN s.fall s.weeks.toNat j (fwdN s.fall i f))) 152) ∧ g.get (N + 2) = some (.c (bdC bz) 152)) (s.weeks - 1).toNat (by omega) ⟨0, rfl, rfl, rfl, rfl, rfl, by omega, fr_Sc, by omega, sS_Sc, sR_Sc, sR_Sc⟩ ?_
    rintro m g' ih' _ _ _ _ _ h2 N2 ⟨j, rfl, rfl, rfl, rfl, rfl, e2, f2, l2, k1, k2, k3⟩
    have hb := bwd_ok (n := s.weeks.toNat) p1 p2 (fwd_ok p1 p2 hf i) j
    have hb3 := hb (s.weeks.toNat - 2 - j)
    have hb4 := hb (s.weeks.toNat - 2 - j + 1)
    try refine gs_Sc ?_
    (first | with_reducible refine Rn.cnd (fun _ => ?_) (fun _ => ?_) | with_reducible refine Rn.cndN (fun _ => ?_) (fun _ => ?_) | with_reducible refine Rn.cndB (fun _ => ?_) (fun _ => ?_))
    · have t1 : (s.weeks - 1 - (j : Int) - 1).toNat = s.weeks.toNat - 2 - j := by omega
      have t2 : (s.weeks - 1 - (j : Int)).toNat = s.weeks.toNat - 2 - j + 1 := by omega
      try refine gs_Sc ?_
      refine Rn.call (c_span call) ?_
      rintro _ h5 N5 ⟨rfl, f5, o5, l5⟩
      try refine gs_Sc ?_
      refine Rn.call (c_both call) ?_
      rintro _ h3 N3 ⟨rfl, f3, o3, l3⟩
      try refine gs_Sc ?_
      refine ih' (m - 1) (by omega) _ _ _ _ _ _ _ ⟨j + 1, rfl, rfl, rfl, rfl, rfl, by omega, fr_Sc, by omega, sS_Sc, sR_Sc, sS_Sc⟩
    · obtain rfl : j = i := by omega
      try refine gs_Sc ?_
      exact Rn.ret ⟨by unfold narS; rw [en], (Gw.of fr_Sc (by omega))⟩
end
end Go.Proofs.Ytpilgokdbliklaa
end

section
namespace Go.Proofs.Ytpilgokdbliklaa
open Go.Ev Go.RowKit
set_option linter.unusedVariables false
set_option linter.unusedSimpArgs false
set_option linter.unusedSectionVars false
set_option maxRecDepth 100000
set_option maxHeartbeats 4000000
section
variable {s : Sp} {b r : Value}
theorem c_leaves (call : CallF) {rain : Int} {h N} (hs : OkS s) (hb : Sl h N b s.book) (hr : Sl h N r s.reads) : Rn (s99 call (.agg ⟨[iS s.weeks, iS s.most, iS s.fall, iS s.slo, iS s.shi, iS s.wlo, iS s.whi, b, r]⟩) (iS rain) h N) fun v h' N' => v = .agg ⟨bdC (leavesS s rain)⟩ ∧ Gw h N h' N' := by
  have ho := hs.ok
  have ho2 := ho
  have nb := hs.nb
  have nr := hs.nr
  obtain ⟨w1, w2, m1, m2, p1, p2, a1, a2, a3, v1, v2, v3⟩ := ho2
  have cb := hb.flat
  have cr := hr.flat
  unfold s99
  have x1 := flatV_one cb; have y1 := cel_flat cb; have x2 := flatV_one cr; have y2 := cel_flat cr
  try refine gs_Sc ?_
  refine Rn.loop6 (fun n a p q u l k g M => ∃ i : Nat, a = iS rain ∧ p = .pointer (some ⟨N, 0, none⟩) ∧ q = .pointer (some ⟨N + 1, 0, none⟩) ∧ u = .pointer (some ⟨N + 2, 0, none⟩) ∧ l = iS s.weeks ∧ k = nS i ∧ (i : Int) + n = s.weeks ∧ Fr h N g ∧ N + 3 ≤ M ∧ g.get N = some (.c [iS s.weeks, iS s.most, iS s.fall, iS s.slo, iS s.shi, iS s.wlo, iS s.whi, b, r] 106) ∧ g.get (N + 1) = some (.c (bdC bz) 152) ∧ g.get (N + 2) = some (.c (bdC (iniN s.most i)) 152)) s.weeks.toNat (by omega) ⟨0, rfl, rfl, rfl, rfl, rfl, rfl, by omega, fr_Sc, by omega, sS_Sc, sR_Sc, sR_Sc⟩ ?_
  rintro n g ih _ _ _ _ _ _ h1 N1 ⟨i, rfl, rfl, rfl, rfl, rfl, rfl, e1, f1, l1, g1, g2, g3⟩
  try refine gs_Sc ?_
  (first | with_reducible refine Rn.cnd (fun _ => ?_) (fun _ => ?_) | with_reducible refine Rn.cndN (fun _ => ?_) (fun _ => ?_) | with_reducible refine Rn.cndB (fun _ => ?_) (fun _ => ?_))
  · try refine gs_Sc ?_
    refine Rn.call (c_span call) ?_
    rintro _ h2 N2 ⟨rfl, f2, o2, l2⟩
    try refine gs_Sc ?_
    exact ih (n - 1) (by omega) _ _ _ _ _ _ _ _ ⟨i + 1, rfl, rfl, rfl, rfl, rfl, rfl, by omega, fr_Sc, by omega, sS_Sc, sS_Sc, sR_Sc⟩
  obtain rfl : i = s.weeks.toNat := by omega
  clear ih
  try refine gs_Sc ?_
  refine Rn.loop7 (fun n a p q u t l k g M => ∃ i : Nat, a = iS rain ∧ p = .pointer (some ⟨N, 0, none⟩) ∧ q = .pointer (some ⟨N + 1, 0, none⟩) ∧ u = .pointer (some ⟨N + 2, 0, none⟩) ∧ b = t ∧ l = nS s.book.length ∧ k = nS i ∧ i + n = s.book.length ∧ Fr h N g ∧ N + 3 ≤ M ∧ g.get N = some (.c [iS s.weeks, iS s.most, iS s.fall, iS s.slo, iS s.shi, iS s.wlo, iS s.whi, b, r] 106) ∧ g.get (N + 1) = some (.c (bdC bz) 152) ∧ g.get (N + 2) = some (.c (bdC ((s.book.take i).foldl (addL rain) (iniN s.most s.weeks.toNat))) 152)) s.book.length (by omega) ⟨0, rfl, rfl, rfl, rfl, rfl, rfl, rfl, by omega, fr_Sc, by omega, sS_Sc, sS_Sc, sR_Sc⟩ ?_
  rintro n g ih _ _ _ _ _ _ _ h1 N1 ⟨i, rfl, rfl, rfl, rfl, rfl, rfl, rfl, e1, f1, l1, g1, g2, g3⟩
  try refine gs_Sc ?_
  (first | with_reducible refine Rn.cnd (fun _ => ?_) (fun _ => ?_) | with_reducible refine Rn.cndN (fun _ => ?_) (fun _ => ?_) | with_reducible refine Rn.cndB (fun _ => ?_) (fun _ => ?_))
  · obtain ⟨x, hx⟩ := at_of (L := s.book) (k := i) (by omega)
    have ox := hs.book x (List.mem_of_getElem? hx)
    obtain ⟨r1, r2, r3, t1, t2, t3, t4, t5⟩ := ox
    have ef := fold_take (addL rain) hx (iniN s.most s.weeks.toNat)
    generalize (s.book.take i).foldl (addL rain) (iniN s.most s.weeks.toNat) = f at g3 ef
    try refine gs_Sc ?_
    refine Rn.call (c_within1 call (x := rain) (Sl.lit _ sM_Sc (by omega) rfl rfl)) ?_
    rintro _ h2 N2 ⟨rfl, f2, o2, l2⟩
    try refine gs_Sc ?_
    unfold jnR
    (first | with_reducible refine Rn.cnd (fun _ => ?_) (fun _ => ?_) | with_reducible refine Rn.cndN (fun _ => ?_) (fun _ => ?_) | with_reducible refine Rn.cndB (fun _ => ?_) (fun _ => ?_))
    · have e2 : addL rain f x = up f x.Week.toNat (max (f x.Week.toNat).1 x.Gives_Lo, min (f x.Week.toNat).2 x.Gives_Hi) := if_pos (by assumption)
      try refine gs_Sc ?_
      refine Rn.call (c_both call) ?_
      rintro _ h3 N3 ⟨rfl, f3, o3, l3⟩
      try refine gs_Sc ?_
      exact ih (n - 1) (by omega) _ _ _ _ _ _ _ _ _ ⟨i + 1, rfl, rfl, rfl, rfl, rfl, rfl, rfl, by omega, fr_Sc, by omega, sS_Sc, sS_Sc, by rw [ef, e2]; exact sR_Sc⟩
    · have e2 : addL rain f x = f := if_neg (by simp only [*]; simp)
      try refine gs_Sc ?_
      exact ih (n - 1) (by omega) _ _ _ _ _ _ _ _ _ ⟨i + 1, rfl, rfl, rfl, rfl, rfl, rfl, rfl, by omega, fr_Sc, by omega, sS_Sc, sS_Sc, by rw [ef, e2]; exact sR_Sc⟩
  obtain rfl : i = s.book.length := by omega
  rw [List.take_length] at g3
  clear ih
  generalize hf0 : s.book.foldl (addL rain) (iniN s.most s.weeks.toNat) = f0 at g3
  try refine gs_Sc ?_
  refine Rn.loop6 (fun n p q u t l k g M => ∃ i : Nat, p = .pointer (some ⟨N, 0, none⟩) ∧ q = .pointer (some ⟨N + 1, 0, none⟩) ∧ u = .pointer (some ⟨N + 2, 0, none⟩) ∧ r = t ∧ l = nS s.reads.length ∧ k = nS i ∧ i + n = s.reads.length ∧ Fr h N g ∧ N + 3 ≤ M ∧ g.get N = some (.c [iS s.weeks, iS s.most, iS s.fall, iS s.slo, iS s.shi, iS s.wlo, iS s.whi, b, r] 106) ∧ g.get (N + 1) = some (.c (bdC bz) 152) ∧ g.get (N + 2) = some (.c (bdC ((s.reads.take i).foldl (addR s) f0)) 152)) s.reads.length (by omega) ⟨0, rfl, rfl, rfl, rfl, rfl, rfl, by omega, fr_Sc, by omega, sS_Sc, sS_Sc, sR_Sc⟩ ?_
  rintro n g ih _ _ _ _ _ _ h1 N1 ⟨i, rfl, rfl, rfl, rfl, rfl, rfl, e1, f1, l1, g1, g2, g3⟩
  try refine gs_Sc ?_
  (first | with_reducible refine Rn.cnd (fun _ => ?_) (fun _ => ?_) | with_reducible refine Rn.cndN (fun _ => ?_) (fun _ => ?_) | with_reducible refine Rn.cndB (fun _ => ?_) (fun _ => ?_))
  · obtain ⟨x, hx⟩ := at_of (L := s.reads) (k := i) (by omega)
    have ox := hs.reads x (List.mem_of_getElem? hx)
    have ox2 := ox
    obtain ⟨r1, r2, t1, t2, r3, r4, r5, r6, r7, r8⟩ := ox2
    have ef := fold_take (addR s) hx f0
    generalize (s.reads.take i).foldl (addR s) f0 = f at g3 ef
    have e2 : addR s f x = up f x.Week.toNat (max (f x.Week.toNat).1 (toldB s x).1, min (f x.Week.toNat).2 (toldB s x).2) := rfl
    try refine gs_Sc ?_
    refine Rn.call (c_told call (x := x) ho ox cb cr) ?_
    rintro _ h2 N2 ⟨rfl, f2, o2, l2⟩
    try refine gs_Sc ?_
    refine Rn.call (c_both call) ?_
    rintro _ h3 N3 ⟨rfl, f3, o3, l3⟩
    try refine gs_Sc ?_
    exact ih (n - 1) (by omega) _ _ _ _ _ _ _ _ ⟨i + 1, rfl, rfl, rfl, rfl, rfl, rfl, by omega, fr_Sc, by omega, sS_Sc, sS_Sc, by rw [ef, e2]; exact sR_Sc⟩
  obtain rfl : i = s.reads.length := by omega
  rw [List.take_length] at g3
  have hp := pre_ok' hs rain s.reads.length
  rw [List.take_length, hf0] at hp
  try refine gs_Sc ?_
  refine Rn.call (c_narrow call ho hp cb cr) ?_
  rintro _ h2 N2 ⟨rfl, f2, o2, l2⟩
  try refine gs_Sc ?_
  exact Rn.ret ⟨by unfold leavesS preS; rw [hf0], (Gw.of fr_Sc (by omega))⟩
end
end Go.Proofs.Ytpilgokdbliklaa
end

section
namespace Go.Proofs.Ytpilgokdbliklaa
open Go.Ev Go.RowKit
set_option linter.unusedVariables false
set_option linter.unusedSimpArgs false
set_option linter.unusedSectionVars false
set_option maxRecDepth 100000
set_option maxHeartbeats 4000000
open Classical in
noncomputable def rdS : Nat → Code → Code → Option Ev.Rs := fun nt asg body =>
  if nt = 7 ∧ asg = rgA Pr 77 0 ∧ body = rgB Pr 77 0 then some r77_0
  else if nt = 22 ∧ asg = rgA Pr 62 0 ∧ body = rgB Pr 62 0 then some r62_0
  else if nt = 27 ∧ asg = rgA Pr 32 0 ∧ body = rgB Pr 32 0 then some r32_0
  else if nt = 45 ∧ asg = rgA Pr 93 0 ∧ body = rgB Pr 93 0 then some r93_0
  else if nt = 19 ∧ asg = rgA Pr 96 0 ∧ body = rgB Pr 96 0 then some r96_0
  else none
theorem rdS_ok : RdOk Pr rdS := by
  intro nt asg body F h
  unfold rdS at h
  split at h
  · rename_i e; obtain ⟨rfl, rfl, rfl⟩ := e; cases h; exact q77_0
  split at h
  · rename_i e; obtain ⟨rfl, rfl, rfl⟩ := e; cases h; exact q62_0
  split at h
  · rename_i e; obtain ⟨rfl, rfl, rfl⟩ := e; cases h; exact q32_0
  split at h
  · rename_i e; obtain ⟨rfl, rfl, rfl⟩ := e; cases h; exact q93_0
  split at h
  · rename_i e; obtain ⟨rfl, rfl, rfl⟩ := e; cases h; exact q96_0
  cases h
theorem rd_can : rdS 7 (rgA Pr 77 0) (rgB Pr 77 0) = some r77_0 := if_pos ⟨rfl, rfl, rfl⟩
theorem rd_gives : rdS 22 (rgA Pr 62 0) (rgB Pr 62 0) = some r62_0 := by
  unfold rdS; rw [if_neg (fun h => absurd h.1 (by decide)), if_pos ⟨rfl, rfl, rfl⟩]
theorem rd_truths : rdS 45 (rgA Pr 93 0) (rgB Pr 93 0) = some r93_0 := by
  unfold rdS; rw [if_neg (fun h => absurd h.1 (by decide)), if_neg (fun h => absurd h.1 (by decide)), if_neg (fun h => absurd h.1 (by decide)), if_pos ⟨rfl, rfl, rfl⟩]
theorem rd_allBounds : rdS 19 (rgA Pr 96 0) (rgB Pr 96 0) = some r96_0 := by
  unfold rdS; rw [if_neg (fun h => absurd h.1 (by decide)), if_neg (fun h => absurd h.1 (by decide)), if_neg (fun h => absurd h.1 (by decide)), if_neg (fun h => absurd h.1 (by decide)), if_pos ⟨rfl, rfl, rfl⟩]
noncomputable def dynT : Ev.St := [(54, F54), (57, F57), (59, F59), (60, F60), (62, F62), (70, F70), (87, F87), (98, F98), (106, F106), (109, F109), (110, F110), (112, F112), (114, F114), (116, F116), (118, F118)]
theorem dynT_ok : StOk Pr dynT := (StOk.cons o54 (StOk.cons o57 (StOk.cons o59 (StOk.cons o60 (StOk.cons o62 (StOk.cons o70 (StOk.cons o87 (StOk.cons o98 (StOk.cons o106 (StOk.cons o109 (StOk.cons o110 (StOk.cons o112 (StOk.cons o114 (StOk.cons o116 (StOk.cons o118 StOk.nil)))))))))))))))
noncomputable def cN (d : Nat) : CallF := cAll Pr (lookS dynT) rdS d
theorem cN_ok (d : Nat) : CallOk Pr (cN d) := cAll_ok hmix (fun f F h => dynT_ok _ (lookS_ok h)) rdS_ok d

theorem rains_at {s : Sp} {i : Nat} (hi : i < rainN s) (hok : okN s (leavesS s (s.wlo + (i : Int))) = true) : (rainsS s)[(rainsN s i).length]? = some (s.wlo + (i : Int)) ∧ (rainsN s (i + 1)).length = (rainsN s i).length + 1 := by
  have h1 := rainsN_succ s i
  rw [if_pos hok] at h1
  obtain ⟨t, ht⟩ := rainsN_pre s (k := i + 1) (n := rainN s) (by omega)
  rw [h1] at ht
  refine ⟨?_, by rw [h1]; simp⟩
  show (rainsN s (rainN s))[_]? = _
  rw [← ht, List.append_assoc, List.getElem?_append_right (by omega)]
  simp
theorem rains_not {s : Sp} {i : Nat} (hok : okN s (leavesS s (s.wlo + (i : Int))) = false) : rainsN s (i + 1) = rainsN s i := by
  rw [rainsN_succ, hok]; rfl
section
variable {s : Sp} {b r : Value}
/-- The rains, yielded one by one. -/
theorem c_rains1 (d : Nat) {y : Value} {c : Nat} {h : Tr Ob} {N : Nat} (hs : OkS s) (I : Nat → Tr Ob → Nat → Prop) (Z : Tr Ob → Nat → Prop)
    (hI : ∀ k g M, I k g M → Sl g M b s.book ∧ Sl g M r s.reads ∧ g.get c = some (.c [iS s.weeks, iS s.most, iS s.fall, iS s.slo, iS s.shi, iS s.wlo, iS s.whi, b, r] 106)) (hc : c < N)
    (keep : ∀ k g M g' M', I k g M → Fr g M g' → M ≤ M' → I k g' M')
    (round : ∀ k x, (rainsS s)[k]? = some x → ∀ g M, I k g M → N ≤ M → Rn (callW [(99, F99)] (cN d) y [iS x, .agg ⟨bdC (leavesS s x)⟩] g M) fun v g' M' => M ≤ M' ∧ ((v = .bool true ∧ I (k + 1) g' M') ∨ (v = .bool false ∧ Z g' M')))
    (h0 : I 0 h N) : Rn (s98 (cN d) y (.pointer (some ⟨c, 0, none⟩)) h N) fun _ h' N' => N ≤ N' ∧ (I (rainsS s).length h' N' ∨ Z h' N') := by
  have ho := hs.ok
  obtain ⟨w1, w2, m1, m2, p1, p2, a1, a2, a3, v1, v2, v3⟩ := ho
  unfold s98
  obtain ⟨hb, hr, hg⟩ := hI _ _ _ h0
  have cb := hb.flat
  have cr := hr.flat
  have x1 := flatV_one cb; have y1 := cel_flat cb; have x2 := flatV_one cr; have y2 := cel_flat cr
  try refine gs_Sc ?_
  refine Rn.loop3 (fun n u p x g M => ∃ i : Nat, y = u ∧ p = .pointer (some ⟨c, 0, none⟩) ∧ x = iS (s.wlo + (i : Int)) ∧ i + n = rainN s ∧ N ≤ M ∧ I (rainsN s i).length g M) (rainN s) (by unfold rainN; omega) ⟨0, rfl, rfl, by simp, by omega, by omega, h0⟩ ?_
  rintro n g ih _ _ _ h1 N1 ⟨i, rfl, rfl, rfl, e1, l1, q1⟩
  obtain ⟨hb, hr, hg⟩ := hI _ _ _ q1
  have en : rainN s = (s.whi + 1 - s.wlo).toNat := rfl
  try refine gs_Sc ?_
  (first | with_reducible refine Rn.cnd (fun _ => ?_) (fun _ => ?_) | with_reducible refine Rn.cndN (fun _ => ?_) (fun _ => ?_) | with_reducible refine Rn.cndB (fun _ => ?_) (fun _ => ?_))
  · unfold jnR
    try refine gs_Sc ?_
    refine Rn.call (c_leaves _ (rain := s.wlo + (i : Int)) hs hb hr) ?_
    rintro _ h2 N2 ⟨rfl, f2, o2, l2⟩
    have q2 := keep _ _ _ h2 N2 q1 fr_Sc l2
    obtain ⟨hb2, hr2, hg2⟩ := hI _ _ _ q2
    have hbd := leaves_ok hs (s.wlo + (i : Int))
    generalize hf : leavesS s (s.wlo + (i : Int)) = f at hbd
    try refine gs_Sc ?_
    refine Rn.loop6 (fun m u p x t l k g M => ∃ j : Nat, y = u ∧ p = .pointer (some ⟨c, 0, none⟩) ∧ x = iS (s.wlo + (i : Int)) ∧ t = .pointer (some ⟨N2, 0, none⟩) ∧ l = iS s.weeks ∧ k = nS j ∧ (j : Int) + m = s.weeks ∧ N2 + 1 ≤ M ∧ I (rainsN s i).length g M ∧ g.get N2 = some (.c (bdC f) 152) ∧ ∀ q, q < j → (f q).1 ≤ (f q).2) s.weeks.toNat (by omega) ⟨0, rfl, rfl, rfl, rfl, rfl, rfl, by omega, by omega, keep _ _ _ _ _ q2 fr_Sc (by omega), sS_Sc, fun q hq => by omega⟩ ?_
    rintro m g' ih' _ _ _ _ _ _ h3 N3 ⟨j, rfl, rfl, rfl, rfl, rfl, rfl, e3, l3, q3, g3, k3⟩
    obtain ⟨hb3, hr3, hg3⟩ := hI _ _ _ q3
    try refine gs_Sc ?_
    (first | with_reducible refine Rn.cnd (fun _ => ?_) (fun _ => ?_) | with_reducible refine Rn.cndN (fun _ => ?_) (fun _ => ?_) | with_reducible refine Rn.cndB (fun _ => ?_) (fun _ => ?_))
    · try refine gs_Sc ?_
      (first | with_reducible refine Rn.cnd (fun _ => ?_) (fun _ => ?_) | with_reducible refine Rn.cndN (fun _ => ?_) (fun _ => ?_) | with_reducible refine Rn.cndB (fun _ => ?_) (fun _ => ?_))
      · have hno : okN s f = false := okN_not (k := j) (by omega) (by omega)
        rw [← hf] at hno
        try refine gs_Sc ?_
        exact ih (n - 1) (by omega) _ _ _ _ _ ⟨i + 1, rfl, rfl, by rw [show s.wlo + ((i + 1 : Nat) : Int) = s.wlo + (i : Int) + 1 by omega], by omega, by omega, by rw [rains_not hno]; exact q3⟩
      · try refine gs_Sc ?_
        exact ih' (m - 1) (by omega) _ _ _ _ _ _ _ _ ⟨j + 1, rfl, rfl, rfl, rfl, rfl, rfl, by omega, by omega, q3, g3, fun q hq => by
          rcases Nat.lt_or_ge q j with h | h
          · exact k3 q h
          · obtain rfl : q = j := by omega
            omega⟩
    · have hok : okN s f = true := okN_of rfl (fun q hq => k3 q (by omega))
      obtain ⟨r1, r2⟩ := rains_at (s := s) (i := i) (by omega) (by rw [hf]; exact hok)
      have rr := round _ _ r1 h3 N3 q3 (by omega)
      rw [hf] at rr
      try refine gs_Sc ?_
      refine Rn.call rr ?_
      rintro v h4 N4 ⟨l4, ⟨rfl, q4⟩ | ⟨rfl, q4⟩⟩
      · try refine gs_Sc ?_
        exact ih (n - 1) (by omega) _ _ _ _ _ ⟨i + 1, rfl, rfl, by rw [show s.wlo + ((i + 1 : Nat) : Int) = s.wlo + (i : Int) + 1 by omega], by omega, by omega, by rw [r2]; exact q4⟩
      · try refine gs_Sc ?_
        exact Rn.ret ⟨by omega, .inr q4⟩
  · obtain rfl : i = rainN s := by omega
    try refine gs_Sc ?_
    exact Rn.ret ⟨by omega, .inl q1⟩
end
end Go.Proofs.Ytpilgokdbliklaa
end

section
namespace Go.Proofs.Ytpilgokdbliklaa
open Go.Ev Go.RowKit
set_option linter.unusedVariables false
set_option linter.unusedSimpArgs false
set_option linter.unusedSectionVars false
set_option maxRecDepth 100000
set_option maxHeartbeats 4000000
theorem dyn_rains (d : Nat) (st : Ev.St) (hst : lookS st 98 = none) (y p : Value) (h : Tr Ob) (N : Nat) : callW st (cN (d + 1)) (.func (.func 98) ⟨[]⟩ ⟨[p]⟩) [y] h N = s98 (cN d) y p h N := by
  show (Option.rec (motive := fun _ => OpR) (cN (d + 1) (.func (.func 98) ⟨[]⟩ ⟨[p]⟩) [y] h N) (fun F => F (cN (d + 1)) (app [] (app [y] [p])) h N) (lookS st 98)) = _
  rw [hst]; rfl
section
variable {s : Sp} {b r : Value}
theorem c_can (d : Nat) {h N} (hs : OkS s) (hb : Sl h N b s.book) (hr : Sl h N r s.reads) : Rn (s77 (cN (d + 2)) (.agg ⟨[iS s.weeks, iS s.most, iS s.fall, iS s.slo, iS s.shi, iS s.wlo, iS s.whi, b, r]⟩) h N) fun v h' N' => v = .bool (canS s) ∧ Gw h N h' N' := by
  have cb := hb.flat
  have cr := hr.flat
  unfold s77 s78
  have x1 := flatV_one cb; have y1 := cel_flat cb; have x2 := flatV_one cr; have y2 := cel_flat cr
  try refine gs_Sc ?_
  unfold jnR
  refine Rn.cond rfl ?_
  try refine gs_Sc ?_
  rw [dyn_rains _ _ rfl]
  refine Rn.call (c_rains1 (s := s) (b := b) (r := r) (d + 1) hs
    (fun k g M => k = 0 ∧ Fr h N g ∧ N + 5 ≤ M ∧ g.get (N + 1) = some (.c [.bool false] 4) ∧ g.get (N + 2) = some (.c [iS s.weeks, iS s.most, iS s.fall, iS s.slo, iS s.shi, iS s.wlo, iS s.whi, b, r] 106) ∧ g.get (N + 3) = some .d ∧ ∃ e, Tr.get e 2 = some (.pointer (some ⟨N + 1, 0, none⟩)) ∧ g.get (N + 4) = some (.l .ready .n 7 e [5, 6] (rgA Pr 77 0) (rgB Pr 77 0) (N + 3)))
    (fun g M => rainsS s ≠ [] ∧ Fr h N g ∧ N + 5 ≤ M ∧ g.get (N + 1) = some (.c [.bool true] 4) ∧ g.get (N + 3) = some .d ∧ ∃ e, g.get (N + 4) = some (.l .done .r 7 e [5, 6] (rgA Pr 77 0) (rgB Pr 77 0) (N + 3)))
    ?_ (by omega) ?_ ?_ ?_) ?_
  · rintro k g M ⟨k0, f1, l1, g1, g2, g3, e, g4, g5⟩
    exact ⟨hb.up f1 (by omega), hr.up f1 (by omega), g2⟩
  · rintro k g M g' M' ⟨k0, f1, l1, g1, g2, g3, e, g4, g5⟩ f2 l2
    exact ⟨k0, f1.trans f2 (by omega), by omega, by rw [f2 _ (by omega), g1], by rw [f2 _ (by omega), g2], by rw [f2 _ (by omega), g3], e, g4, by rw [f2 _ (by omega), g5]⟩
  · rintro k x hx g M ⟨rfl, f1, l1, g1, g2, g3, e, g4, g5⟩ l2
    rw [show cN (d + 1) = cAll Pr (lookS dynT) rdS (d + 1) from rfl, yld g5 rd_can rfl rfl]
    unfold r77_0
    simp only [putAll_c, putAll_n]
    try refine gs_Sc ?_
    refine Rn.ret ⟨by omega, .inr ⟨rfl, ?_, fr_Sc, by omega, sS_Sc, sS_Sc, e, sR_Sc⟩⟩
    intro h0; rw [h0] at hx; simp at hx
  · exact ⟨rfl, fr_Sc, by omega, sS_Sc, sS_Sc, sS_Sc, Tr.set (.e 32) (some (.pointer (some ⟨N + 1, 0, none⟩))) 2, sR_Sc, sR_Sc⟩
  · rintro v g M ⟨l1, ⟨k0, f1, l2, g1, g2, g3, e, g4, g5⟩ | ⟨k0, f1, l2, g1, g3, e, g5⟩⟩
    · refine Rn.eq (rEnd_n g5) ?_
      try refine gs_Sc ?_
      refine Rn.ret ⟨?_, (Gw.of fr_Sc (by omega))⟩
      have : rainsS s = [] := List.length_eq_zero_iff.1 k0
      unfold canS; rw [this]; rfl
    · refine Rn.eq (rEnd_r g5) ?_
      try refine gs_Sc ?_
      refine Rn.ret ⟨?_, (Gw.of fr_Sc (by omega))⟩
      unfold canS
      cases hR : rainsS s with
      | nil => exact absurd hR k0
      | cons a l => rfl
end
end Go.Proofs.Ytpilgokdbliklaa
end

section
namespace Go.Proofs.Ytpilgokdbliklaa
open Go.Ev Go.RowKit
set_option linter.unusedVariables false
set_option linter.unusedSimpArgs false
set_option linter.unusedSectionVars false
set_option maxRecDepth 100000
set_option maxHeartbeats 4000000
theorem gvL_at (s : Sp) (w k : Nat) {x : Int} (v : Int × Int) (hx : (rainsS s)[k]? = some x) : gvL s w ((rainsS s).take (k + 1)) v = arS (gvL s w ((rainsS s).take k) v) (leavesS s x w) := by
  rw [List.take_add_one, hx]
  simp [gvL]
section
variable {s : Sp} {b r : Value}
theorem c_gives (d : Nat) {w : Int} {h N} (hs : OkS s) (hw : 0 ≤ w ∧ w ≤ s.weeks - 1) (hb : Sl h N b s.book) (hr : Sl h N r s.reads) : Rn (s62 (cN (d + 2)) (.agg ⟨[iS s.weeks, iS s.most, iS s.fall, iS s.slo, iS s.shi, iS s.wlo, iS s.whi, b, r]⟩) (iS w) h N) fun v h' N' => v = .agg ⟨[iS (gvS s w.toNat).1, iS (gvS s w.toNat).2]⟩ ∧ Gw h N h' N' := by
  have cb := hb.flat
  have cr := hr.flat
  have w2 := hs.ok.w2
  unfold s62 s78
  have x1 := flatV_one cb; have y1 := cel_flat cb; have x2 := flatV_one cr; have y2 := cel_flat cr
  try refine gs_Sc ?_
  refine Rn.call (c_span _) ?_
  rintro _ h1 N1 ⟨rfl, f1, o1, l1⟩
  try refine gs_Sc ?_
  unfold jnR
  refine Rn.cond rfl ?_
  try refine gs_Sc ?_
  rw [dyn_rains _ _ rfl]
  refine Rn.call (c_rains1 (s := s) (b := b) (r := r) (d + 1) hs
    (fun k g M => Fr h N g ∧ N1 + 4 ≤ M ∧ g.get (N + 1) = some (.c [iS w] 3) ∧ g.get (N + 2) = some (.c [iS 0, iS 0] 23) ∧ g.get N1 = some (.c [iS (gvL s w.toNat ((rainsS s).take k) (s.most, 0)).1, iS (gvL s w.toNat ((rainsS s).take k) (s.most, 0)).2] 23) ∧ g.get (N1 + 1) = some (.c [iS s.weeks, iS s.most, iS s.fall, iS s.slo, iS s.shi, iS s.wlo, iS s.whi, b, r] 106) ∧ g.get (N1 + 2) = some .d ∧ g.get (N1 + 3) = some (.l .ready .n 22 (Tr.set (Tr.set (.e 32) (some (.pointer (some ⟨N1, 0, none⟩))) 5) (some (.pointer (some ⟨N + 1, 0, none⟩))) 3) [14, 15] (rgA Pr 62 0) (rgB Pr 62 0) (N1 + 2)))
    (fun g M => False)
    ?_ (by omega) ?_ ?_ ?_) ?_
  · rintro k g M ⟨f2, l2, g1, g2, g3, g4, g5, g6⟩
    exact ⟨hb.up f2 (by omega), hr.up f2 (by omega), g4⟩
  · rintro k g M g' M' ⟨f2, l2, g1, g2, g3, g4, g5, g6⟩ f3 l3
    exact ⟨f2.trans f3 (by omega), by omega, by rw [f3 _ (by omega), g1], by rw [f3 _ (by omega), g2], by rw [f3 _ (by omega), g3], by rw [f3 _ (by omega), g4], by rw [f3 _ (by omega), g5], by rw [f3 _ (by omega), g6]⟩
  · rintro k x hx g M ⟨f2, l2, g1, g2, g3, g4, g5, g6⟩ l3
    have e1 := gvL_at s w.toNat k (s.most, 0) hx
    generalize gvL s w.toNat ((rainsS s).take k) (s.most, 0) = v at g3 e1
    generalize leavesS s x = f at e1
    rw [show cN (d + 1) = cAll Pr (lookS dynT) rdS (d + 1) from rfl, yld g6 rd_gives rfl rfl]
    unfold r62_0
    simp only [putAll_c, putAll_n]
    try refine gs_Sc ?_
    refine Rn.call (c_around _) ?_
    rintro _ h4 N4 ⟨rfl, f4, o4, l4⟩
    try refine gs_Sc ?_
    refine Rn.ret ⟨by omega, .inl ⟨rfl, fr_Sc, by omega, sS_Sc, sS_Sc, by rw [e1]; exact sR_Sc, sS_Sc, sS_Sc, sR_Sc⟩⟩
  · exact ⟨fr_Sc, by omega, sS_Sc, sS_Sc, sR_Sc, sS_Sc, sS_Sc, sR_Sc⟩
  · rintro v g M ⟨l2, ⟨f2, l3, g1, g2, g3, g4, g5, g6⟩ | h0⟩
    · refine Rn.eq (rEnd_n g6) ?_
      rw [List.take_length] at g3
      try refine gs_Sc ?_
      exact Rn.ret ⟨rfl, (Gw.of fr_Sc (by omega))⟩
    · exact h0.elim
end
end Go.Proofs.Ytpilgokdbliklaa
end

section
namespace Go.Proofs.Ytpilgokdbliklaa
open Go.Ev Go.RowKit
set_option linter.unusedVariables false
set_option linter.unusedSimpArgs false
set_option linter.unusedSectionVars false
set_option maxRecDepth 100000
set_option maxHeartbeats 4000000
structure Ask where
  week : Int
  bucket : Int
  x : Rd
def askB (s : Sp) (q : Ask) : Nat → Bool
  | 0 => validB s
  | 1 => isWeekB s.weeks q.week
  | 2 => inS 1 40 q.bucket
  | 3 => readB s.weeks q.x
  | 4 => canS s
  | _ => false
def askN (s : Sp) (q : Ask) : List Int → Int
  | [] => 0
  | m :: ms => if askB s q m.toNat then askN s q ms else errN m.toNat
def beginS (s : Sp) (q : Ask) (more : List Int) : Int := if validB s then askN s q more else 10
theorem err_pos : ∀ k, errN k ≠ 0
  | 0 => by decide
  | 1 => by decide
  | 2 => by decide
  | 3 => by decide
  | k + 4 => by show (8 : Int) ≠ 0; decide
section
variable {s : Sp} {b r : Value} {q : Ask}
theorem c_ask0 (call : CallF) {h N} (nb : s.book.length < 1000) (nr : s.reads.length < 1000) (hb : Sl h N b s.book) (hr : Sl h N r s.reads) : Rn (s110 call (.agg ⟨[iS s.weeks, iS s.most, iS s.fall, iS s.slo, iS s.shi, iS s.wlo, iS s.whi, b, r]⟩) (.agg ⟨[iS q.week, iS q.bucket, iS q.x.Number, iS q.x.Week, iS q.x.Bucket, iS q.x.Songs_Lo, iS q.x.Songs_Hi]⟩) h N) fun v h' N' => v = .bool (validB s) ∧ Gw h N h' N' := by
  unfold s110
  have cb := hb.flat
  have cr := hr.flat
  have x1 := flatV_one cb; have y1 := cel_flat cb; have x2 := flatV_one cr; have y2 := cel_flat cr
  try refine gs_Sc ?_
  refine Rn.call (c_valid _ nb nr (Sl.up (by assumption) fr_Sc (by omega)) (Sl.up (by assumption) fr_Sc (by omega))) ?_
  rintro _ h2 N2 ⟨rfl, f2, o2, l2⟩
  try refine gs_Sc ?_
  exact Rn.ret ⟨rfl, (Gw.of fr_Sc (by omega))⟩
theorem c_ask1 (call : CallF) {h N} (hs : OkS s) (cb : flatV b = true) (cr : flatV r = true) : Rn (s112 call (.agg ⟨[iS s.weeks, iS s.most, iS s.fall, iS s.slo, iS s.shi, iS s.wlo, iS s.whi, b, r]⟩) (.agg ⟨[iS q.week, iS q.bucket, iS q.x.Number, iS q.x.Week, iS q.x.Bucket, iS q.x.Songs_Lo, iS q.x.Songs_Hi]⟩) h N) fun v h' N' => v = .bool (isWeekB s.weeks q.week) ∧ Gw h N h' N' := by
  have w1 := hs.ok.w1
  have w2 := hs.ok.w2
  unfold s112
  have x1 := flatV_one cb; have y1 := cel_flat cb; have x2 := flatV_one cr; have y2 := cel_flat cr
  try refine gs_Sc ?_
  refine Rn.call (c_isWeek _ (by omega) cb cr) ?_
  rintro _ h2 N2 ⟨rfl, f2, o2, l2⟩
  try refine gs_Sc ?_
  exact Rn.ret ⟨rfl, (Gw.of fr_Sc (by omega))⟩
theorem c_ask2 (call : CallF) {h N} (cb : flatV b = true) (cr : flatV r = true) : Rn (s114 call (.agg ⟨[iS s.weeks, iS s.most, iS s.fall, iS s.slo, iS s.shi, iS s.wlo, iS s.whi, b, r]⟩) (.agg ⟨[iS q.week, iS q.bucket, iS q.x.Number, iS q.x.Week, iS q.x.Bucket, iS q.x.Songs_Lo, iS q.x.Songs_Hi]⟩) h N) fun v h' N' => v = .bool (inS 1 40 q.bucket) ∧ Gw h N h' N' := by
  unfold s114
  have x1 := flatV_one cb; have y1 := cel_flat cb; have x2 := flatV_one cr; have y2 := cel_flat cr
  try refine gs_Sc ?_
  refine Rn.call (c_span _) ?_
  rintro _ h1 N1 ⟨rfl, f1, o1, l1⟩
  try refine gs_Sc ?_
  refine Rn.call (c_within1 _ (x := q.bucket) (Sl.lit _ sM_Sc (by omega) rfl rfl)) ?_
  rintro _ h2 N2 ⟨rfl, f2, o2, l2⟩
  try refine gs_Sc ?_
  exact Rn.ret ⟨rfl, (Gw.of fr_Sc (by omega))⟩
theorem c_ask3 (call : CallF) {h N} (hs : OkS s) (cb : flatV b = true) (cr : flatV r = true) : Rn (s116 call (.agg ⟨[iS s.weeks, iS s.most, iS s.fall, iS s.slo, iS s.shi, iS s.wlo, iS s.whi, b, r]⟩) (.agg ⟨[iS q.week, iS q.bucket, iS q.x.Number, iS q.x.Week, iS q.x.Bucket, iS q.x.Songs_Lo, iS q.x.Songs_Hi]⟩) h N) fun v h' N' => v = .bool (readB s.weeks q.x) ∧ Gw h N h' N' := by
  have w1 := hs.ok.w1
  have w2 := hs.ok.w2
  unfold s116
  have x1 := flatV_one cb; have y1 := cel_flat cb; have x2 := flatV_one cr; have y2 := cel_flat cr
  try refine gs_Sc ?_
  refine Rn.call (c_validReading _ (x := q.x) (by omega) cb cr) ?_
  rintro _ h2 N2 ⟨rfl, f2, o2, l2⟩
  try refine gs_Sc ?_
  exact Rn.ret ⟨rfl, (Gw.of fr_Sc (by omega))⟩
theorem c_ask4 (d : Nat) {h N} (hs : OkS s) (hb : Sl h N b s.book) (hr : Sl h N r s.reads) : Rn (s118 (cN (d + 2)) (.agg ⟨[iS s.weeks, iS s.most, iS s.fall, iS s.slo, iS s.shi, iS s.wlo, iS s.whi, b, r]⟩) (.agg ⟨[iS q.week, iS q.bucket, iS q.x.Number, iS q.x.Week, iS q.x.Bucket, iS q.x.Songs_Lo, iS q.x.Songs_Hi]⟩) h N) fun v h' N' => v = .bool (canS s) ∧ Gw h N h' N' := by
  unfold s118
  have cb := hb.flat
  have cr := hr.flat
  have x1 := flatV_one cb; have y1 := cel_flat cb; have x2 := flatV_one cr; have y2 := cel_flat cr
  try refine gs_Sc ?_
  refine Rn.call (c_can d hs (Sl.up (by assumption) fr_Sc (by omega)) (Sl.up (by assumption) fr_Sc (by omega))) ?_
  rintro _ h2 N2 ⟨rfl, f2, o2, l2⟩
  try refine gs_Sc ?_
  exact Rn.ret ⟨rfl, (Gw.of fr_Sc (by omega))⟩
theorem c_ask (d : Nat) {h N} (hs : OkS s) (hb : Sl h N b s.book) (hr : Sl h N r s.reads) : ∀ k, k < 5 → Rn (callW [(94, F94)] (cN (d + 3)) (.func (.func (fnum k)) ⟨[]⟩ ⟨[]⟩) [.agg ⟨[iS s.weeks, iS s.most, iS s.fall, iS s.slo, iS s.shi, iS s.wlo, iS s.whi, b, r]⟩, .agg ⟨[iS q.week, iS q.bucket, iS q.x.Number, iS q.x.Week, iS q.x.Bucket, iS q.x.Songs_Lo, iS q.x.Songs_Hi]⟩] h N) fun v h' N' => v = .bool (askB s q k) ∧ Gw h N h' N' := by
  have nb := hs.nb
  have nr := hs.nr
  have cb := hb.flat
  have cr := hr.flat
  refine five ?_ ?_ ?_ ?_ ?_
  · exact c_ask0 (cN (d + 2)) (by omega) (by omega) hb hr
  · exact c_ask1 (cN (d + 2)) hs cb cr
  · exact c_ask2 (cN (d + 2)) cb cr
  · exact c_ask3 (cN (d + 2)) hs cb cr
  · exact c_ask4 d hs hb hr
theorem c_begin (d : Nat) {h N} {more : Value} {L : List Int} (nb : s.book.length < 1000) (nr : s.reads.length < 1000) (hb : Sl h N b s.book) (hr : Sl h N r s.reads) (hl : L.length < 1000) (hm : Sl h N more L) (hL : ∀ m ∈ L, 1 ≤ m ∧ m ≤ 4) :
    Rn (s61 (cN (d + 3)) (.agg ⟨[iS s.weeks, iS s.most, iS s.fall, iS s.slo, iS s.shi, iS s.wlo, iS s.whi, b, r]⟩) (.agg ⟨[iS q.week, iS q.bucket, iS q.x.Number, iS q.x.Week, iS q.x.Bucket, iS q.x.Songs_Lo, iS q.x.Songs_Hi]⟩) more h N) fun v h' N' => (beginS s q L = 0 ∧ validB s = true ∧ v = .tuple ⟨[.agg ⟨[iS s.weeks, iS s.most, iS s.fall, iS s.slo, iS s.shi, iS s.wlo, iS s.whi, b, r]⟩, iS 0]⟩ ∨ beginS s q L ≠ 0 ∧ v = .tuple ⟨[.agg ⟨[iS 0, iS 0, iS 0, iS 0, iS 0, iS 0, iS 0, .slice none 0 0, .slice none 0 0]⟩, iS (beginS s q L)]⟩) ∧ Gw h N h' N' := by
  unfold s61 s94
  have cb := hb.flat
  have cr := hr.flat
  have x1 := flatV_one cb; have y1 := cel_flat cb; have x2 := flatV_one cr; have y2 := cel_flat cr
  try refine gs_Sc ?_
  refine Rn.call (show Rn (callW [(94, F94)] (cN (d + 3)) (.func (.func 110) ⟨[]⟩ ⟨[]⟩) [.agg ⟨[iS s.weeks, iS s.most, iS s.fall, iS s.slo, iS s.shi, iS s.wlo, iS s.whi, b, r]⟩, .agg ⟨[iS q.week, iS q.bucket, iS q.x.Number, iS q.x.Week, iS q.x.Bucket, iS q.x.Songs_Lo, iS q.x.Songs_Hi]⟩] _ _) _ from c_ask0 (cN (d + 2)) nb nr (Sl.up (by assumption) fr_Sc (by omega)) (Sl.up (by assumption) fr_Sc (by omega))) ?_
  rintro _ h1 N1 ⟨rfl, f1, o1, l1⟩
  try refine gs_Sc ?_
  (first | with_reducible refine Rn.cnd (fun _ => ?_) (fun _ => ?_) | with_reducible refine Rn.cndN (fun _ => ?_) (fun _ => ?_) | with_reducible refine Rn.cndB (fun _ => ?_) (fun _ => ?_))
  · try refine gs_Sc ?_
    have e : beginS s q L = 10 := by unfold beginS; simp only [*]; rfl
    exact Rn.ret ⟨.inr ⟨by rw [e]; decide, by rw [e]⟩, (Gw.of fr_Sc (by omega))⟩
  have hv : validB s = true := by assumption
  have hs := ok_of_valid hv
  have e0 : beginS s q L = askN s q L := if_pos hv
  rw [e0]
  try refine gs_Sc ?_
  refine Rn.loop7 (fun n p1 p2 p3 p4 u l k g M => ∃ i : Nat, p1 = .pointer (some ⟨N + 1, 0, none⟩) ∧ p2 = .pointer (some ⟨N + 2, 0, none⟩) ∧ p3 = .pointer (some ⟨N + 3, 0, none⟩) ∧ p4 = .pointer (some ⟨N + 5, 0, none⟩) ∧ more = u ∧ l = nS L.length ∧ k = nS i ∧ i + n = L.length ∧ Fr h N g ∧ N + 7 ≤ M ∧ g.get (N + 1) = some (.c [iS q.week, iS q.bucket, iS q.x.Number, iS q.x.Week, iS q.x.Bucket, iS q.x.Songs_Lo, iS q.x.Songs_Hi] 110) ∧ g.get (N + 2) = some (.c [iS 0, iS 0, iS 0, iS 0, iS 0, iS 0, iS 0, .slice none 0 0, .slice none 0 0] 106) ∧ g.get (N + 3) = some (.c [iS s.weeks, iS s.most, iS s.fall, iS s.slo, iS s.shi, iS s.wlo, iS s.whi, b, r] 106) ∧ g.get (N + 5) = some (.c qC 149) ∧ askN s q (L.drop i) = askN s q L) L.length (by omega) ⟨0, rfl, rfl, rfl, rfl, rfl, rfl, rfl, by omega, fr_Sc, by omega, sS_Sc, sS_Sc, sS_Sc, sR_Sc, rfl⟩ ?_
  rintro n g ih _ _ _ _ _ _ _ h2 N2 ⟨i, rfl, rfl, rfl, rfl, rfl, rfl, rfl, e2, f2, l2, g1, g2, g3, g4, q1⟩
  try refine gs_Sc ?_
  (first | with_reducible refine Rn.cnd (fun _ => ?_) (fun _ => ?_) | with_reducible refine Rn.cndN (fun _ => ?_) (fun _ => ?_) | with_reducible refine Rn.cndB (fun _ => ?_) (fun _ => ?_))
  · obtain ⟨m, hx⟩ := at_of (L := L) (k := i) (by omega)
    obtain ⟨m1, m2⟩ := hL m (List.mem_of_getElem? hx)
    rw [drop_at hx] at q1
    simp only [askN] at q1
    try refine gs_Sc ?_
    refine Rn.call (c_ask d (q := q) hs (Sl.up (by assumption) fr_Sc (by omega)) (Sl.up (by assumption) fr_Sc (by omega)) m.toNat (by omega)) ?_
    rintro _ h3 N3 ⟨rfl, f3, o3, l3⟩
    try refine gs_Sc ?_
    (first | with_reducible refine Rn.cnd (fun _ => ?_) (fun _ => ?_) | with_reducible refine Rn.cndN (fun _ => ?_) (fun _ => ?_) | with_reducible refine Rn.cndB (fun _ => ?_) (fun _ => ?_))
    · rw [‹askB s q m.toNat = false›] at q1
      have q2 : errN m.toNat = askN s q L := q1
      have q3 := err_pos m.toNat
      rw [← q2]
      try refine gs_Sc ?_
      exact Rn.ret ⟨.inr ⟨q3, by rw [q2]⟩, (Gw.of fr_Sc (by omega))⟩
    · rw [‹askB s q m.toNat = true›] at q1
      try refine gs_Sc ?_
      exact ih (n - 1) (by omega) _ _ _ _ _ _ _ _ _ ⟨i + 1, rfl, rfl, rfl, rfl, rfl, rfl, rfl, by omega, fr_Sc, by omega, sS_Sc, sS_Sc, sS_Sc, sS_Sc, q1⟩
  · rw [List.drop_eq_nil_of_le (by omega)] at q1
    try refine gs_Sc ?_
    exact Rn.ret ⟨.inl ⟨q1.symm, hv, rfl⟩, (Gw.of fr_Sc (by omega))⟩
end
end Go.Proofs.Ytpilgokdbliklaa
end

