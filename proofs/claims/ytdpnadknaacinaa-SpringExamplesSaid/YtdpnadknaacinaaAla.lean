/-
  That all functions answer (alive) comes out true.
  Conditions: none.
-/
import Derived.Test.YtdpnadknaacinaaQa3
namespace Go.Proofs.Ytdpnadknaacinaa
open Go.Ev
set_option linter.unusedVariables false
set_option linter.unusedSimpArgs false
set_option maxRecDepth 100000
set_option maxHeartbeats 4000000
noncomputable def caT : Ev.St := [(77, F77), (80, F80), (81, F81), (83, F83), (84, F84), (90, F90), (99, F99), (110, F110), (118, F118), (119, F119), (126, F126), (128, F128), (130, F130), (132, F132), (134, F134)]
theorem caT_ok : StOk Pr caT := (StOk.cons o77 (StOk.cons o80 (StOk.cons o81 (StOk.cons o83 (StOk.cons o84 (StOk.cons o90 (StOk.cons o99 (StOk.cons o110 (StOk.cons o118 (StOk.cons o119 (StOk.cons o126 (StOk.cons o128 (StOk.cons o130 (StOk.cons o132 (StOk.cons o134 StOk.nil)))))))))))))))
noncomputable def caR : Nat → Code → Code → Option Ev.Rs := fun _ _ _ => none
noncomputable def ca : CallF := cAll Pr (lookS caT) caR 40
theorem ca_ok : CallOk Pr ca := cAll_ok hmix (fun f F h => caT_ok _ (lookS_ok h)) (fun nt asg body F h => by cases h) 40

theorem a54 : isT (s54 ca .nil 0) = true := by kernel_rfl
noncomputable def X54 : Ev.Fs := fun _ args h N => ar0 args (some (.bool true, h, N))
theorem x54 : FOk Pr 54 X54 := FOk.rowT o54 ca_ok a54

end Go.Proofs.Ytdpnadknaacinaa
