/-
  SpringTruth: a truth that flows from week to week is told.
  Conditions: none.
-/
import Derived.Test.YtpilgokdbliklaaLd
import Derived.Carry

namespace Go.Proofs.Ytpilgokdbliklaa
open Go.Ev Go.RowKit
set_option linter.unusedVariables false
set_option linter.unusedSimpArgs false
set_option linter.unusedSectionVars false
set_option maxRecDepth 100000
set_option maxHeartbeats 4000000
open Go.Sx Go.ChangeShapes Go.WideShapes Go.ChangeAt
theorem cells_u8 : Try.prog.cellsOf 5 = 1 := by kernel_rfl
theorem rd_u8 {H : Type} {enc : TypeId × Value → H} {w : World} {base fuel : Nat} {spare : Nat → Bool} {held : Bool} {cs : List Value} {x : DataW H × List MemPlace} (h : DataW.trod enc Try.prog w base spare held fuel 5 cs = some x) : ∃ r : UInt8, cs = Rwc.enc r := by
  obtain ⟨n, h1, _, h3⟩ := DataW.trod_int Try.underlying5 h
  have hn : 0 ≤ n ∧ n ≤ 255 := by
    simp [Lit.wf, IntKind.min, IntKind.max, IntKind.bits, IntKind.signed] at h3
    omega
  refine ⟨UInt8.ofNat n.toNat, ?_⟩
  rw [h1]
  show [Value.int .u8 n] = [Value.int .u8 ((UInt8.ofNat n.toNat).toNat : Int)]
  have : (UInt8.ofNat n.toNat).toNat = n.toNat := by simp; omega
  rw [this, Int.toNat_of_nonneg hn.1]
theorem plains_u8 (K : List UInt8) : ∀ u ∈ encs K, plain u = true := by
  intro u hu
  simp only [encs, List.mem_flatMap] at hu
  obtain ⟨n, _, h⟩ := hu
  have h' : u ∈ [Value.int .u8 (n.toNat : Int)] := h
  rw [List.mem_singleton] at h'
  subst h'; rfl
theorem tell_spring3 {W : World} {s : Sp} {b r y : Value} {Y : List UInt8} (h1 : In W b s.book) (h2 : In W r s.reads) (h3 : In W y Y) :
    ∃ σ h N u1 u2 u3, Go.Ev.Told W σ h N ∧ Rl σ u1 b ∧ Rl σ u2 r ∧ Rl σ u3 y ∧ Sl h N u1 s.book ∧ Sl h N u2 s.reads ∧ Sl h N u3 Y := by
  obtain ⟨σ1, m1, u1, T1, le1, g1, r1, t1, c1⟩ := tell2 h1 (plains_ln _) (Go.Ev.Told.start W)
  obtain ⟨σ2, m2, u2, T2, le2, g2, r2, t2, c2⟩ := tell2 h2 (plains_rd _) T1
  obtain ⟨σ3, m3, u3, T3, le3, g3, r3, t3, c3⟩ := tell2 h3 (plains_u8 _) T2
  exact ⟨σ3, m3, _, u1, u2, u3, T3, (r1.mono le2).mono le3, r2.mono le3, r3, (t1.up g2 (by omega)).up g3 (by omega), t2.up g3 (by omega), t3⟩
theorem law_any (W : World) (s : Sp) (b r : Value) (z1 : Int) (z2 : Value) (Y : List UInt8) (z3 : Int) (h1 : In W b s.book) (h2 : In W r s.reads) (h3 : In W z2 Y) (k1 : 0 ≤ z1 ∧ z1 < 256) (k3 : 0 ≤ z3 ∧ z3 < 256) :
    Calls Try.prog 4 #[.agg ⟨[iS s.weeks, iS s.most, iS s.fall, iS s.slo, iS s.shi, iS s.wlo, iS s.whi, b, r]⟩, .int .u8 z1, z2, .int .u8 z3] W fun e W' => e = .returned (.bool true) ∧ Below W.heap.size W W' := by
  obtain ⟨σ, h, N0, u1, u2, u3, T, r1, r2, r3, t1, t2, t3⟩ := tell_spring3 h1 h2 h3
  obtain ⟨v', h', N', hr, rfl⟩ := r_truth 8 (s := s) (Y := Y) t1 t2 k1 k3 t3
  obtain ⟨hcal, e1, e2⟩ := o4 (cN 11) (cN_ok 11) [.agg ⟨[iS s.weeks, iS s.most, iS s.fall, iS s.slo, iS s.shi, iS s.wlo, iS s.whi, u1, u2]⟩, .int .u8 z1, u3, .int .u8 z3] h N0 _ h' N' hr
  refine (e2 (.all W) σ W [.agg ⟨[iS s.weeks, iS s.most, iS s.fall, iS s.slo, iS s.shi, iS s.wlo, iS s.whi, b, r]⟩, .int .u8 z1, z2, .int .u8 z3] T.hr ?_ (fun i hi _ => T.no i hi)).mono ?_
  · exact RlL.cons (rl_spring r1 r2) (RlL.cons (.sc rfl) (RlL.cons r3 (RlL.cons (.sc rfl) (RlL.nil _))))
  · rintro e w' ⟨v', rfl, σ', _, H', hv'⟩
    exact ⟨by rw [hv'.scal_eq rfl], H'.bel.below⟩
theorem springTruth_lifted (os : Os) (started : os.Started) (H : Type) (enc : TypeId × Value → H) :
    ReturnsInHanded {} Try.checked os 4 .any (Rows.springTruthSpec.pre6 enc Try.prog Try.f4 Rows.springTruthRow.domain false) (Rows.springTruthSpec.post enc Try.prog Try.f4 false true false false) := by
  refine returnsInHanded_of_change (C := Try.checked) Try.own started (by kernel_rfl) Try.func4
    (ChangeSpec.witness6 (enc := enc) (C := Try.checked) false ⟨#[], #[.agg #[.int .i64 0, .int .i64 0, .int .i64 0, .int .i64 0, .int .i64 0, .int .i64 0, .int .i64 0, .slice none 0 0, .slice none 0 0], .int .u8 0, .slice none 0 0, .int .u8 0], []⟩ 8 (by kernel_rfl) (by kernel_rfl) (by kernel_rfl) (by kernel_rfl)) ?_
  intro W base args ds gs before hval0 hW hcnd _
  have hval : ∀ (j : Nat) t v, Try.f4.params[j]? = some t → args[j]? = some v → Value.okWide Try.prog W .any base t v := hval0
  have hW' := hW
  obtain ⟨p, q, hA0, hV, rfl, hfz, hnd⟩ := hW
  have hA : DataW.TrodAll enc Try.prog W 0 (fun _ => true) true Try.f4.params.toList args.toList ds p := hA0
  rw [Try.params4] at hA hval
  obtain ⟨v0, v1, v2, v3, d0, d1, d2, d3, p0, p1, p2, p3, rfl, rfl, rfl, h0, h1, h2, h3⟩ := trodAll_four hA
  obtain ⟨rfl, rfl⟩ := trodVars_none hV
  obtain ⟨s, b, r, rfl, i1, i2, i3, i4⟩ := open_spring (hval 0 27 v0 rfl rfl) h0
  obtain ⟨z1, rfl, k1⟩ := ok_u8 (hval 1 5 v1 rfl rfl)
  have hv2 := hval 2 51 v2 rfl rfl
  obtain ⟨Y, i5⟩ : ∃ Y : List UInt8, In W v2 Y := by
    obtain ⟨fuel, h2'⟩ := h2
    simp only [Value.okWide, Try.underlying51] at hv2
    cases v2 with
    | slice a n c => exact open_in (α := UInt8) cells_u8 Try.underlying51 (fun _ _ _ h => rd_u8 h) hv2 h2'
    | _ => simp [Cell.okWide, Cell.ok, Try.underlying51] at hv2
  obtain ⟨z3, rfl, k3⟩ := ok_u8 (hval 3 5 v3 rfl rfl)
  clear hA0 hval0
  simp only [List.append_nil] at hW'
  refine (law_any W s b r z1 v2 Y z3 i1 i2 i5 k1 k3).mono fun e W' ⟨he, hb⟩ => ?_
  subst he
  have hlt : ∀ x ∈ p0 ++ (p1 ++ (p2 ++ p3)), x.block < W.heap.size := fun x hx => by simpa using hW'.lt x (by simpa using hx)
  have l0 : ∀ x ∈ p0, x.block < W.heap.size := fun x hx => hlt x (by simp [hx])
  have l1 : ∀ x ∈ p1, x.block < W.heap.size := fun x hx => hlt x (by simp [hx])
  have l2 : ∀ x ∈ p2, x.block < W.heap.size := fun x hx => hlt x (by simp [hx])
  have l3 : ∀ x ∈ p3, x.block < W.heap.size := fun x hx => hlt x (by simp [hx])
  refine ⟨_, rfl, _, _, _, [], p0 ++ (p1 ++ (p2 ++ p3)), [], hW', ?_, ?_, ?_, hb.frame _, fun h => by cases h⟩
  · exact trodAll_mk1 (shut_bool Try.underlying4 true)
  · exact trodAll_mk4 (Below.trod Try.laidOut (by kernel_rfl) (of_decide_eq_true (by kernel_rfl)) h0 hb l0) (Below.trod Try.laidOut (by kernel_rfl) (of_decide_eq_true (by kernel_rfl)) h1 hb l1) (Below.trod Try.laidOut (by kernel_rfl) (of_decide_eq_true (by kernel_rfl)) h2 hb l2) (Below.trod Try.laidOut (by kernel_rfl) (of_decide_eq_true (by kernel_rfl)) h3 hb l3)
  · rfl
theorem springTruth_holds : Rows.SpringTruthSaid :=
  OpenClaim.holds_of_wide 4 Try.f4 rfl rfl rfl rfl rfl rfl rfl ⟨rfl, rfl, rfl, rfl, rfl⟩ rfl rfl rfl rfl rfl (by kernel_rfl) Try.func4 (by kernel_rfl)
    (of_decide_eq_true (by kernel_rfl)) (by unfold Func.isWrapper; first | (rw [if_pos (by decide +kernel)]; kernel_rfl) | (rw [if_neg (by decide +kernel)]; exact ⟨rfl, rfl⟩))
    (fun os started H enc _ => springTruth_lifted os started H enc)
end Go.Proofs.Ytpilgokdbliklaa

