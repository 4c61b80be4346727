/-
  The evaluator: a function without body: slices.overlaps of two slices in two blocks.
  Conditions: none; generic over the program.
-/
import Derived.Test.YtdpnadknaacinaaEvP
import Derived.Lib.Overlaps
namespace Go.Ev
open Go.RowKit Go.Sx
set_option linter.unusedVariables false
set_option linter.unusedSimpArgs false

noncomputable def isNone' {α : Type _} (x : Option α) : Bool := Option.rec (motive := fun _ => Bool) true (fun _ => false) x
theorem isNone'_ok {α : Type _} {x : Option α} (h : isNone' x = true) : x = none := by cases x with | none => rfl | some _ => cases h
noncomputable def notB (b : Bool) : Bool := Bool.rec (motive := fun _ => Bool) true false b
theorem notB_ok {b : Bool} (h : notB b = true) : b = false := by cases b with | false => rfl | true => cases h

/-- The function is slices.overlaps: the cells of an element. -/
noncomputable def ovOf (P : Program) (f : Nat) : Option Nat :=
  match P.funcs[f]? with
  | some fn => ocond (isNone' fn.body) (ocond (fn.origin == "slices.overlaps") (ocond (notB (fn.name == "runtime.NumGoroutine"))
      (ocond (isNone' (Extern.allNextRows.lookup fn.name)) (ocond (isNone' (Extern.allGenericRows.lookup fn.name)) (ocond (isNone' (Extern.allTypedRows.lookup fn.name)) (ocond (isNone' (Extern.allRows.lookup fn.name))
      (match fn.params, fn.resultTypes with
        | ⟨[t, t2]⟩, ⟨[_]⟩ => ocond (Nat.beq t t2) (obind (elemOf P t) fun e => sizeB P e)
        | _, _ => none)))))))
  | none => none

theorem ov_next : Extern.allNextRows.lookup "slices.overlaps" = none := by kernel_rfl
theorem ov_gen : Extern.allGenericRows.lookup "slices.overlaps" = none := by kernel_rfl
theorem ov_typed : Extern.allTypedRows.lookup "slices.overlaps" = some Extern.SlicesOverlaps.overlaps := by kernel_rfl

theorem ovOf_ok {P : Program} {f z : Nat} (h : ovOf P f = some z) : ∃ fn t el r, P.funcs[f]? = some fn ∧ (fn.name == "runtime.NumGoroutine") = false ∧ fn.body.isNone = true ∧ Extern.findNext fn = none ∧
    Extern.find fn = some (Extern.SlicesOverlaps.overlaps #[t, t] #[r]) ∧ P.underlying t = some (.slice el) ∧ sizeB P el = some z := by
  unfold ovOf at h
  split at h
  · rename_i fn hfn
    obtain ⟨h1, h⟩ := ocond_some h
    obtain ⟨h2, h⟩ := ocond_some h
    obtain ⟨h3, h⟩ := ocond_some h
    obtain ⟨h4, h⟩ := ocond_some h
    obtain ⟨h5, h⟩ := ocond_some h
    obtain ⟨h6, h⟩ := ocond_some h
    obtain ⟨h7, h⟩ := ocond_some h
    have h2' : fn.origin = "slices.overlaps" := by simpa using h2
    split at h
    · rename_i t t2 r hp hrs
      obtain ⟨h8, hh⟩ := ocond_some h
      obtain ⟨e, h9, hz⟩ := obind_some hh
      have h8' := Nat.eq_of_beq_eq_true h8
      subst h8'
      refine ⟨fn, t, e, r, hfn, notB_ok h3, by rw [isNone'_ok h1]; rfl, ?_, ?_, elemOf_ok h9, hz⟩
      · simp only [Extern.findNext, isNone'_ok h4, h2', ov_next, Option.map_none]
        rfl
      · simp only [Extern.find, isNone'_ok h5, isNone'_ok h6, isNone'_ok h7, h2', ov_gen, ov_typed, Option.map_none, hp, hrs]
        rfl
    · cases h
  · cases h

section
variable {P : Program} {w0 : Fen} {w : World} {σ : Sg} {h : Tr Ob}

/-- A slice's block, if it has one. -/
noncomputable def blkOf : Value → Option Nat
  | .slice (some ⟨i, _, _⟩) _ _ => some i
  | _ => none

noncomputable def evOver (P : Program) (f : Nat) (args : List Value) (h : Tr Ob) (N : Nat) : OpR :=
  obind (ovOf P f) fun _ => match args with
  | [x, y] => obind (blkOf x) fun i => obind (blkOf y) fun j =>
      ocond (notB (Nat.beq i j)) (obind (cellsOf h i) fun _ => obind (cellsOf h j) fun ys => ocond (Nat.ble 1 (len ys)) (some (.bool false, h, N)))
  | _ => none

theorem blkOf_some {x x' : Value} {i : Nat} (h : blkOf x = some i) (hx : Rl σ x x') : ∃ b r off n c, σ i = some (b, r) ∧ x' = .slice (some ⟨b, off, none⟩) n c := by
  unfold blkOf at h
  split at h
  · cases h
    cases hx
    · rename_i hp; simp [plain] at hp
    · exact ⟨_, _, _, _, _, by assumption, rfl⟩
    · exact ⟨_, _, _, _, _, by assumption, rfl⟩
  · cases h

theorem evOver_ok {f : Nat} {args : List Value} {N N' : Nat} {v : Value} {h' : Tr Ob} (hr : evOver P f args h N = some (v, h', N')) :
    h' = h ∧ N' = N ∧ v = .bool false ∧ ∀ w0 σ w args', HR w0 σ h w → RlL σ args args' → (callFunc f ⟨args'⟩).run P w = .ok (.value (.bool false)) w := by
  obtain ⟨z, hz, hr1⟩ := obind_some hr
  clear hr
  obtain ⟨fn, t, el, r, g1, g2, g3, g4, g5, g7, g8⟩ := ovOf_ok hz
  split at hr1
  · rename_i x y
    obtain ⟨i, ha, hr2⟩ := obind_some hr1
    obtain ⟨j, hb, hr3⟩ := obind_some hr2
    obtain ⟨h1, hr4⟩ := ocond_some hr3
    obtain ⟨xs, h2, hr5⟩ := obind_some hr4
    obtain ⟨ys, h3, hr6⟩ := obind_some hr5
    obtain ⟨h4, hr7⟩ := ocond_some hr6
    cases hr7
    refine ⟨rfl, rfl, rfl, fun w0 σ w args' H hl => ?_⟩
    obtain ⟨x', r1, rfl, q1, q2⟩ := hl.uncons
    obtain ⟨y', r2, rfl, q3, q4⟩ := q2.uncons
    rw [q4.of_nil]
    obtain ⟨b1, r1, o1, n1, c1, k1, rfl⟩ := blkOf_some ha q1
    obtain ⟨b2, r2, o2, n2, c2, k2, rfl⟩ := blkOf_some hb q3
    obtain ⟨cs1, rest1, T1, k3, k4⟩ := cellsOf_ok H k1 h2
    obtain ⟨cs2, rest2, T2, k5, k6⟩ := cellsOf_ok H k2 h3
    have hl1 : (h.get i).isSome = true := by
      unfold cellsOf at h2; cases hg : h.get i with | none => rw [hg] at h2; cases h2 | some o => rfl
    have hl2 : (h.get j).isSome = true := by
      unfold cellsOf at h3; cases hg : h.get j with | none => rw [hg] at h3; cases h3 | some o => rfl
    have hne : b1 ≠ b2 := by
      intro e
      subst e
      have := H.inj i j b1 r1 r2 k1 k2 hl1 hl2
      subst this
      have := notB_ok h1
      rw [Nat.beq_refl] at this
      cases this
    have hlen : (cs2 ++ rest2).length ≠ 0 := by
      have := Nat.le_of_ble_eq_true h4
      rw [len_eq, k5.len] at this
      simp
      intro e
      subst e
      simp at this
    have hov := Lib.run_overlaps_apart (P := P) w t r el g7 z (fun w => Sx.run_sizeOf g8 w) ⟨b1, o1, none⟩ ⟨b2, o2, none⟩ n1 c1 n2 c2 hne T1 T2 (cs1 ++ rest1).length (cs2 ++ rest2).length
      (by simp [World.shape?, k4]) (by simp [World.shape?, k6]) hlen (by simp [World.frozen?, k4]) (by simp [World.frozen?, k4])
    rw [run_callFunc_extern g1 g2 g3 g4 g5, hov]
    rfl
  · cases hr1
end

/-! ### Equal values, told by program -/
noncomputable def band (a b : Bool) : Bool := Bool.rec (motive := fun _ => Bool) false b a
theorem band_ok {a b : Bool} (h : band a b = true) : a = true ∧ b = true := by cases a <;> cases b <;> first | exact ⟨rfl, rfl⟩ | cases h
noncomputable def listEq {α : Type} (eq : α → α → Bool) (l : List α) : List α → Bool :=
  List.rec (motive := fun _ => List α → Bool) (fun r => List.rec (motive := fun _ => Bool) true (fun _ _ _ => false) r)
    (fun x _ ih r => List.rec (motive := fun _ => Bool) false (fun y r' _ => band (eq x y) (ih r')) r) l
theorem listEq_ok {α : Type} {eq : α → α → Bool} (he : ∀ x y, eq x y = true → x = y) : ∀ (l r : List α), listEq eq l r = true → l = r
  | [], [], _ => rfl
  | [], y :: r, h => by cases h
  | x :: l, [], h => by cases h
  | x :: l, y :: r, h => by
    have h' : band (eq x y) (listEq eq l r) = true := h
    obtain ⟨h1, h2⟩ := band_ok h'
    rw [he x y h1, listEq_ok he l r h2]
noncomputable def optN (a b : Option Nat) : Bool :=
  match a, b with
  | none, none => true
  | some x, some y => Nat.beq x y
  | _, _ => false
theorem optN_ok {a b : Option Nat} (h : optN a b = true) : a = b := by
  unfold optN at h
  split at h
  · rfl
  · rw [Nat.eq_of_beq_eq_true h]
  · cases h
noncomputable def addrEq (a b : Addr) : Bool := band (Nat.beq a.block b.block) (band (Nat.beq a.off b.off) (optN a.spot b.spot))
theorem addrEq_ok {a b : Addr} (h : addrEq a b = true) : a = b := by
  obtain ⟨h1, h⟩ := band_ok h
  obtain ⟨h2, h3⟩ := band_ok h
  cases a; cases b
  simp only at h1 h2 h3
  rw [Nat.eq_of_beq_eq_true h1, Nat.eq_of_beq_eq_true h2, optN_ok h3]
noncomputable def valEq1 (ih : Value → Value → Bool) (a b : Value) : Bool := match a, b with
    | .bool x, .bool y => decide (x = y)
    | .int k x, .int k' y => band (decide (k = k')) (decide (x = y))
    | .pointer none, .pointer none => true
    | .pointer (some x), .pointer (some y) => addrEq x y
    | .slice none n c, .slice none n' c' => band (Nat.beq n n') (Nat.beq c c')
    | .slice (some x) n c, .slice (some y) n' c' => band (addrEq x y) (band (Nat.beq n n') (Nat.beq c c'))
    | .map x, .map y => optN x y
    | .nilFunc, .nilFunc => true
    | .nilIface, .nilIface => true
    | .func (.func f) ⟨fs⟩ ⟨cs⟩, .func (.func g) ⟨gs⟩ ⟨ds⟩ => band (Nat.beq f g) (band (listEq ih fs gs) (listEq ih cs ds))
    | .func (.yield f) ⟨[]⟩ ⟨[]⟩, .func (.yield g) ⟨[]⟩ ⟨[]⟩ => Nat.beq f g
    | .agg ⟨cs⟩, .agg ⟨ds⟩ => listEq ih cs ds
    | .tuple ⟨cs⟩, .tuple ⟨ds⟩ => listEq ih cs ds
    | _, _ => false
theorem valEq1_ok {ih : Value → Value → Bool} (hi : ∀ x y, ih x y = true → x = y) {a b : Value} (h : valEq1 ih a b = true) : a = b := by
  unfold valEq1 at h
  split at h
  · rw [of_decide_eq_true h]
  · obtain ⟨h1, h2⟩ := band_ok h; rw [of_decide_eq_true h1, of_decide_eq_true h2]
  · rfl
  · rw [addrEq_ok h]
  · obtain ⟨h1, h2⟩ := band_ok h; rw [Nat.eq_of_beq_eq_true h1, Nat.eq_of_beq_eq_true h2]
  · obtain ⟨h1, h2⟩ := band_ok h; obtain ⟨h3, h4⟩ := band_ok h2; rw [addrEq_ok h1, Nat.eq_of_beq_eq_true h3, Nat.eq_of_beq_eq_true h4]
  · rw [optN_ok h]
  · rfl
  · rfl
  · obtain ⟨h1, h2⟩ := band_ok h; obtain ⟨h3, h4⟩ := band_ok h2; rw [Nat.eq_of_beq_eq_true h1, listEq_ok hi _ _ h3, listEq_ok hi _ _ h4]
  · rw [Nat.eq_of_beq_eq_true h]
  · rw [listEq_ok hi _ _ h]
  · rw [listEq_ok hi _ _ h]
  · cases h
noncomputable def valEq (d : Nat) : Value → Value → Bool := Nat.rec (motive := fun _ => Value → Value → Bool) (fun _ _ => false) (fun _ ih => valEq1 ih) d
theorem valEq_ok : ∀ (d : Nat) (a b : Value), valEq d a b = true → a = b
  | 0, a, b, h => by cases h
  | d + 1, a, b, h => valEq1_ok (valEq_ok d) (show valEq1 (valEq d) a b = true from h)
noncomputable def obEq (a : Option Ob) (b : Ob) : Bool :=
  match a, b with
  | some (.c xs T), .c ys T' => band (Nat.beq T T') (listEq (valEq 3) xs ys)
  | some (.m [] c), .m [] c' => Nat.beq c c'
  | _, _ => false
theorem obEq_ok {a : Option Ob} {b : Ob} (h : obEq a b = true) : a = some b := by
  unfold obEq at h
  split at h
  · obtain ⟨h1, h2⟩ := band_ok h; rw [Nat.eq_of_beq_eq_true h1, listEq_ok (valEq_ok 3) _ _ h2]
  · rw [Nat.eq_of_beq_eq_true h]
  · cases h


end Go.Ev
