/-
  The evaluator, part E: what yields a value and leaves the memory, put together.
  Conditions: none; generic over the program.
-/
import Derived.Test.YtdpnadknaacinaaEvD
namespace Go.Ev
open Go.RowKit Go.Sx
set_option linter.unusedVariables false
set_option linter.unusedSimpArgs false

section
variable {P : Program} {w0 : Fen} {w : World} {σ : Sg} {h : Tr Ob} {e : Tr Value} {n : Nat} {a : Act} {o : Oper}

/-- A bound as it comes in: none, or a number. -/
def BRel (σ : Sg) (v v' : Option Value) : Prop := (v = none ∧ v' = none) ∨ ∃ u u', v = some u ∧ v' = some u' ∧ Rl σ u u'
theorem natOf_rel {v v' : Option Value} {dft hi k : Nat} (hb : BRel σ v v') (h : natOf v dft hi = some k) : (v' = none ∧ k = dft) ∨ ∃ kk, v' = some (.int kk (k : Int)) ∧ k ≤ hi := by
  rcases hb with ⟨rfl, rfl⟩ | ⟨u, u', rfl, rfl, hr⟩
  · rcases natOf_ok h with ⟨_, h2⟩ | ⟨kk, h1, _⟩
    · exact .inl ⟨rfl, h2⟩
    · cases h1
  · rcases natOf_ok h with ⟨h1, _⟩ | ⟨kk, h1, h2⟩
    · cases h1
    · cases h1
      exact .inr ⟨kk, by rw [rl_int hr], h2⟩
theorem mh_rel {mx mx' hi hi' : Option Value} (h1 : BRel σ mx mx') (h2 : BRel σ hi hi') (h : mhB mx hi = true) : mhB mx' hi' = true := by
  rcases h1 with ⟨rfl, rfl⟩ | ⟨u, u', rfl, rfl, hr⟩ <;> rcases h2 with ⟨rfl, rfl⟩ | ⟨t, t', rfl, rfl, hr'⟩ <;> first | rfl | exact h

theorem evSlice_ok {T : Nat} {v v' r : Value} {lo hi mx lo' hi' mx' : Option Value} (hr : evSlice P T v lo hi mx = some r) (hv : Rl σ v v') (hlo : BRel σ lo lo') (hhi : BRel σ hi hi') (hmx : BRel σ mx mx') :
    ∃ x, Rl σ r x ∧ (Instr.slice T v' lo' hi' mx').run P w = .ok x w := by
  unfold evSlice at hr
  split at hr
  · rename_i n c
    obtain ⟨hn, hr⟩ := ocond_some hr
    obtain ⟨hc, hr⟩ := ocond_some hr
    obtain ⟨el, he, hr⟩ := obind_some hr
    obtain ⟨z, hz, hr⟩ := obind_some hr
    obtain ⟨m, hm, hr⟩ := obind_some hr
    obtain ⟨k, hk, hr⟩ := obind_some hr
    obtain ⟨l, hl, hr⟩ := obind_some hr
    obtain ⟨hmh, hr⟩ := ocond_some hr
    cases hr
    have e1 := Nat.eq_of_beq_eq_true hn
    have e2 := Nat.eq_of_beq_eq_true hc
    subst e1; subst e2
    have := hv.plain_eq rfl; subst this
    have hm0 : m = 0 := by rcases natOf_rel hmx hm with ⟨_, h2⟩ | ⟨_, _, h2⟩ <;> omega
    have hk0 : k = 0 := by rcases natOf_rel hhi hk with ⟨_, h2⟩ | ⟨_, _, h2⟩ <;> omega
    have hl0 : l = 0 := by rcases natOf_rel hlo hl with ⟨_, h2⟩ | ⟨_, _, h2⟩ <;> omega
    subst hm0; subst hk0; subst hl0
    have hb := run_bounds (P := P) (natOf_rel hmx hm) (natOf_rel hhi hk) (natOf_rel hlo hl) (mh_rel hmx hhi hmh) w
    exact ⟨_, .sc rfl, by simp [Instr.slice, run_underlying (elemOf_ok he), hb, Sx.run_sizeOf hz]⟩
  · rename_i i off n c
    obtain ⟨el, he, hr⟩ := obind_some hr
    obtain ⟨z, hz, hr⟩ := obind_some hr
    obtain ⟨m, hm, hr⟩ := obind_some hr
    obtain ⟨k, hk, hr⟩ := obind_some hr
    obtain ⟨l, hl, hr⟩ := obind_some hr
    obtain ⟨hmh, hr⟩ := ocond_some hr
    rw [fN_eq, fN_eq] at hr
    have hb := run_bounds (P := P) (natOf_rel hmx hm) (natOf_rel hhi hk) (natOf_rel hlo hl) (mh_rel hmx hhi hmh) w
    cases hv
    · rename_i hp; simp [plain] at hp
    · rename_i b rr hi'
      have hrun := run_slice (b := b) (off := off) (elemOf_ok he) hz hb
      cases hml : Nat.beq m l with
      | true =>
        rw [hml] at hr
        cases hr
        rw [if_pos (Nat.eq_of_beq_eq_true hml)] at hrun
        exact ⟨_, .sl hi', hrun⟩
      | false =>
        rw [hml] at hr
        have hr' : fN (Nat.add off (Nat.mul l z)) (fun p => some (Value.slice (some ⟨i, p, none⟩) (Nat.sub k l) (Nat.sub m l))) = some r := hr
        rw [fN_eq] at hr'
        cases hr'
        rw [if_neg (fun e => by rw [e, Nat.beq_refl] at hml; cases hml)] at hrun
        exact ⟨_, .sl hi', hrun⟩
  · rename_i i off eo n c
    obtain ⟨el, he, hr⟩ := obind_some hr
    obtain ⟨z, hz, hr⟩ := obind_some hr
    cases hv
    · rename_i hp; simp [plain] at hp
    rename_i b rr hs hle hcc
    split at hr
    · rename_i mv0 mv
      obtain ⟨m, hm, hr⟩ := obind_some hr
      obtain ⟨k, hk, hr⟩ := obind_some hr
      obtain ⟨l, hl, hr⟩ := obind_some hr
      obtain ⟨hmh, hr⟩ := ocond_some hr
      rw [fN_eq, fN_eq] at hr
      have hm' : (mx' = none ∧ m = rr - eo) ∨ ∃ kk, mx' = some (.int kk (m : Int)) ∧ m ≤ rr - eo := by
        rcases natOf_rel hmx hm with ⟨h1, _⟩ | ⟨kk, h1, h2⟩
        · rcases hmx with ⟨h3, _⟩ | ⟨u, u', _, h3, _⟩
          · cases h3
          · rw [h1] at h3; cases h3
        · exact .inr ⟨kk, h1, by omega⟩
      have hb := run_bounds (P := P) hm' (natOf_rel hhi hk) (natOf_rel hlo hl) (mh_rel hmx hhi hmh) w
      have hrun := run_slice (b := b) (off := off) (elemOf_ok he) hz hb
      cases hml : Nat.beq m l with
      | true =>
        rw [hml] at hr
        cases hr
        rw [if_pos (Nat.eq_of_beq_eq_true hml)] at hrun
        exact ⟨_, .sl hs, hrun⟩
      | false =>
        rw [hml] at hr
        have hr' : fN (Nat.add off (Nat.mul l z)) (fun p => some (Value.slice (some ⟨i, p, none⟩) (Nat.sub k l) (Nat.sub m l))) = some r := hr
        rw [fN_eq] at hr'
        cases hr'
        rw [if_neg (fun e => by rw [e, Nat.beq_refl] at hml; cases hml)] at hrun
        exact ⟨_, .sl hs, hrun⟩
    · rw [fN_eq] at hr
      obtain ⟨k, hk, hr⟩ := obind_some hr
      obtain ⟨l, hl, hr⟩ := obind_some hr
      obtain ⟨hC1, hC2⟩ := mx2_ok n c
      generalize mx2 n c = C at hr hk hC1 hC2
      have hle' : eo + n ≤ rr := hle
      have hcc' : eo + c ≤ rr := hcc
      have hCr : eo + C ≤ rr := by rcases hC2 with h1 | h1 <;> omega
      have hk' : (hi' = none ∧ k = n) ∨ ∃ kk, hi' = some (.int kk (k : Int)) ∧ k ≤ rr - eo := by
        rcases natOf_rel hhi hk with h1 | ⟨kk, h1, h2⟩
        · exact .inl h1
        · exact .inr ⟨kk, h1, by omega⟩
      have hkn : k ≤ C := by rcases natOf_rel hhi hk with ⟨_, h1⟩ | ⟨kk, h1, h2⟩ <;> omega
      have hlk : l ≤ k := by rcases natOf_rel hlo hl with ⟨_, h1⟩ | ⟨kk, h1, h2⟩ <;> omega
      have hb := run_bounds (P := P) (m := rr - eo) (cap := rr - eo) (.inl ⟨(by rcases hmx with ⟨_, h3⟩ | ⟨u, u', h3, _, _⟩; exact h3; cases h3), rfl⟩) hk' (natOf_rel hlo hl)
        (by rcases hmx with ⟨_, h3⟩ | ⟨u, u', h3, _, _⟩ <;> first | (rw [h3]; rfl) | cases h3) w
      have hrun := run_slice (b := b) (off := off) (elemOf_ok he) hz hb
      cases hlt : Nat.ble (Nat.succ l) C with
      | false =>
        rw [hlt] at hr
        cases hr
        exact ⟨_, .an rfl, hrun⟩
      | true =>
        rw [hlt] at hr
        have hr2 : (fN (Nat.sub k l) fun kl => fN (Nat.add off (Nat.mul l z)) fun p => fN (Nat.add eo l) fun eo' => fN (Nat.sub C l) fun c' => some (Value.slice (some ⟨i, p, some eo'⟩) kl c')) = some r := hr
        rw [fN_eq, fN_eq, fN_eq, fN_eq] at hr2
        cases hr2
        have hlt' : l < C := Nat.le_of_ble_eq_true hlt
        rw [if_neg (by omega : ¬ rr - eo = l)] at hrun
        have hc : rr - eo - l = rr - (eo + l) := by omega
        rw [hc] at hrun
        refine ⟨_, ?_, hrun⟩
        exact .sx (c := C - l) (e := eo + l) (n := k - l) hs (by omega) (by omega)
  · cases hr

/-! ### Lengths -/
noncomputable def evLen (P : Program) (h : Tr Ob) (T : TypeId) (v : Value) : Option Value :=
  match v with
  | .slice _ n _ => obind (elemOf P T) fun _ => some (.int .i64 (Int.ofNat n))
  | .map none => match P.underlying T with | some (.map _ _) => some (.int .i64 0) | _ => none
  | .map (some i) => match P.underlying T, h.get i with | some (.map _ _), some (.m es _) => fN (len es) fun n => some (.int .i64 (Int.ofNat n)) | _, _ => none
  | .string s => match P.underlying T with | some .string => fN s.size fun n => some (.int .i64 (Int.ofNat n)) | _ => none
  | _ => none
theorem evLen_ok (H : HR w0 σ h w) {T : Nat} {v v' r : Value} {T' : TypeId} (hr : evLen P h T v = some r) (hv : Rl σ v v') : ∃ x, Rl σ r x ∧ (Builtin.len_ #[T] T' #[v']).run P w = .ok x w := by
  unfold evLen at hr
  split at hr
  · rename_i p n c
    obtain ⟨el, he, hr⟩ := obind_some hr
    cases hr
    have hT := elemOf_ok he
    refine ⟨_, .sc rfl, ?_⟩
    cases hv <;> simp [Builtin.len_, run_underlying hT, goInt]
  · split at hr
    · rename_i hT
      cases hr
      have := hv.plain_eq rfl; subst this
      exact ⟨_, .sc rfl, by simp [Builtin.len_, run_underlying hT, goInt]⟩
    · cases hr
  · rename_i i
    split at hr
    · rename_i hT ho
      rw [fN_eq] at hr
      cases hr
      cases hv
      · rename_i hp; simp [plain] at hp
      · rename_i b rr hi
        obtain ⟨xs, h1, h2⟩ := H.ob i b rr _ hi ho
        refine ⟨_, .sc rfl, ?_⟩
        rw [len_eq, h1.1]
        simp [Builtin.len_, run_underlying hT, goInt, getObj, Sem.run, h2]
    · cases hr
  · rename_i s
    split at hr
    · rename_i hT
      rw [fN_eq] at hr
      cases hr
      have := hv.plain_eq rfl; subst this
      exact ⟨_, .sc rfl, by simp [Builtin.len_, run_underlying hT, goInt]⟩
    · cases hr
  · cases hr

noncomputable def evNil (v : Value) : Option Value :=
  match v with
  | .pointer (some ⟨i, off, none⟩) => some v
  | .func (.func _) _ _ => some v
  | _ => none

/-- A field of a struct that is a value. -/
noncomputable def evField (P : Program) (T : TypeId) (v : Value) (k : Nat) : Option Value :=
  match v, P.underlying T with
  | .agg ⟨cs⟩, some (.struct fs) => obind (fs[k]?) fun f => evRead P f.type cs f.offset
  | _, _ => none
theorem evField_ok {T k : Nat} {v v' r : Value} (hr : evField P T v k = some r) (hv : Rl σ v v') : ∃ x, Rl σ r x ∧ (Instr.field T v' k).run P w = .ok x w := by
  unfold evField at hr
  split at hr
  · rename_i cs fs hT
    obtain ⟨f, hf, hr1⟩ := obind_some hr
    cases hv
    · rename_i hp; simp [plain] at hp
    rename_i ds h1 h2
    have hrl : RlL σ cs ds := ⟨h1, h2⟩
    unfold evRead at hr1
    split at hr1
    · rename_i ha
      rw [nth_eq] at hr1
      obtain ⟨x, hx, hrx⟩ := hrl.get hr1
      refine ⟨x, hrx, ?_⟩
      have hx' : (⟨ds⟩ : Array Value)[f.offset]? = some x := (List.getElem?_toArray (xs := ds)).trans hx
      simp only [Instr.field, Sem.run_bind, run_underlying hT, Result.andThen_ok, hf, part, asAgg, Sem.run_pure, run_isAgg ha, Bool.false_eq_true, if_false, hx']
    · rename_i m ha hm
      obtain ⟨hle, hr2⟩ := ocond_some hr1
      cases hr2
      have hle' := Nat.le_of_ble_eq_true hle
      rw [len_eq] at hle'
      rw [tak_eq, drp_eq]
      have h3 := (hrl.drop f.offset).take m
      refine ⟨_, .agg h3.len h3.at_, ?_⟩
      have hex : (⟨ds⟩ : Array Value).extract f.offset (f.offset + m) = ⟨(ds.drop f.offset).take m⟩ := by
        apply Array.ext'
        simp [List.extract_eq_take_drop]
      simp only [Instr.field, Sem.run_bind, run_underlying hT, Result.andThen_ok, hf, part, asAgg, Sem.run_pure, run_isAgg ha, if_true, Sx.run_sizeOf hm, hex]
    · cases hr1
  · cases hr

/-- An operation that leaves the memory as it lies. -/
noncomputable def evPure (P : Program) (o : Oper) (e : Tr Value) (h : Tr Ob) : Option Value :=
  match o.op with
  | .move x => evo e x
  | .assign x => evo e x
  | .pick c x y => match evo e c with
    | some (.bool true) => evo e x
    | some (.bool false) => evo e y
    | _ => none
  | .extract t k => match evo e t with
    | some (.tuple ⟨vs⟩) => nth vs k
    | _ => none
  | .fieldAddr S x k => obind (evo e x) fun v => evFieldAddr P S k v
  | .field T x k => obind (evo e x) fun v => evField P T v k
  | .indexAddr T x y => obind (evo e x) fun v => obind (evo e y) fun u => evIndexAddr P T v u
  | .load T x => obind (evo e x) fun v => evLoad P h T v
  | .binOp b T x y _ => obind (evo e x) fun u => obind (evo e y) fun v => evBin P b T x y u v
  | .unOp u _ x => obind (evo e x) fun v => ocond (scal v) (obind (still P (Op.unary u v)) fun r => ocond (scal r) (some r))
  | .convert s d x => obind (evo e x) fun v => ocond (scal v) (obind (still P (convert s d v)) fun r => ocond (scal r) (some r))
  | .nilCheck x => obind (evo e x) evNil
  | .slice T x lo hi mx => obind (evo e x) fun v => obind (optV e lo) fun l => obind (optV e hi) fun k => obind (optV e mx) fun m => evSlice P T v l k m
  | .makeFunc (.func f) ⟨fs⟩ ⟨cs⟩ => obind (evs e fs) fun us => obind (evs e cs) fun vs => some (.func (.func f) ⟨us⟩ ⟨vs⟩)
  | .call { callee := .builtin .len, args := ⟨[x]⟩, argTypes := ⟨[T]⟩ } => obind (evo e x) fun v => evLen P h T v
  | .call { callee := .builtin .min, args := ⟨xs⟩, argTypes := ts } => obind (evs e xs) fun vs => ocond (allP vs) (obind (still P (Builtin.min_ ts o.type ⟨vs⟩)) fun r => ocond (scal r) (some r))
  | .call { callee := .builtin .max, args := ⟨xs⟩, argTypes := ts } => obind (evs e xs) fun vs => ocond (allP vs) (obind (still P (Builtin.max_ ts o.type ⟨vs⟩)) fun r => ocond (scal r) (some r))
  | .call { callee := .builtin .cap, args := ⟨[x]⟩, argTypes := ⟨[T]⟩ } => obind (evo e x) fun v => match v with
    | .slice (some ⟨_, _, none⟩) _ c => obind (elemOf P T) fun _ => some (.int .i64 (Int.ofNat c))
    | .slice none _ c => obind (elemOf P T) fun _ => some (.int .i64 (Int.ofNat c))
    | .slice (some ⟨_, _, some _⟩) n c => obind (elemOf P T) fun _ => fN (mx2 n c) fun C => some (.chan (some C))
    | _ => none
  | _ => none

theorem brel_of {x : Option Operand} {v : Option Value} (hE : ER σ e n a.tmps) (h : optV e x = some v) : BRel σ v (x.map a.eval) := by
  rcases optV_ok hE h with ⟨h1, h2⟩ | ⟨u, u', h1, h2, h3⟩
  · exact .inl ⟨h1, h2⟩
  · exact .inr ⟨u, u', h1, h2, h3⟩

end
end Go.Ev
