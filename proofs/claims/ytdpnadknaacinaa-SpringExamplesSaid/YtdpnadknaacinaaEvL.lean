/-
  The evaluator, part L: maps (made, written, asked, keys taken out), clear.
  Conditions: none; generic over the program.
-/
import Derived.Test.YtdpnadknaacinaaEvK
namespace Go.Ev
open Go.RowKit Go.Sx
set_option linter.unusedVariables false
set_option linter.unusedSimpArgs false

theorem still_bind {α β : Type} {P : Program} {f : α → Sem β} {r : β} : ∀ (s : Sem α), still P (s.bind f) = some r → ∃ a, still P s = some a ∧ still P (f a) = some r
  | .pure b, h => ⟨b, rfl, h⟩
  | .program k, h => still_bind (k P) h
  | .mark m k, h => still_bind k h
  | .load _ _ _, h => by cases h
  | .store _ _ _ _, h => by cases h
  | .new _ _, h => by cases h
  | .shape _ _, h => by cases h
  | .freeze _ _ _, h => by cases h
  | .frozen _ _, h => by cases h
  | .getObj _ _, h => by cases h
  | .setObj _ _ _, h => by cases h
  | .choose _ _, h => by cases h
  | .sys _ _, h => by cases h
  | .halt _, h => by cases h

section
variable {P : Program} {w0 : Fen} {w : World} {σ : Sg} {h : Tr Ob} {e : Tr Value} {n N : Nat} {a : Act} {o : Oper}

/-- What was found, said of entries whose values are others. -/
def FRel (xs : List MapEntry) (n : Nat) (r r' : Option (Nat × Value)) : Prop :=
  match r with
  | none => r' = none
  | some (i, _) => n ≤ i ∧ ∃ x, xs[i - n]? = some x ∧ r' = some (i, x.val)

theorem findNow_rel {kind : TypeDesc} {k : Value} : ∀ (xs ys : List MapEntry) (n : Nat), xs.map (·.key) = ys.map (·.key) →
    match Instr.findNow kind k ys n with
    | none => Instr.findNow kind k xs n = none
    | some r => ∃ r', Instr.findNow kind k xs n = some r' ∧ FRel xs n r r'
  | [], ys, n, h => by
    cases ys with
    | nil => exact ⟨none, rfl, rfl⟩
    | cons y ys => simp at h
  | x :: xs, ys, n, h => by
    cases ys with
    | nil => simp at h
    | cons y ys =>
      simp only [List.map_cons, List.cons.injEq] at h
      obtain ⟨h1, h2⟩ := h
      simp only [Instr.findNow, h1]
      cases hs : Instr.sameNow kind k y.key with
      | none => simp
      | some b =>
        cases b with
        | true => exact ⟨_, rfl, Nat.le_refl _, x, by simp, rfl⟩
        | false =>
          have ih := findNow_rel (kind := kind) (k := k) xs ys (n + 1) h2
          simp only
          revert ih
          cases hn : Instr.findNow kind k ys (n + 1) with
          | none => exact fun ih => ih
          | some r =>
            rintro ⟨r', h3, h4⟩
            refine ⟨r', h3, ?_⟩
            unfold FRel at h4 ⊢
            split at h4
            · exact h4
            · rename_i i v
              obtain ⟨h5, z, h6, h7⟩ := h4
              refine ⟨by omega, z, ?_, h7⟩
              have : i - n = (i - (n + 1)) + 1 := by omega
              rw [this, List.getElem?_cons_succ]
              exact h6

theorem findAsk_rel {kt : TypeId} {k : Value} (w : World) : ∀ (xs ys : List MapEntry) (n : Nat) (r : Option (Nat × Value)), xs.map (·.key) = ys.map (·.key) → still P (Instr.findAsking kt k ys n) = some r →
    ∃ r', (Instr.findAsking kt k xs n).run P w = .ok r' w ∧ FRel xs n r r'
  | [], ys, n, r, h, hr => by
    cases ys with
    | nil => cases hr; exact ⟨none, by simp [Instr.findAsking], rfl⟩
    | cons y ys => simp at h
  | x :: xs, ys, n, r, h, hr => by
    cases ys with
    | nil => simp at h
    | cons y ys =>
      simp only [List.map_cons, List.cons.injEq] at h
      obtain ⟨h1, h2⟩ := h
      unfold Instr.findAsking at hr
      obtain ⟨b, hb, hr⟩ := still_bind _ hr
      have hbr := still_run w _ hb
      cases b with
      | true =>
        have hr' : still P (pure (some (n, y.val)) : Sem (Option (Nat × Value))) = some r := by simpa using hr
        cases hr'
        refine ⟨some (n, x.val), ?_, Nat.le_refl _, x, by simp, rfl⟩
        simp [Instr.findAsking, h1, hbr]
      | false =>
        have hr' : still P (Instr.findAsking kt k ys (n + 1)) = some r := by simpa using hr
        obtain ⟨r', h3, h4⟩ := findAsk_rel w xs ys (n + 1) r h2 hr'
        refine ⟨r', by simp [Instr.findAsking, h1, hbr, h3], ?_⟩
        clear hr
        cases r with
        | none => exact h4
        | some p =>
          obtain ⟨i, v⟩ := p
          unfold FRel at h4 ⊢
          dsimp only at h4 ⊢
          obtain ⟨h5, z, h6, h7⟩ := h4
          refine ⟨by omega, z, ?_, h7⟩
          have : i - n = (i - (n + 1)) + 1 := by omega
          rw [this, List.getElem?_cons_succ]
          exact h6

theorem findKey_rel {kt : TypeId} {k : Value} (w : World) {xs ys : List MapEntry} {r : Option (Nat × Value)} (hk : xs.map (·.key) = ys.map (·.key)) (hr : still P (Instr.findKey kt k ys) = some r) :
    ∃ r', (Instr.findKey kt k xs).run P w = .ok r' w ∧ FRel xs 0 r r' := by
  unfold Instr.findKey at hr
  obtain ⟨d, hd, hr⟩ := still_bind _ hr
  have hdr := still_run w _ hd
  have h1 := findNow_rel (kind := d) (k := k) xs ys 0 hk
  cases hn : Instr.findNow d k ys 0 with
  | none =>
    rw [hn] at h1 hr
    obtain ⟨r', h2, h3⟩ := findAsk_rel w xs ys 0 r hk hr
    exact ⟨r', by simp [Instr.findKey, hdr, h1, h2], h3⟩
  | some r0 =>
    rw [hn] at h1 hr
    obtain ⟨r', h2, h3⟩ := h1
    cases hr
    exact ⟨r', by simp [Instr.findKey, hdr, h2], h3⟩

/-- The keys alone. -/
noncomputable def keysOf (es : List (Value × Value × Nat)) : List MapEntry := List.rec (motive := fun _ => List MapEntry) [] (fun x _ ih => { key := x.1, val := .bool false, born := 0 } :: ih) es
noncomputable def keysP (es : List (Value × Value × Nat)) : Bool := List.rec (motive := fun _ => Bool) true (fun x _ ih => Bool.rec (motive := fun _ => Bool) false ih (scal x.1)) es
theorem MER.uncons {x : Value × Value × Nat} {es : List (Value × Value × Nat)} {xs : List MapEntry} (hm : MER σ (x :: es) xs) : ∃ y ys, xs = y :: ys ∧ Rl σ x.1 y.key ∧ Rl σ x.2.1 y.val ∧ x.2.2 = y.born ∧ MER σ es ys := by
  cases xs with
  | nil => exact absurd hm.1 (by simp)
  | cons y ys =>
    obtain ⟨h1, h2, h3⟩ := hm.2 0 x y rfl rfl
    exact ⟨y, ys, rfl, h1, h2, h3, by have := hm.1; simpa using this, fun i b z hb hz => hm.2 (i + 1) b z (by simpa using hb) (by simpa using hz)⟩
theorem keys_ok : ∀ {es : List (Value × Value × Nat)} {xs : List MapEntry}, MER σ es xs → keysP es = true → xs.map (·.key) = (keysOf es).map (·.key)
  | [], xs, hm, h => by
    have : xs = [] := by have := hm.1; simp at this; exact List.length_eq_zero_iff.1 this.symm
    subst this; rfl
  | x :: es, xs, hm, h => by
    obtain ⟨y, ys, rfl, h1, h2, h3, h4⟩ := hm.uncons
    have h' : Bool.rec (motive := fun _ => Bool) false (keysP es) (scal x.1) = true := h
    cases hs : scal x.1 with
    | false => rw [hs] at h'; cases h'
    | true =>
      rw [hs] at h'
      have e1 := h1.scal_eq hs
      show y.key :: ys.map (·.key) = x.1 :: (keysOf es).map (·.key)
      rw [e1, keys_ok h4 h']

/-- Where a key lies in a map; the key and all keys bear no block. -/
noncomputable def evFind (P : Program) (kt : TypeId) (k : Value) (es : List (Value × Value × Nat)) : Option (Option Nat) :=
  ocond (scal k) (ocond (keysP es) (obind (still P (Instr.findKey kt k (keysOf es))) fun r => some (Option.rec (motive := fun _ => Option Nat) none (fun p => some p.1) r)))
theorem evFind_ok {kt : TypeId} {k k' : Value} {es : List (Value × Value × Nat)} {xs : List MapEntry} {r : Option Nat} (hr : evFind P kt k es = some r) (hk : Rl σ k k') (hm : MER σ es xs) (w : World) :
    k' = k ∧ (match r with
      | none => (Instr.findKey kt k' xs).run P w = .ok none w
      | some i => ∃ x y, es[i]? = some x ∧ xs[i]? = some y ∧ y.key = x.1 ∧ Rl σ x.2.1 y.val ∧ x.2.2 = y.born ∧ (Instr.findKey kt k' xs).run P w = .ok (some (i, y.val)) w) := by
  obtain ⟨h1, hr⟩ := ocond_some hr
  obtain ⟨h2, hr⟩ := ocond_some hr
  obtain ⟨r0, h3, hr⟩ := obind_some hr
  cases hr
  have e1 := hk.scal_eq h1
  subst e1
  refine ⟨rfl, ?_⟩
  have hkeys := keys_ok hm h2
  obtain ⟨r', h4, h5⟩ := findKey_rel w hkeys h3
  cases r0 with
  | none => have h5' : r' = none := h5; subst h5'; exact h4
  | some p =>
    obtain ⟨i, v⟩ := p
    obtain ⟨_, y, h6, h7⟩ := h5
    rw [Nat.sub_zero] at h6
    subst h7
    have hlt : i < es.length := by
      rw [hm.1]
      rcases Nat.lt_or_ge i xs.length with h | h
      · exact h
      · rw [List.getElem?_eq_none h] at h6; cases h6
    have h8 : es[i]? = some es[i] := by simp [hlt]
    obtain ⟨h9, h10, h11⟩ := hm.2 i _ y h8 h6
    refine ⟨es[i], y, h8, h6, ?_, h10, h11, h4⟩
    have hk1 : (xs.map (·.key))[i]? = some y.key := by rw [List.getElem?_map, h6]; rfl
    have hgen : ∀ (L : List (Value × Value × Nat)), keysP L = true → ∀ (x : Value × Value × Nat), x ∈ L → scal x.1 = true := by
      intro L
      induction L with
      | nil => intro _ x hx; cases hx
      | cons z L ih =>
        intro hL x hx
        have hL' : Bool.rec (motive := fun _ => Bool) false (keysP L) (scal z.1) = true := hL
        cases hz : scal z.1 with
        | false => rw [hz] at hL'; cases hL'
        | true =>
          rw [hz] at hL'
          rcases List.mem_cons.1 hx with e | e
          · subst e; exact hz
          · exact ih hL' x e
    exact h9.scal_eq (hgen es h2 _ (List.getElem_mem hlt))

noncomputable def mapT (P : Program) (T : TypeId) : Option (Nat × Nat) :=
  match P.underlying T with
  | some (.map k e) => some (k, e)
  | _ => none
theorem mapT_ok {T k el : Nat} (hT : mapT P T = some (k, el)) : P.underlying T = some (.map k el) := by
  unfold mapT at hT; split at hT
  · rename_i hu; cases hT; exact hu
  · cases hT
noncomputable def mapAt (h : Tr Ob) (v : Value) : Option (Nat × List (Value × Value × Nat) × Nat) :=
  match v with
  | .map (some i) => match h.get i with
    | some (.m es c) => some (i, es, c)
    | _ => none
  | _ => none
theorem mapAt_ok (H : HR w0 σ h w) {v v' : Value} {i c : Nat} {es : List (Value × Value × Nat)} (hm : mapAt h v = some (i, es, c)) (hv : Rl σ v v') :
    ∃ b r xs, σ i = some (b, r) ∧ v' = .map (some b) ∧ MER σ es xs ∧ w.heap[b]? = some (.map ⟨xs⟩ c) ∧ (h.get i).isSome = true := by
  unfold mapAt at hm
  split at hm
  · split at hm
    · rename_i ho
      cases hm
      cases hv
      · rename_i hp; simp [plain] at hp
      · rename_i b r hi
        obtain ⟨xs, h1, h2⟩ := H.ob _ b r _ hi ho
        exact ⟨b, r, xs, hi, rfl, h1, h2, by rw [ho]; rfl⟩
    · cases hm
  · cases hm

noncomputable def noE : List (Value × Value × Nat) → Bool
  | [] => true
  | _ => false
/-- The key is checked (it may be hashed). -/
noncomputable def chk (P : Program) (em : Bool) (kt : TypeId) (k : Value) : Option Unit := still P (Instr.checkKey em 10000 kt k)

theorem run_getMap {b c : Nat} {xs : List MapEntry} (hw : w.heap[b]? = some (.map ⟨xs⟩ c)) : (getObj b).run P w = .ok (.map ⟨xs⟩ c) w := by simp [getObj, Sem.run, hw]
theorem run_setMap {b c : Nat} {xs : List MapEntry} (hw : w.heap[b]? = some (.map ⟨xs⟩ c)) (o : Obj) : (setObj b o).run P w = .ok () (w.putObj b o) := by simp [setObj, Sem.run, hw, World.putObj]

theorem HR.putMap (H : HR w0 σ h w) {i b r c c' : Nat} {xs xs' : List MapEntry} {es' : List (Value × Value × Nat)} (hi : σ i = some (b, r)) (hl : (h.get i).isSome = true) (hw : w.heap[b]? = some (.map ⟨xs⟩ c)) (hm : MER σ es' xs') :
    HR w0 σ (h.set (some (.m es' c')) i) (w.putObj b (.map ⟨xs'⟩ c')) :=
  H.write hi hl World.putObj_size rfl rfl rfl (fun k hk => World.putObj_heap_other hk) ⟨xs', hm, World.putObj_heap_same (H.low i b r hi)⟩

theorem MER.nil : MER σ [] [] := ⟨rfl, fun i a x h => by simp at h⟩

noncomputable def evMakeMap (h : Tr Ob) (N : Nat) : OpR := some (.map (some N), h.set (some (.m [] 0)) N, Nat.succ N)
theorem evMakeMap_ok (H : HR w0 σ h w) (hf : Fresh σ N (N + 1)) {T : TypeId} (ho : o.op = .makeMap T none) : EOk P w0 σ N o a w (.map (some N)) (h.set (some (.m [] 0)) N) (N + 1) := by
  refine eok_new (r := 0) (ob' := .map #[] 0) (mk := fun b => .map (some b)) H hf (fun σ' b hb => .mp hb) (fun σ' hle => ⟨[], MER.nil, heap_new w _⟩) ?_
  simp [execOp, ho, Instr.makeMap]

/-- The zero value, told to bear no block. -/
noncomputable def zval (P : Program) (T : TypeId) : Option Value := obind ((P.info? T).bind (·.zero)) fun z => ocond (scal z) (some z)
theorem zval_ok {T : Nat} {z : Value} (hz : zval P T = some z) (w : World) : (zeroValue T).run P w = .ok z w ∧ ∀ σ, Rl σ z z := by
  obtain ⟨z', h1, h2⟩ := obind_some hz
  obtain ⟨h3, h4⟩ := ocond_some h2
  cases h4
  cases hi : P.info? T with
  | none => rw [hi] at h1; cases h1
  | some i =>
    rw [hi] at h1
    have h1' : i.zero = some z := h1
    exact ⟨by simp [zeroValue, typeInfo, hi, h1'], fun σ => scal_refl h3⟩

/-- The entry's value is another. -/
noncomputable def setVal (es : List (Value × Value × Nat)) (k v : Value) : Nat → List (Value × Value × Nat) :=
  List.rec (motive := fun _ => Nat → List (Value × Value × Nat)) (fun _ => []) (fun x t ih n => Nat.rec (motive := fun _ => List (Value × Value × Nat)) ((k, v, x.2.2) :: t) (fun m _ => x :: ih m) n) es
theorem setVal_ok {k k' v u : Value} (hk : Rl σ k k') (hv : Rl σ v u) : ∀ {es : List (Value × Value × Nat)} {xs : List MapEntry} (i : Nat), MER σ es xs →
    MER σ (setVal es k v i) (xs.modify i fun e => { e with key := k', val := u })
  | [], xs, i, hm => by
    have : xs = [] := by have := hm.1; simp at this; exact List.length_eq_zero_iff.1 this.symm
    subst this
    have e1 : setVal [] k v i = [] := rfl
    rw [e1]
    simpa using hm
  | x :: es, xs, 0, hm => by
    obtain ⟨y, ys, rfl, h1, h2, h3, h4⟩ := hm.uncons
    have e1 : setVal (x :: es) k v 0 = (k, v, x.2.2) :: es := rfl
    rw [e1]
    refine ⟨by have := hm.1; simpa using this, fun i b z hb hz => ?_⟩
    cases i with
    | zero =>
      simp at hb hz
      subst hb; subst hz
      exact ⟨hk, hv, h3⟩
    | succ i => exact h4.2 i b z (by simpa using hb) (by simpa using hz)
  | x :: es, xs, i + 1, hm => by
    obtain ⟨y, ys, rfl, h1, h2, h3, h4⟩ := hm.uncons
    have e1 : setVal (x :: es) k v (i + 1) = x :: setVal es k v i := rfl
    rw [e1]
    have ih := setVal_ok hk hv (es := es) (xs := ys) i h4
    refine ⟨by have := ih.1; simpa using this, fun j b z hb hz => ?_⟩
    cases j with
    | zero => simp at hb hz; subst hb; subst hz; exact ⟨h1, h2, h3⟩
    | succ j => exact ih.2 j b z (by simpa using hb) (by simpa using hz)

noncomputable def evMapPut (P : Program) (T : TypeId) (m k v : Value) (h : Tr Ob) (N : Nat) : OpR :=
  obind (mapT P T) fun ke => obind (mapAt h m) fun iec => obind (chk P false ke.1 k) fun _ => obind (evFind P ke.1 k iec.2.1) fun r =>
    match r with
    | none => fN (Nat.succ iec.2.2) fun c' => some (.tuple ⟨[]⟩, h.set (some (.m (app iec.2.1 [(k, v, iec.2.2)]) c')) iec.1, N)
    | some j => obind (nth iec.2.1 j) fun x => ocond (Instr.sameBits 10000 x.1 k) (some (.tuple ⟨[]⟩, h.set (some (.m (setVal iec.2.1 k v j) iec.2.2)) iec.1, N))

theorem MER.snoc {es : List (Value × Value × Nat)} {xs : List MapEntry} (hm : MER σ es xs) {k k' v v' : Value} {c : Nat} (hk : Rl σ k k') (hv : Rl σ v v') : MER σ (es ++ [(k, v, c)]) (xs ++ [{ key := k', val := v', born := c }]) := by
  refine ⟨by simp [hm.1], fun i a x ha hx => ?_⟩
  rw [List.getElem?_append] at ha hx
  by_cases hi : i < es.length
  · rw [if_pos hi] at ha
    rw [if_pos (by rw [← hm.1]; exact hi)] at hx
    exact hm.2 i a x ha hx
  · rw [if_neg hi] at ha
    rw [if_neg (by rw [← hm.1]; exact hi), ← hm.1] at hx
    cases hj : i - es.length with
    | zero => rw [hj] at ha hx; simp at ha hx; subst ha; subst hx; exact ⟨hk, hv, rfl⟩
    | succ j => rw [hj] at ha; simp at ha

theorem evMapPut_ok (H : HR w0 σ h w) {T : Nat} {x y z : Operand} (ho : o.op = .mapUpdate T x y z ∨ o.op = .insert T x y z) {m k u : Value} (hm : Rl σ m (a.eval x)) (hk : Rl σ k (a.eval y)) (hu : Rl σ u (a.eval z))
    {v : Value} {h' : Tr Ob} {N' : Nat} (hr : evMapPut P T m k u h N = some (v, h', N')) : N' = N ∧ EOk P w0 σ N o a w v h' N' := by
  obtain ⟨⟨kt, et⟩, hT, hr1⟩ := obind_some hr
  obtain ⟨⟨i, es, c⟩, hma, hr2⟩ := obind_some hr1
  obtain ⟨q, hck, hr3⟩ := obind_some hr2
  obtain ⟨r, hfi, hr4⟩ := obind_some hr3
  clear hr hr1 hr2 hr3
  obtain ⟨b, rr, xs, hi, hX, hxs, hw, hl⟩ := mapAt_ok H hma hm
  obtain ⟨hk', hfind⟩ := evFind_ok hfi hk hxs w
  have hT' := mapT_ok hT
  have hck' : (Instr.checkKey false 10000 kt (a.eval y)).run P w = .ok () w := by rw [hk']; exact still_run w _ hck
  have fin : ∀ {w' : World}, HR w0 σ h' w' → N' = N → v = .tuple ⟨[]⟩ → (Instr.mapUpdate T (a.eval x) (a.eval y) (a.eval z)).run P w = .ok () w' → N' = N ∧ EOk P w0 σ N o a w v h' N' := by
    intro w' h1 h2 h3 h4
    subst h2; subst h3
    refine ⟨rfl, σ, undef, w', Ext.refl _ _ _, h1, .tup rfl (fun i a b h => by simp at h), .inr ⟨?_, rfl⟩⟩
    rcases ho with ho | ho <;> simp [execOp, ho, h4]
  cases r with
  | none =>
    have hr' : fN (Nat.succ c) (fun c' => (some (.tuple ⟨[]⟩, h.set (some (.m (app es [(k, u, c)]) c')) i, N) : OpR)) = some (v, h', N') := hr4
    rw [fN_eq, app_eq] at hr'
    cases hr'
    refine fin (H.putMap (c' := c + 1) hi hl hw (hxs.snoc hk hu)) rfl rfl ?_
    dsimp only at hfind
    simp [Instr.mapUpdate, run_underlying hT', hX, run_getMap hw, hck', hfind, run_setMap hw]
  | some j =>
    have hr' : obind (nth es j) (fun x => ocond (Instr.sameBits 10000 x.1 k) (some (.tuple ⟨[]⟩, h.set (some (.m (setVal es k u j) c)) i, N) : OpR)) = some (v, h', N') := hr4
    obtain ⟨x0, hx0, hr5⟩ := obind_some hr'
    obtain ⟨hsb, hr6⟩ := ocond_some hr5
    cases hr6
    rw [nth_eq] at hx0
    obtain ⟨x1, y1, g1, g2, g3, g4, g5, g6⟩ := hfind
    rw [hx0] at g1
    cases g1
    refine fin (H.putMap hi hl hw (setVal_ok hk hu j hxs)) rfl rfl ?_
    have hstay : (Instr.keyThatStays y1.key (a.eval y)).run P w = .ok (a.eval y) w := by
      rw [hk', g3]; simp [Instr.keyThatStays, hsb]
    have hmod : (⟨xs⟩ : Array MapEntry).modify j (fun e => { e with key := a.eval y, val := a.eval z }) = ⟨xs.modify j fun e => { e with key := a.eval y, val := a.eval z }⟩ := by
      apply Array.ext'; simp
    simp [Instr.mapUpdate, run_underlying hT', hX, run_getMap hw, hck', g6, run_setMap hw, g2, hstay, hmod]

/-! ### Asking, and taking out -/
noncomputable def evLookup (P : Program) (T : TypeId) (m k : Value) (ok : Bool) (h : Tr Ob) : Option Value :=
  obind (mapT P T) fun ke => obind (mapAt h m) fun iec => obind (chk P (noE iec.2.1) ke.1 k) fun _ => obind (evFind P ke.1 k iec.2.1) fun r =>
    match r with
    | none => obind (zval P ke.2) fun z => some (Bool.rec (motive := fun _ => Value) z (.tuple ⟨[z, .bool false]⟩) ok)
    | some j => obind (nth iec.2.1 j) fun x => some (Bool.rec (motive := fun _ => Value) x.2.1 (.tuple ⟨[x.2.1, .bool true]⟩) ok)

end
end Go.Ev
