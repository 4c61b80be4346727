/-
  Texts that the proof uses, part 4.
  Conditions: none.
-/
import Derived.Test.YtdpnadknaacinaaChanges3
import Derived.Deep.AppendLies

set_option linter.unusedVariables false
set_option linter.unusedSimpArgs false

section
namespace Go.Proofs.Ytdpnadknaacinaa
open Go.Sx Go.Proofs.Ytdpnadknaacinaa.Ty
set_option linter.unusedVariables false
set_option maxHeartbeats 2000000


structure Ask where
  week : Int
  bucket : Int
  x : Rd
abbrev askV (q : Ask) : Value := .agg #[.int .i64 q.week, .int .i64 q.bucket, .int .i64 q.x.number, .int .i64 q.x.week, .int .i64 q.x.bucket, .int .i64 q.x.lo, .int .i64 q.x.hi]
/-- The answer to the k-th question. -/
def askB (s : Sp) (q : Ask) : Nat → Bool
  | 0 => validB s
  | 1 => isWeekB s.weeks q.week
  | 2 => inS 1 40 q.bucket
  | 3 => readB s.weeks q.x
  | 4 => canS s
  | _ => false

theorem ask0_fn (s : Sp) (M : Args) (hin : s.In M) (q : Ask) : Cn Try.prog 126 [spV s, askV q] M (fun _ : Unit => .bool (askB s q 0)) (fun _ => []) (fun _ => True) := by
  refine fn_intro (N := 8) Try.func126 rfl rfl rfl fun w0 => ?_
  refine okc_seq ?_
  refine okc_region ?_
  refine s_boxA rfl rfl rfl rfl rfl rfl (fun b1 => ?_)
  refine s_boxA rfl rfl rfl rfl rfl rfl (fun b2 => ?_)
  refine s_assign rfl rfl rfl rfl rfl rfl ?_
  refine okl_nil ?_
  change OkC Try.prog _ _ _ _ _ _ _
  refine okc_weak (l' := [(0, _), (1, _), (2, _), (4, _)]) ⟨rfl, rfl, rfl, rfl, trivial⟩ ?_
  refine okc_seq ?_
  refine okc_region ?_
  refine s_field rfl rfl rfl rfl rfl rfl rfl rfl ?_
  refine s_loadW 1 rfl rfl rfl rfl rfl rfl rfl rfl rfl rfl ?_
  refine s_callb rfl rfl rfl rfl rfl rfl rfl c127 (valid_fn s M hin) covers_all (fun h3 => ?_) (fun h3 => ?_)
  · refine s_assign rfl rfl rfl rfl rfl rfl ?_
    refine okl_nil ?_
    change OkC Try.prog _ _ _ _ _ _ _
    refine okc_weak (l' := [(0, _), (1, _), (2, _), (4, _)]) ⟨rfl, rfl, rfl, rfl, trivial⟩ ?_
    refine okc_ret fun a w hs => ?_
    exact ret_v hs (run_results1 hs rfl (rv_tmp rfl)) (by clear hs; simp_all [askB])
  · refine s_assign rfl rfl rfl rfl rfl rfl ?_
    refine okl_nil ?_
    change OkC Try.prog _ _ _ _ _ _ _
    refine okc_weak (l' := [(0, _), (1, _), (2, _), (4, _)]) ⟨rfl, rfl, rfl, rfl, trivial⟩ ?_
    refine okc_ret fun a w hs => ?_
    exact ret_v hs (run_results1 hs rfl (rv_tmp rfl)) (by clear hs; simp_all [askB])

theorem ask1_fn (s : Sp) (M : Args) (hin : s.In M) (q : Ask) (hs0 : OkS s) : Cn Try.prog 128 [spV s, askV q] M (fun _ : Unit => .bool (askB s q 1)) (fun _ => []) (fun _ => True) := by
  have w1 := hs0.ok.w1
  have w2 := hs0.ok.w2
  refine fn_intro (N := 10) Try.func128 rfl rfl rfl fun w0 => ?_
  refine okc_seq ?_
  refine okc_region ?_
  refine s_boxA rfl rfl rfl rfl rfl rfl (fun b4 => ?_)
  refine s_boxA rfl rfl rfl rfl rfl rfl (fun b5 => ?_)
  refine s_assign rfl rfl rfl rfl rfl rfl ?_
  refine okl_nil ?_
  change OkC Try.prog _ _ _ _ _ _ _
  refine okc_weak (l' := [(0, _), (1, _), (2, _), (3, _), (4, _)]) ⟨rfl, rfl, rfl, rfl, rfl, trivial⟩ ?_
  refine okc_seq ?_
  refine okc_region ?_
  refine s_field rfl rfl rfl rfl rfl rfl rfl rfl ?_
  refine s_loadW 1 rfl rfl rfl rfl rfl rfl rfl rfl rfl rfl ?_
  refine s_field rfl rfl rfl rfl rfl rfl rfl rfl ?_
  refine s_load1 0 rfl rfl rfl rfl rfl rfl rfl rfl rfl ?_
  refine s_callb rfl rfl rfl rfl rfl rfl rfl c129 (isWeek_fn s M _ (by assumption) (by assumption)) covers_all (fun h6 => ?_) (fun h6 => ?_)
  · refine s_assign rfl rfl rfl rfl rfl rfl ?_
    refine okl_nil ?_
    change OkC Try.prog _ _ _ _ _ _ _
    refine okc_weak (l' := [(0, _), (1, _), (2, _), (3, _), (4, _)]) ⟨rfl, rfl, rfl, rfl, rfl, trivial⟩ ?_
    refine okc_ret fun a w hs => ?_
    exact ret_v hs (run_results1 hs rfl (rv_tmp rfl)) (by clear hs; simp_all [askB])
  · refine s_assign rfl rfl rfl rfl rfl rfl ?_
    refine okl_nil ?_
    change OkC Try.prog _ _ _ _ _ _ _
    refine okc_weak (l' := [(0, _), (1, _), (2, _), (3, _), (4, _)]) ⟨rfl, rfl, rfl, rfl, rfl, trivial⟩ ?_
    refine okc_ret fun a w hs => ?_
    exact ret_v hs (run_results1 hs rfl (rv_tmp rfl)) (by clear hs; simp_all [askB])

theorem ask2_fn (s : Sp) (M : Args) (hin : s.In M) (q : Ask) : Cn Try.prog 130 [spV s, askV q] M (fun _ : Unit => .bool (askB s q 2)) (fun _ => []) (fun _ => True) := by
  refine fn_intro (N := 10) Try.func130 rfl rfl rfl fun w0 => ?_
  refine okc_seq ?_
  refine okc_region ?_
  refine s_boxA rfl rfl rfl rfl rfl rfl (fun b7 => ?_)
  refine s_boxA rfl rfl rfl rfl rfl rfl (fun b8 => ?_)
  refine s_assign rfl rfl rfl rfl rfl rfl ?_
  refine okl_nil ?_
  change OkC Try.prog _ _ _ _ _ _ _
  refine okc_weak (l' := [(0, _), (1, _), (3, _), (4, _)]) ⟨rfl, rfl, rfl, rfl, trivial⟩ ?_
  refine okc_seq ?_
  refine dr_start [5, 6, 7, 8, 9, 4] ?_
  refine d_callv [] rfl rfl rfl rfl rfl (fun ν => rfl) rfl (fun ν => rfl) (fun ν => rfl) c85 (fun ν => span_fn _ _) (fun ν => covers_nil) ?_
  refine d_field [] rfl rfl rfl rfl rfl (fun ν => rfl) rfl (fun ν => rfl) rfl rfl ?_
  refine d_load1 0 [1] rfl rfl rfl rfl rfl (fun ν => rfl) rfl rfl (fun ν => rfl) (fun ν => rfl) rfl ?_
  refine d_slice1 [2] rfl rfl rfl rfl rfl (fun ν => rfl) rfl (fun ν => rfl) rfl rfl rfl rfl ?_
  refine d_callb [0, 3] rfl rfl rfl rfl rfl (fun ν => rfl) rfl (fun ν => rfl) (fun ν => rfl) c131 (fun ν => within_fn _ _ [_] _ 1 (by simp)) (fun ν => (covers_own 0 rfl covers_nil)) (fun h10 => ?_) (fun h10 => ?_)
  · refine d_assign [4] rfl rfl rfl rfl rfl (fun ν => rfl) rfl (fun ν => rfl) ?_
    refine dr_end [5, 6, 7, 8, 9, 4] [5] 6 rfl rfl rfl rfl rfl rfl rfl rfl rfl (fun ν => ?_)
    refine okl_nil ?_
    change OkC Try.prog _ _ _ _ _ _ _
    refine okc_weak (l' := [(0, _), (1, _), (3, _), (4, _)]) ⟨rfl, rfl, rfl, rfl, trivial⟩ ?_
    refine okc_ret fun a w hs => ?_
    exact ret_v hs (run_results1 hs rfl (rv_tmp rfl)) (by clear hs; simp_all [askB])
  · refine d_assign [4] rfl rfl rfl rfl rfl (fun ν => rfl) rfl (fun ν => rfl) ?_
    refine dr_end [5, 6, 7, 8, 9, 4] [5] 6 rfl rfl rfl rfl rfl rfl rfl rfl rfl (fun ν => ?_)
    refine okl_nil ?_
    change OkC Try.prog _ _ _ _ _ _ _
    refine okc_weak (l' := [(0, _), (1, _), (3, _), (4, _)]) ⟨rfl, rfl, rfl, rfl, trivial⟩ ?_
    refine okc_ret fun a w hs => ?_
    exact ret_v hs (run_results1 hs rfl (rv_tmp rfl)) (by clear hs; simp_all [askB])

theorem ask3_fn (s : Sp) (M : Args) (hin : s.In M) (q : Ask) (hs0 : OkS s) : Cn Try.prog 132 [spV s, askV q] M (fun _ : Unit => .bool (askB s q 3)) (fun _ => []) (fun _ => True) := by
  have w1 := hs0.ok.w1
  have w2 := hs0.ok.w2
  refine fn_intro (N := 10) Try.func132 rfl rfl rfl fun w0 => ?_
  refine okc_seq ?_
  refine okc_region ?_
  refine s_boxA rfl rfl rfl rfl rfl rfl (fun b11 => ?_)
  refine s_boxA rfl rfl rfl rfl rfl rfl (fun b12 => ?_)
  refine s_assign rfl rfl rfl rfl rfl rfl ?_
  refine okl_nil ?_
  change OkC Try.prog _ _ _ _ _ _ _
  refine okc_weak (l' := [(0, _), (1, _), (2, _), (3, _), (4, _)]) ⟨rfl, rfl, rfl, rfl, rfl, trivial⟩ ?_
  refine okc_seq ?_
  refine okc_region ?_
  refine s_field rfl rfl rfl rfl rfl rfl rfl rfl ?_
  refine s_loadW 1 rfl rfl rfl rfl rfl rfl rfl rfl rfl rfl ?_
  refine s_field rfl rfl rfl rfl rfl rfl rfl rfl ?_
  refine s_loadP 0 rfl rfl rfl rfl rfl rfl rfl rfl rfl rfl rfl ?_
  refine s_callb rfl rfl rfl rfl rfl rfl rfl c133 (validReading_fn s M _ (by assumption) (by assumption)) covers_all (fun h13 => ?_) (fun h13 => ?_)
  · refine s_assign rfl rfl rfl rfl rfl rfl ?_
    refine okl_nil ?_
    change OkC Try.prog _ _ _ _ _ _ _
    refine okc_weak (l' := [(0, _), (1, _), (2, _), (3, _), (4, _)]) ⟨rfl, rfl, rfl, rfl, rfl, trivial⟩ ?_
    refine okc_ret fun a w hs => ?_
    exact ret_v hs (run_results1 hs rfl (rv_tmp rfl)) (by clear hs; simp_all [askB])
  · refine s_assign rfl rfl rfl rfl rfl rfl ?_
    refine okl_nil ?_
    change OkC Try.prog _ _ _ _ _ _ _
    refine okc_weak (l' := [(0, _), (1, _), (2, _), (3, _), (4, _)]) ⟨rfl, rfl, rfl, rfl, rfl, trivial⟩ ?_
    refine okc_ret fun a w hs => ?_
    exact ret_v hs (run_results1 hs rfl (rv_tmp rfl)) (by clear hs; simp_all [askB])

theorem ask4_fn (s : Sp) (M : Args) (hin : s.In M) (q : Ask) (hs0 : OkS s) : Cn Try.prog 134 [spV s, askV q] M (fun _ : Unit => .bool (askB s q 4)) (fun _ => []) (fun _ => True) := by
  refine fn_intro (N := 7) Try.func134 rfl rfl rfl fun w0 => ?_
  refine okc_seq ?_
  refine okc_region ?_
  refine s_boxA rfl rfl rfl rfl rfl rfl (fun b14 => ?_)
  refine s_boxA rfl rfl rfl rfl rfl rfl (fun b15 => ?_)
  refine s_assign rfl rfl rfl rfl rfl rfl ?_
  refine okl_nil ?_
  change OkC Try.prog _ _ _ _ _ _ _
  refine okc_weak (l' := [(0, _), (1, _), (2, _), (4, _)]) ⟨rfl, rfl, rfl, rfl, trivial⟩ ?_
  refine okc_seq ?_
  refine okc_region ?_
  refine s_loadW 1 rfl rfl rfl rfl rfl rfl rfl rfl rfl rfl ?_
  refine s_callb rfl rfl rfl rfl rfl rfl rfl c73 (can_fn s M hin hs0) covers_all (fun h16 => ?_) (fun h16 => ?_)
  · refine s_assign rfl rfl rfl rfl rfl rfl ?_
    refine okl_nil ?_
    change OkC Try.prog _ _ _ _ _ _ _
    refine okc_weak (l' := [(0, _), (1, _), (2, _), (4, _)]) ⟨rfl, rfl, rfl, rfl, trivial⟩ ?_
    refine okc_ret fun a w hs => ?_
    exact ret_v hs (run_results1 hs rfl (rv_tmp rfl)) (by clear hs; simp_all [askB])
  · refine s_assign rfl rfl rfl rfl rfl rfl ?_
    refine okl_nil ?_
    change OkC Try.prog _ _ _ _ _ _ _
    refine okc_weak (l' := [(0, _), (1, _), (2, _), (4, _)]) ⟨rfl, rfl, rfl, rfl, trivial⟩ ?_
    refine okc_ret fun a w hs => ?_
    exact ret_v hs (run_results1 hs rfl (rv_tmp rfl)) (by clear hs; simp_all [askB])

theorem questions_fn  : Cn Try.prog 109 [] [] (fun _ : Unit => .agg #[.func (.func 126) #[] #[], .int .i64 10, .func (.func 128) #[] #[], .int .i64 11, .func (.func 130) #[] #[], .int .i64 14, .func (.func 132) #[] #[], .int .i64 12, .func (.func 134) #[] #[], .int .i64 8]) (fun _ => []) (fun _ => True) := by
  refine fn_intro (N := 7) Try.func109 rfl rfl rfl fun w0 => ?_
  refine okc_seq ?_
  refine okc_region ?_
  refine s_alloc rfl rfl rfl rfl rfl rfl (fun b17 => ?_)
  refine okl_nil ?_
  change OkC Try.prog _ _ _ _ _ _ _
  refine okc_weak (l' := [(0, _)]) ⟨rfl, trivial⟩ ?_
  refine okc_seq ?_
  refine okc_region ?_
  refine s_build rfl rfl rfl rfl rfl rfl rfl rfl rfl ?_
  refine s_build rfl rfl rfl rfl rfl rfl rfl rfl rfl ?_
  refine s_build rfl rfl rfl rfl rfl rfl rfl rfl rfl ?_
  refine s_build rfl rfl rfl rfl rfl rfl rfl rfl rfl ?_
  refine s_build rfl rfl rfl rfl rfl rfl rfl rfl rfl ?_
  refine s_buildA rfl rfl rfl rfl rfl rfl rfl rfl rfl rfl rfl ?_
  refine k_storeW 0 rfl rfl rfl rfl rfl rfl rfl rfl rfl rfl rfl rfl ?_
  try dsimp only [List.set_cons_zero, List.set_cons_succ, setL]
  refine okl_nil ?_
  change OkC Try.prog _ _ _ _ _ _ _
  refine okc_weak (l' := [(0, _)]) ⟨rfl, trivial⟩ ?_
  refine okc_ret fun a w hs => ?_
  exact ret_v hs (run_results1 hs rfl (k_ragg 0 rfl rfl rfl rfl rfl)) (rfl)

end Go.Proofs.Ytdpnadknaacinaa
end

section
namespace Go.Sx
open Go.RowKit Go.Region

/-- The store: which operation, which of the own blocks, what lay there, what lies there behind. -/
structure Mst where
  s : Nat
  q : Nat
  b : Nat
  cs : List Value
  cs' : List Value
  T : Nat
/-- The own blocks ahead of it and behind. -/
def Mst.oo (S : Mst) (O : Blks) (f : Bool) : Blks := bif f then O.set S.q (S.b, S.cs', S.T) else O

section
variable (P : Program) (N : Cx) (w0 : World) (ops : Array Oper) (lb : Env) (S : Mst) (O : Blks) (A : Args)

def Sto (o : Oper) (l : Env) (O' : Blks) : Prop :=
  wantsB ops l o = some true ∧ ∀ a w, St N w0 l O' A a w → ∀ (K : Act → World → Prop) (Q : Exit → Act → World → Prop), K a (w.setRow S.b S.cs'.toArray) → o.wpIn (Fr N.r) 0 P a w (fun a w => K a w) Q

/-- May operation i meet the blocks ahead (f = false), behind (f = true)? -/
def okf (o : Oper) (i : Nat) (f : Bool) : Prop :=
  (f = true → ∀ os, ops[S.s]? = some os → ¬ ∃ g ∈ os.after, g.on = i ∧ binds .any g = true) ∧ (f = false → ¬ ∃ g ∈ o.after, g.on = S.s ∧ binds .any g = true)

def Obl2 (es : Ents) (i d : Nat) (e : Ent) : Prop :=
  ∃ o ds, ops[i]? = some o ∧ (∀ k ∈ ds, k < i ∧ ∃ g ∈ o.after, g.on = k ∧ binds .any g = true) ∧ ds.Nodup ∧
    ((i = S.s → e = none ∧ o.dst = none ∧ ∀ ν : Nat → Nat, Sto P N w0 ops S A o (envD es ν ds ++ lb) (blkD es ν ds ++ S.oo O false)) ∧
     (i ≠ S.s → o.dst = some d ∧ Nat.blt d N.n = true ∧ ∀ (ν : Nat → Nat) (f : Bool), okf ops S o i f → Good P N w0 ops A o (envD es ν ds ++ lb) (blkD es ν ds ++ S.oo O f) e))

def Obls2 : Ents → Prop
  | [] => True
  | (i, d, e) :: es => Obl2 P N w0 ops lb S O A es i d e ∧ Obls2 es
end

section
variable {P : Program} {N : Cx} {w0 : World} {ops : Array Oper} {lb : Env} {S : Mst} {O : Blks} {A : Args}

theorem obls_at2 : ∀ {es : Ents}, WF es → Obls2 P N w0 ops lb S O A es → ∀ i, i < es.length → ∃ d e, findE es i = some (d, e) ∧ ∃ o ds, ops[i]? = some o ∧
    (∀ k ∈ ds, k < i ∧ ∃ g ∈ o.after, g.on = k ∧ binds .any g = true) ∧ ds.Nodup ∧
    ((i = S.s → e = none ∧ o.dst = none ∧ ∀ ν : Nat → Nat, Sto P N w0 ops S A o (envD es ν ds ++ lb) (blkD es ν ds ++ S.oo O false)) ∧
     (i ≠ S.s → o.dst = some d ∧ Nat.blt d N.n = true ∧ ∀ (ν : Nat → Nat) (f : Bool), okf ops S o i f → Good P N w0 ops A o (envD es ν ds ++ lb) (blkD es ν ds ++ S.oo O f) e))
  | [], _, _, i, h => by simp at h
  | (j, d, e) :: es, hw, ⟨ho, hos⟩, i, h => by
    by_cases e1 : i = es.length
    · subst e1
      have hw2 := hw
      obtain ⟨rfl, hw'⟩ := hw
      refine ⟨d, e, by simp [findE, Nat.beq_refl], ?_⟩
      obtain ⟨o, ds, h1, h4, h5, h6, h7⟩ := ho
      have x1 := fun ν => envD_ext hw2 ν ds (fun k hk => (h4 k hk).1)
      have x2 := fun ν => blkD_ext hw2 ν ds (fun k hk => (h4 k hk).1)
      refine ⟨o, ds, h1, h4, h5, fun hi => ?_, fun hi => ?_⟩
      · obtain ⟨g1, g2, g3⟩ := h6 hi
        refine ⟨g1, g2, fun ν => ?_⟩
        rw [x1, x2]; exact g3 ν
      · obtain ⟨g1, g2, g3⟩ := h7 hi
        refine ⟨g1, g2, fun ν f hf => ?_⟩
        rw [x1, x2]; exact g3 ν f hf
    · have hlt : i < es.length := by simp at h; omega
      obtain ⟨d', e', hf, o, ds, h1, h4, h5, h6, h7⟩ := obls_at2 hw.2 hos i hlt
      have hds : ∀ k ∈ ds, k < es.length := fun k hk => Nat.lt_trans (h4 k hk).1 hlt
      have x1 := fun ν => envD_ext hw ν ds hds
      have x2 := fun ν => blkD_ext hw ν ds hds
      refine ⟨d', e', by rw [findE_ext hw hlt]; exact hf, o, ds, h1, h4, h5, fun hi => ?_, fun hi => ?_⟩
      · obtain ⟨g1, g2, g3⟩ := h6 hi
        refine ⟨g1, g2, fun ν => ?_⟩
        rw [x1, x2]; exact g3 ν
      · obtain ⟨g1, g2, g3⟩ := h7 hi
        refine ⟨g1, g2, fun ν f hf => ?_⟩
        rw [x1, x2]; exact g3 ν f hf

set_option maxHeartbeats 1000000 in
theorem mid_runs2 {es : Ents} {B n : Nat} {Q : Exit → Act → World → Prop} (hw : WF es) (hlen : es.length = n) (hle : n ≤ ops.size) (htail : Tail ops n) (hob : Obls2 P N w0 ops lb S O A es) (hq : O[S.q]? = some (S.b, S.cs, S.T)) (hsn : S.s < n) (hn : (slots es).Nodup)
    (hlb : ∀ t v, get lb t = some v → t ∉ slots es)
    (hQ : ∀ ν a w, Mid P N w0 ops lb (S.oo O true) A es B ν (fun i => Nat.blt i n) a w → wpOpsIn (Fr N.r) 0 P ops Q (List.range' n (ops.size - n)) a w) :
    ∀ (is : List Nat) (ν : Nat → Nat) (D : Nat → Bool) (f : Bool) (a : Act) (w : World), D S.s = f → (D S.s = true → ∀ o, ops[S.s]? = some o → ∀ g ∈ o.after, binds .any g = true → D g.on = true) → (∀ i, D i = true → i < n) → Val .any ops D is → Mid P N w0 ops lb (S.oo O f) A es B ν D a w → wpOpsIn (Fr N.r) 0 P ops Q is a w
  | [], ν, D, f, a, w, hDs, hSD, hDn, hv, hm => by
    have hft : f = true := by rw [← hDs]; exact hv S.s (Nat.lt_of_lt_of_le hsn hle)
    subst hft
    have hall : ∀ i, i < n → D i = true := fun i hi => hv i (Nat.lt_of_lt_of_le hi hle)
    have := hQ ν a w (eq_blt hDn hall ▸ hm)
    have h0 : ops.size - n = 0 := by
      rcases Nat.lt_or_ge n ops.size with h1 | h1
      · exact absurd (hDn n (hv n h1)) (Nat.lt_irrefl n)
      · omega
    rw [h0] at this
    exact this
  | i :: is, ν, D, f, a, w, hDs, hSD, hDn, ⟨⟨hr1, hr2, hr3⟩, hv⟩, hm => by
    by_cases hin : i < n
    case neg =>
      have hall : ∀ k, k < i → D k = true := by
        intro k hk
        obtain ⟨o, ho⟩ : ∃ o, ops[i]? = some o := ⟨ops[i], by simp [hr1]⟩
        exact tail_done htail hDn (by omega) ho (fun g hg hb => hr3 o ho g hg hb) k hk
      have hDe := eq_blt hDn (fun k hk => hall k (by omega))
      have hfor := forced htail (i :: is) D n (Nat.le_refl _) hle (fun k => ⟨fun h => hDn k h, fun h => hall k (by omega)⟩) ⟨⟨hr1, hr2, hr3⟩, hv⟩
      rw [hfor]
      have hft : f = true := by rw [← hDs]; exact hall S.s (by omega)
      subst hft
      exact hQ ν a w (hDe ▸ hm)
    obtain ⟨d, e, hf, o, ds, ho, hds, hnd, hobl⟩ := obls_at2 hw hob i (by omega)
    have hD0 : ∀ k ∈ ds, D k = true := by
      intro k hk
      obtain ⟨_, g, hg, hgk, hgb⟩ := hds k hk
      rw [← hgk]
      exact hr3 o ho g hg hgb
    by_cases his : i = S.s
    case pos =>
      have hfs : f = false := by rw [← hDs, ← his]; exact hr2
      subst hfs
      obtain ⟨he, hd, hsto⟩ := hobl.1 his
      subst he
      have hst := hm.sub ds hD0 hnd
      obtain ⟨hg1, hg2⟩ := hsto ν
      simp only [wpOpsIn, ho, wanted_of hst hg1, if_true]
      refine hg2 a w hst _ _ ?_
      have hbB : S.b < B := hm.old S.b S.cs S.T (List.mem_of_getElem? hq)
      have hsz : (w.setRow S.b S.cs'.toArray).heap.size = w.heap.size := by simp [World.setRow]
      have hother : ∀ k, k ≠ S.b → (w.setRow S.b S.cs'.toArray).heap[k]? = w.heap[k]? := fun k hk => setRow_other w S.b k _ hk
      refine mid_runs2 hw hlen hle htail hob hq hsn hn hlb hQ is ν (upd D i) true a _ (by simp [upd, his]) ?_ ?_ hv ⟨hm.st.setRow S.q S.b S.cs S.cs' S.T hq, by rw [hsz]; exact hm.start, ?_, hm.base, ?_, ?_, ?_⟩
      · intro _ o' ho' g hg hgb
        have ho2 : o' = o := by rw [his] at ho; rw [ho] at ho'; cases ho'; rfl
        subst ho2
        simp only [upd]
        split
        · rfl
        · exact hr3 _ ho g hg hgb
      · intro k hk
        simp only [upd] at hk
        split at hk
        · rename_i e; rw [e]; exact hin
        · exact hDn k hk
      · intro b cs T hmm
        have hmm' : (b, cs, T) ∈ O.set S.q (S.b, S.cs', S.T) := hmm
        rcases List.mem_or_eq_of_mem_set hmm' with h1 | h1
        · exact hm.old b cs T h1
        · cases h1; exact hbB
      · intro k d' x hk hfk
        simp only [upd] at hk
        split at hk
        · rename_i e; rw [e, hf] at hfk; simp at hfk
        · exact hm.env k d' x hk hfk
      · intro k d' mk cs T hk hfk
        simp only [upd] at hk
        split at hk
        · rename_i e; rw [e, hf] at hfk; simp at hfk
        · obtain ⟨g1, g2, g3⟩ := hm.env' k d' mk cs T hk hfk
          refine ⟨g1, ?_, g3⟩
          unfold holds
          rw [hother _ (by omega)]
          exact g2
      · intro k j d1 mk1 cs1 T1 d2 mk2 cs2 T2 hk hj hkj hfk hfj
        simp only [upd] at hk hj
        split at hk
        · rename_i e; rw [e, hf] at hfk; simp at hfk
        · split at hj
          · rename_i e; rw [e, hf] at hfj; simp at hfj
          · exact hm.inj k j _ _ _ _ _ _ _ _ hk hj hkj hfk hfj
    obtain ⟨hd, hN, hgood0⟩ := hobl.2 his
    have hgood : ∀ ν, Good P N w0 ops A o (envD es ν ds ++ lb) (blkD es ν ds ++ S.oo O f) e := by
      intro ν
      refine hgood0 ν f ⟨?_, ?_⟩
      · intro hft os hos ⟨g, hg, hgi, hgb⟩
        have := hSD (by rw [hDs]; exact hft) os hos g hg hgb
        rw [hgi, hr2] at this; cases this
      · intro hff ⟨g, hg, hgs, hgb⟩
        have := hr3 o ho g hg hgb
        rw [hgs, hDs, hff] at this; cases this
    have hDs' : upd D i S.s = f := by simp only [upd]; rw [if_neg (fun e => his e.symm)]; exact hDs
    have hSD' : upd D i S.s = true → ∀ o, ops[S.s]? = some o → ∀ g ∈ o.after, binds .any g = true → upd D i g.on = true := by
      intro h1 os hos g hg hgb
      have := hSD (by rw [hDs, ← hDs']; exact h1) os hos g hg hgb
      simp only [upd]
      split
      · rfl
      · exact this
    have hD := hD0
    have hst := hm.sub ds hD hnd
    have hDn' : ∀ k, upd D i k = true → k < n := by
      intro k hk
      simp only [upd] at hk
      split at hk
      · rename_i e; rw [e]; exact hin
      · exact hDn k hk
    have hdlt : d < N.n := of_blt hN
    have hbase : ∀ t v, get lb t = some v → t ≠ d := fun t v hg e2 => hlb t v hg (e2 ▸ mem_slots hf)
    have hputne : ∀ (v : Value) (t : Nat), t ≠ d → (a.put (some d) v).tmps[t]? = a.tmps[t]? := by
      intro v t ht
      simp only [Act.put]
      exact Array.getElem?_setIfInBounds_ne (fun h => ht h.symm)
    have hputd : ∀ (v : Value), (a.put (some d) v).tmps[d]? = some v := by
      intro v
      have := hm.st.size
      simp [Act.put, this, hdlt]
    have hDne : ∀ k, D k = true → k ≠ i := fun k hk e => by rw [e, hr2] at hk; cases hk
    have hne : ∀ {k d' : Nat} {x : Ent}, D k = true → findE es k = some (d', x) → d' ≠ d := fun hk hfk e => hDne _ hk (slots_inj hn (e ▸ hfk) hf)
    have stput : ∀ (v : Value) {w' : World}, Below w.heap.size w w' → St N w0 lb (S.oo O f) A (a.put (some d) v) w' := by
      intro v w' hb
      have h1 := hm.st.ext hb
      refine ⟨?_, h1.noDef, h1.bel, ?_, h1.own, h1.nodup, h1.arg, h1.more⟩
      · simp [Act.put, h1.size]
      · intro t u hg
        rw [hputne v t (hbase t u hg)]
        exact h1.env t u hg
    have hwant : ∀ r, wantsB ops (envD es ν ds ++ lb) o = some r → Region.wanted o (yielded ops a.tmps) = r := fun r h => wanted_of hst h
    simp only [wpOpsIn, ho]
    have keep : ∀ {w' : World}, Below w.heap.size w w' → ∀ {k : Nat} {cs : List Value} {T : TypeId}, holds w k cs T → holds w' k cs T := by
      intro w' hb k cs T h
      unfold holds
      rw [hb.block k h.lt]; exact h
    match e, hf, hgood ν with
    | none, hf, hg =>
      have hg' : wantsB ops (envD es ν ds ++ lb) o = some false := hg
      rw [hwant _ hg', hd]
      simp only [Bool.false_eq_true, if_false]
      refine ⟨fun _ _ => trivial, ?_⟩
      refine mid_runs2 hw hlen hle htail hob hq hsn hn hlb hQ is ν (upd D i) f _ w hDs' hSD' hDn' hv ⟨stput _ (Below.refl _ _), hm.start, hm.old, hm.base, ?_, ?_, ?_⟩
      · intro k d' x hk hfk
        simp only [upd] at hk
        split at hk
        · rename_i e; rw [e, hf] at hfk; simp at hfk
        · rw [hputne _ _ (hne hk hfk)]; exact hm.env k d' x hk hfk
      · intro k d' mk cs T hk hfk
        simp only [upd] at hk
        split at hk
        · rename_i e; rw [e, hf] at hfk; simp at hfk
        · rw [hputne _ _ (hne hk hfk)]; exact hm.env' k d' mk cs T hk hfk
      · intro k j d1 mk1 cs1 T1 d2 mk2 cs2 T2 hk hj hkj hfk hfj
        simp only [upd] at hk hj
        split at hk
        · rename_i e; rw [e, hf] at hfk; simp at hfk
        · split at hj
          · rename_i e; rw [e, hf] at hfj; simp at hfj
          · exact hm.inj k j _ _ _ _ _ _ _ _ hk hj hkj hfk hfj
    | some (.inl x), hf, hg =>
      have hg' : (wantsB ops (envD es ν ds ++ lb) o = some true ∧ OpV P N w0 (envD es ν ds ++ lb) (blkD es ν ds ++ S.oo O f) A o (pv x)) ∨ (wantsB ops (envD es ν ds ++ lb) o = some false ∧ x = undef) := hg
      have next : ∀ w', Below w.heap.size w w' → wpOpsIn (Fr N.r) 0 P ops Q is (a.put (some d) x) w' := by
        intro w' hb
        refine mid_runs2 hw hlen hle htail hob hq hsn hn hlb hQ is ν (upd D i) f _ w' hDs' hSD' hDn' hv ⟨stput _ hb, Nat.le_trans hm.start hb.size, hm.old, hm.base, ?_, ?_, ?_⟩
        · intro k d' x hk hfk
          simp only [upd] at hk
          split at hk
          · rename_i e
            rw [e, hf] at hfk
            simp only [Option.some.injEq, Prod.mk.injEq, Sum.inl.injEq] at hfk
            rw [← hfk.1, hputd, hfk.2]
          · rw [hputne _ _ (hne hk hfk)]; exact hm.env k d' x hk hfk
        · intro k d' mk cs T hk hfk
          simp only [upd] at hk
          split at hk
          · rename_i e; rw [e, hf] at hfk; simp at hfk
          · rw [hputne _ _ (hne hk hfk)]
            obtain ⟨g1, g2, g3⟩ := hm.env' k d' mk cs T hk hfk
            exact ⟨g1, keep hb g2, g3⟩
        · intro k j d1 mk1 cs1 T1 d2 mk2 cs2 T2 hk hj hkj hfk hfj
          simp only [upd] at hk hj
          split at hk
          · rename_i e; rw [e, hf] at hfk; simp at hfk
          · split at hj
            · rename_i e; rw [e, hf] at hfj; simp at hfj
            · exact hm.inj k j _ _ _ _ _ _ _ _ hk hj hkj hfk hfj
      rcases hg' with hg' | ⟨hg', hx⟩
      · rw [hwant _ hg'.1]
        simp only [if_true]
        refine hg'.2 a w hst _ _ ?_
        intro v w' hb hvx
        have hvx' : v = x := hvx
        rw [hd, hvx']
        exact next w' hb
      · rw [hwant _ hg', hd]
        simp only [Bool.false_eq_true, if_false]
        refine ⟨fun _ _ => trivial, ?_⟩
        rw [← hx]
        exact next w (Below.refl _ _)
    | some (.inr (mk, cs, T)), hf, hg =>
      have hg' : wantsB ops (envD es ν ds ++ lb) o = some true ∧ OpV P N w0 (envD es ν ds ++ lb) (blkD es ν ds ++ S.oo O f) A o (Res mk (fun b => [(b, cs, T)]) (fun _ => True)) := hg
      rw [hwant _ hg'.1]
      simp only [if_true]
      refine hg'.2 a w hst _ _ ?_
      rintro v w' hb ⟨b, rfl, _, hB, _⟩
      rw [hd]
      obtain ⟨hb1, hb2⟩ := hB b cs T (by simp)
      refine mid_runs2 hw hlen hle htail hob hq hsn hn hlb hQ is (fun k => if k = i then b else ν k) (upd D i) f _ w' hDs' hSD' hDn' hv ⟨stput _ hb, Nat.le_trans hm.start hb.size, hm.old, hm.base, ?_, ?_, ?_⟩
      · intro k d' x hk hfk
        simp only [upd] at hk
        split at hk
        · rename_i e; rw [e, hf] at hfk; simp at hfk
        · rw [hputne _ _ (hne hk hfk)]; exact hm.env k d' x hk hfk
      · intro k d' mk' cs' T' hk hfk
        simp only [upd] at hk
        split at hk
        · rename_i e
          rw [e, hf] at hfk
          simp only [Option.some.injEq, Prod.mk.injEq, Sum.inr.injEq] at hfk
          obtain ⟨rfl, rfl, rfl, rfl⟩ := hfk
          rw [if_pos e, hputd]
          exact ⟨rfl, hb1, Nat.le_trans hm.start hb2⟩
        · rename_i e
          rw [if_neg e, hputne _ _ (hne hk hfk)]
          obtain ⟨g1, g2, g3⟩ := hm.env' k d' mk' cs' T' hk hfk
          exact ⟨g1, keep hb g2, g3⟩
      · intro k j d1 mk1 cs1 T1 d2 mk2 cs2 T2 hk hj hkj hfk hfj
        simp only [upd] at hk hj
        have fresh : ∀ {k : Nat} {d1 mk1 cs1 T1}, D k = true → findE es k = some (d1, some (.inr (mk1, cs1, T1))) → ν k < b := fun h1 h2 => Nat.lt_of_lt_of_le (hm.env' _ _ _ _ _ h1 h2).2.1.lt hb2
        by_cases ek : k = i
        · by_cases ej : j = i
          · exact absurd (ek.trans ej.symm) hkj
          · rw [if_neg ej] at hj
            have := fresh hj hfj
            show (if k = i then b else ν k) ≠ (if j = i then b else ν j)
            rw [if_pos ek, if_neg ej]; omega
        · rw [if_neg ek] at hk
          by_cases ej : j = i
          · have := fresh hk hfk
            show (if k = i then b else ν k) ≠ (if j = i then b else ν j)
            rw [if_neg ek, if_pos ej]; omega
          · rw [if_neg ej] at hj
            show (if k = i then b else ν k) ≠ (if j = i then b else ν j)
            rw [if_neg ek, if_neg ej]
            exact hm.inj k j _ _ _ _ _ _ _ _ hk hj hkj hfk hfj


/-! ### Step by step -/
def Dd (P : Program) (N : Cx) (w0 : World) (id : Nat) (ops : Array Oper) (Q : Exit → Act → World → Prop) (l : Env) (lb : Env) (S : Mst) (O : Blks) (A : Args) (es : Ents) : Prop :=
  WF es → Obls2 P N w0 ops lb S O A es → OkC P N w0 (.region id ops true) Q l O A

theorem dd_start {id : Nat} {Q : Exit → Act → World → Prop} {l : Env} (ds : List Nat) (S : Mst) (h : Dd P N w0 id ops Q l (dropK ds l) S O A []) : OkC P N w0 (.region id ops true) Q l O A := h trivial trivial

/-- May operation i come behind the store? -/
def mayT (ops : Array Oper) (s i : Nat) : Bool := match ops[s]? with
  | some os => !(os.after.toList.any fun g => Nat.beq g.on i && binds .any g)
  | none => true
def mayF (o : Oper) (s : Nat) : Bool := !(o.after.toList.any fun g => Nat.beq g.on s && binds .any g)

theorem may_of {o : Oper} {i : Nat} {f : Bool} (h : okf ops S o i f) : (f = true → mayT ops S.s i = true) ∧ (f = false → mayF o S.s = true) := by
  refine ⟨fun hf => ?_, fun hf => ?_⟩
  · unfold mayT
    cases hos : ops[S.s]? with
    | none => rfl
    | some os =>
      have := h.1 hf os hos
      simp only [Bool.not_eq_true']
      rw [List.any_eq_false]
      intro g hg hgb
      rw [Bool.and_eq_true] at hgb
      exact this ⟨g, by simpa using hg, Nat.eq_of_beq_eq_true hgb.1, hgb.2⟩
  · unfold mayF
    have := h.2 hf
    simp only [Bool.not_eq_true']
    rw [List.any_eq_false]
    intro g hg hgb
    rw [Bool.and_eq_true] at hgb
    exact this ⟨g, by simpa using hg, Nat.eq_of_beq_eq_true hgb.1, hgb.2⟩

section
variable {id : Nat} {Q : Exit → Act → World → Prop} {l : Env} {es : Ents} {o : Oper} {i d : Nat}

theorem dd_step (ds : List Nat) {e : Ent} (hi : es.length = i) (ho : ops[i]? = some o) (hd : o.dst = some d) (hN : Nat.blt d N.n = true) (hds : depsB o i ds = true) (his : Nat.beq i S.s = false)
    (hF : mayF o S.s = true → ∀ ν, Good P N w0 ops A o (envD es ν ds ++ lb) (blkD es ν ds ++ O) e)
    (hT : mayT ops S.s i = true → ∀ ν, Good P N w0 ops A o (envD es ν ds ++ lb) (blkD es ν ds ++ O.set S.q (S.b, S.cs', S.T)) e)
    (rest : Dd P N w0 id ops Q l lb S O A ((i, d, e) :: es)) : Dd P N w0 id ops Q l lb S O A es := by
  intro hw hob
  obtain ⟨h1, h2⟩ := deps_of hds
  refine rest ⟨hi.symm, hw⟩ ⟨⟨o, ds, ho, h1, h2, fun e' => ?_, fun _ => ⟨hd, hN, fun ν f hf => ?_⟩⟩, hob⟩
  · rw [e', Nat.beq_refl] at his; cases his
  · obtain ⟨g1, g2⟩ := may_of hf
    cases f with
    | false => exact hF (g2 rfl) ν
    | true => exact hT (g1 rfl) ν

theorem dd_store (ds : List Nat) {off Ty n : Nat} {vs : List Value} {x y : Operand} {v : Value} (hi : es.length = i) (ho : ops[i]? = some o) (hd : o.dst = none) (hds : depsB o i ds = true) (his : i = S.s)
    (hg : ∀ ν, wantsB ops (envD es ν ds ++ lb) o = some true) (hop : o.op = .store Ty x y) (hx : ∀ ν, ev (envD es ν ds ++ lb) x = some (.pointer (some ⟨S.b, off, none⟩))) (hy : ∀ ν, ev (envD es ν ds ++ lb) y = some v)
    (hv : v.cells = vs.toArray) (hn : sizeB P Ty = some n) (hl : vs.length = n) (hfit : off + n ≤ S.cs.length) (h1 : flat vs = true) (hcs : S.cs' = setL S.cs off vs) (hq : O[S.q]? = some (S.b, S.cs, S.T))
    (rest : Dd P N w0 id ops Q l lb S O A ((i, d, none) :: es)) : Dd P N w0 id ops Q l lb S O A es := by
  intro hw hob
  obtain ⟨g1, g2⟩ := deps_of hds
  refine rest ⟨hi.symm, hw⟩ ⟨⟨o, ds, ho, g1, g2, fun _ => ⟨rfl, hd, fun ν => ⟨hg ν, ?_⟩⟩, fun h => absurd his h⟩, hob⟩
  intro a w hs K Q hK
  have hm : (S.b, S.cs, S.T) ∈ blkD es ν ds ++ S.oo O false := List.mem_append_right _ (List.mem_of_getElem? hq)
  obtain ⟨j, hj⟩ := List.mem_iff_getElem?.1 hm
  have hrun := run_storeVar (P := P) (hs.own j _ _ _ hj).1 hv hn hl hfit h1
  have hr : (execOp a.eval o).run P w = .ok .skip (w.setRow S.b (setL S.cs off vs).toArray) := by
    simp [execOp, hop, hs.eval (hx ν), hs.eval (hy ν), hrun]
  refine opIn_of (fun c h => by rw [hop] at h; cases h) ?_
  rw [hr, hd, ← hcs]
  exact hK

theorem dd_end (ds keep : List Nat) (n : Nat) (hmx : P.follows .mixedOrders = true) (hl : lb = dropK ds l) (hlen : es.length = n) (hb : backA ops = true) (hle : Nat.ble n ops.size = true) (ht : tailB ops n = true) (hn : nodupB (slots es) = true) (hin : inB (slots es) ds = true)
    (hk : nodupB keep = true) (hkn : allBelow keep n = true) (hq : O[S.q]? = some (S.b, S.cs, S.T)) (hsn : Nat.blt S.s n = true)
    (rest : ∀ ν, OkL P N w0 ops Q (List.range' n (ops.size - n)) (envD es ν keep ++ lb) (blkD es ν keep ++ O.set S.q (S.b, S.cs', S.T)) A) : Dd P N w0 id ops Q l lb S O A es := by
  intro hw hob a w hs
  refine wpIn_region_draw fun t => ?_
  have hval := schedule_any (ops := ops) hmx hb t
  have hdrew : ({ w with drawn := w.drawn + 1 } : World) = w.drew := rfl
  rw [hdrew]
  have hs' : St N w0 l O A a w.drew := hs.ext ((Below.refl _ w).drew)
  have hlb : St N w0 lb (S.oo O false) A a w.drew := by
    refine ⟨hs'.size, hs'.noDef, hs'.bel, ?_, hs'.own, hs'.nodup, hs'.arg, hs'.more⟩
    intro t v hg
    rw [hl] at hg
    exact hs'.env t v (get_dropK ds l t v hg).2
  refine mid_runs2 (B := w.heap.size) hw hlen (Nat.le_of_ble_eq_true hle) (tail_of ht) hob hq (of_blt hsn) (nodup_ofB hn) ?_ ?_ _ (fun _ => 0) (fun _ => false) false a w.drew rfl (fun h => by cases h) (fun _ h => by cases h) hval ⟨hlb, Nat.le_refl _, ?_, hs.bel.size, ?_, ?_, ?_⟩
  · intro t v hg hm
    rw [hl] at hg
    have h1 := (get_dropK ds l t v hg).1
    unfold inB at hin
    rw [List.all_eq_true] at hin
    have := hin t hm
    rw [List.any_eq_true] at this
    obtain ⟨d, hd, hdt⟩ := this
    have := Nat.eq_of_beq_eq_true hdt; subst this
    exact h1 hd
  · intro ν a' w' hm
    refine rest ν a' w' (hm.sub keep ?_ (nodup_ofB hk))
    intro k hk'
    unfold allBelow at hkn
    rw [List.all_eq_true] at hkn
    exact hkn k hk'
  · intro b cs T hm
    obtain ⟨j, hj⟩ := List.mem_iff_getElem?.1 hm
    exact (hs.own j b cs T hj).1.lt
  · intro _ _ _ h; cases h
  · intro _ _ _ _ _ h; cases h
  · intro _ _ _ _ _ _ _ _ _ _ h; cases h
end
end
end Go.Sx
end

section
namespace Go.Proofs.Ytdpnadknaacinaa
open Go.Sx Go.Proofs.Ytdpnadknaacinaa.Ty
set_option linter.unusedVariables false

theorem mixed_try : Try.prog.follows .mixedOrders = true := by rfl

section
variable {N : Cx} {w0 : World} {l lb : Env} {S : Mst} {O : Blks} {A : Args} {o : Oper} {ops : Array Oper} {Q : Exit → Act → World → Prop} {i d id : Nat} {es : Ents}

theorem x_v (ds : List Nat) {x : Value} (hi : es.length = i) (ho : ops[i]? = some o) (hd : o.dst = some d) (hN : Nat.blt d N.n = true) (hds : depsB o i ds = true) (his : Nat.beq i S.s = false)
    (hg : ∀ ν, wantsB ops (envD es ν ds ++ lb) o = some true) (h : ∀ ν O', OpV Try.prog N w0 (envD es ν ds ++ lb) O' A o (pv x))
    (rest : Dd Try.prog N w0 id ops Q l lb S O A ((i, d, some (.inl x)) :: es)) : Dd Try.prog N w0 id ops Q l lb S O A es :=
  dd_step (e := some (.inl x)) ds hi ho hd hN hds his (fun _ ν => .inl ⟨hg ν, h ν _⟩) (fun _ ν => .inl ⟨hg ν, h ν _⟩) rest
theorem x_move {x : Operand} {v : Value} (ds : List Nat) (hi : es.length = i) (h0 : ops[i]? = some o) (hd : o.dst = some d) (hN : Nat.blt d N.n = true) (hds : depsB o i ds = true) (his : Nat.beq i S.s = false)
    (hg : ∀ ν, wantsB ops (envD es ν ds ++ lb) o = some true) (ho : o.op = .move x) (hx : ∀ ν, ev (envD es ν ds ++ lb) x = some v)
    (rest : Dd Try.prog N w0 id ops Q l lb S O A ((i, d, some (.inl v)) :: es)) : Dd Try.prog N w0 id ops Q l lb S O A es := x_v ds hi h0 hd hN hds his hg (fun ν _ => op_move ho (hx ν)) rest
theorem x_assign {x : Operand} {v : Value} (ds : List Nat) (hi : es.length = i) (h0 : ops[i]? = some o) (hd : o.dst = some d) (hN : Nat.blt d N.n = true) (hds : depsB o i ds = true) (his : Nat.beq i S.s = false)
    (hg : ∀ ν, wantsB ops (envD es ν ds ++ lb) o = some true) (ho : o.op = .assign x) (hx : ∀ ν, ev (envD es ν ds ++ lb) x = some v)
    (rest : Dd Try.prog N w0 id ops Q l lb S O A ((i, d, some (.inl v)) :: es)) : Dd Try.prog N w0 id ops Q l lb S O A es := x_v ds hi h0 hd hN hds his hg (fun ν _ => op_assign ho (hx ν)) rest
theorem x_add {T T' : TypeId} {x y : Operand} {p q : Int} (ds : List Nat) (hi : es.length = i) (h0 : ops[i]? = some o) (hd : o.dst = some d) (hN : Nat.blt d N.n = true) (hds : depsB o i ds = true) (his : Nat.beq i S.s = false)
    (hg : ∀ ν, wantsB ops (envD es ν ds ++ lb) o = some true) (ho : o.op = .binOp .add T x y T') (hx : ∀ ν, ev (envD es ν ds ++ lb) x = some (.int .i64 p)) (hy : ∀ ν, ev (envD es ν ds ++ lb) y = some (.int .i64 q)) (hr : -9223372036854775808 ≤ p + q ∧ p + q ≤ 9223372036854775807)
    (rest : Dd Try.prog N w0 id ops Q l lb S O A ((i, d, some (.inl (.int .i64 (p + q)))) :: es)) : Dd Try.prog N w0 id ops Q l lb S O A es := x_v ds hi h0 hd hN hds his hg (fun ν _ => op_add ho (hx ν) (hy ν) hr) rest
theorem x_sub {T T' : TypeId} {x y : Operand} {p q : Int} (ds : List Nat) (hi : es.length = i) (h0 : ops[i]? = some o) (hd : o.dst = some d) (hN : Nat.blt d N.n = true) (hds : depsB o i ds = true) (his : Nat.beq i S.s = false)
    (hg : ∀ ν, wantsB ops (envD es ν ds ++ lb) o = some true) (ho : o.op = .binOp .sub T x y T') (hx : ∀ ν, ev (envD es ν ds ++ lb) x = some (.int .i64 p)) (hy : ∀ ν, ev (envD es ν ds ++ lb) y = some (.int .i64 q)) (hr : -9223372036854775808 ≤ p - q ∧ p - q ≤ 9223372036854775807)
    (rest : Dd Try.prog N w0 id ops Q l lb S O A ((i, d, some (.inl (.int .i64 (p - q)))) :: es)) : Dd Try.prog N w0 id ops Q l lb S O A es := x_v ds hi h0 hd hN hds his hg (fun ν _ => op_sub ho (hx ν) (hy ν) hr) rest
theorem x_max {ts : Array TypeId} {x y : Operand} {k : IntKind} {p q : Int} (ds : List Nat) (hi : es.length = i) (h0 : ops[i]? = some o) (hd : o.dst = some d) (hN : Nat.blt d N.n = true) (hds : depsB o i ds = true) (his : Nat.beq i S.s = false)
    (hg : ∀ ν, wantsB ops (envD es ν ds ++ lb) o = some true) (ho : o.op = .call { callee := .builtin .max, args := #[x, y], argTypes := ts }) (hx : ∀ ν, ev (envD es ν ds ++ lb) x = some (.int k p)) (hy : ∀ ν, ev (envD es ν ds ++ lb) y = some (.int k q))
    (rest : Dd Try.prog N w0 id ops Q l lb S O A ((i, d, some (.inl (.int k (max p q)))) :: es)) : Dd Try.prog N w0 id ops Q l lb S O A es := x_v ds hi h0 hd hN hds his hg (fun ν _ => op_max ho (hx ν) (hy ν)) rest
theorem x_min {ts : Array TypeId} {x y : Operand} {k : IntKind} {p q : Int} (ds : List Nat) (hi : es.length = i) (h0 : ops[i]? = some o) (hd : o.dst = some d) (hN : Nat.blt d N.n = true) (hds : depsB o i ds = true) (his : Nat.beq i S.s = false)
    (hg : ∀ ν, wantsB ops (envD es ν ds ++ lb) o = some true) (ho : o.op = .call { callee := .builtin .min, args := #[x, y], argTypes := ts }) (hx : ∀ ν, ev (envD es ν ds ++ lb) x = some (.int k p)) (hy : ∀ ν, ev (envD es ν ds ++ lb) y = some (.int k q))
    (rest : Dd Try.prog N w0 id ops Q l lb S O A ((i, d, some (.inl (.int k (min p q)))) :: es)) : Dd Try.prog N w0 id ops Q l lb S O A es := x_v ds hi h0 hd hN hds his hg (fun ν _ => op_min ho (hx ν) (hy ν)) rest
theorem x_field {St' k δ b off : Nat} {x : Operand} {fs : List (Option Nat)} (ds : List Nat) (hi : es.length = i) (h0 : ops[i]? = some o) (hd : o.dst = some d) (hN : Nat.blt d N.n = true) (hds : depsB o i ds = true) (his : Nat.beq i S.s = false)
    (hg : ∀ ν, wantsB ops (envD es ν ds ++ lb) o = some true) (ho : o.op = .fieldAddr St' x k) (hx : ∀ ν, ev (envD es ν ds ++ lb) x = some (.pointer (some ⟨b, off, none⟩))) (hl : lookT offL St' = some fs) (hj : nth fs k = some (some δ))
    (rest : Dd Try.prog N w0 id ops Q l lb S O A ((i, d, some (.inl (.pointer (some ⟨b, off + δ, none⟩)))) :: es)) : Dd Try.prog N w0 id ops Q l lb S O A es := x_v ds hi h0 hd hN hds his hg (fun ν _ => k_field ho (hx ν) hl hj) rest
theorem x_indexA {T e n m k : Nat} (j : Nat) {b off : Nat} {q : Int} {x y : Operand} (ds : List Nat) (hi : es.length = i) (h0 : ops[i]? = some o) (hd : o.dst = some d) (hN : Nat.blt d N.n = true) (hds : depsB o i ds = true) (his : Nat.beq i S.s = false)
    (hg : ∀ ν, wantsB ops (envD es ν ds ++ lb) o = some true) (ho : o.op = .indexAddr T x y) (hx : ∀ ν, ev (envD es ν ds ++ lb) x = some (.pointer (some ⟨b, off, none⟩))) (hy : ∀ ν, ev (envD es ν ds ++ lb) y = some (.int .i64 q)) (hT : nth arL T = some (some (n, e))) (hm : nth sizL e = some (some m)) (hq : q = (j : Int)) (hlt : j < n) (hk : off + j * m = k)
    (rest : Dd Try.prog N w0 id ops Q l lb S O A ((i, d, some (.inl (.pointer (some ⟨b, k, none⟩)))) :: es)) : Dd Try.prog N w0 id ops Q l lb S O A es := x_v ds hi h0 hd hN hds his hg (fun ν _ => k_indexA ho (hx ν) (hy ν) hT hm hq hlt hk) rest
theorem x_build {T : Nat} {parts : Array (Nat × Operand)} {ps : List (Nat × Value)} {zs cs : List Value} {pl : List (Nat × Nat)} (ds : List Nat) (hi : es.length = i) (h0 : ops[i]? = some o) (hd : o.dst = some d) (hN : Nat.blt d N.n = true) (hds : depsB o i ds = true) (his : Nat.beq i S.s = false)
    (hg : ∀ ν, wantsB ops (envD es ν ds ++ lb) o = some true) (ho : o.op = .build T parts) (hps : ∀ ν, evParts (envD es ν ds ++ lb) parts.toList = some ps) (hz : lookT zerL T = some zs) (hpl : lookT plaL T = some pl) (hf : fillL pl zs (ps.map fun p => (p.1, p.2.cells.toList)) = some cs)
    (rest : Dd Try.prog N w0 id ops Q l lb S O A ((i, d, some (.inl (.agg cs.toArray))) :: es)) : Dd Try.prog N w0 id ops Q l lb S O A es := x_v ds hi h0 hd hN hds his hg (fun ν _ => k_build ho (hps ν) hz hpl hf) rest
/-- A load that may come ahead of the store or behind it. -/
theorem x_load1 (j : Nat) {b off Ty : Nat} {T T' : TypeId} {cs cs' : List Value} {x : Operand} {v : Value} (ds : List Nat) (hi : es.length = i) (h0 : ops[i]? = some o) (hd : o.dst = some d) (hN : Nat.blt d N.n = true) (hds : depsB o i ds = true) (his : Nat.beq i S.s = false)
    (hg : ∀ ν, wantsB ops (envD es ν ds ++ lb) o = some true) (ho : o.op = .load Ty x) (ha : nth aggL Ty = some (some false)) (hx : ∀ ν, ev (envD es ν ds ++ lb) x = some (.pointer (some ⟨b, off, none⟩)))
    (hj : ∀ ν, (blkD es ν ds ++ O)[j]? = some (b, cs, T)) (hv : cs[off]? = some v) (hj' : ∀ ν, (blkD es ν ds ++ O.set S.q (S.b, S.cs', S.T))[j]? = some (b, cs', T')) (hv' : cs'[off]? = some v)
    (rest : Dd Try.prog N w0 id ops Q l lb S O A ((i, d, some (.inl v)) :: es)) : Dd Try.prog N w0 id ops Q l lb S O A es :=
  dd_step (e := some (.inl v)) ds hi h0 hd hN hds his (fun _ ν => .inl ⟨hg ν, k_load1 j ho (hx ν) (hj ν) ha hv⟩) (fun _ ν => .inl ⟨hg ν, k_load1 j ho (hx ν) (hj' ν) ha hv'⟩) rest
/-- A load that the store comes behind. -/
theorem x_loadF (j : Nat) {b off Ty : Nat} {T : TypeId} {cs : List Value} {x : Operand} {v : Value} (ds : List Nat) (hi : es.length = i) (h0 : ops[i]? = some o) (hd : o.dst = some d) (hN : Nat.blt d N.n = true) (hds : depsB o i ds = true) (his : Nat.beq i S.s = false) (hm : mayT ops S.s i = false)
    (hg : ∀ ν, wantsB ops (envD es ν ds ++ lb) o = some true) (ho : o.op = .load Ty x) (ha : nth aggL Ty = some (some false)) (hx : ∀ ν, ev (envD es ν ds ++ lb) x = some (.pointer (some ⟨b, off, none⟩)))
    (hj : ∀ ν, (blkD es ν ds ++ O)[j]? = some (b, cs, T)) (hv : cs[off]? = some v)
    (rest : Dd Try.prog N w0 id ops Q l lb S O A ((i, d, some (.inl v)) :: es)) : Dd Try.prog N w0 id ops Q l lb S O A es :=
  dd_step (e := some (.inl v)) ds hi h0 hd hN hds his (fun _ ν => .inl ⟨hg ν, k_load1 j ho (hx ν) (hj ν) ha hv⟩) (fun h => by rw [hm] at h; cases h) rest
theorem x_store (ds : List Nat) (d : Nat) {off Ty n : Nat} {vs : List Value} {x y : Operand} {v : Value} (hi : es.length = i) (ho : ops[i]? = some o) (hd : o.dst = none) (hds : depsB o i ds = true) (his : i = S.s)
    (hg : ∀ ν, wantsB ops (envD es ν ds ++ lb) o = some true) (hop : o.op = .store Ty x y) (hx : ∀ ν, ev (envD es ν ds ++ lb) x = some (.pointer (some ⟨S.b, off, none⟩))) (hy : ∀ ν, ev (envD es ν ds ++ lb) y = some v)
    (hv : v.cells = vs.toArray) (hn : nth sizL Ty = some (some n)) (hl : vs.length = n) (hfit : off + n ≤ S.cs.length) (h1 : flat vs = true) (hcs : S.cs' = setL S.cs off vs) (hq : O[S.q]? = some (S.b, S.cs, S.T))
    (rest : Dd Try.prog N w0 id ops Q l lb S O A ((i, d, none) :: es)) : Dd Try.prog N w0 id ops Q l lb S O A es := dd_store ds hi ho hd hds his hg hop hx hy hv (siz_of hn) hl hfit h1 hcs hq rest
theorem x_end (ds keep : List Nat) (n : Nat) (hl : lb = dropK ds l) (hlen : es.length = n) (hb : backA ops = true) (hle : Nat.ble n ops.size = true) (ht : tailB ops n = true) (hn : nodupB (slots es) = true) (hin : inB (slots es) ds = true)
    (hk : nodupB keep = true) (hkn : allBelow keep n = true) (hq : O[S.q]? = some (S.b, S.cs, S.T)) (hsn : Nat.blt S.s n = true)
    (rest : ∀ ν, OkL Try.prog N w0 ops Q (List.range' n (ops.size - n)) (envD es ν keep ++ lb) (blkD es ν keep ++ O.set S.q (S.b, S.cs', S.T)) A) : Dd Try.prog N w0 id ops Q l lb S O A es :=
  dd_end ds keep n mixed_try hl hlen hb hle ht hn hin hk hkn hq hsn rest
end
end Go.Proofs.Ytdpnadknaacinaa
end

section
namespace Go.Proofs.Ytdpnadknaacinaa
open Go.Sx Go.Proofs.Ytdpnadknaacinaa.Ty
set_option linter.unusedVariables false
set_option maxHeartbeats 2000000


abbrev zC : List Value := [.int .i64 0, .int .i64 0, .int .i64 0, .int .i64 0, .int .i64 0, .int .i64 0, .int .i64 0, .slice none 0 0, .slice none 0 0]
abbrev zV : Value := .agg zC.toArray
abbrev qC : List Value := [.func (.func 126) #[] #[], .int .i64 10, .func (.func 128) #[] #[], .int .i64 11, .func (.func 130) #[] #[], .int .i64 14, .func (.func 132) #[] #[], .int .i64 12, .func (.func 134) #[] #[], .int .i64 8]
def errN : Nat → Int
  | 0 => 10
  | 1 => 11
  | 2 => 14
  | 3 => 12
  | _ => 8
def fnum : Nat → Nat
  | 0 => 126
  | 1 => 128
  | 2 => 130
  | 3 => 132
  | _ => 134
def askN (s : Sp) (q : Ask) : List Int → Int
  | [] => 0
  | m :: ms => if askB s q m.toNat then askN s q ms else errN m.toNat
def beginS (s : Sp) (q : Ask) (more : List Int) : Int := if validB s then askN s q more else 10
structure MoreIn (M : Args) (p : Option Addr) (L : List Int) : Prop where
  rng : ∀ m ∈ L, 1 ≤ m ∧ m ≤ 4
  len : L.length ≤ 1000
  at' : L ≠ [] → ∃ (b j : Nat), p = some ⟨b, 0, none⟩ ∧ M[j]? = some (b, ints L)
theorem askN_drop {s : Sp} {q : Ask} {L : List Int} {k : Nat} {m : Int} (h : L[k]? = some m) : askN s q (L.drop k) = if askB s q m.toNat then askN s q (L.drop (k + 1)) else errN m.toNat := by
  rw [drop_at h]; rfl
theorem ask_any (s : Sp) (M : Args) (hin : s.In M) (q : Ask) (hs0 : OkS s) : ∀ m : Nat, m ≤ 4 → Cn Try.prog (fnum m) [spV s, askV q] M (fun _ : Unit => .bool (askB s q m)) (fun _ => []) (fun _ => True)
  | 0, _ => ask0_fn s M hin q
  | 1, _ => ask1_fn s M hin q hs0
  | 2, _ => ask2_fn s M hin q
  | 3, _ => ask3_fn s M hin q hs0
  | 4, _ => ask4_fn s M hin q hs0
  | m + 5, h => absurd h (by omega)
theorem c_any : ∀ m : Nat, m ≤ 4 → callable Try.prog (fnum m)
  | 0, _ => c126
  | 1, _ => c128
  | 2, _ => c130
  | 3, _ => c132
  | 4, _ => c134
  | m + 5, h => absurd h (by omega)
theorem q_fn : ∀ m : Nat, m ≤ 4 → ∀ n, n = m * 2 → qC[n]? = some (.func (.func (fnum m)) #[] #[])
  | 0, _, _, rfl => rfl
  | 1, _, _, rfl => rfl
  | 2, _, _, rfl => rfl
  | 3, _, _, rfl => rfl
  | 4, _, _, rfl => rfl
  | m + 5, h, _, _ => absurd h (by omega)
theorem q_err : ∀ m : Nat, m ≤ 4 → ∀ n, n = m * 2 + 1 → qC[n]? = some (.int .i64 (errN m))
  | 0, _, _, rfl => rfl
  | 1, _, _, rfl => rfl
  | 2, _, _, rfl => rfl
  | 3, _, _, rfl => rfl
  | 4, _, _, rfl => rfl
  | m + 5, h, _, _ => absurd h (by omega)
theorem errN_ne : ∀ m : Nat, errN m ≠ 0
  | 0 => by decide
  | 1 => by decide
  | 2 => by decide
  | 3 => by decide
  | m + 4 => by simp [errN]

theorem begin_fn (s : Sp) (M : Args) (hin : s.In M) (q : Ask) (mp : Option Addr) (mc : Nat) (more : List Int) (hmore : MoreIn M mp more) : Cn Try.prog 72 [spV s, askV q, .slice mp more.length mc] M (fun _ : Unit => .tuple #[if beginS s q more = 0 then spV s else zV, .int .i64 (beginS s q more)]) (fun _ => []) (fun _ => True) := by
  have hml := hmore.len
  refine fn_intro (N := 48) Try.func72 rfl rfl rfl fun w0 => ?_
  refine okc_seq ?_
  refine okc_region ?_
  refine s_boxA rfl rfl rfl rfl rfl rfl (fun b1 => ?_)
  refine s_boxA rfl rfl rfl rfl rfl rfl (fun b2 => ?_)
  refine s_alloc rfl rfl rfl rfl rfl rfl (fun b3 => ?_)
  refine s_assign rfl rfl rfl rfl rfl rfl ?_
  refine okl_nil ?_
  change OkC Try.prog _ _ _ _ _ _ _
  refine okc_weak (l' := [(0, _), (1, _), (2, _), (3, _), (4, _), (6, _), (7, _)]) ⟨rfl, rfl, rfl, rfl, rfl, rfl, rfl, trivial⟩ ?_
  refine okc_seq ?_
  refine okc_region ?_
  refine s_loadW 2 rfl rfl rfl rfl rfl rfl rfl rfl rfl rfl ?_
  refine s_build rfl rfl rfl rfl rfl rfl rfl rfl rfl ?_
  refine s_alloc rfl rfl rfl rfl rfl rfl (fun b4 => ?_)
  refine k_storeW 0 rfl rfl rfl rfl rfl rfl rfl rfl rfl rfl rfl rfl ?_
  refine okl_nil ?_
  change OkC Try.prog _ _ _ _ _ _ _
  refine okc_weak (l' := [(0, _), (1, _), (2, _), (3, _), (4, _), (6, _), (7, _), (8, _)]) ⟨rfl, rfl, rfl, rfl, rfl, rfl, rfl, rfl, trivial⟩ ?_
  refine okc_seq ?_
  refine okc_region ?_
  refine s_callv rfl rfl rfl rfl rfl rfl rfl c109 (questions_fn) covers_nil ?_
  refine s_alloc rfl rfl rfl rfl rfl rfl (fun b5 => ?_)
  refine k_storeW 0 rfl rfl rfl rfl rfl rfl rfl rfl rfl rfl rfl rfl ?_
  refine okl_nil ?_
  change OkC Try.prog _ _ _ _ _ _ _
  refine okc_weak (l' := [(0, _), (1, _), (2, _), (3, _), (4, _), (6, _), (7, _), (8, _), (9, _)]) ⟨rfl, rfl, rfl, rfl, rfl, rfl, rfl, rfl, rfl, trivial⟩ ?_
  refine okc_seq ?_
  refine okc_seq ?_
  refine okc_region ?_
  refine s_indexA 0 rfl rfl rfl rfl rfl rfl rfl rfl rfl rfl (by omega) rfl ?_
  refine s_loadP2 0 rfl rfl rfl rfl rfl rfl rfl rfl rfl rfl rfl ?_
  refine s_alloc rfl rfl rfl rfl rfl rfl (fun b6 => ?_)
  refine k_storeW 0 rfl rfl rfl rfl rfl rfl rfl rfl rfl rfl rfl rfl ?_
  refine okl_nil ?_
  change OkC Try.prog _ _ _ _ _ _ _
  refine okc_weak (l' := [(0, _), (1, _), (2, _), (3, _), (4, _), (6, _), (7, _), (8, _), (9, _), (10, _)]) ⟨rfl, rfl, rfl, rfl, rfl, rfl, rfl, rfl, rfl, rfl, trivial⟩ ?_
  refine okc_seq ?_
  refine okc_region ?_
  refine s_field rfl rfl rfl rfl rfl rfl rfl rfl ?_
  refine s_load1 0 rfl rfl rfl rfl rfl rfl rfl rfl rfl ?_
  refine s_loadW 2 rfl rfl rfl rfl rfl rfl rfl rfl rfl rfl ?_
  refine s_loadW 4 rfl rfl rfl rfl rfl rfl rfl rfl rfl rfl ?_
  refine s_callb rfl rfl rfl rfl rfl rfl rfl c126 (ask0_fn s M hin q) covers_all (fun h7 => ?_) (fun h7 => ?_)
  · have hv : validB s = true := by simpa [askB] using h7
    have hs0 := ok_of_valid hv
    refine s_not rfl rfl rfl rfl rfl rfl ?_
    refine okl_nil ?_
    change OkC Try.prog _ _ _ _ _ _ _
    refine okc_weak (l' := [(0, _), (1, _), (2, _), (3, _), (4, _), (6, _), (7, _), (8, _), (9, _), (10, _), (24, _)]) ⟨rfl, rfl, rfl, rfl, rfl, rfl, rfl, rfl, rfl, rfl, rfl, trivial⟩ ?_
    refine okc_cond_f rfl ?_
    refine okc_skip ?_
    change OkC Try.prog _ _ _ _ _ _ _
    refine okc_weak (l' := [(0, _), (1, _), (2, _), (3, _), (4, _), (6, _), (7, _), (8, _), (9, _), (10, _), (24, _)]) ⟨rfl, rfl, rfl, rfl, rfl, rfl, rfl, rfl, rfl, rfl, rfl, trivial⟩ ?_
    refine okc_seq ?_
    refine okc_seq ?_
    refine okc_region ?_
    refine s_move rfl rfl rfl rfl rfl rfl ?_
    refine s_len rfl rfl rfl rfl rfl rfl rfl ?_
    refine s_move rfl rfl rfl rfl rfl rfl ?_
    refine okl_nil ?_
    change OkC Try.prog _ _ _ _ _ _ _
    refine okc_weak (l' := [(0, _), (1, _), (2, _), (3, _), (4, _), (6, _), (7, _), (8, _), (9, _), (10, _), (24, _), (28, _), (29, _), (30, _)]) ⟨rfl, rfl, rfl, rfl, rfl, rfl, rfl, rfl, rfl, rfl, rfl, rfl, rfl, rfl, trivial⟩ ?_
    refine okc_block ?_
    refine okc_loop (γ := Nat) (fun k => [(4, .pointer (some ⟨b2, 0, none⟩)), (6, .pointer (some ⟨b3, 0, none⟩)), (8, .pointer (some ⟨b4, 0, none⟩)), (9, .pointer (some ⟨b5, 0, none⟩)), (28, .slice mp more.length mc), (29, .int .i64 more.length), (30, .int .i64 k)]) (fun _ => [(b5, qC, 163), (b4, [.int .i64 s.weeks, .int .i64 s.most, .int .i64 s.fall, .int .i64 s.slo, .int .i64 s.shi, .int .i64 s.wlo, .int .i64 s.whi, .slice s.bp s.book.length s.bc, .slice s.rp s.reads.length s.rc], 114), (b3, zC, 114), (b2, [.int .i64 q.week, .int .i64 q.bucket, .int .i64 q.x.number, .int .i64 q.x.week, .int .i64 q.x.bucket, .int .i64 q.x.lo, .int .i64 q.x.hi], 118)]) (fun k => k ≤ more.length ∧ askN s q more = askN s q (more.drop k)) (fun k => more.length - k) 0 ⟨Nat.zero_le _, rfl⟩ (fun a w hs => hs.weak ⟨rfl, rfl, rfl, rfl, rfl, rfl, rfl, trivial⟩ [1, 2, 3, 4] (by simp) (by rfl)) ?_
    rintro k ⟨hk, hall⟩
    refine okc_seq ?_
    refine okc_region ?_
    refine s_cmpS rfl rfl rfl rfl rfl rfl rfl rfl (fun h8 => ?_) (fun h8 => ?_)
    · have hlt : k < more.length := by simpa using h8
      obtain ⟨m, hx⟩ : ∃ m, more[k]? = some m := ⟨more[k], by simp [hlt]⟩
      obtain ⟨bQ, jQ, hpQ, hjQ⟩ := hmore.at' (by intro e; simp [e] at hlt)
      have hcell : (ints more)[0 + k * 1]? = some (.int .i64 m) := ints_at hx _ (by omega)
      have hm14 := hmore.rng m (List.mem_of_getElem? hx)
      have hm4 : m.toNat ≤ 4 := by omega
      have cQ := c_any m.toNat hm4
      have hask := ask_any s M hin q hs0 m.toNat hm4
      have g1 := q_fn m.toNat hm4 (0 + m.toNat * 2) (by omega)
      have g2 := q_err m.toNat hm4 (0 + m.toNat * 2 + 1) (by omega)
      refine okl_nil ?_
      change OkC Try.prog _ _ _ _ _ _ _
      refine okc_weak (l' := [(4, _), (6, _), (8, _), (9, _), (28, _), (29, _), (30, _), (31, _)]) ⟨rfl, rfl, rfl, rfl, rfl, rfl, rfl, rfl, trivial⟩ ?_
      refine okc_seq ?_
      refine okc_cond_t rfl ?_
      refine okc_skip ?_
      change OkC Try.prog _ _ _ _ _ _ _
      refine okc_weak (l' := [(4, _), (6, _), (8, _), (9, _), (28, _), (29, _), (30, _), (31, _)]) ⟨rfl, rfl, rfl, rfl, rfl, rfl, rfl, rfl, trivial⟩ ?_
      refine okc_seq ?_
      refine okc_block ?_
      refine okc_seq ?_
      refine okc_region ?_
      refine s_indexP k hpQ rfl rfl rfl rfl rfl rfl rfl rfl rfl rfl (by omega) rfl ?_
      refine s_loadA1 jQ rfl rfl rfl rfl rfl rfl rfl hjQ (by assumption) ?_
      refine s_assign rfl rfl rfl rfl rfl rfl ?_
      refine okl_nil ?_
      change OkC Try.prog _ _ _ _ _ _ _
      refine okc_weak (l' := [(4, _), (6, _), (8, _), (9, _), (12, _), (28, _), (29, _), (30, _), (31, _)]) ⟨rfl, rfl, rfl, rfl, rfl, rfl, rfl, rfl, rfl, trivial⟩ ?_
      refine okc_seq ?_
      refine okc_region ?_
      refine s_move rfl rfl rfl rfl rfl rfl ?_
      refine s_indexA m.toNat rfl rfl rfl rfl rfl rfl rfl rfl rfl (by first | rfl | omega) (by omega) rfl ?_
      refine s_loadP2 0 rfl rfl rfl rfl rfl rfl rfl rfl rfl (by assumption) (by assumption) ?_
      refine s_alloc rfl rfl rfl rfl rfl rfl (fun b9 => ?_)
      refine k_storeW 0 rfl rfl rfl rfl rfl rfl rfl rfl rfl rfl rfl rfl ?_
      refine okl_nil ?_
      change OkC Try.prog _ _ _ _ _ _ _
      refine okc_weak (l' := [(4, _), (6, _), (8, _), (9, _), (12, _), (13, _), (28, _), (29, _), (30, _), (31, _)]) ⟨rfl, rfl, rfl, rfl, rfl, rfl, rfl, rfl, rfl, rfl, trivial⟩ ?_
      refine okc_seq ?_
      refine okc_region ?_
      refine s_field rfl rfl rfl rfl rfl rfl rfl rfl ?_
      refine s_load1 0 rfl rfl rfl rfl rfl rfl rfl rfl rfl ?_
      refine s_loadW 2 rfl rfl rfl rfl rfl rfl rfl rfl rfl rfl ?_
      refine s_loadW 4 rfl rfl rfl rfl rfl rfl rfl rfl rfl rfl ?_
      refine s_callb rfl rfl rfl rfl rfl rfl rfl cQ (hask) covers_all (fun h10 => ?_) (fun h10 => ?_)
      · have hyes : askB s q m.toNat = true := by simpa using h10
        refine s_not rfl rfl rfl rfl rfl rfl ?_
        refine okl_nil ?_
        change OkC Try.prog _ _ _ _ _ _ _
        refine okc_weak (l' := [(4, _), (6, _), (8, _), (9, _), (12, _), (13, _), (28, _), (29, _), (30, _), (31, _), (42, _)]) ⟨rfl, rfl, rfl, rfl, rfl, rfl, rfl, rfl, rfl, rfl, rfl, trivial⟩ ?_
        refine okc_cond_f rfl ?_
        refine okc_skip ?_
        change OkC Try.prog _ _ _ _ _ _ _
        refine okc_weak (l' := [(4, _), (6, _), (8, _), (9, _), (12, _), (13, _), (28, _), (29, _), (30, _), (31, _), (42, _)]) ⟨rfl, rfl, rfl, rfl, rfl, rfl, rfl, rfl, rfl, rfl, rfl, trivial⟩ ?_
        refine okc_region ?_
        refine s_add rfl rfl rfl rfl rfl rfl rfl (by omega) ?_
        refine s_move rfl rfl rfl rfl rfl rfl ?_
        refine okl_nil ?_
        exact fun a w hs => ⟨k + 1, ⟨by omega, by rw [hall, askN_drop hx, if_pos hyes]⟩, by omega, hs.weak ⟨rfl, rfl, rfl, rfl, rfl, rfl, rfl, trivial⟩ [1, 2, 3, 4] (by simp) (by rfl)⟩
      · have hno : askB s q m.toNat = false := by simpa using h10
        have hfin : askN s q more = errN m.toNat := by rw [hall, askN_drop hx, if_neg (by simp [hno])]
        refine s_not rfl rfl rfl rfl rfl rfl ?_
        refine okl_nil ?_
        change OkC Try.prog _ _ _ _ _ _ _
        refine okc_weak (l' := [(4, _), (6, _), (8, _), (9, _), (12, _), (13, _), (28, _), (29, _), (30, _), (31, _), (42, _)]) ⟨rfl, rfl, rfl, rfl, rfl, rfl, rfl, rfl, rfl, rfl, rfl, trivial⟩ ?_
        refine okc_cond_t rfl ?_
        refine okc_seq ?_
        refine dd_start [43, 44, 45, 7, 9999] ⟨3, 3, b3, zC, zC, 114⟩ ?_
        refine x_build [] rfl rfl rfl rfl rfl rfl (fun ν => rfl) rfl (fun ν => rfl) rfl rfl rfl ?_
        refine x_field [] rfl rfl rfl rfl rfl rfl (fun ν => rfl) rfl (fun ν => rfl) rfl rfl ?_
        refine x_load1 0 [1] rfl rfl rfl rfl rfl rfl (fun ν => rfl) rfl rfl (fun ν => rfl) (fun ν => rfl) rfl (fun ν => rfl) rfl ?_
        refine x_store [0] 9999 rfl rfl rfl rfl rfl (fun ν => rfl) rfl (fun ν => rfl) (fun ν => rfl) rfl rfl rfl (Nat.le_of_ble_eq_true rfl) rfl rfl rfl ?_
        refine x_end [43, 44, 45, 7, 9999] [2] 4 rfl rfl rfl rfl rfl rfl rfl rfl rfl rfl rfl (fun ν => ?_)
        refine s_assign rfl rfl rfl rfl rfl rfl ?_
        refine okl_nil ?_
        change OkC Try.prog _ _ _ _ _ _ _
        refine okc_weak (l' := [(4, _), (6, _), (7, _), (8, _), (9, _), (12, _), (13, _), (28, _), (29, _), (30, _), (31, _), (42, _)]) ⟨rfl, rfl, rfl, rfl, rfl, rfl, rfl, rfl, rfl, rfl, rfl, rfl, trivial⟩ ?_
        refine okc_ret fun a w hs => ?_
        exact ret_v hs (run_results2 hs rfl (k_ragg 3 rfl rfl rfl rfl rfl) (rv_tmp rfl)) (by clear hs; first | (simp [beginS, hv]; done) | (simp [beginS, hv, hfin, errN_ne]; done) | (simp [beginS, hv, hfin]))
    · have hge : ¬ k < more.length := by simpa using h8
      have hfin : askN s q more = 0 := by rw [hall, List.drop_of_length_le (by omega)]; rfl
      refine okl_nil ?_
      change OkC Try.prog _ _ _ _ _ _ _
      refine okc_weak (l' := [(4, _), (6, _), (8, _), (9, _), (28, _), (29, _), (30, _), (31, _)]) ⟨rfl, rfl, rfl, rfl, rfl, rfl, rfl, rfl, trivial⟩ ?_
      refine okc_seq ?_
      refine okc_cond_f rfl ?_
      refine okc_exit ?_
      change OkC Try.prog _ _ _ _ _ _ _
      refine okc_weak (l' := [(4, _), (6, _), (8, _), (9, _), (28, _), (29, _), (30, _), (31, _)]) ⟨rfl, rfl, rfl, rfl, rfl, rfl, rfl, rfl, trivial⟩ ?_
      refine okc_seq ?_
      refine okc_region ?_
      refine s_loadW 1 rfl rfl rfl rfl rfl rfl rfl rfl rfl rfl ?_
      refine k_storeW 2 rfl rfl rfl rfl rfl rfl rfl rfl rfl rfl rfl rfl ?_
      refine s_assign rfl rfl rfl rfl rfl rfl ?_
      refine okl_nil ?_
      change OkC Try.prog _ _ _ _ _ _ _
      refine okc_weak (l' := [(4, _), (6, _), (7, _), (8, _), (9, _), (28, _), (29, _), (30, _), (31, _)]) ⟨rfl, rfl, rfl, rfl, rfl, rfl, rfl, rfl, rfl, trivial⟩ ?_
      refine okc_ret fun a w hs => ?_
      exact ret_v hs (run_results2 hs rfl (k_ragg 2 rfl rfl rfl rfl rfl) (rv_tmp rfl)) (by clear hs; first | (simp [beginS, hv]; done) | (simp [beginS, hv, hfin, errN_ne]; done) | (simp [beginS, hv, hfin]))
  · have hv : validB s = false := by simpa [askB] using h7
    refine s_not rfl rfl rfl rfl rfl rfl ?_
    refine okl_nil ?_
    change OkC Try.prog _ _ _ _ _ _ _
    refine okc_weak (l' := [(0, _), (1, _), (2, _), (3, _), (4, _), (6, _), (7, _), (8, _), (9, _), (10, _), (24, _)]) ⟨rfl, rfl, rfl, rfl, rfl, rfl, rfl, rfl, rfl, rfl, rfl, trivial⟩ ?_
    refine okc_cond_t rfl ?_
    refine okc_seq ?_
    refine dd_start [25, 26, 27, 7, 9999] ⟨3, 3, b3, zC, zC, 114⟩ ?_
    refine x_build [] rfl rfl rfl rfl rfl rfl (fun ν => rfl) rfl (fun ν => rfl) rfl rfl rfl ?_
    refine x_field [] rfl rfl rfl rfl rfl rfl (fun ν => rfl) rfl (fun ν => rfl) rfl rfl ?_
    refine x_load1 0 [1] rfl rfl rfl rfl rfl rfl (fun ν => rfl) rfl rfl (fun ν => rfl) (fun ν => rfl) rfl (fun ν => rfl) rfl ?_
    refine x_store [0] 9999 rfl rfl rfl rfl rfl (fun ν => rfl) rfl (fun ν => rfl) (fun ν => rfl) rfl rfl rfl (Nat.le_of_ble_eq_true rfl) rfl rfl rfl ?_
    refine x_end [25, 26, 27, 7, 9999] [2] 4 rfl rfl rfl rfl rfl rfl rfl rfl rfl rfl rfl (fun ν => ?_)
    refine s_assign rfl rfl rfl rfl rfl rfl ?_
    refine okl_nil ?_
    change OkC Try.prog _ _ _ _ _ _ _
    refine okc_weak (l' := [(0, _), (1, _), (2, _), (3, _), (4, _), (6, _), (7, _), (8, _), (9, _), (10, _), (24, _)]) ⟨rfl, rfl, rfl, rfl, rfl, rfl, rfl, rfl, rfl, rfl, rfl, trivial⟩ ?_
    refine okc_ret fun a w hs => ?_
    exact ret_v hs (run_results2 hs rfl (k_ragg 3 rfl rfl rfl rfl rfl) (rv_tmp rfl)) (by clear hs; first | (simp [beginS, hv]; done) | (simp [beginS, hv, hfin, errN_ne]; done) | (simp [beginS, hv, hfin]))

end Go.Proofs.Ytdpnadknaacinaa
end

section
namespace Go.Proofs.Ytdpnadknaacinaa
open Go.Sx Go.Proofs.Ytdpnadknaacinaa.Ty
set_option linter.unusedVariables false
set_option maxHeartbeats 2000000


theorem moreNil (M : Args) : MoreIn M none [] := ⟨by simp, by simp, by simp⟩
theorem begin_ok {s : Sp} {M : Args} (hin : s.In M) {q : Ask} {mp : Option Addr} {mc : Nat} {more : List Int} (hmore : MoreIn M mp more) (hb : beginS s q more = 0) :
    Cn Try.prog 72 [spV s, askV q, .slice mp more.length mc] M (fun _ : Unit => .tuple #[spV s, .int .i64 0]) (fun _ => []) (fun _ => True) := by
  have := begin_fn s M hin q mp mc more hmore
  rw [if_pos hb, hb] at this
  exact this
theorem begin_no {s : Sp} {M : Args} (hin : s.In M) {q : Ask} {mp : Option Addr} {mc : Nat} {more : List Int} (hmore : MoreIn M mp more) (hb : ¬ beginS s q more = 0) :
    Cn Try.prog 72 [spV s, askV q, .slice mp more.length mc] M (fun _ : Unit => .tuple #[zV, .int .i64 (beginS s q more)]) (fun _ => []) (fun _ => True) := by
  have := begin_fn s M hin q mp mc more hmore
  rw [if_neg hb] at this
  exact this
def qz : Ask := ⟨0, 0, ⟨0, 0, 0, 0, 0⟩⟩
theorem begin_valid {s : Sp} {q : Ask} {more : List Int} (h : beginS s q more = 0) : validB s = true := by
  cases hv : validB s with
  | true => rfl
  | false => simp [beginS, hv] at h

theorem Check_ok (s : Sp) (M : Args) (hin : s.In M) (hb : beginS s qz [] = 0) : Cn Try.prog 26 [spV s] M (fun _ : Unit => .int .i64 0) (fun _ => []) (fun _ => True) := by
  have hs0 := ok_of_valid (begin_valid hb)
  refine fn_intro (N := 12) Try.func26 rfl rfl rfl fun w0 => ?_
  refine okc_seq ?_
  refine okc_region ?_
  refine s_boxA rfl rfl rfl rfl rfl rfl (fun b1 => ?_)
  refine s_assign rfl rfl rfl rfl rfl rfl ?_
  refine okl_nil ?_
  change OkC Try.prog _ _ _ _ _ _ _
  refine okc_weak (l' := [(0, _), (1, _), (2, _)]) ⟨rfl, rfl, rfl, trivial⟩ ?_
  refine okc_seq ?_
  refine okc_region ?_
  refine s_loadW 0 rfl rfl rfl rfl rfl rfl rfl rfl rfl rfl ?_
  refine s_build rfl rfl rfl rfl rfl rfl rfl rfl rfl ?_
  refine s_callv rfl rfl rfl rfl rfl rfl rfl c72 (begin_ok (M := M) (q := qz) (more := []) hin (moreNil M) hb) covers_all ?_
  refine s_move rfl rfl rfl rfl rfl rfl ?_
  refine s_extract rfl rfl rfl rfl rfl rfl rfl ?_
  refine s_extract rfl rfl rfl rfl rfl rfl rfl ?_
  refine s_alloc rfl rfl rfl rfl rfl rfl (fun b2 => ?_)
  refine k_storeW 0 rfl rfl rfl rfl rfl rfl rfl rfl rfl rfl rfl rfl ?_
  try dsimp only [List.set_cons_zero, List.set_cons_succ, setL]
  refine s_assign rfl rfl rfl rfl rfl rfl ?_
  refine okl_nil ?_
  change OkC Try.prog _ _ _ _ _ _ _
  refine okc_weak (l' := [(0, _), (1, _), (2, _), (4, _)]) ⟨rfl, rfl, rfl, rfl, trivial⟩ ?_
  refine okc_seq ?_
  refine okc_region ?_
  refine s_move rfl rfl rfl rfl rfl rfl ?_
  refine s_assign rfl rfl rfl rfl rfl rfl ?_
  refine okl_nil ?_
  change OkC Try.prog _ _ _ _ _ _ _
  refine okc_weak (l' := [(0, _), (1, _), (2, _), (4, _)]) ⟨rfl, rfl, rfl, rfl, trivial⟩ ?_
  refine okc_ret fun a w hs => ?_
  exact ret_v hs (run_results1 hs rfl (rv_tmp rfl)) (by clear hs; simp_all)

theorem Check_no (s : Sp) (M : Args) (hin : s.In M) (hb : ¬ beginS s qz [] = 0) : Cn Try.prog 26 [spV s] M (fun _ : Unit => .int .i64 (beginS s qz [])) (fun _ => []) (fun _ => True) := by
  refine fn_intro (N := 12) Try.func26 rfl rfl rfl fun w0 => ?_
  refine okc_seq ?_
  refine okc_region ?_
  refine s_boxA rfl rfl rfl rfl rfl rfl (fun b3 => ?_)
  refine s_assign rfl rfl rfl rfl rfl rfl ?_
  refine okl_nil ?_
  change OkC Try.prog _ _ _ _ _ _ _
  refine okc_weak (l' := [(0, _), (1, _), (2, _)]) ⟨rfl, rfl, rfl, trivial⟩ ?_
  refine okc_seq ?_
  refine okc_region ?_
  refine s_loadW 0 rfl rfl rfl rfl rfl rfl rfl rfl rfl rfl ?_
  refine s_build rfl rfl rfl rfl rfl rfl rfl rfl rfl ?_
  refine s_callv rfl rfl rfl rfl rfl rfl rfl c72 (begin_no (M := M) (q := qz) (more := []) hin (moreNil M) hb) covers_all ?_
  refine s_move rfl rfl rfl rfl rfl rfl ?_
  refine s_extract rfl rfl rfl rfl rfl rfl rfl ?_
  refine s_extract rfl rfl rfl rfl rfl rfl rfl ?_
  refine s_alloc rfl rfl rfl rfl rfl rfl (fun b4 => ?_)
  refine k_storeW 0 rfl rfl rfl rfl rfl rfl rfl rfl rfl rfl rfl rfl ?_
  try dsimp only [List.set_cons_zero, List.set_cons_succ, setL]
  refine s_assign rfl rfl rfl rfl rfl rfl ?_
  refine okl_nil ?_
  change OkC Try.prog _ _ _ _ _ _ _
  refine okc_weak (l' := [(0, _), (1, _), (2, _), (4, _)]) ⟨rfl, rfl, rfl, rfl, trivial⟩ ?_
  refine okc_seq ?_
  refine okc_region ?_
  refine s_move rfl rfl rfl rfl rfl rfl ?_
  refine s_assign rfl rfl rfl rfl rfl rfl ?_
  refine okl_nil ?_
  change OkC Try.prog _ _ _ _ _ _ _
  refine okc_weak (l' := [(0, _), (1, _), (2, _), (4, _)]) ⟨rfl, rfl, rfl, rfl, trivial⟩ ?_
  refine okc_ret fun a w hs => ?_
  exact ret_v hs (run_results1 hs rfl (rv_tmp rfl)) (by clear hs; simp_all)

theorem Can_ok (s : Sp) (M : Args) (hin : s.In M) (hb : beginS s qz [] = 0) : Cn Try.prog 18 [spV s] M (fun _ : Unit => .tuple #[.bool (canS s), .int .i64 0]) (fun _ => []) (fun _ => True) := by
  have hs0 := ok_of_valid (begin_valid hb)
  refine fn_intro (N := 17) Try.func18 rfl rfl rfl fun w0 => ?_
  refine okc_seq ?_
  refine okc_region ?_
  refine s_boxA rfl rfl rfl rfl rfl rfl (fun b5 => ?_)
  refine s_assign rfl rfl rfl rfl rfl rfl ?_
  refine s_assign rfl rfl rfl rfl rfl rfl ?_
  refine okl_nil ?_
  change OkC Try.prog _ _ _ _ _ _ _
  refine okc_weak (l' := [(0, _), (1, _), (2, _), (3, _)]) ⟨rfl, rfl, rfl, rfl, trivial⟩ ?_
  refine okc_seq ?_
  refine okc_region ?_
  refine s_loadW 0 rfl rfl rfl rfl rfl rfl rfl rfl rfl rfl ?_
  refine s_build rfl rfl rfl rfl rfl rfl rfl rfl rfl ?_
  refine s_callv rfl rfl rfl rfl rfl rfl rfl c72 (begin_ok (M := M) (q := qz) (more := []) hin (moreNil M) hb) covers_all ?_
  refine s_move rfl rfl rfl rfl rfl rfl ?_
  refine s_extract rfl rfl rfl rfl rfl rfl rfl ?_
  refine s_extract rfl rfl rfl rfl rfl rfl rfl ?_
  refine s_alloc rfl rfl rfl rfl rfl rfl (fun b6 => ?_)
  refine k_storeW 0 rfl rfl rfl rfl rfl rfl rfl rfl rfl rfl rfl rfl ?_
  try dsimp only [List.set_cons_zero, List.set_cons_succ, setL]
  refine s_assign rfl rfl rfl rfl rfl rfl ?_
  refine okl_nil ?_
  change OkC Try.prog _ _ _ _ _ _ _
  refine okc_weak (l' := [(0, _), (1, _), (2, _), (3, _), (4, _), (5, _)]) ⟨rfl, rfl, rfl, rfl, rfl, rfl, trivial⟩ ?_
  refine okc_seq ?_
  refine okc_seq ?_
  refine okc_region ?_
  refine s_move rfl rfl rfl rfl rfl rfl ?_
  refine s_cmpS rfl rfl rfl rfl rfl rfl rfl rfl (fun h7 => ?_) (fun h7 => ?_)
  · exact absurd h7 (by decide) --closed
  · refine okl_nil ?_
    change OkC Try.prog _ _ _ _ _ _ _
    refine okc_weak (l' := [(0, _), (1, _), (2, _), (3, _), (4, _), (5, _), (13, _)]) ⟨rfl, rfl, rfl, rfl, rfl, rfl, rfl, trivial⟩ ?_
    refine okc_cond_f rfl ?_
    refine okc_skip ?_
    change OkC Try.prog _ _ _ _ _ _ _
    refine okc_weak (l' := [(0, _), (1, _), (2, _), (3, _), (4, _), (5, _), (13, _)]) ⟨rfl, rfl, rfl, rfl, rfl, rfl, rfl, trivial⟩ ?_
    refine okc_seq ?_
    refine okc_region ?_
    refine s_loadW 0 rfl rfl rfl rfl rfl rfl rfl rfl rfl rfl ?_
    refine s_callv rfl rfl rfl rfl rfl rfl rfl c73 (can_fn s M hin (by assumption)) covers_all ?_
    refine s_assign rfl rfl rfl rfl rfl rfl ?_
    refine s_assign rfl rfl rfl rfl rfl rfl ?_
    refine okl_nil ?_
    change OkC Try.prog _ _ _ _ _ _ _
    refine okc_weak (l' := [(0, _), (1, _), (2, _), (3, _), (4, _), (5, _), (13, _)]) ⟨rfl, rfl, rfl, rfl, rfl, rfl, rfl, trivial⟩ ?_
    refine okc_ret fun a w hs => ?_
    exact ret_v hs (run_results2 hs rfl (rv_tmp rfl) (rv_tmp rfl)) (by clear hs; simp_all)

theorem Can_no (s : Sp) (M : Args) (hin : s.In M) (hb : ¬ beginS s qz [] = 0) : Cn Try.prog 18 [spV s] M (fun _ : Unit => .tuple #[.bool false, .int .i64 (beginS s qz [])]) (fun _ => []) (fun _ => True) := by
  refine fn_intro (N := 17) Try.func18 rfl rfl rfl fun w0 => ?_
  refine okc_seq ?_
  refine okc_region ?_
  refine s_boxA rfl rfl rfl rfl rfl rfl (fun b8 => ?_)
  refine s_assign rfl rfl rfl rfl rfl rfl ?_
  refine s_assign rfl rfl rfl rfl rfl rfl ?_
  refine okl_nil ?_
  change OkC Try.prog _ _ _ _ _ _ _
  refine okc_weak (l' := [(0, _), (1, _), (2, _), (3, _)]) ⟨rfl, rfl, rfl, rfl, trivial⟩ ?_
  refine okc_seq ?_
  refine okc_region ?_
  refine s_loadW 0 rfl rfl rfl rfl rfl rfl rfl rfl rfl rfl ?_
  refine s_build rfl rfl rfl rfl rfl rfl rfl rfl rfl ?_
  refine s_callv rfl rfl rfl rfl rfl rfl rfl c72 (begin_no (M := M) (q := qz) (more := []) hin (moreNil M) hb) covers_all ?_
  refine s_move rfl rfl rfl rfl rfl rfl ?_
  refine s_extract rfl rfl rfl rfl rfl rfl rfl ?_
  refine s_extract rfl rfl rfl rfl rfl rfl rfl ?_
  refine s_alloc rfl rfl rfl rfl rfl rfl (fun b9 => ?_)
  refine k_storeW 0 rfl rfl rfl rfl rfl rfl rfl rfl rfl rfl rfl rfl ?_
  try dsimp only [List.set_cons_zero, List.set_cons_succ, setL]
  refine s_assign rfl rfl rfl rfl rfl rfl ?_
  refine okl_nil ?_
  change OkC Try.prog _ _ _ _ _ _ _
  refine okc_weak (l' := [(0, _), (1, _), (2, _), (3, _), (4, _), (5, _)]) ⟨rfl, rfl, rfl, rfl, rfl, rfl, trivial⟩ ?_
  refine okc_seq ?_
  refine okc_seq ?_
  refine okc_region ?_
  refine s_move rfl rfl rfl rfl rfl rfl ?_
  refine s_cmpS rfl rfl rfl rfl rfl rfl rfl rfl (fun h10 => ?_) (fun h10 => ?_)
  · refine okl_nil ?_
    change OkC Try.prog _ _ _ _ _ _ _
    refine okc_weak (l' := [(0, _), (1, _), (2, _), (3, _), (4, _), (5, _), (13, _)]) ⟨rfl, rfl, rfl, rfl, rfl, rfl, rfl, trivial⟩ ?_
    refine okc_cond_t rfl ?_
    refine okc_seq ?_
    refine okc_region ?_
    refine s_move rfl rfl rfl rfl rfl rfl ?_
    refine s_assign rfl rfl rfl rfl rfl rfl ?_
    refine s_assign rfl rfl rfl rfl rfl rfl ?_
    refine okl_nil ?_
    change OkC Try.prog _ _ _ _ _ _ _
    refine okc_weak (l' := [(0, _), (1, _), (2, _), (3, _), (4, _), (5, _), (13, _)]) ⟨rfl, rfl, rfl, rfl, rfl, rfl, rfl, trivial⟩ ?_
    refine okc_ret fun a w hs => ?_
    exact ret_v hs (run_results2 hs rfl (rv_tmp rfl) (rv_tmp rfl)) (by clear hs; simp_all)
  · exact absurd h10 (by simp [hb]) --closed

end Go.Proofs.Ytdpnadknaacinaa
end

section
namespace Go.Proofs.Ytdpnadknaacinaa
open Go.Sx Go.Proofs.Ytdpnadknaacinaa.Ty
set_option linter.unusedVariables false
set_option maxHeartbeats 2000000


/-- Is the reading right, if the spring gives g? -/
def rightB (s : Sp) (x : Rd) (g : Int) : Bool := decide (0 < g) && decide (x.lo * s.slo * g ≤ 3600 * x.bucket) && decide (3600 * x.bucket ≤ x.hi * s.shi * g)

theorem right_fn0 (s : Sp) (x : Rd) (g : Int) (hp1 : 0 ≤ x.hi * s.shi ∧ x.hi * s.shi ≤ 99 * 600) (hp3 : 0 ≤ x.lo * s.slo ∧ x.lo * s.slo ≤ 99 * 600) (hp4 : 0 < g → 0 ≤ x.lo * s.slo * g ∧ x.lo * s.slo * g ≤ 99 * 600 * 1000) (hp5 : 0 < g → 0 ≤ x.hi * s.shi * g ∧ x.hi * s.shi * g ≤ 99 * 600 * 1000) (b1 : 1 ≤ x.bucket) (b2 : x.bucket ≤ 40) : Cn Try.prog 92 [spV s, rdV x, .int .i64 g] [] (fun _ : Unit => .bool (rightB s x g)) (fun _ => []) (fun _ => True) := by
  refine fn_intro (N := 39) Try.func92 rfl rfl rfl fun w0 => ?_
  refine okc_seq ?_
  refine okc_region ?_
  refine s_boxA rfl rfl rfl rfl rfl rfl (fun b1 => ?_)
  refine s_boxA rfl rfl rfl rfl rfl rfl (fun b2 => ?_)
  refine s_assign rfl rfl rfl rfl rfl rfl ?_
  refine okl_nil ?_
  change OkC Try.prog _ _ _ _ _ _ _
  refine okc_weak (l' := [(0, _), (1, _), (2, _), (3, _), (4, _), (6, _)]) ⟨rfl, rfl, rfl, rfl, rfl, rfl, trivial⟩ ?_
  refine okc_seq ?_
  refine okc_region ?_
  refine s_move rfl rfl rfl rfl rfl rfl ?_
  refine s_cmpS rfl rfl rfl rfl rfl rfl rfl rfl (fun h3 => ?_) (fun h3 => ?_)
  · have hpos : 0 < g := by simpa using h3
    have hq4 := hp4 hpos
    have hq5 := hp5 hpos
    refine s_move rfl rfl rfl rfl rfl rfl ?_
    refine s_field rfl rfl rfl rfl rfl rfl rfl rfl ?_
    refine s_field rfl rfl rfl rfl rfl rfl rfl rfl ?_
    refine s_load1 0 rfl rfl rfl rfl rfl rfl rfl rfl rfl ?_
    refine s_field rfl rfl rfl rfl rfl rfl rfl rfl ?_
    refine s_field rfl rfl rfl rfl rfl rfl rfl rfl ?_
    refine s_load1 1 rfl rfl rfl rfl rfl rfl rfl rfl rfl ?_
    refine s_mul rfl rfl rfl rfl rfl rfl rfl (by omega) ?_
    refine s_move rfl rfl rfl rfl rfl rfl ?_
    refine s_mul rfl rfl rfl rfl rfl rfl rfl (by omega) ?_
    refine s_field rfl rfl rfl rfl rfl rfl rfl rfl ?_
    refine s_load1 0 rfl rfl rfl rfl rfl rfl rfl rfl rfl ?_
    refine s_mul rfl rfl rfl rfl rfl rfl rfl (by omega) ?_
    refine s_cmpS rfl rfl rfl rfl rfl rfl rfl rfl (fun h4 => ?_) (fun h4 => ?_)
    · refine s_pick_t rfl rfl rfl rfl rfl rfl rfl ?_
      refine s_move rfl rfl rfl rfl rfl rfl ?_
      refine s_field rfl rfl rfl rfl rfl rfl rfl rfl ?_
      refine s_load1 0 rfl rfl rfl rfl rfl rfl rfl rfl rfl ?_
      refine s_mul rfl rfl rfl rfl rfl rfl rfl (by omega) ?_
      refine s_field rfl rfl rfl rfl rfl rfl rfl rfl ?_
      refine s_field rfl rfl rfl rfl rfl rfl rfl rfl ?_
      refine s_load1 0 rfl rfl rfl rfl rfl rfl rfl rfl rfl ?_
      refine s_field rfl rfl rfl rfl rfl rfl rfl rfl ?_
      refine s_field rfl rfl rfl rfl rfl rfl rfl rfl ?_
      refine s_load1 1 rfl rfl rfl rfl rfl rfl rfl rfl rfl ?_
      refine s_mul rfl rfl rfl rfl rfl rfl rfl (by omega) ?_
      refine s_move rfl rfl rfl rfl rfl rfl ?_
      refine s_mul rfl rfl rfl rfl rfl rfl rfl (by omega) ?_
      refine s_cmpS rfl rfl rfl rfl rfl rfl rfl rfl (fun h5 => ?_) (fun h5 => ?_)
      · refine s_pick_t rfl rfl rfl rfl rfl rfl rfl ?_
        refine s_assign rfl rfl rfl rfl rfl rfl ?_
        refine okl_nil ?_
        change OkC Try.prog _ _ _ _ _ _ _
        refine okc_weak (l' := [(0, _), (1, _), (2, _), (3, _), (4, _), (6, _)]) ⟨rfl, rfl, rfl, rfl, rfl, rfl, trivial⟩ ?_
        refine okc_ret fun a w hs => ?_
        exact ret_v hs (run_results1 hs rfl (rv_tmp rfl)) (by clear hs; simp_all [rightB] <;> (intros; omega))
      · refine s_pick_t rfl rfl rfl rfl rfl rfl rfl ?_
        refine s_assign rfl rfl rfl rfl rfl rfl ?_
        refine okl_nil ?_
        change OkC Try.prog _ _ _ _ _ _ _
        refine okc_weak (l' := [(0, _), (1, _), (2, _), (3, _), (4, _), (6, _)]) ⟨rfl, rfl, rfl, rfl, rfl, rfl, trivial⟩ ?_
        refine okc_ret fun a w hs => ?_
        exact ret_v hs (run_results1 hs rfl (rv_tmp rfl)) (by clear hs; simp_all [rightB] <;> (intros; omega))
    · refine s_pick_t rfl rfl rfl rfl rfl rfl rfl ?_
      refine s_move rfl rfl rfl rfl rfl rfl ?_
      refine okl_skip rfl rfl rfl rfl ?_
      refine okl_skip rfl rfl rfl rfl ?_
      refine okl_skip rfl rfl rfl rfl ?_
      refine okl_skip rfl rfl rfl rfl ?_
      refine okl_skip rfl rfl rfl rfl ?_
      refine okl_skip rfl rfl rfl rfl ?_
      refine okl_skip rfl rfl rfl rfl ?_
      refine okl_skip rfl rfl rfl rfl ?_
      refine okl_skip rfl rfl rfl rfl ?_
      refine okl_skip rfl rfl rfl rfl ?_
      refine okl_skip rfl rfl rfl rfl ?_
      refine okl_skip rfl rfl rfl rfl ?_
      refine okl_skip rfl rfl rfl rfl ?_
      refine s_pick_f rfl rfl rfl rfl rfl rfl rfl ?_
      refine s_assign rfl rfl rfl rfl rfl rfl ?_
      refine okl_nil ?_
      change OkC Try.prog _ _ _ _ _ _ _
      refine okc_weak (l' := [(0, _), (1, _), (2, _), (3, _), (4, _), (6, _)]) ⟨rfl, rfl, rfl, rfl, rfl, rfl, trivial⟩ ?_
      refine okc_ret fun a w hs => ?_
      exact ret_v hs (run_results1 hs rfl (rv_tmp rfl)) (by clear hs; simp_all [rightB] <;> (intros; omega))
  · have hnp : ¬ 0 < g := by simpa using h3
    refine s_move rfl rfl rfl rfl rfl rfl ?_
    refine okl_skip rfl rfl rfl rfl ?_
    refine okl_skip rfl rfl rfl rfl ?_
    refine okl_skip rfl rfl rfl rfl ?_
    refine okl_skip rfl rfl rfl rfl ?_
    refine okl_skip rfl rfl rfl rfl ?_
    refine okl_skip rfl rfl rfl rfl ?_
    refine okl_skip rfl rfl rfl rfl ?_
    refine okl_skip rfl rfl rfl rfl ?_
    refine okl_skip rfl rfl rfl rfl ?_
    refine okl_skip rfl rfl rfl rfl ?_
    refine okl_skip rfl rfl rfl rfl ?_
    refine okl_skip rfl rfl rfl rfl ?_
    refine okl_skip rfl rfl rfl rfl ?_
    refine s_pick_f rfl rfl rfl rfl rfl rfl rfl ?_
    refine s_move rfl rfl rfl rfl rfl rfl ?_
    refine okl_skip rfl rfl rfl rfl ?_
    refine okl_skip rfl rfl rfl rfl ?_
    refine okl_skip rfl rfl rfl rfl ?_
    refine okl_skip rfl rfl rfl rfl ?_
    refine okl_skip rfl rfl rfl rfl ?_
    refine okl_skip rfl rfl rfl rfl ?_
    refine okl_skip rfl rfl rfl rfl ?_
    refine okl_skip rfl rfl rfl rfl ?_
    refine okl_skip rfl rfl rfl rfl ?_
    refine okl_skip rfl rfl rfl rfl ?_
    refine okl_skip rfl rfl rfl rfl ?_
    refine okl_skip rfl rfl rfl rfl ?_
    refine okl_skip rfl rfl rfl rfl ?_
    refine s_pick_f rfl rfl rfl rfl rfl rfl rfl ?_
    refine s_assign rfl rfl rfl rfl rfl rfl ?_
    refine okl_nil ?_
    change OkC Try.prog _ _ _ _ _ _ _
    refine okc_weak (l' := [(0, _), (1, _), (2, _), (3, _), (4, _), (6, _)]) ⟨rfl, rfl, rfl, rfl, rfl, rfl, trivial⟩ ?_
    refine okc_ret fun a w hs => ?_
    exact ret_v hs (run_results1 hs rfl (rv_tmp rfl)) (by clear hs; simp_all [rightB] <;> (intros; omega))


theorem right_fn (s : Sp) (x : Rd) (g : Int) (ho : Ok s) (hx : OkR s x) (hg : g ≤ 1000) : Cn Try.prog 92 [spV s, rdV x, .int .i64 g] [] (fun _ : Unit => .bool (rightB s x g)) (fun _ => []) (fun _ => True) := by
  obtain ⟨w1, w2, m1, m2, f1, f2, a1, a2, a3, v1, v2, v3⟩ := ho
  obtain ⟨n1, n2, k1, k2, b1, b2, l1, l2, l3, l4⟩ := hx
  have hp1 := mul_bd (a := x.hi) (b := s.shi) (m := 99) (n := 600) (by omega) l3 (by omega) a3
  have hp3 := mul_bd (a := x.lo) (b := s.slo) (m := 99) (n := 600) l1 (by omega) (by omega) (by omega)
  exact right_fn0 s x g hp1 hp3 (fun h => mul_bd hp3.1 hp3.2 (by omega) hg) (fun h => mul_bd hp1.1 hp1.2 (by omega) hg) b1 b2

end Go.Proofs.Ytdpnadknaacinaa
end

section
namespace Go.Proofs.Ytdpnadknaacinaa
open Go.Sx Go.Proofs.Ytdpnadknaacinaa.Ty
set_option linter.unusedVariables false
set_option maxHeartbeats 2000000


theorem up_same (f : Bd) (k : Nat) (v : Int × Int) : up f k v k = v := by simp [up]
theorem up_up (f : Bd) (k : Nat) (v u : Int × Int) : up (up f k v) k u = up f k u := by
  funext j; unfold up; split <;> rfl
def allR (s : Sp) (w n : Int) (L : List Rd) : Bool := L.all fun x => !(decide (x.week = w)) || rightB s x n
def stepW (s : Sp) (w : Int) : Nat → Int × Int
  | 0 => (s.most + 1, -1)
  | n + 1 => if allR s w n s.reads then (min (stepW s w n).1 n, (n : Int)) else stepW s w n
def baseN (s : Sp) : Nat → Bd
  | 0 => bz
  | k + 1 => up (baseN s k) k (stepW s k (s.most + 1).toNat)
def baseS (s : Sp) : Bd := baseN s s.weeks.toNat

theorem base_fn (s : Sp) (M : Args) (hin : s.In M) (hs0 : OkS s) : Cn Try.prog 107 [spV s] M (fun _ : Unit => leV (baseS s)) (fun _ => []) (fun _ => True) := by
  have ho := hs0.ok
  have ho2 := ho
  obtain ⟨w1, w2, m1, m2, f1, f2, a1, a2, a3, v1, v2, v3⟩ := ho2
  obtain ⟨bR, oR, cR, jR, hR⟩ := hin.reads
  have hrn := hin.rn
  refine fn_intro (N := 66) Try.func107 rfl rfl rfl fun w0 => ?_
  refine okc_seq ?_
  refine okc_region ?_
  refine s_boxA rfl rfl rfl rfl rfl rfl (fun b1 => ?_)
  refine s_alloc rfl rfl rfl rfl rfl rfl (fun b2 => ?_)
  refine okl_nil ?_
  change OkC Try.prog _ _ _ _ _ _ _
  refine okc_weak (l' := [(0, _), (1, _), (2, _)]) ⟨rfl, rfl, rfl, trivial⟩ ?_
  refine okc_seq ?_
  refine okc_region ?_
  refine s_alloc rfl rfl rfl rfl rfl rfl (fun b3 => ?_)
  refine okl_nil ?_
  change OkC Try.prog _ _ _ _ _ _ _
  refine okc_weak (l' := [(0, _), (1, _), (2, _), (3, _)]) ⟨rfl, rfl, rfl, rfl, trivial⟩ ?_
  refine okc_seq ?_
  refine okc_seq ?_
  refine okc_region ?_
  refine s_assign rfl rfl rfl rfl rfl rfl ?_
  refine okl_nil ?_
  change OkC Try.prog _ _ _ _ _ _ _
  refine okc_weak (l' := [(0, _), (1, _), (2, _), (3, _), (4, _)]) ⟨rfl, rfl, rfl, rfl, rfl, trivial⟩ ?_
  refine okc_block ?_
  refine okc_loop (γ := Nat) (fun k => [(1, .pointer (some ⟨b1, 0, none⟩)), (2, .pointer (some ⟨b2, 0, none⟩)), (3, .pointer (some ⟨b3, 0, none⟩)), (4, .int .i64 k)]) (fun k => [(b3, leC (baseN s k), 135), (b2, leC bz, 135), (b1, [.int .i64 s.weeks, .int .i64 s.most, .int .i64 s.fall, .int .i64 s.slo, .int .i64 s.shi, .int .i64 s.wlo, .int .i64 s.whi, .slice s.bp s.book.length s.bc, .slice s.rp s.reads.length s.rc], 27)]) (fun k => (k : Int) ≤ s.weeks) (fun k => s.weeks.toNat - k) 0 (by omega) (fun a w hs => by exact hs.weak ⟨rfl, rfl, rfl, rfl, trivial⟩ [0, 1, 2] (by simp) (by rfl)) ?_
  rintro k hk
  refine okc_seq ?_
  refine okc_seq ?_
  refine okc_region ?_
  refine s_move rfl rfl rfl rfl rfl rfl ?_
  refine s_field rfl rfl rfl rfl rfl rfl rfl rfl ?_
  refine s_load1 2 rfl rfl rfl rfl rfl rfl rfl rfl rfl ?_
  refine s_cmpS rfl rfl rfl rfl rfl rfl rfl rfl (fun h4 => ?_) (fun h4 => ?_)
  · have hlt : (k : Int) < s.weeks := by simpa using h4
    refine okl_nil ?_
    change OkC Try.prog _ _ _ _ _ _ _
    refine okc_weak (l' := [(1, _), (2, _), (3, _), (4, _), (12, _)]) ⟨rfl, rfl, rfl, rfl, rfl, trivial⟩ ?_
    refine okc_cond_t rfl ?_
    refine okc_skip ?_
    change OkC Try.prog _ _ _ _ _ _ _
    refine okc_weak (l' := [(1, _), (2, _), (3, _), (4, _), (12, _)]) ⟨rfl, rfl, rfl, rfl, rfl, trivial⟩ ?_
    refine okc_seq ?_
    refine okc_block ?_
    refine okc_seq ?_
    refine okc_region ?_
    refine s_move rfl rfl rfl rfl rfl rfl ?_
    refine s_move rfl rfl rfl rfl rfl rfl ?_
    refine s_field rfl rfl rfl rfl rfl rfl rfl rfl ?_
    refine s_load1 2 rfl rfl rfl rfl rfl rfl rfl rfl rfl ?_
    refine s_add rfl rfl rfl rfl rfl rfl rfl (by omega) ?_
    refine s_field rfl rfl rfl rfl rfl rfl rfl rfl ?_
    refine s_indexA k rfl rfl rfl rfl rfl rfl rfl rfl rfl (by first | rfl | omega) (by omega) rfl ?_
    refine k_store 0 rfl rfl rfl rfl rfl rfl rfl rfl rfl rfl (Nat.ble_eq_true_of_le (by first | (show _ ≤ 20; omega) | (rw [length_setL]; show _ ≤ 20; omega))) rfl ?_
    refine s_field rfl rfl rfl rfl rfl rfl rfl rfl ?_
    refine s_indexA k rfl rfl rfl rfl rfl rfl rfl rfl rfl (by first | rfl | omega) (by omega) rfl ?_
    refine k_store 0 rfl rfl rfl rfl rfl rfl rfl rfl rfl rfl (Nat.ble_eq_true_of_le (by first | (show _ ≤ 20; omega) | (rw [length_setL]; show _ ≤ 20; omega))) rfl ?_
    refine okl_nil ?_
    change OkC Try.prog _ _ _ _ _ _ _
    refine okc_weak (l' := [(1, _), (2, _), (3, _), (4, _), (12, _)]) ⟨rfl, rfl, rfl, rfl, rfl, trivial⟩ ?_
    refine okc_seq ?_
    refine okc_region ?_
    refine s_assign rfl rfl rfl rfl rfl rfl ?_
    refine okl_nil ?_
    change OkC Try.prog _ _ _ _ _ _ _
    refine okc_weak (l' := [(1, _), (2, _), (3, _), (4, _), (5, _), (12, _)]) ⟨rfl, rfl, rfl, rfl, rfl, rfl, trivial⟩ ?_
    refine okc_block ?_
    refine okc_loop (γ := Nat) (fun n => [(1, .pointer (some ⟨b1, 0, none⟩)), (2, .pointer (some ⟨b2, 0, none⟩)), (3, .pointer (some ⟨b3, 0, none⟩)), (4, .int .i64 k), (5, .int .i64 n)]) (fun n => [(b3, leC (up (baseN s k) k (stepW s k n)), 135), (b2, leC bz, 135), (b1, [.int .i64 s.weeks, .int .i64 s.most, .int .i64 s.fall, .int .i64 s.slo, .int .i64 s.shi, .int .i64 s.wlo, .int .i64 s.whi, .slice s.bp s.book.length s.bc, .slice s.rp s.reads.length s.rc], 27)]) (fun n => (n : Int) ≤ s.most + 1) (fun n => (s.most + 1).toNat - n) 0 (by omega) (fun a w hs => by rw [le_setlo _ (k := k) (by omega) (by omega), le_sethi _ (k := k) (by omega) (by omega)] at hs; simp only [up_same, up_up] at hs; exact hs.weak ⟨rfl, rfl, rfl, rfl, rfl, trivial⟩ [0, 1, 2] (by simp) (by rfl)) ?_
    rintro n hn
    refine okc_seq ?_
    refine okc_seq ?_
    refine okc_region ?_
    refine s_move rfl rfl rfl rfl rfl rfl ?_
    refine s_field rfl rfl rfl rfl rfl rfl rfl rfl ?_
    refine s_load1 2 rfl rfl rfl rfl rfl rfl rfl rfl rfl ?_
    refine s_cmpS rfl rfl rfl rfl rfl rfl rfl rfl (fun h5 => ?_) (fun h5 => ?_)
    · have hle : (n : Int) ≤ s.most := by simpa using h5
      have g1 := le_lo (up (baseN s k) k (stepW s k n)) (k := k) (n := 0 + 0 + k * 1) (by omega) (by omega)
      have g1 := le_lo (up (baseN s k) k (stepW s k n)) (k := k) (n := 0 + k * 1) (by omega) (by omega)
      refine okl_nil ?_
      change OkC Try.prog _ _ _ _ _ _ _
      refine okc_weak (l' := [(1, _), (2, _), (3, _), (4, _), (5, _), (27, _)]) ⟨rfl, rfl, rfl, rfl, rfl, rfl, trivial⟩ ?_
      refine okc_cond_t rfl ?_
      refine okc_skip ?_
      change OkC Try.prog _ _ _ _ _ _ _
      refine okc_weak (l' := [(1, _), (2, _), (3, _), (4, _), (5, _), (27, _)]) ⟨rfl, rfl, rfl, rfl, rfl, rfl, trivial⟩ ?_
      refine okc_seq ?_
      refine okc_block ?_
      refine okc_seq ?_
      refine okc_region ?_
      refine s_assign rfl rfl rfl rfl rfl rfl ?_
      refine okl_nil ?_
      change OkC Try.prog _ _ _ _ _ _ _
      refine okc_weak (l' := [(1, _), (2, _), (3, _), (4, _), (5, _), (6, _), (27, _)]) ⟨rfl, rfl, rfl, rfl, rfl, rfl, rfl, trivial⟩ ?_
      refine okc_seq ?_
      refine okc_seq ?_
      refine okc_region ?_
      refine s_field rfl rfl rfl rfl rfl rfl rfl rfl ?_
      refine s_load1 2 rfl rfl rfl rfl rfl rfl rfl rfl rfl ?_
      refine s_len rfl rfl rfl rfl rfl rfl rfl ?_
      refine s_move rfl rfl rfl rfl rfl rfl ?_
      refine okl_nil ?_
      change OkC Try.prog _ _ _ _ _ _ _
      refine okc_weak (l' := [(1, _), (2, _), (3, _), (4, _), (5, _), (6, _), (27, _), (31, _), (32, _), (33, _)]) ⟨rfl, rfl, rfl, rfl, rfl, rfl, rfl, rfl, rfl, rfl, trivial⟩ ?_
      refine okc_block ?_
      refine okc_loop (γ := Nat × Bool) (fun g => [(1, .pointer (some ⟨b1, 0, none⟩)), (2, .pointer (some ⟨b2, 0, none⟩)), (3, .pointer (some ⟨b3, 0, none⟩)), (4, .int .i64 k), (5, .int .i64 n), (6, .bool g.2), (31, .slice s.rp s.reads.length s.rc), (32, .int .i64 s.reads.length), (33, .int .i64 g.1)]) (fun g => [(b3, leC (up (baseN s k) k (stepW s k n)), 135), (b2, leC bz, 135), (b1, [.int .i64 s.weeks, .int .i64 s.most, .int .i64 s.fall, .int .i64 s.slo, .int .i64 s.shi, .int .i64 s.wlo, .int .i64 s.whi, .slice s.bp s.book.length s.bc, .slice s.rp s.reads.length s.rc], 27)]) (fun g => g.1 ≤ s.reads.length ∧ g.2 = allR s k n (s.reads.take g.1)) (fun g => s.reads.length - g.1) (0, true) ⟨Nat.zero_le _, rfl⟩ (fun a w hs => by exact hs.weak ⟨rfl, rfl, rfl, rfl, rfl, rfl, rfl, rfl, rfl, trivial⟩ [0, 1, 2] (by simp) (by rfl)) ?_
      rintro ⟨j, b⟩ ⟨hj, hb⟩
      dsimp only at hj hb
      cases b
      · refine okc_seq ?_
        refine okc_region ?_
        refine s_cmpS rfl rfl rfl rfl rfl rfl rfl rfl (fun h6 => ?_) (fun h6 => ?_)
        · have hlt : j < s.reads.length := by simpa using h6
          obtain ⟨x, hx⟩ : ∃ x, s.reads[j]? = some x := ⟨s.reads[j], by simp [hlt]⟩
          obtain ⟨hpR, hjR, hatR⟩ := hR (by intro e; simp [e] at hlt)
          have hcell := hatR j x hx
          have hxo := hs0.reads x (List.mem_of_getElem? hx)
          refine okl_nil ?_
          change OkC Try.prog _ _ _ _ _ _ _
          refine okc_weak (l' := [(1, _), (2, _), (3, _), (4, _), (5, _), (6, _), (31, _), (32, _), (33, _), (34, _)]) ⟨rfl, rfl, rfl, rfl, rfl, rfl, rfl, rfl, rfl, rfl, trivial⟩ ?_
          refine okc_seq ?_
          refine okc_cond_t rfl ?_
          refine okc_skip ?_
          change OkC Try.prog _ _ _ _ _ _ _
          refine okc_weak (l' := [(1, _), (2, _), (3, _), (4, _), (5, _), (6, _), (31, _), (32, _), (33, _), (34, _)]) ⟨rfl, rfl, rfl, rfl, rfl, rfl, rfl, rfl, rfl, rfl, trivial⟩ ?_
          refine okc_seq ?_
          refine okc_block ?_
          refine okc_seq ?_
          refine okc_region ?_
          refine s_indexP j hpR rfl rfl rfl rfl rfl rfl rfl rfl rfl rfl (by omega) rfl ?_
          refine s_loadAP jR rfl rfl rfl rfl rfl rfl rfl hjR rfl (by assumption) rfl ?_
          refine s_alloc rfl rfl rfl rfl rfl rfl (fun b7 => ?_)
          refine k_storeW 0 rfl rfl rfl rfl rfl rfl rfl rfl rfl rfl rfl rfl ?_
          refine okl_nil ?_
          change OkC Try.prog _ _ _ _ _ _ _
          refine okc_weak (l' := [(1, _), (2, _), (3, _), (4, _), (5, _), (6, _), (8, _), (31, _), (32, _), (33, _), (34, _)]) ⟨rfl, rfl, rfl, rfl, rfl, rfl, rfl, rfl, rfl, rfl, rfl, trivial⟩ ?_
          refine okc_region ?_
          refine s_move rfl rfl rfl rfl rfl rfl ?_
          refine s_move rfl rfl rfl rfl rfl rfl ?_
          refine okl_skip rfl rfl rfl rfl ?_
          refine okl_skip rfl rfl rfl rfl ?_
          refine okl_skip rfl rfl rfl rfl ?_
          refine okl_skip rfl rfl rfl rfl ?_
          refine okl_skip rfl rfl rfl rfl ?_
          refine okl_skip rfl rfl rfl rfl ?_
          refine okl_skip rfl rfl rfl rfl ?_
          refine okl_skip rfl rfl rfl rfl ?_
          refine okl_skip rfl rfl rfl rfl ?_
          refine okl_skip rfl rfl rfl rfl ?_
          refine s_pick_f rfl rfl rfl rfl rfl rfl rfl ?_
          refine s_assign rfl rfl rfl rfl rfl rfl ?_
          refine okl_nil ?_
          change OkC Try.prog _ _ _ _ _ _ _
          refine okc_weak (l' := [(1, _), (2, _), (3, _), (4, _), (5, _), (6, _), (8, _), (31, _), (32, _), (33, _), (34, _)]) ⟨rfl, rfl, rfl, rfl, rfl, rfl, rfl, rfl, rfl, rfl, rfl, trivial⟩ ?_
          refine okc_region ?_
          refine s_add rfl rfl rfl rfl rfl rfl rfl (by omega) ?_
          refine s_move rfl rfl rfl rfl rfl rfl ?_
          refine okl_nil ?_
          exact fun a w hs => ⟨(j + 1, false), ⟨by show j + 1 ≤ _; omega, by show _ = allR _ _ _ _; rw [allR, all_snoc _ hx]; unfold allR at hb; rw [← hb]; clear hs hR; simp_all⟩, by simp; omega, hs.weak ⟨rfl, rfl, rfl, rfl, rfl, rfl, rfl, rfl, rfl, trivial⟩ [1, 2, 3] (by simp) (by rfl)⟩
        · have hge : ¬ j < s.reads.length := by simpa using h6
          have hfin : allR s k n s.reads = false := by rw [hb, List.take_of_length_le (by omega)]
          refine okl_nil ?_
          change OkC Try.prog _ _ _ _ _ _ _
          refine okc_weak (l' := [(1, _), (2, _), (3, _), (4, _), (5, _), (6, _), (31, _), (32, _), (33, _), (34, _)]) ⟨rfl, rfl, rfl, rfl, rfl, rfl, rfl, rfl, rfl, rfl, trivial⟩ ?_
          refine okc_seq ?_
          refine okc_cond_f rfl ?_
          refine okc_exit ?_
          change OkC Try.prog _ _ _ _ _ _ _
          refine okc_weak (l' := [(1, _), (2, _), (3, _), (4, _), (5, _), (6, _), (31, _), (32, _), (33, _), (34, _)]) ⟨rfl, rfl, rfl, rfl, rfl, rfl, rfl, rfl, rfl, rfl, trivial⟩ ?_
          refine okc_seq ?_
          refine okc_region ?_
          refine s_move rfl rfl rfl rfl rfl rfl ?_
          refine okl_nil ?_
          change OkC Try.prog _ _ _ _ _ _ _
          refine okc_weak (l' := [(1, _), (2, _), (3, _), (4, _), (5, _), (6, _), (31, _), (32, _), (33, _), (34, _), (51, _)]) ⟨rfl, rfl, rfl, rfl, rfl, rfl, rfl, rfl, rfl, rfl, rfl, trivial⟩ ?_
          refine okc_cond_f rfl ?_
          refine okc_skip ?_
          change OkC Try.prog _ _ _ _ _ _ _
          refine okc_weak (l' := [(1, _), (2, _), (3, _), (4, _), (5, _), (6, _), (31, _), (32, _), (33, _), (34, _), (51, _)]) ⟨rfl, rfl, rfl, rfl, rfl, rfl, rfl, rfl, rfl, rfl, rfl, trivial⟩ ?_
          refine okc_region ?_
          refine s_move rfl rfl rfl rfl rfl rfl ?_
          refine s_add rfl rfl rfl rfl rfl rfl rfl (by omega) ?_
          refine s_assign rfl rfl rfl rfl rfl rfl ?_
          refine okl_nil ?_
          refine fun a w hs => ⟨n + 1, by omega, by omega, ?_⟩
          try (rw [le_setlo _ (k := k) (by omega) (by omega), le_sethi _ (k := k) (by omega) (by omega)] at hs; simp only [up_same, up_up] at hs)
          exact hs.weak ⟨rfl, rfl, rfl, rfl, rfl, trivial⟩ [0, 1, 2] (by simp) (by first | (rw [stepW, if_pos hfin]; rfl) | (rw [stepW, if_neg (by simp [hfin])]; rfl))
      · refine okc_seq ?_
        refine okc_region ?_
        refine s_cmpS rfl rfl rfl rfl rfl rfl rfl rfl (fun h8 => ?_) (fun h8 => ?_)
        · have hlt : j < s.reads.length := by simpa using h8
          obtain ⟨x, hx⟩ : ∃ x, s.reads[j]? = some x := ⟨s.reads[j], by simp [hlt]⟩
          obtain ⟨hpR, hjR, hatR⟩ := hR (by intro e; simp [e] at hlt)
          have hcell := hatR j x hx
          have hxo := hs0.reads x (List.mem_of_getElem? hx)
          refine okl_nil ?_
          change OkC Try.prog _ _ _ _ _ _ _
          refine okc_weak (l' := [(1, _), (2, _), (3, _), (4, _), (5, _), (6, _), (31, _), (32, _), (33, _), (34, _)]) ⟨rfl, rfl, rfl, rfl, rfl, rfl, rfl, rfl, rfl, rfl, trivial⟩ ?_
          refine okc_seq ?_
          refine okc_cond_t rfl ?_
          refine okc_skip ?_
          change OkC Try.prog _ _ _ _ _ _ _
          refine okc_weak (l' := [(1, _), (2, _), (3, _), (4, _), (5, _), (6, _), (31, _), (32, _), (33, _), (34, _)]) ⟨rfl, rfl, rfl, rfl, rfl, rfl, rfl, rfl, rfl, rfl, trivial⟩ ?_
          refine okc_seq ?_
          refine okc_block ?_
          refine okc_seq ?_
          refine okc_region ?_
          refine s_indexP j hpR rfl rfl rfl rfl rfl rfl rfl rfl rfl rfl (by omega) rfl ?_
          refine s_loadAP jR rfl rfl rfl rfl rfl rfl rfl hjR rfl (by assumption) rfl ?_
          refine s_alloc rfl rfl rfl rfl rfl rfl (fun b9 => ?_)
          refine k_storeW 0 rfl rfl rfl rfl rfl rfl rfl rfl rfl rfl rfl rfl ?_
          refine okl_nil ?_
          change OkC Try.prog _ _ _ _ _ _ _
          refine okc_weak (l' := [(1, _), (2, _), (3, _), (4, _), (5, _), (6, _), (8, _), (31, _), (32, _), (33, _), (34, _)]) ⟨rfl, rfl, rfl, rfl, rfl, rfl, rfl, rfl, rfl, rfl, rfl, trivial⟩ ?_
          refine okc_region ?_
          refine s_move rfl rfl rfl rfl rfl rfl ?_
          refine s_move rfl rfl rfl rfl rfl rfl ?_
          refine s_field rfl rfl rfl rfl rfl rfl rfl rfl ?_
          refine s_load1 0 rfl rfl rfl rfl rfl rfl rfl rfl rfl ?_
          refine s_move rfl rfl rfl rfl rfl rfl ?_
          refine s_cmpS rfl rfl rfl rfl rfl rfl rfl rfl (fun h10 => ?_) (fun h10 => ?_)
          · have hwk : ¬ x.week = (k : Int) := by simpa using h10
            refine s_move rfl rfl rfl rfl rfl rfl ?_
            refine okl_skip rfl rfl rfl rfl ?_
            refine okl_skip rfl rfl rfl rfl ?_
            refine okl_skip rfl rfl rfl rfl ?_
            refine okl_skip rfl rfl rfl rfl ?_
            refine s_pick_t rfl rfl rfl rfl rfl rfl rfl ?_
            refine s_pick_t rfl rfl rfl rfl rfl rfl rfl ?_
            refine s_assign rfl rfl rfl rfl rfl rfl ?_
            refine okl_nil ?_
            change OkC Try.prog _ _ _ _ _ _ _
            refine okc_weak (l' := [(1, _), (2, _), (3, _), (4, _), (5, _), (6, _), (8, _), (31, _), (32, _), (33, _), (34, _)]) ⟨rfl, rfl, rfl, rfl, rfl, rfl, rfl, rfl, rfl, rfl, rfl, trivial⟩ ?_
            refine okc_region ?_
            refine s_add rfl rfl rfl rfl rfl rfl rfl (by omega) ?_
            refine s_move rfl rfl rfl rfl rfl rfl ?_
            refine okl_nil ?_
            exact fun a w hs => ⟨(j + 1, true), ⟨by show j + 1 ≤ _; omega, by show _ = allR _ _ _ _; rw [allR, all_snoc _ hx]; unfold allR at hb; rw [← hb]; clear hs hR; simp_all⟩, by simp; omega, hs.weak ⟨rfl, rfl, rfl, rfl, rfl, rfl, rfl, rfl, rfl, trivial⟩ [1, 2, 3] (by simp) (by rfl)⟩
          · have hwk : x.week = (k : Int) := by simpa using h10
            refine s_move rfl rfl rfl rfl rfl rfl ?_
            refine s_loadW 3 rfl rfl rfl rfl rfl rfl rfl rfl rfl rfl ?_
            refine s_loadW 0 rfl rfl rfl rfl rfl rfl rfl rfl rfl rfl ?_
            refine s_move rfl rfl rfl rfl rfl rfl ?_
            refine s_callb rfl rfl rfl rfl rfl rfl rfl c92 (right_fn _ _ _ ho hxo (by omega)) covers_nil (fun h11 => ?_) (fun h11 => ?_)
            · refine s_pick_f rfl rfl rfl rfl rfl rfl rfl ?_
              refine s_pick_t rfl rfl rfl rfl rfl rfl rfl ?_
              refine s_assign rfl rfl rfl rfl rfl rfl ?_
              refine okl_nil ?_
              change OkC Try.prog _ _ _ _ _ _ _
              refine okc_weak (l' := [(1, _), (2, _), (3, _), (4, _), (5, _), (6, _), (8, _), (31, _), (32, _), (33, _), (34, _)]) ⟨rfl, rfl, rfl, rfl, rfl, rfl, rfl, rfl, rfl, rfl, rfl, trivial⟩ ?_
              refine okc_region ?_
              refine s_add rfl rfl rfl rfl rfl rfl rfl (by omega) ?_
              refine s_move rfl rfl rfl rfl rfl rfl ?_
              refine okl_nil ?_
              exact fun a w hs => ⟨(j + 1, true), ⟨by show j + 1 ≤ _; omega, by show _ = allR _ _ _ _; rw [allR, all_snoc _ hx]; unfold allR at hb; rw [← hb]; clear hs hR; simp_all⟩, by simp; omega, hs.weak ⟨rfl, rfl, rfl, rfl, rfl, rfl, rfl, rfl, rfl, trivial⟩ [1, 2, 3] (by simp) (by rfl)⟩
            · refine s_pick_f rfl rfl rfl rfl rfl rfl rfl ?_
              refine s_pick_t rfl rfl rfl rfl rfl rfl rfl ?_
              refine s_assign rfl rfl rfl rfl rfl rfl ?_
              refine okl_nil ?_
              change OkC Try.prog _ _ _ _ _ _ _
              refine okc_weak (l' := [(1, _), (2, _), (3, _), (4, _), (5, _), (6, _), (8, _), (31, _), (32, _), (33, _), (34, _)]) ⟨rfl, rfl, rfl, rfl, rfl, rfl, rfl, rfl, rfl, rfl, rfl, trivial⟩ ?_
              refine okc_region ?_
              refine s_add rfl rfl rfl rfl rfl rfl rfl (by omega) ?_
              refine s_move rfl rfl rfl rfl rfl rfl ?_
              refine okl_nil ?_
              exact fun a w hs => ⟨(j + 1, false), ⟨by show j + 1 ≤ _; omega, by show _ = allR _ _ _ _; rw [allR, all_snoc _ hx]; unfold allR at hb; rw [← hb]; clear hs hR; simp_all⟩, by simp; omega, hs.weak ⟨rfl, rfl, rfl, rfl, rfl, rfl, rfl, rfl, rfl, trivial⟩ [1, 2, 3] (by simp) (by rfl)⟩
        · have hge : ¬ j < s.reads.length := by simpa using h8
          have hfin : allR s k n s.reads = true := by rw [hb, List.take_of_length_le (by omega)]
          refine okl_nil ?_
          change OkC Try.prog _ _ _ _ _ _ _
          refine okc_weak (l' := [(1, _), (2, _), (3, _), (4, _), (5, _), (6, _), (31, _), (32, _), (33, _), (34, _)]) ⟨rfl, rfl, rfl, rfl, rfl, rfl, rfl, rfl, rfl, rfl, trivial⟩ ?_
          refine okc_seq ?_
          refine okc_cond_f rfl ?_
          refine okc_exit ?_
          change OkC Try.prog _ _ _ _ _ _ _
          refine okc_weak (l' := [(1, _), (2, _), (3, _), (4, _), (5, _), (6, _), (31, _), (32, _), (33, _), (34, _)]) ⟨rfl, rfl, rfl, rfl, rfl, rfl, rfl, rfl, rfl, rfl, trivial⟩ ?_
          refine okc_seq ?_
          refine okc_region ?_
          refine s_move rfl rfl rfl rfl rfl rfl ?_
          refine okl_nil ?_
          change OkC Try.prog _ _ _ _ _ _ _
          refine okc_weak (l' := [(1, _), (2, _), (3, _), (4, _), (5, _), (6, _), (31, _), (32, _), (33, _), (34, _), (51, _)]) ⟨rfl, rfl, rfl, rfl, rfl, rfl, rfl, rfl, rfl, rfl, rfl, trivial⟩ ?_
          refine okc_cond_t rfl ?_
          refine okc_region ?_
          refine s_move rfl rfl rfl rfl rfl rfl ?_
          refine s_move rfl rfl rfl rfl rfl rfl ?_
          refine s_move rfl rfl rfl rfl rfl rfl ?_
          refine s_field rfl rfl rfl rfl rfl rfl rfl rfl ?_
          refine s_indexA k rfl rfl rfl rfl rfl rfl rfl rfl rfl (by first | rfl | omega) (by omega) rfl ?_
          refine s_load1 0 rfl rfl rfl rfl rfl rfl rfl rfl (by assumption) ?_
          refine s_move rfl rfl rfl rfl rfl rfl ?_
          refine s_min rfl rfl rfl rfl rfl rfl rfl ?_
          refine s_move rfl rfl rfl rfl rfl rfl ?_
          refine s_field rfl rfl rfl rfl rfl rfl rfl rfl ?_
          refine s_indexA k rfl rfl rfl rfl rfl rfl rfl rfl rfl (by first | rfl | omega) (by omega) rfl ?_
          refine k_store 0 rfl rfl rfl rfl rfl rfl rfl rfl rfl rfl (Nat.ble_eq_true_of_le (by first | (show _ ≤ 20; omega) | (rw [length_setL]; show _ ≤ 20; omega))) rfl ?_
          refine s_field rfl rfl rfl rfl rfl rfl rfl rfl ?_
          refine s_indexA k rfl rfl rfl rfl rfl rfl rfl rfl rfl (by first | rfl | omega) (by omega) rfl ?_
          refine k_store 0 rfl rfl rfl rfl rfl rfl rfl rfl rfl rfl (Nat.ble_eq_true_of_le (by first | (show _ ≤ 20; omega) | (rw [length_setL]; show _ ≤ 20; omega))) rfl ?_
          refine okl_nil ?_
          change OkC Try.prog _ _ _ _ _ _ _
          refine okc_weak (l' := [(1, _), (2, _), (3, _), (4, _), (5, _), (6, _), (31, _), (32, _), (33, _), (34, _), (51, _)]) ⟨rfl, rfl, rfl, rfl, rfl, rfl, rfl, rfl, rfl, rfl, rfl, trivial⟩ ?_
          refine okc_region ?_
          refine s_move rfl rfl rfl rfl rfl rfl ?_
          refine s_add rfl rfl rfl rfl rfl rfl rfl (by omega) ?_
          refine s_assign rfl rfl rfl rfl rfl rfl ?_
          refine okl_nil ?_
          refine fun a w hs => ⟨n + 1, by omega, by omega, ?_⟩
          try (rw [le_setlo _ (k := k) (by omega) (by omega), le_sethi _ (k := k) (by omega) (by omega)] at hs; simp only [up_same, up_up] at hs)
          exact hs.weak ⟨rfl, rfl, rfl, rfl, rfl, trivial⟩ [0, 1, 2] (by simp) (by first | (rw [stepW, if_pos hfin]; rfl) | (rw [stepW, if_neg (by simp [hfin])]; rfl))
    · have hgt : ¬ (n : Int) ≤ s.most := by simpa using h5
      have hnn : (s.most + 1).toNat = n := by omega
      refine okl_nil ?_
      change OkC Try.prog _ _ _ _ _ _ _
      refine okc_weak (l' := [(1, _), (2, _), (3, _), (4, _), (5, _), (27, _)]) ⟨rfl, rfl, rfl, rfl, rfl, rfl, trivial⟩ ?_
      refine okc_cond_f rfl ?_
      refine okc_exit ?_
      change OkC Try.prog _ _ _ _ _ _ _
      refine okc_weak (l' := [(1, _), (2, _), (3, _), (4, _), (5, _), (27, _)]) ⟨rfl, rfl, rfl, rfl, rfl, rfl, trivial⟩ ?_
      refine okc_region ?_
      refine s_move rfl rfl rfl rfl rfl rfl ?_
      refine s_add rfl rfl rfl rfl rfl rfl rfl (by omega) ?_
      refine s_assign rfl rfl rfl rfl rfl rfl ?_
      refine okl_nil ?_
      exact fun a w hs => ⟨k + 1, by omega, by omega, hs.weak ⟨rfl, rfl, rfl, rfl, trivial⟩ [0, 1, 2] (by simp) (by rw [baseN, hnn]; rfl)⟩
  · have hge : ¬ (k : Int) < s.weeks := by simpa using h4
    have hkw : k = s.weeks.toNat := by omega
    subst hkw
    refine okl_nil ?_
    change OkC Try.prog _ _ _ _ _ _ _
    refine okc_weak (l' := [(1, _), (2, _), (3, _), (4, _), (12, _)]) ⟨rfl, rfl, rfl, rfl, rfl, trivial⟩ ?_
    refine okc_cond_f rfl ?_
    refine okc_exit ?_
    change OkC Try.prog _ _ _ _ _ _ _
    refine okc_weak (l' := [(1, _), (2, _), (3, _), (4, _), (12, _)]) ⟨rfl, rfl, rfl, rfl, rfl, trivial⟩ ?_
    refine okc_seq ?_
    refine okc_region ?_
    refine s_loadW 0 rfl rfl rfl rfl rfl rfl rfl rfl rfl (by first | rfl | assumption) ?_
    refine k_storeW 1 rfl rfl rfl rfl rfl rfl rfl rfl rfl rfl rfl rfl ?_
    refine okl_nil ?_
    change OkC Try.prog _ _ _ _ _ _ _
    refine okc_weak (l' := [(1, _), (2, _), (3, _), (4, _), (12, _)]) ⟨rfl, rfl, rfl, rfl, rfl, trivial⟩ ?_
    refine okc_ret fun a w hs => ?_
    exact ret_v hs (run_results1 hs rfl (k_ragg 1 rfl rfl rfl rfl rfl)) (by clear hs; rfl)

end Go.Proofs.Ytdpnadknaacinaa
end

section
namespace Go.Proofs.Ytdpnadknaacinaa
open Go.Sx Go.Proofs.Ytdpnadknaacinaa.Ty
set_option linter.unusedVariables false
set_option maxHeartbeats 1000000

theorem upS_le {a d n : Int} (hd : 1 ≤ d) : upS a d ≤ n ↔ a ≤ d * n := by
  unfold upS
  have h := Int.mul_ediv_add_emod (a + d - 1) d
  have h1 := Int.emod_nonneg (a + d - 1) (b := d) (by omega)
  have h2 := Int.emod_lt_of_pos (a + d - 1) (b := d) (by omega)
  generalize (a + d - 1) / d = q at h ⊢
  generalize (a + d - 1) % d = r at h h1 h2
  constructor
  · intro hq
    have : d * q ≤ d * n := Int.mul_le_mul_of_nonneg_left hq (by omega)
    omega
  · intro ha
    rcases Int.lt_or_le n q with hlt | hle
    · have : d * (n + 1) ≤ d * q := Int.mul_le_mul_of_nonneg_left (by omega) (by omega)
      rw [Int.mul_add, Int.mul_one] at this
      omega
    · exact hle

theorem right_iff {s : Sp} {x : Rd} (ho : Ok s) (hx : OkR s x) {n : Int} (hn : n ≤ s.most) : rightB s x n = true ↔ (toldB s x).1 ≤ n ∧ n ≤ (toldB s x).2 := by
  have htb := told_bd ho hx
  obtain ⟨w1, w2, m1, m2, f1, f2, a1, a2, a3, v1, v2, v3⟩ := ho
  obtain ⟨n1, n2, k1, k2, b1, b2, l1, l2, l3, l4⟩ := hx
  have hp := mul_pos' (a := x.hi) (b := s.shi) (by omega) (by omega)
  have hq := mul_bd (a := x.lo) (b := s.slo) (m := 99) (n := 600) l1 (by omega) (by omega) (by omega)
  have h1 : (toldB s x).1 ≤ n ↔ 3600 * x.bucket ≤ x.hi * s.shi * n := upS_le hp
  have h2 : n ≤ (toldB s x).2 ↔ x.lo * s.slo * n ≤ 3600 * x.bucket := by
    simp only [toldB]
    split
    · rename_i hlt
      have h3 : n ≤ 3600 * x.bucket / (x.lo * s.slo) ↔ n * (x.lo * s.slo) ≤ 3600 * x.bucket := Int.le_ediv_iff_mul_le hlt
      rw [Int.mul_comm n] at h3
      rw [← h3]
      omega
    · rename_i hlt
      have h0 : x.lo * s.slo = 0 := by omega
      rw [h0, Int.zero_mul]
      omega
  rw [h1, h2]
  simp only [rightB, Bool.and_eq_true, decide_eq_true_eq]
  constructor
  · rintro ⟨⟨_, h⟩, h'⟩; exact ⟨h', h⟩
  · rintro ⟨h', h⟩
    refine ⟨⟨?_, h⟩, h'⟩
    have := h1.2 h'
    omega

/-! Folds, week by week -/
theorem addR_lo {s : Sp} (L : List Rd) (f : Bd) (j : Nat) (n : Int) : (L.foldl (addR s) f j).1 ≤ n ↔ (f j).1 ≤ n ∧ ∀ x ∈ L, x.week.toNat = j → (toldB s x).1 ≤ n := by
  induction L generalizing f with
  | nil => simp
  | cons x L ih =>
    rw [List.foldl_cons, ih]
    simp only [List.forall_mem_cons, addR, up]
    by_cases e : j = x.week.toNat
    · subst e
      simp only [if_true, true_implies]
      constructor
      · rintro ⟨h, h'⟩; exact ⟨by omega, by omega, h'⟩
      · rintro ⟨h, h', h''⟩; exact ⟨by omega, h''⟩
    · rw [if_neg e]
      have : ¬ x.week.toNat = j := fun h => e h.symm
      simp [this]
theorem addR_hi {s : Sp} (L : List Rd) (f : Bd) (j : Nat) (n : Int) : n ≤ (L.foldl (addR s) f j).2 ↔ n ≤ (f j).2 ∧ ∀ x ∈ L, x.week.toNat = j → n ≤ (toldB s x).2 := by
  induction L generalizing f with
  | nil => simp
  | cons x L ih =>
    rw [List.foldl_cons, ih]
    simp only [List.forall_mem_cons, addR, up]
    by_cases e : j = x.week.toNat
    · subst e
      simp only [if_true, true_implies]
      constructor
      · rintro ⟨h, h'⟩; exact ⟨by omega, by omega, h'⟩
      · rintro ⟨h, h', h''⟩; exact ⟨by omega, h''⟩
    · rw [if_neg e]
      have : ¬ x.week.toNat = j := fun h => e h.symm
      simp [this]
theorem addL_lo {rain : Int} (L : List Ln) (f : Bd) (j : Nat) (n : Int) : (L.foldl (addL rain) f j).1 ≤ n ↔ (f j).1 ≤ n ∧ ∀ x ∈ L, inS x.rlo x.rhi rain = true → x.week.toNat = j → x.glo ≤ n := by
  induction L generalizing f with
  | nil => simp
  | cons x L ih =>
    rw [List.foldl_cons, ih]
    simp only [List.forall_mem_cons, addL]
    by_cases hr : inS x.rlo x.rhi rain = true
    · rw [if_pos hr]
      simp only [up, hr, true_implies]
      by_cases e : j = x.week.toNat
      · subst e
        simp only [if_true, true_implies]
        constructor
        · rintro ⟨h, h'⟩; exact ⟨by omega, by omega, h'⟩
        · rintro ⟨h, h', h''⟩; exact ⟨by omega, h''⟩
      · rw [if_neg e]
        have : ¬ x.week.toNat = j := fun h => e h.symm
        simp [this]
    · rw [if_neg hr]
      simp [hr]
theorem addL_hi {rain : Int} (L : List Ln) (f : Bd) (j : Nat) (n : Int) : n ≤ (L.foldl (addL rain) f j).2 ↔ n ≤ (f j).2 ∧ ∀ x ∈ L, inS x.rlo x.rhi rain = true → x.week.toNat = j → n ≤ x.ghi := by
  induction L generalizing f with
  | nil => simp
  | cons x L ih =>
    rw [List.foldl_cons, ih]
    simp only [List.forall_mem_cons, addL]
    by_cases hr : inS x.rlo x.rhi rain = true
    · rw [if_pos hr]
      simp only [up, hr, true_implies]
      by_cases e : j = x.week.toNat
      · subst e
        simp only [if_true, true_implies]
        constructor
        · rintro ⟨h, h'⟩; exact ⟨by omega, by omega, h'⟩
        · rintro ⟨h, h', h''⟩; exact ⟨by omega, h''⟩
      · rw [if_neg e]
        have : ¬ x.week.toNat = j := fun h => e h.symm
        simp [this]
    · rw [if_neg hr]
      simp [hr]

theorem int_ext {a b : Int} (h : ∀ n, a ≤ n ↔ b ≤ n) : a = b := by have h1 := (h a).1 (Int.le_refl _); have h2 := (h b).2 (Int.le_refl _); omega
theorem int_ext' {a b : Int} (h : ∀ n, n ≤ a ↔ n ≤ b) : a = b := by have h1 := (h a).1 (Int.le_refl _); have h2 := (h b).2 (Int.le_refl _); omega

/-- What readings alone leave. -/
def redS (s : Sp) : Bd := s.reads.foldl (addR s) (iniN s.most s.weeks.toNat)

theorem ini_at {most : Int} : ∀ (k j : Nat), iniN most k j = if j < k then (0, most) else (0, 0)
  | 0, j => by simp [iniN, bz]
  | k + 1, j => by
    simp only [iniN, up]
    by_cases e : j = k
    · subst e; simp
    · rw [if_neg e, ini_at k j]
      by_cases h : j < k
      · rw [if_pos h, if_pos (by omega)]
      · rw [if_neg h, if_neg (by omega)]

theorem allR_iff {s : Sp} (hs : OkS s) {j : Nat} {n : Int} (hn : n ≤ s.most) : allR s j n s.reads = true ↔ ∀ x ∈ s.reads, x.week.toNat = j → (toldB s x).1 ≤ n ∧ n ≤ (toldB s x).2 := by
  simp only [allR, List.all_eq_true, Bool.or_eq_true, Bool.not_eq_true', decide_eq_false_iff_not]
  constructor
  · intro h x hx hj
    have hw := (hs.reads x hx).w1
    rcases h x hx with h | h
    · exact absurd (by omega : x.week = (j : Int)) h
    · exact (right_iff hs.ok (hs.reads x hx) hn).1 h
  · intro h x hx
    by_cases e : x.week = (j : Int)
    · exact .inr ((right_iff hs.ok (hs.reads x hx) hn).2 (h x hx (by omega)))
    · exact .inl e

theorem red_iff {s : Sp} (hs : OkS s) {j : Nat} (hj : j < s.weeks.toNat) {n : Int} : ((redS s j).1 ≤ n ∧ n ≤ (redS s j).2) ↔ 0 ≤ n ∧ n ≤ s.most ∧ allR s j n s.reads = true := by
  unfold redS
  rw [addR_lo, addR_hi, ini_at, if_pos hj]
  constructor
  · rintro ⟨⟨h1, h2⟩, h3, h4⟩
    exact ⟨h1, h3, (allR_iff hs h3).2 fun x hx e => ⟨h2 x hx e, h4 x hx e⟩⟩
  · rintro ⟨h1, h2, h3⟩
    have := (allR_iff hs h2).1 h3
    exact ⟨⟨h1, fun x hx e => (this x hx e).1⟩, h2, fun x hx e => (this x hx e).2⟩

theorem red_bd {s : Sp} {j : Nat} (hj : j < s.weeks.toNat) : 0 ≤ (redS s j).1 ∧ (redS s j).2 ≤ s.most := by
  have h1 := (addR_lo (s := s) s.reads (iniN s.most s.weeks.toNat) j (redS s j).1).1 (Int.le_refl _)
  have h2 := (addR_hi (s := s) s.reads (iniN s.most s.weeks.toNat) j (redS s j).2).1 (Int.le_refl _)
  rw [ini_at, if_pos hj] at h1 h2
  exact ⟨h1.1, h2.1⟩

theorem step_eq {s : Sp} (hs : OkS s) {j : Nat} (hj : j < s.weeks.toNat) : ∀ k : Nat, (k : Int) ≤ s.most + 1 →
    stepW s j k = if (redS s j).1 < k ∧ (redS s j).1 ≤ (redS s j).2 then ((redS s j).1, min (redS s j).2 (k - 1)) else (s.most + 1, -1)
  | 0, _ => by
    have := red_bd (s := s) hj
    rw [if_neg (by omega)]; rfl
  | k + 1, hk => by
    have hb := red_bd (s := s) hj
    have ih := step_eq hs hj k (by omega)
    have hi := red_iff hs hj (n := (k : Int))
    simp only [stepW]
    by_cases ha : allR s j k s.reads = true
    · have hin := hi.2 ⟨by omega, by omega, ha⟩
      have e2 : (redS s j).1 < ((k + 1 : Nat) : Int) ∧ (redS s j).1 ≤ (redS s j).2 := ⟨by omega, by omega⟩
      rw [if_pos ha, if_pos e2, ih]
      by_cases hlt : (redS s j).1 < k
      · rw [if_pos ⟨hlt, e2.2⟩]
        apply Prod.ext <;> simp <;> omega
      · rw [if_neg (fun h => hlt h.1)]
        apply Prod.ext <;> simp <;> omega
    · rw [if_neg ha, ih]
      have hn : ¬ ((redS s j).1 ≤ (k : Int) ∧ (k : Int) ≤ (redS s j).2) := fun h => ha (hi.1 h).2.2
      by_cases hle : (redS s j).1 ≤ (redS s j).2
      · by_cases hlt : (redS s j).1 < k
        · have e2 : (redS s j).1 < ((k + 1 : Nat) : Int) ∧ (redS s j).1 ≤ (redS s j).2 := ⟨by omega, hle⟩
          rw [if_pos ⟨hlt, hle⟩, if_pos e2]
          apply Prod.ext <;> simp <;> omega
        · have e2 : ¬ ((redS s j).1 < ((k + 1 : Nat) : Int) ∧ (redS s j).1 ≤ (redS s j).2) := fun h => by omega
          rw [if_neg (fun h => hlt h.1), if_neg e2]
      · rw [if_neg (fun h => hle h.2), if_neg (fun h => hle h.2)]

theorem base_at (s : Sp) : ∀ (k j : Nat), baseN s k j = if j < k then stepW s j (s.most + 1).toNat else (0, 0)
  | 0, j => by simp [baseN, bz]
  | k + 1, j => by
    simp only [baseN, up]
    by_cases e : j = k
    · subst e; simp
    · rw [if_neg e, base_at s k j]
      by_cases h : j < k
      · rw [if_pos h, if_pos (by omega)]
      · rw [if_neg h, if_neg (by omega)]

/-- What the reference's lines leave of what readings leave. -/
def preR (s : Sp) (rain : Int) : Bd := s.book.foldl (addL rain) (baseS s)
def leavesR (s : Sp) (rain : Int) : Bd := narS s (preR s rain)

theorem base_red {s : Sp} (hs : OkS s) (j : Nat) : baseS s j = if j < s.weeks.toNat then (if (redS s j).1 ≤ (redS s j).2 then redS s j else (s.most + 1, -1)) else (0, 0) := by
  unfold baseS
  rw [base_at]
  by_cases h : j < s.weeks.toNat
  · have hb := red_bd (s := s) h
    have hm := hs.ok.m1
    rw [if_pos h, if_pos h, step_eq hs h _ (by omega)]
    by_cases hle : (redS s j).1 ≤ (redS s j).2
    · rw [if_pos (by omega), if_pos hle]
      apply Prod.ext <;> simp <;> omega
    · rw [if_neg (by omega), if_neg hle]
  · rw [if_neg h, if_neg h]

theorem pre_lo {s : Sp} (rain : Int) (j : Nat) (n : Int) : (preS s rain j).1 ≤ n ↔ (redS s j).1 ≤ n ∧ ∀ x ∈ s.book, inS x.rlo x.rhi rain = true → x.week.toNat = j → x.glo ≤ n := by
  unfold preS redS
  rw [addR_lo, addL_lo, addR_lo]
  constructor
  · rintro ⟨⟨h1, h2⟩, h3⟩; exact ⟨⟨h1, h3⟩, h2⟩
  · rintro ⟨⟨h1, h2⟩, h3⟩; exact ⟨⟨h1, h3⟩, h2⟩
theorem pre_hi {s : Sp} (rain : Int) (j : Nat) (n : Int) : n ≤ (preS s rain j).2 ↔ n ≤ (redS s j).2 ∧ ∀ x ∈ s.book, inS x.rlo x.rhi rain = true → x.week.toNat = j → n ≤ x.ghi := by
  unfold preS redS
  rw [addR_hi, addL_hi, addR_hi]
  constructor
  · rintro ⟨⟨h1, h2⟩, h3⟩; exact ⟨⟨h1, h3⟩, h2⟩
  · rintro ⟨⟨h1, h2⟩, h3⟩; exact ⟨⟨h1, h3⟩, h2⟩

theorem red_out {s : Sp} (hs : OkS s) {j : Nat} (hj : ¬ j < s.weeks.toNat) : redS s j = (0, 0) := by
  have hno : ∀ x ∈ s.reads, ¬ x.week.toNat = j := fun x hx e => by
    have := (hs.reads x hx).w1
    have := (hs.reads x hx).w2
    omega
  apply Prod.ext
  · refine int_ext fun n => ?_
    unfold redS
    rw [addR_lo, ini_at, if_neg hj]
    exact ⟨fun h => h.1, fun h => ⟨h, fun x hx e => absurd e (hno x hx)⟩⟩
  · refine int_ext' fun n => ?_
    unfold redS
    rw [addR_hi, ini_at, if_neg hj]
    exact ⟨fun h => h.1, fun h => ⟨h, fun x hx e => absurd e (hno x hx)⟩⟩

theorem pre_same {s : Sp} (hs : OkS s) (h : ∀ j, j < s.weeks.toNat → (redS s j).1 ≤ (redS s j).2) (rain : Int) : preR s rain = preS s rain := by
  have hb : ∀ j, baseS s j = redS s j := fun j => by
    rw [base_red hs]
    by_cases hj : j < s.weeks.toNat
    · rw [if_pos hj, if_pos (h j hj)]
    · rw [if_neg hj, red_out hs hj]
  funext j
  apply Prod.ext
  · refine int_ext fun n => ?_
    rw [pre_lo]
    unfold preR
    rw [addL_lo, hb]
  · refine int_ext' fun n => ?_
    rw [pre_hi]
    unfold preR
    rw [addL_hi, hb]

/-- Narrowing never widens. -/
theorem fwd_in {fall : Int} (f : Bd) : ∀ (k j : Nat), (f j).1 ≤ (fwdN fall k f j).1 ∧ (fwdN fall k f j).2 ≤ (f j).2
  | 0, j => ⟨Int.le_refl _, Int.le_refl _⟩
  | k + 1, j => by
    have ih := fwd_in (fall := fall) f k j
    simp only [fwdN, up]
    split
    · rename_i e; subst e; constructor <;> simp only [] <;> omega
    · exact ih
theorem bwd_in {fall : Int} {n : Nat} (f : Bd) : ∀ (k j : Nat), (f j).1 ≤ (bwdN fall n k f j).1 ∧ (bwdN fall n k f j).2 ≤ (f j).2
  | 0, j => ⟨Int.le_refl _, Int.le_refl _⟩
  | k + 1, j => by
    have ih := bwd_in (fall := fall) (n := n) f k j
    simp only [bwdN, up]
    split
    · rename_i e; subst e; constructor <;> simp only [] <;> omega
    · exact ih
theorem nar_in (s : Sp) (f : Bd) (j : Nat) : (f j).1 ≤ (narS s f j).1 ∧ (narS s f j).2 ≤ (f j).2 := by
  unfold narS
  have h1 := bwd_in (fall := s.fall) (n := s.weeks.toNat) (fwdN s.fall (s.weeks.toNat - 1) f) (s.weeks.toNat - 1) j
  have h2 := fwd_in (fall := s.fall) f (s.weeks.toNat - 1) j
  omega

theorem no_truth {s : Sp} {f : Bd} {j : Nat} (hj : j < s.weeks.toNat) (h : (f j).2 < (f j).1) : okN s (narS s f) = false :=
  okN_not hj (by have := nar_in s f j; omega)

theorem leaves_same {s : Sp} (hs : OkS s) (rain : Int) : okN s (leavesR s rain) = okN s (leavesS s rain) ∧ (okN s (leavesS s rain) = true → leavesR s rain = leavesS s rain) := by
  by_cases h : ∀ j, j < s.weeks.toNat → (redS s j).1 ≤ (redS s j).2
  · have : leavesR s rain = leavesS s rain := by unfold leavesR leavesS; rw [pre_same hs h]
    rw [this]; exact ⟨rfl, fun _ => rfl⟩
  · obtain ⟨j, hj, hlt⟩ : ∃ j, j < s.weeks.toNat ∧ ¬ (redS s j).1 ≤ (redS s j).2 := by
      by_cases hex : ∃ j, j < s.weeks.toNat ∧ ¬ (redS s j).1 ≤ (redS s j).2
      · exact hex
      · exact absurd (fun j hj => by
          by_cases hle : (redS s j).1 ≤ (redS s j).2
          · exact hle
          · exact absurd ⟨j, hj, hle⟩ hex) h
    have hS : okN s (leavesS s rain) = false := by
      refine no_truth hj ?_
      have h1 := ((pre_lo (s := s) rain j _).1 (Int.le_refl _)).1
      have h2 := ((pre_hi (s := s) rain j _).1 (Int.le_refl _)).1
      omega
    have hR : okN s (leavesR s rain) = false := by
      refine no_truth hj ?_
      have h1 := ((addL_lo (rain := rain) s.book (baseS s) j _).1 (Int.le_refl _)).1
      have h2 := ((addL_hi (rain := rain) s.book (baseS s) j _).1 (Int.le_refl _)).1
      rw [base_red hs, if_pos hj, if_neg hlt] at h1 h2
      have := hs.ok.m1
      show (s.book.foldl (addL rain) (baseS s) j).2 < (s.book.foldl (addL rain) (baseS s) j).1
      simp only [] at h1 h2
      omega
    rw [hS, hR]
    exact ⟨rfl, fun h => by cases h⟩

/-! What a spring gives in a week -/
def arS (v u : Int × Int) : Int × Int := (min v.1 u.1, max v.2 u.2)
def gvL (s : Sp) (w : Nat) (L : List Int) (v : Int × Int) : Int × Int := L.foldl (fun v r => arS v (leavesS s r w)) v
/-- What a spring gives in a week. -/
def gvS (s : Sp) (w : Nat) : Int × Int := gvL s w (rainsS s) (s.most, 0)

theorem rains_mem {s : Sp} {r : Int} (h : r ∈ rainsS s) : okN s (leavesS s r) = true ∧ s.wlo ≤ r ∧ r ≤ s.whi := by
  unfold rainsS rainsN at h
  obtain ⟨h1, h2⟩ := List.mem_filter.1 h
  obtain ⟨i, hi, rfl⟩ := List.mem_map.1 h1
  have := List.mem_range.1 hi
  unfold rainN at this
  exact ⟨h2, by omega, by omega⟩

theorem okN_at {s : Sp} {f : Bd} (h : okN s f = true) {w : Nat} (hw : w < s.weeks.toNat) : (f w).1 ≤ (f w).2 := by
  simp only [okN, List.all_eq_true, List.mem_range, decide_eq_true_eq] at h
  exact h w hw

theorem leaves_bd {s : Sp} {r : Int} (h : okN s (leavesS s r) = true) {w : Nat} (hw : w < s.weeks.toNat) : 0 ≤ (leavesS s r w).1 ∧ (leavesS s r w).1 ≤ (leavesS s r w).2 ∧ (leavesS s r w).2 ≤ s.most := by
  have h1 := nar_in s (preS s r) w
  have h2 := ((pre_lo (s := s) r w _).1 (Int.le_refl _)).1
  have h3 := ((pre_hi (s := s) r w _).1 (Int.le_refl _)).1
  have h4 := red_bd (s := s) hw
  have h5 := okN_at h hw
  unfold leavesS at h5 ⊢
  omega

theorem hull_eq {s : Sp} {w : Nat} (hw : w < s.weeks.toNat) {r : Int} {L : List Int} (h : rainsS s = r :: L) : gvL s w (rainsS s) (leavesS s r w) = gvS s w := by
  have hb := leaves_bd (rains_mem (s := s) (r := r) (by rw [h]; simp)).1 hw
  unfold gvS
  rw [h]
  unfold gvL
  simp only [List.foldl_cons]
  congr 1
  apply Prod.ext <;> simp [arS] <;> omega

theorem gvL_bd {s : Sp} {w : Nat} (hw : w < s.weeks.toNat) : ∀ (L : List Int) (v : Int × Int), (∀ r ∈ L, okN s (leavesS s r) = true) → 0 ≤ v.1 → v.1 ≤ s.most → 0 ≤ v.2 → v.2 ≤ s.most →
    0 ≤ (gvL s w L v).1 ∧ (gvL s w L v).1 ≤ s.most ∧ 0 ≤ (gvL s w L v).2 ∧ (gvL s w L v).2 ≤ s.most
  | [], v, _, h1, h2, h3, h4 => ⟨h1, h2, h3, h4⟩
  | r :: L, v, h, h1, h2, h3, h4 => by
    have hb := leaves_bd (h r (by simp)) hw
    refine gvL_bd hw L (arS v (leavesS s r w)) (fun x hx => h x (List.mem_cons_of_mem _ hx)) ?_ ?_ ?_ ?_ <;> simp only [arS] <;> omega
end Go.Proofs.Ytdpnadknaacinaa
end

section
namespace Go.Sx
open Go.RowKit

/-- A slice of the call's own: n elements of size cells each, xs, in the block of B (nil: B empty). -/
def Sl (B : Blks) (e : TypeId) (size : Nat) (p : Option Addr) (n c : Nat) (xs : List Value) : Prop :=
  xs.length = n * size ∧ ((p = none ∧ n = 0 ∧ c = 0 ∧ B = []) ∨
    ∃ g cs, p = some ⟨g, 0, none⟩ ∧ B = [(g, cs, e)] ∧ n ≤ c ∧ c ≤ maxLen ∧ cs.length = c * size ∧ cs.take (n * size) = xs)

theorem Sl.nil (e : TypeId) (size : Nat) : Sl [] e size none 0 0 [] := ⟨by simp, .inl ⟨rfl, rfl, rfl, rfl⟩⟩
theorem Sl.lit {e : TypeId} {size g n : Nat} {cs : List Value} (h : cs.length = n * size) (hn : n ≤ maxLen) : Sl [(g, cs, e)] e size (some ⟨g, 0, none⟩) n n cs :=
  ⟨h, .inr ⟨g, cs, rfl, rfl, Nat.le_refl _, hn, h, by rw [← h]; exact List.take_length⟩⟩

section
variable {P : Program} {N : Cx} {w0 : World} {l l' : Env} {O O' F B R : Blks} {A : Args} {a : Act} {w w' : World} {ops : Array Oper} {o : Oper} {Q : Exit → Act → World → Prop} {is : List Nat}

theorem Sl.len {e size p n c xs} (h : Sl B e size p n c xs) : xs.length = n * size := h.1

theorem Sl.owns {e size p n c xs} (h : Sl B e size p n c xs) (hB : ∀ b cs T, (b, cs, T) ∈ B → holds w b cs T) : w.ownsRow 0 e size (.slice p n c) n xs := by
  refine ⟨h.1, ?_⟩
  rcases h.2 with ⟨rfl, rfl, rfl, rfl⟩ | ⟨g, cs, rfl, rfl, hn, hm, hl, ht⟩
  · exact .inl ⟨rfl, rfl⟩
  · exact .inr ⟨g, c, cs.toArray, rfl, Nat.zero_le _, hB g cs e (by simp), hn, hm, by simpa using hl, by simpa using ht⟩

theorem Sl.of_owns {e size n g c xs} (h : w.ownsRow 0 e size (.slice (some ⟨g, 0, none⟩) n c) n xs) : ∃ cs, Sl [(g, cs, e)] e size (some ⟨g, 0, none⟩) n c xs ∧ holds w g cs e := by
  obtain ⟨h1, h2 | ⟨g', cap, cur, hv, _, hh, hn, hm, hs, ht⟩⟩ := h
  · cases h2.1
  · cases hv
    exact ⟨cur.toList, ⟨h1, .inr ⟨g, cur.toList, rfl, rfl, hn, hm, by simpa using hs, ht⟩⟩, by simpa [holds] using hh⟩

/-! ### Own blocks in another order, or fewer -/
theorem St.perm (h : St N w0 l O A a w) (hE : SubE l' l) (hO : ∀ x ∈ O', x ∈ O) (hn : (O'.map (·.1)).Nodup) : St N w0 l' O' A a w :=
  ⟨h.size, h.noDef, h.bel, fun t v hv => h.env t v (hE.get t v hv), fun j b cs T hj => by
    obtain ⟨i, hi⟩ := List.mem_iff_getElem?.1 (hO _ (List.mem_of_getElem? hj))
    exact h.own i b cs T hi, hn, h.arg, h.more⟩

theorem St.sub (h : St N w0 l O A a w) (hE : SubE l' l) (hO : O'.Sublist O) : St N w0 l' O' A a w :=
  h.perm hE (fun _ hx => hO.subset hx) (List.Nodup.sublist (hO.map _) h.nodup)

theorem St.reo (h : St N w0 l O A a w) (hO : O.Perm O') : St N w0 l O' A a w :=
  ⟨h.size, h.noDef, h.bel, h.env, fun j b cs T hj => by
    obtain ⟨i, hi⟩ := List.mem_iff_getElem?.1 (hO.mem_iff.2 (List.mem_of_getElem? hj))
    exact h.own i b cs T hi, (hO.map (·.1)).nodup_iff.1 h.nodup, h.arg, h.more⟩

theorem okl_perm (hO : O.Perm O') (h : OkL P N w0 ops Q is l O' A) : OkL P N w0 ops Q is l O A := fun a w hs => h a w (hs.reo hO)
theorem okc_perm {c : Code} (hO : O.Perm O') (h : OkC P N w0 c Q l O' A) : OkC P N w0 c Q l O A := fun a w hs => h a w (hs.reo hO)
theorem okl_sub (hO : O'.Sublist O) (h : OkL P N w0 ops Q is l O' A) : OkL P N w0 ops Q is l O A := fun a w hs => h a w ⟨hs.size, hs.noDef, hs.bel, hs.env, fun j b cs T hj => by
    obtain ⟨i, hi⟩ := List.mem_iff_getElem?.1 (hO.subset (List.mem_of_getElem? hj))
    exact hs.own i b cs T hi, List.Nodup.sublist (hO.map _) hs.nodup, hs.arg, hs.more⟩
theorem okc_sub {c : Code} (hO : O'.Sublist O) (h : OkC P N w0 c Q l O' A) : OkC P N w0 c Q l O A := fun a w hs => h a w ⟨hs.size, hs.noDef, hs.bel, hs.env, fun j b cs T hj => by
    obtain ⟨i, hi⟩ := List.mem_iff_getElem?.1 (hO.subset (List.mem_of_getElem? hj))
    exact hs.own i b cs T hi, List.Nodup.sublist (hO.map _) hs.nodup, hs.arg, hs.more⟩

/-- A call that hands back blocks: they come behind. -/
theorem okl_rE {i d : Nat} {σ : Type} {val : σ → Value} {blks : σ → Blks} {ok : σ → Prop} (ho : ops[i]? = some o) (hg : wantsB ops l o = some true) (hd : o.dst = some d) (hN : Nat.blt d N.n = true)
    (h : OpV P N w0 l O A o (Res val blks ok)) (rest : ∀ s, ok s → OkL P N w0 ops Q is ((d, val s) :: l) (O ++ blks s) A) : OkL P N w0 ops Q (i :: is) l O A :=
  okl_r ho hg hd hN h fun s hs => okl_perm List.perm_append_comm (rest s hs)

/-! ### append -/
theorem St.grown {g : Nat} {e : TypeId} {cs' : List Value} {row : Option Nat} (h : St N w0 l (F ++ (B ++ R)) A a w) (hrow : ∀ k, row = some k → ∃ cs T, (k, cs, T) ∈ B) (hg : w.grownBy w' row) (hat : row = some g ∨ g = w.heap.size)
    (hh : holds w' g cs' e) : St N w0 l (F ++ ([(g, cs', e)] ++ R)) A a w' := by
  have hws := h.ws
  have hnd : (nums (F ++ (B ++ R))).Nodup := hws.nodup
  have hnum : ∀ x ∈ nums (F ++ (B ++ R)), x < w.heap.size ∧ (w0.heap.size ≤ x ∨ x ∈ N.wr) := fun x hx => by
    obtain ⟨cs, T, hm⟩ := mem_nums.1 hx
    exact ⟨(hws.own x cs T hm).1.lt, (hws.own x cs T hm).2⟩
  have hB : ∀ k, row = some k → k ∈ nums B := fun k hk => by obtain ⟨cs, T, hm⟩ := hrow k hk; exact mem_nums.2 ⟨cs, T, hm⟩
  have hrow0 : ∀ k, row = some k → w0.heap.size ≤ k ∨ k ∈ N.wr := fun k hk => by
    have := hB k hk
    exact (hnum k (by simp only [nums, List.map_append, List.mem_append] at this ⊢; exact .inr (.inl this))).2
  have hs0 : w0.heap.size ≤ w.heap.size := h.bel.size
  simp only [nums, List.map_append, List.nodup_append, List.mem_append] at hnd
  obtain ⟨hF, ⟨hBn, hR, hBR⟩, hFBR⟩ := hnd
  have hFR : ∀ x, x ∈ nums F ∨ x ∈ nums R → some x ≠ row ∧ x ≠ g := fun x hx => by
    have hne : some x ≠ row := fun e => by
      have hb := hB x e.symm
      rcases hx with hx | hx
      · exact hFBR x hx x (.inl hb) rfl
      · exact hBR x hb x hx rfl
    refine ⟨hne, fun e => ?_⟩
    rcases hat with hat | hat
    · exact hne (by rw [hat, e])
    · have := (hnum x (by simp only [nums, List.map_append, List.mem_append] at hx ⊢; rcases hx with hx | hx; exact .inl hx; exact .inr (.inr hx))).1
      omega
  refine WS.st ⟨⟨hg.os.trans h.bel.os, hg.tape.trans h.bel.tape, hg.output.trans h.bel.output, Nat.le_trans h.bel.size hg.size, fun k hk hS => ?_⟩, ?_, ?_, ?_⟩ h.size h.noDef h.env ?_
  · refine (hg.block k (by omega) (fun e => ?_)).trans (h.bel.block k hk hS)
    rcases hrow0 k e.symm with h1 | h1
    · omega
    · exact hS h1
  · intro b cs T hm
    simp only [List.mem_append, List.mem_singleton] at hm
    have old : ∀ (hx : (b, cs, T) ∈ F ∨ (b, cs, T) ∈ R), holds w' b cs T ∧ (w0.heap.size ≤ b ∨ b ∈ N.wr) := fun hx => by
      obtain ⟨h1, h2⟩ := hws.own b cs T (by simp only [List.mem_append]; rcases hx with hx | hx; exact .inl hx; exact .inr (.inr hx))
      refine ⟨?_, h2⟩
      unfold holds
      rw [hg.block b h1.lt (hFR b (by rcases hx with hx | hx; exact .inl (mem_nums.2 ⟨cs, T, hx⟩); exact .inr (mem_nums.2 ⟨cs, T, hx⟩))).1]
      exact h1
    rcases hm with hm | hm | hm
    · exact old (.inl hm)
    · cases hm
      refine ⟨hh, ?_⟩
      rcases hat with hat | hat
      · exact hrow0 g hat
      · exact .inl (by omega)
    · exact old (.inr hm)
  · simp only [nums, List.map_append, List.nodup_append, List.map_cons, List.map_nil, List.mem_append, List.mem_singleton]
    refine ⟨hF, ⟨by simp, hR, ?_⟩, ?_⟩
    · rintro x rfl y hy rfl
      exact (hFR _ (.inr hy)).2 rfl
    · rintro x hx y (rfl | hy) rfl
      · exact (hFR _ (.inl hx)).2 rfl
      · exact hFBR x hx x (.inr hy) rfl
  · intro b cs hm
    obtain ⟨⟨T, fr, h1⟩, h2, h3⟩ := hws.arg b cs hm
    refine ⟨⟨T, fr, (hg.block b (lt_of_get h1) (fun e => ?_)).trans h1⟩, h2, h3⟩
    rcases hrow0 b e.symm with h4 | h4
    · omega
    · exact h3 h4
  · refine h.more.other (fun b o hb hne => (hg.block b (lt_of_get hb) (fun e => ?_)).trans hb)
    obtain ⟨cs, T, hm⟩ := hrow b e.symm
    have h1 := (hws.own b cs T (by simp [hm])).1
    unfold holds at h1
    rw [h1] at hb
    simp only [Option.some.injEq] at hb
    exact hne _ _ _ hb.symm

/-- What is appended: cells that lie in a block of the call's own, or in one that came in. -/
def Lies (O : Blks) (A : Args) (b off : Nat) (news : List Value) : Prop := ∃ cs, ((∃ T, (b, cs, T) ∈ O) ∨ (b, cs) ∈ A) ∧ ∀ j v, news[j]? = some v → cs[off + j]? = some v

theorem Lies.own {b off n : Nat} {cs news : List Value} {T : TypeId} (j : Nat) (hj : O[j]? = some (b, cs, T)) (hs : Go.Sx.sub cs off n = news) : Lies O A b off news :=
  ⟨cs, .inl ⟨T, List.mem_of_getElem? hj⟩, fun j v hv => by
    subst hs; unfold Go.Sx.sub at hv
    rw [List.getElem?_take] at hv
    split at hv
    · simpa using hv
    · cases hv⟩
theorem Lies.whole {b : Nat} {cs : List Value} {T : TypeId} (j : Nat) (hj : O[j]? = some (b, cs, T)) : Lies O A b 0 cs := ⟨cs, .inl ⟨T, List.mem_of_getElem? hj⟩, fun j v hv => by simpa using hv⟩
theorem Lies.arg {b off : Nat} {cs news : List Value} (hm : (b, cs) ∈ A) (h : ∀ j v, news[j]? = some v → cs[off + j]? = some v) : Lies O A b off news := ⟨cs, .inr hm, h⟩

theorem Lies.cell {b off : Nat} {news : List Value} (h : Lies O A b off news) (hs : St N w0 l O A a w) : ∀ j u, news[j]? = some u → w.cell? ((⟨b, off, none⟩ : Addr).add j) = some u := by
  obtain ⟨cs, hc, hn⟩ := h
  intro j u hj
  have hr : reads w b cs := by
    rcases hc with ⟨T, hm⟩ | hm
    · exact ⟨T, _, (hs.ws.own b cs T hm).1⟩
    · exact (hs.ws.arg b cs hm).1
  obtain ⟨T, fr, hr⟩ := hr
  rw [add_lit]
  have := hn j u hj
  simp [World.cell?, hr, this]

theorem info_of_siz {e size : Nat} {z : List Value} (hn : sizeB P e = some size) (hz : zeroB P e = some z) : ∃ i v, P.info? e = some i ∧ i.zero = some v ∧ i.size = size ∧ v.cells.toList = z := by
  unfold sizeB at hn
  unfold zeroB at hz
  cases hi : P.info? e with
  | none => rw [hi] at hn; simp at hn
  | some i =>
    rw [hi] at hn hz
    cases hv : i.zero with
    | none => simp [hv] at hz
    | some v => exact ⟨i, v, rfl, hv, by simpa using hn, by simpa [hv] using hz⟩

theorem okl_append {i d : Nat} {s x : Operand} {t e size bx ox m cx n c : Nat} {p : Option Addr} {xs news zs : List Value} (F B R : Blks)
    (ho : ops[i]? = some o) (hg : wantsB ops l o = some true) (hd : o.dst = some d) (hN : Nat.blt d N.n = true) (hop : o.op = .call { callee := .builtin .append, args := #[s, x], argTypes := #[t, t] })
    (hs : ev l s = some (.slice p n c)) (hx : ev l x = some (.slice (some ⟨bx, ox, none⟩) m cx)) (hT : P.underlying t = some (.slice e)) (hsz : sizeB P e = some size) (hzr : zeroB P e = some zs) (hzl : zs.length = size) (hpos : 0 < size)
    (hO : O = F ++ (B ++ R)) (hsl : Sl B e size p n c xs) (hn : Lies O A bx ox news) (hnl : news.length = m * size) (h1 : flat news = true) (hm : 0 < m)
    (hlen : n + m ≤ 100000000000) (hby : ∃ i, P.info? e = some i ∧ i.bytes ≤ 1000)
    (rest : ∀ g c' cs', Sl [(g, cs', e)] e size (some ⟨g, 0, none⟩) (n + m) c' (xs ++ news) → OkL P N w0 ops Q is ((d, .slice (some ⟨g, 0, none⟩) (n + m) c') :: l) (F ++ ([(g, cs', e)] ++ R)) A) :
    OkL P N w0 ops Q (i :: is) l O A := by
  intro a w hst
  simp only [wpOpsIn, ho, wanted_of hst hg, if_true]
  obtain ⟨info, z, hi, hz, hisz, hzc⟩ := info_of_siz hsz hzr
  obtain ⟨info', hi', hb⟩ := hby
  obtain rfl : info = info' := Option.some.inj (hi.symm.trans hi')
  have hown : ∀ b cs T, (b, cs, T) ∈ B → holds w b cs T := fun b cs T hm => (hst.ws.own b cs T (by rw [hO]; simp [hm])).1
  have hbytes : (n + m) * info.bytes ≤ 140737488355328 := by
    have h2 : (n + m) * info.bytes ≤ 100000000000 * 1000 := Nat.mul_le_mul hlen hb
    omega
  obtain ⟨g, cap, w', hr, h2, h3, h4, h5⟩ := run_append_lies (P := P) w t o.type 0 e info z size info.bytes hT hi hz hisz rfl (by rw [← Array.length_toList, hzc, hzl]) hpos
    (.slice p n c) n xs (hsl.owns hown) ⟨bx, ox, none⟩ m cx news hnl (hn.cell hst) (fun u hu => by unfold flat at h1; rw [List.all_eq_true] at h1; exact h1 u hu) hm (by unfold maxLen; omega) hbytes (Nat.zero_le _) _ rfl
  have hrun : (execOp a.eval o).run P w = .ok (.value (.slice (some ⟨g, 0, none⟩) (n + m) cap)) w' := by
    simp [execOp, hop, resolve, hst.eval hs, hst.eval hx, invoke, builtin, hr]
  refine opIn_of (fun c h => by rw [hop] at h; cases h) ?_
  rw [hrun, hd]
  obtain ⟨cs', hsl', hh⟩ := Sl.of_owns h2
  subst hO
  refine rest g cap cs' hsl' _ _ ((hst.grown (fun k hk => ?_) h3 h4 hh).put hN _)
  rcases hsl.2 with ⟨rfl, rfl, rfl, rfl⟩ | ⟨g0, cs, rfl, rfl, _⟩
  · simp [Value.ownBlock] at hk
  · simp only [Value.ownBlock, Option.some.injEq] at hk
    subst hk
    exact ⟨cs, e, by simp⟩

/-- Nothing is appended. -/
theorem op_append0 {s x : Operand} {t e size cx n c : Nat} {p q : Option Addr} (hop : o.op = .call { callee := .builtin .append, args := #[s, x], argTypes := #[t, t] })
    (hs : ev l s = some (.slice p n c)) (hx : ev l x = some (.slice q 0 cx)) (hT : P.underlying t = some (.slice e)) (hsz : sizeB P e = some size) (hc : n ≤ c) : OpV P N w0 l O A o (pv (.slice p n c)) :=
  opv_run fun a w hst => by
    have hl : ∀ b, (loadCells b 0).run P w = .ok #[] w := fun b => by have := run_loadCells_list (P := P) w b [] (fun j v h => by simp at h); simpa using this
    have hst' : ∀ b, (storeCells b []).run P w = .ok () w := fun b => by simp [storeCells]
    cases p <;> cases q <;> simp [execOp, hop, resolve, hst.eval hs, hst.eval hx, invoke, builtin, Builtin.append_, run_underlying hT, run_sizeOf hsz, Builtin.lenOf, Builtin.firstCells, hc, hl, hst']

/-- A literal of one element of several cells. -/
theorem fill_one {n : Nat} {v : Value} {cs zs : List Value} (hv : v.cells = cs.toArray) (hl : cs.length = n) (hz : zs.length = n) : Instr.fill (fun i => some (i * n, n)) zs.toArray [(0, v)] = some cs.toArray := by
  have hc : ¬ ((v.cells.size ≠ n || 0 * n + v.cells.size > zs.toArray.size) = true) := by
    simp [hv, hl, hz]
  have hfold : v.cells.zipIdx.foldl (fun (c : Array Value) (p : Value × Nat) => c.setIfInBounds (0 * n + p.2) p.1) zs.toArray = cs.toArray := by
    have := foldl_setL v.cells.toList 0 (0 * n) zs
    rw [← Array.foldl_toList]
    rw [setL_eq _ _ _ (by simp [hv, hl, hz])] at this
    simp only [hv, Array.toList_zipIdx] at this ⊢
    rw [this]
    simp [hl, ← hz]
  simp only [Instr.fill]
  rw [if_neg hc]
  simp only [hfold]

theorem op_slice1N {T e n : Nat} {x : Operand} {v : Value} {cs zs : List Value} (ho : o.op = .buildSlice T 1 #[(0, x)]) (hx : ev l x = some v) (hv : v.cells = cs.toArray) (hT : P.underlying T = some (.slice e)) (hm : sizeB P e = some n) (hl : cs.length = n) (hz : zeroB P e = some zs) (hzl : zs.length = n) (h0 : Nat.blt 0 n = true) (h24 : Nat.ble n 1000 = true) :
    OpV P N w0 l O A o (Res (fun b => .slice (some ⟨b, 0, none⟩) 1 1) (fun b => [(b, cs, e)]) (fun _ => True)) :=
  opv_new fun a w hs => by
    obtain ⟨i, z, hi, hzz, hisz, hzc⟩ := info_of_siz hm hz
    have h0' : 0 < n := by simpa [Nat.blt_eq] using h0
    have h24' : n ≤ 1000 := Nat.le_of_ble_eq_true h24
    have hne : n ≠ 0 := by omega
    have hle : ¬ (16777216 < n) := by omega
    have hr : (zeroValue e).run P w = .ok z w := by simp [zeroValue, typeInfo, hi, hzz]
    have hmap : ((Array.range n).map fun k => z.cells[k % z.cells.size]!) = z.cells := by
      have hsz : z.cells.size = n := by rw [← Array.length_toList, hzc, hzl]
      apply Array.ext
      · simp [hsz]
      · intro k h1 h2
        simp only [Array.getElem_map, Array.getElem_range]
        rw [Nat.mod_eq_of_lt h2, getElem!_pos z.cells k h2]
    have hfill := fill_one (n := n) (v := v) (cs := cs) (zs := z.cells.toList) hv hl (by rw [hzc, hzl])
    simp only [Array.toArray_toList] at hfill
    simp [execOp, ho, hs.eval hx, Instr.buildSlice, run_underlying hT, run_sizeOf hm, newRow, hr, hne, hle, hmap, hfill]

/-! ### Ends -/
theorem ret_postS {σ : Type} {fn : Func} {val : σ → Value} {blks : σ → Blks} {ok : σ → Prop} {v : Value} (hs : St N w0 l O A a w) (hr : (results fn a.tmps).run P w = .ok v w)
    (s : σ) (hv : v = val s) (hok : ok s) (hB : (blks s).Sublist O) (hN : N.marks = [] ∧ N.wr = [] := by exact ⟨rfl, rfl⟩) : bodyPost P fn (postOf w0 val blks ok) .ret a w := by
  refine ⟨by rw [hs.noDef, hN.1]; rfl, v, hr, v, rfl, hs.bel.below hN.2, s, hv, hok, ?_, ?_⟩
  · intro b cs T hm
    have := hs.ws.own b cs T (hB.subset hm)
    exact ⟨this.1, this.2.resolve_right (by simp [hN.2])⟩
  · exact List.Nodup.sublist (hB.map _) hs.nodup

theorem ret_postMS {σ : Type} {fn : Func} {n D : Nat} {val : σ → Value} {blks : σ → Blks} {ok : σ → Prop} {v : Value} (hs : St ⟨n, [D], none, [], []⟩ w0 l O A a w)
    (hr : ∀ a w, St (C0 n) w0 l O A a w → (results fn a.tmps).run P w = .ok v w)
    (s : σ) (hv : v = val s) (hok : ok s) (hB : (blks s).Sublist O) : bodyPostM (Fr none) 0 P fn (postOf w0 val blks ok) .ret a w := by
  have h1 := hs.unmark (by simp)
  obtain ⟨_, v', h2, h3⟩ := ret_postS h1 (hr _ _ h1) s hv hok hB
  show LeavesInM _ _ _ _ _ _ a.defers _ _
  rw [hs.noDef]
  refine ⟨by simp, .inl ⟨D, _, rfl, run_takeDeferred (hs.marked D (by simp)).1, v', h2, h3⟩⟩

theorem ret_postMS0 {σ : Type} {fn : Func} {n : Nat} {val : σ → Value} {blks : σ → Blks} {ok : σ → Prop} {v : Value} (hs : St (C0 n) w0 l O A a w)
    (hr : ∀ a w, St (C0 n) w0 l O A a w → (results fn a.tmps).run P w = .ok v w)
    (s : σ) (hv : v = val s) (hok : ok s) (hB : (blks s).Sublist O) : bodyPostM (Fr none) 0 P fn (postOf w0 val blks ok) .ret a w := by
  obtain ⟨_, v', h2, h3⟩ := ret_postS hs (hr _ _ hs) s hv hok hB
  show LeavesInM _ _ _ _ _ _ a.defers _ _
  rw [hs.noDef]
  exact ⟨v', h2, h3⟩
end
end Go.Sx
end

section
namespace Go.Proofs.Ytdpnadknaacinaa
open Go.Sx Go.Proofs.Ytdpnadknaacinaa.Ty
set_option linter.unusedVariables false
set_option maxHeartbeats 2000000


theorem gvL_snoc (s : Sp) (k : Nat) (pre : List Int) (r : Int) (v : Int × Int) : gvL s k (pre ++ [r]) v = arS (gvL s k pre v) (leavesS s r k) := by simp [gvL]

theorem gives_fn (s : Sp) (M : Args) (hin : s.In M) (hs0 : OkS s) (k : Nat) (hk : (k : Int) < s.weeks) : Cn Try.prog 77 [spV s, .int .i64 (k : Int)] M (fun _ : Unit => .agg #[.int .i64 (gvS s k).1, .int .i64 (gvS s k).2]) (fun _ => []) (fun _ => True) := by
  obtain ⟨w1, w2, m1, m2, f1, f2, a1, a2, a3, v1, v2, v3⟩ := hs0.ok
  refine fn_introM (n := 22) Try.func77 rfl rfl rfl fun w0 => ?_
  refine okc_seq ?_
  refine okc_region ?_
  refine s_boxA rfl rfl rfl rfl rfl rfl (fun b1 => ?_)
  refine s_box1 rfl rfl rfl rfl rfl rfl rfl (fun b2 => ?_)
  refine s_alloc rfl rfl rfl rfl rfl rfl (fun b3 => ?_)
  refine okl_nil ?_
  change OkC Try.prog _ _ _ _ _ _ _
  refine okc_weak (l' := [(0, _), (1, _), (2, _), (3, _), (4, _)]) ⟨rfl, rfl, rfl, rfl, rfl, trivial⟩ ?_
  refine okc_seq ?_
  refine okc_region ?_
  refine s_field rfl rfl rfl rfl rfl rfl rfl rfl ?_
  refine s_field rfl rfl rfl rfl rfl rfl rfl rfl ?_
  refine s_load1 2 rfl rfl rfl rfl rfl rfl rfl rfl rfl ?_
  refine s_callv rfl rfl rfl rfl rfl rfl rfl c85 (span_fn _ _) covers_nil ?_
  refine s_alloc rfl rfl rfl rfl rfl rfl (fun b4 => ?_)
  refine k_storeW 0 rfl rfl rfl rfl rfl rfl rfl rfl rfl rfl rfl rfl ?_
  refine okl_nil ?_
  change OkC Try.prog _ _ _ _ _ _ _
  refine okc_weak (l' := [(0, _), (1, _), (2, _), (3, _), (4, _), (5, _)]) ⟨rfl, rfl, rfl, rfl, rfl, rfl, trivial⟩ ?_
  refine okc_seq ?_
  refine okc_seq ?_
  refine okc_region ?_
  refine s_loadW 3 rfl rfl rfl rfl rfl rfl rfl rfl rfl rfl ?_
  refine okl_r rfl rfl rfl rfl (op_call rfl rfl rfl c75 (rains_fn s) covers_nil) (fun b5 _ => ?_)
  refine okl_nil ?_
  change OkC Try.prog _ _ _ _ _ _ _
  refine okc_weak (l' := [(0, _), (1, _), (2, _), (3, _), (4, _), (5, _), (13, _)]) ⟨rfl, rfl, rfl, rfl, rfl, rfl, rfl, trivial⟩ ?_
  refine okc_block ?_
  refine okc_reo (l' := [(2, .pointer (some ⟨b1, 0, none⟩)), (3, .pointer (some ⟨b2, 0, none⟩)), (4, .pointer (some ⟨b3, 0, none⟩)), (5, .pointer (some ⟨b4, 0, none⟩)), (13, .func (.func 110) #[] #[.pointer (some ⟨b5, 0, none⟩)])]) (O' := [(b5, spC s, 114), (b1, spC s, 114), (b2, [.int .i64 (k : Int)], 3), (b3, [.int .i64 0, .int .i64 0], 23)] ++ [(b4, [.int .i64 s.most, .int .i64 0], 23)]) ⟨rfl, rfl, rfl, rfl, rfl, trivial⟩ [0, 4, 3, 2, 1] (by simp) rfl ?_
  refine okc_range (rains_it s M hin hs0 b5) rfl rfl rfl c110 (fun _ => rfl) rfl (fun pre Ob => Ob = [(b4, [.int .i64 (gvL s k pre (s.most, 0)).1, .int .i64 (gvL s k pre (s.most, 0)).2], 23)]) (fun _ _ => False) (rfl) ?_ ?_ ?_ ?_
  · intro b cs hb
    rcases List.mem_cons.1 hb with e | hb
    · cases e; exact .inl ⟨114, by simp⟩
    · exact .inr hb
  · rintro pre x Ob W r hpre rfl
    have hxm : x ∈ rainsS s := hpre.subset (by simp)
    have hxo := rains_mem hxm
    have g1 := bd_lo (leavesS s x) (k := k) (n := 0 + k * 2) (by omega) (by omega)
    have g2 := bd_hi (leavesS s x) (k := k) (n := 0 + k * 2 + 1) (by omega) (by omega)
    show OkC Try.prog _ _ _ _ _ _ _
    refine okc_region ?_
    refine s_alloc rfl rfl rfl rfl rfl rfl (fun b6 => ?_)
    refine k_storeW 0 rfl rfl rfl rfl rfl rfl rfl rfl rfl rfl rfl rfl ?_
    refine okl_nil ?_
    refine fun a w hs => ⟨_, _, hs, fun W'' => ?_⟩
    change OkC Try.prog _ _ _ _ _ _ _
    change OkC Try.prog _ _ _ _ _ _ _
    refine okc_weak (l' := [(2, _), (3, _), (4, _), (5, _), (7, _), (13, _), (15, _)]) ⟨rfl, rfl, rfl, rfl, rfl, rfl, rfl, trivial⟩ ?_
    refine okc_block ?_
    refine dr_start [16, 17, 18, 19, 20] ?_
    refine d_loadW 1 [] rfl rfl rfl rfl rfl (fun ν => rfl) rfl rfl (fun ν => rfl) (fun ν => rfl) rfl rfl ?_
    refine d_loadA1 2 [] rfl rfl rfl rfl rfl (fun ν => rfl) rfl rfl (fun ν => rfl) rfl rfl ?_
    refine d_indexA k [1] rfl rfl rfl rfl rfl (fun ν => rfl) rfl (fun ν => rfl) (fun ν => rfl) rfl rfl (by first | rfl | omega) (by omega) rfl ?_
    refine d_loadP2 0 [2] rfl rfl rfl rfl rfl (fun ν => rfl) rfl rfl (fun ν => rfl) (fun ν => rfl) rfl (by assumption) (by assumption) ?_
    refine d_callv [0, 3] rfl rfl rfl rfl rfl (fun ν => rfl) rfl (fun ν => rfl) (fun ν => rfl) c112 (fun ν => around_fn _ _ _ _) (fun ν => covers_nil) ?_
    refine dr_end [16, 17, 18, 19, 20] [4] 5 rfl rfl rfl rfl rfl rfl rfl rfl rfl (fun ν => ?_)
    refine k_storeW 1 rfl rfl rfl rfl rfl rfl rfl rfl rfl rfl rfl rfl ?_
    refine okl_nil ?_
    exact fun a w hs => ⟨[], [(b4, [.int .i64 (gvL s k (pre ++ [x]) (s.most, 0)).1, .int .i64 (gvL s k (pre ++ [x]) (s.most, 0)).2], 23)], rfl, hs.weak trivial [1] (by simp) (by rw [gvL_snoc]; rfl)⟩
  · rintro Ob D rfl
    refine fun a w hs => (?_ : OkC Try.prog ⟨22, [D], none, [], []⟩ w0 _ _ _ _ _) a w hs
    change OkC Try.prog _ _ _ _ _ _ _
    refine okc_weak (l' := [(2, _), (3, _), (4, _), (5, _), (13, _)]) ⟨rfl, rfl, rfl, rfl, rfl, trivial⟩ ?_
    refine okc_seq ?_
    refine okc_region ?_
    refine s_loadW 4 rfl rfl rfl rfl rfl rfl rfl rfl rfl rfl ?_
    refine k_storeW 3 rfl rfl rfl rfl rfl rfl rfl rfl rfl rfl rfl rfl ?_
    refine okl_nil ?_
    change OkC Try.prog _ _ _ _ _ _ _
    refine okc_weak (l' := [(2, _), (3, _), (4, _), (5, _), (13, _)]) ⟨rfl, rfl, rfl, rfl, rfl, trivial⟩ ?_
    refine okc_ret fun a w hs => ?_
    exact ret_vM hs (fun a w hs => run_results1 hs rfl (k_ragg 3 rfl rfl rfl rfl rfl)) rfl
  · exact fun c Ob D h => h.elim
end Go.Proofs.Ytdpnadknaacinaa
end
