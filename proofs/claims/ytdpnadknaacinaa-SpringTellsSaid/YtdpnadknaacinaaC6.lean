/-
  What a rain leaves, as the program reckons it.
  Conditions: none.
-/
import Derived.Test.YtdpnadknaacinaaC5
namespace Go.Proofs.Ytdpnadknaacinaa
open Go.Sx Go.Proofs.Ytdpnadknaacinaa.Ty
set_option linter.unusedVariables false
set_option maxHeartbeats 2000000


structure OkL (s : Sp) (x : Ln) : Prop where
  r1 : 0 ≤ x.rlo
  r2 : x.rlo ≤ x.rhi
  r3 : x.rhi ≤ 20
  w1 : 0 ≤ x.week
  w2 : x.week ≤ s.weeks - 1
  g1 : 0 ≤ x.glo
  g2 : x.glo ≤ x.ghi
  g3 : x.ghi ≤ 100
structure OkS (s : Sp) : Prop where
  ok : Ok s
  book : ∀ x ∈ s.book, OkL s x
  reads : ∀ x ∈ s.reads, OkR s x
  nb : s.book.length ≤ 8
  nr : s.reads.length ≤ 12
theorem rds_ok {s : Sp} : ∀ (L : List Rd) (bef : Int), rdsB s.weeks bef L = true → ∀ x ∈ L, OkR s x
  | [], _, _, x, hx => by cases hx
  | y :: L, bef, h, x, hx => by
    simp only [rdsB, Bool.and_eq_true] at h
    rcases List.mem_cons.1 hx with e | hx
    · subst e
      have h2 := h.1.2
      simp only [readB, isWeekB, isSpanB, inS, Bool.and_eq_true, decide_eq_true_eq] at h2
      constructor <;> omega
    · exact rds_ok L _ h.2 x hx
theorem ok_of_valid {s : Sp} (h : validB s = true) : OkS s := by
  simp only [validB, Bool.and_eq_true, frameB, isSpanB, inS, bookB, readsB, decide_eq_true_eq, List.all_eq_true, lineB, isWeekB] at h
  obtain ⟨⟨hf, hb⟩, hr⟩ := h
  refine ⟨?_, ?_, rds_ok _ _ hr.2, hb.1, hr.1⟩
  · constructor <;> omega
  · intro x hx
    have := hb.2 x hx
    constructor <;> omega

def iniN (most : Int) : Nat → Bd
  | 0 => bz
  | k + 1 => up (iniN most k) k (0, most)
def addL (rain : Int) (f : Bd) (x : Ln) : Bd := if inS x.rlo x.rhi rain then up f x.week.toNat (max (f x.week.toNat).1 x.glo, min (f x.week.toNat).2 x.ghi) else f
def addR (s : Sp) (f : Bd) (x : Rd) : Bd := up f x.week.toNat (max (f x.week.toNat).1 (toldB s x).1, min (f x.week.toNat).2 (toldB s x).2)
def preS (s : Sp) (rain : Int) : Bd := s.reads.foldl (addR s) (s.book.foldl (addL rain) (iniN s.most s.weeks.toNat))
def leavesS (s : Sp) (rain : Int) : Bd := narS s (preS s rain)

theorem ini_ok {most : Int} (h0 : 0 ≤ most) (h1 : most ≤ 100) : ∀ k, BdOk (iniN most k)
  | 0 => fun j => by simp [iniN, bz]
  | k + 1 => (ini_ok h0 h1 k).up _ (by omega) (by omega)
theorem told_bd {s : Sp} {x : Rd} (ho : Ok s) (hx : OkR s x) : 1 ≤ (toldB s x).1 ∧ (toldB s x).1 ≤ 1000000 ∧ 0 ≤ (toldB s x).2 ∧ (toldB s x).2 ≤ 100 := by
  obtain ⟨w1, w2, m1, m2, f1, f2, a1, a2, a3, v1, v2, v3⟩ := ho
  obtain ⟨n1, n2, k1, k2, b1, b2, l1, l2, l3, l4⟩ := hx
  have hp1 := mul_bd (a := x.hi) (b := s.shi) (by omega) l3 (by omega) a3
  have hp2 := mul_pos' (a := x.hi) (b := s.shi) (by omega) (by omega)
  have e1 : 1 ≤ upS (3600 * x.bucket) (x.hi * s.shi) := by
    unfold upS
    have : x.hi * s.shi / (x.hi * s.shi) ≤ (3600 * x.bucket + x.hi * s.shi - 1) / (x.hi * s.shi) := Int.ediv_le_ediv (by omega) (by omega)
    rw [Int.ediv_self (by omega)] at this
    exact this
  have e2 : upS (3600 * x.bucket) (x.hi * s.shi) ≤ 3600 * x.bucket + x.hi * s.shi - 1 := Int.ediv_le_self _ (by omega)
  refine ⟨e1, by show upS _ _ ≤ _; omega, ?_, ?_⟩
  · simp only [toldB]
    split
    · rename_i hp
      have := Int.ediv_nonneg (a := 3600 * x.bucket) (b := x.lo * s.slo) (by omega) (by omega)
      omega
    · omega
  · simp only [toldB]
    split <;> omega
theorem addL_ok {s : Sp} {rain : Int} {f : Bd} (h : BdOk f) {x : Ln} (hx : OkL s x) : BdOk (addL rain f x) := by
  unfold addL
  split
  · have := h x.week.toNat
    obtain ⟨_, _, _, _, _, _, _, _⟩ := hx
    exact h.up _ (by omega) (by omega)
  · exact h
theorem addR_ok {s : Sp} {f : Bd} (ho : Ok s) (h : BdOk f) {x : Rd} (hx : OkR s x) : BdOk (addR s f x) := by
  have := h x.week.toNat
  have := told_bd ho hx
  exact h.up _ (by omega) (by omega)
theorem fold_ok {α : Type} {step : Bd → α → Bd} {L : List α} (hs : ∀ f x, x ∈ L → BdOk f → BdOk (step f x)) {f : Bd} (h : BdOk f) : BdOk (L.foldl step f) := by
  induction L generalizing f with
  | nil => exact h
  | cons y L ih => exact ih (fun f x hx => hs f x (List.mem_cons_of_mem _ hx)) (hs f y (by simp) h)
theorem fold_take {α : Type} (step : Bd → α → Bd) {L : List α} {k : Nat} {x : α} (h : L[k]? = some x) (f : Bd) : (L.take (k + 1)).foldl step f = step ((L.take k).foldl step f) x := by
  rw [List.take_add_one, h]; simp
theorem lns_ok {s : Sp} (hs : OkS s) (rain : Int) (k : Nat) : BdOk ((s.book.take k).foldl (addL rain) (iniN s.most s.weeks.toNat)) :=
  fold_ok (fun f x hx h => addL_ok h (hs.book x (List.mem_of_mem_take hx))) (ini_ok hs.ok.m1 hs.ok.m2 _)
theorem pre_ok' {s : Sp} (hs : OkS s) (rain : Int) (k : Nat) : BdOk ((s.reads.take k).foldl (addR s) (s.book.foldl (addL rain) (iniN s.most s.weeks.toNat))) := by
  refine fold_ok (fun f x hx h => addR_ok hs.ok h (hs.reads x (List.mem_of_mem_take hx))) ?_
  have := lns_ok hs rain s.book.length
  rwa [List.take_length] at this

theorem leaves_fn (s : Sp) (rain : Int) (M : Args) (hin : s.In M) (hs0 : OkS s) : Cn Try.prog 111 [spV s, .int .i64 rain] M (fun _ : Unit => bdV (leavesS s rain)) (fun _ => []) (fun _ => True) := by
  have ho := hs0.ok
  have ho2 := ho
  obtain ⟨w1, w2, m1, m2, f1, f2, a1, a2, a3, v1, v2, v3⟩ := ho2
  obtain ⟨bB, oB, cB, jB, hB⟩ := hin.book
  have hbn := hin.bn
  obtain ⟨bR, oR, cR, jR, hR⟩ := hin.reads
  have hrn := hin.rn
  refine fn_intro (N := 71) Try.func111 rfl rfl rfl fun w0 => ?_
  refine okc_seq ?_
  refine okc_region ?_
  refine s_boxA rfl rfl rfl rfl rfl rfl (fun b1 => ?_)
  refine s_alloc rfl rfl rfl rfl rfl rfl (fun b2 => ?_)
  refine okl_nil ?_
  change OkC Try.prog _ _ _ _ _ _ _
  refine okc_weak (l' := [(0, _), (1, _), (2, _), (4, _)]) ⟨rfl, rfl, rfl, rfl, trivial⟩ ?_
  refine okc_seq ?_
  refine okc_region ?_
  refine s_alloc rfl rfl rfl rfl rfl rfl (fun b3 => ?_)
  refine okl_nil ?_
  change OkC Try.prog _ _ _ _ _ _ _
  refine okc_weak (l' := [(0, _), (1, _), (2, _), (4, _), (5, _)]) ⟨rfl, rfl, rfl, rfl, rfl, trivial⟩ ?_
  refine okc_seq ?_
  refine okc_seq ?_
  refine okc_region ?_
  refine s_field rfl rfl rfl rfl rfl rfl rfl rfl ?_
  refine s_field rfl rfl rfl rfl rfl rfl rfl rfl ?_
  refine s_load1 2 rfl rfl rfl rfl rfl rfl rfl rfl rfl ?_
  refine s_move rfl rfl rfl rfl rfl rfl ?_
  refine okl_nil ?_
  change OkC Try.prog _ _ _ _ _ _ _
  refine okc_weak (l' := [(0, _), (1, _), (2, _), (4, _), (5, _), (13, _), (14, _)]) ⟨rfl, rfl, rfl, rfl, rfl, rfl, rfl, trivial⟩ ?_
  refine okc_block ?_
  refine okc_loop (γ := Nat) (fun k => [(1, .int .i64 rain), (2, .pointer (some ⟨b1, 0, none⟩)), (4, .pointer (some ⟨b2, 0, none⟩)), (5, .pointer (some ⟨b3, 0, none⟩)), (13, .int .i64 s.weeks), (14, .int .i64 k)]) (fun k => [(b3, bdC (iniN s.most k), 167), (b2, bdC bz, 167), (b1, [.int .i64 s.weeks, .int .i64 s.most, .int .i64 s.fall, .int .i64 s.slo, .int .i64 s.shi, .int .i64 s.wlo, .int .i64 s.whi, .slice s.bp s.book.length s.bc, .slice s.rp s.reads.length s.rc], 114)]) (fun k => (k : Int) ≤ s.weeks) (fun k => s.weeks.toNat - k) 0 (by omega) (fun a w hs => hs.weak ⟨rfl, rfl, rfl, rfl, rfl, rfl, trivial⟩ [0, 1, 2] (by simp) (by rfl)) ?_
  rintro k hk
  refine okc_seq ?_
  refine okc_region ?_
  refine s_cmpS rfl rfl rfl rfl rfl rfl rfl rfl (fun h4 => ?_) (fun h4 => ?_)
  · have hlt : (k : Int) < s.weeks := by simpa using h4
    refine okl_nil ?_
    change OkC Try.prog _ _ _ _ _ _ _
    refine okc_weak (l' := [(1, _), (2, _), (4, _), (5, _), (13, _), (14, _), (15, _)]) ⟨rfl, rfl, rfl, rfl, rfl, rfl, rfl, trivial⟩ ?_
    refine okc_seq ?_
    refine okc_cond_t rfl ?_
    refine okc_skip ?_
    change OkC Try.prog _ _ _ _ _ _ _
    refine okc_weak (l' := [(1, _), (2, _), (4, _), (5, _), (13, _), (14, _), (15, _)]) ⟨rfl, rfl, rfl, rfl, rfl, rfl, rfl, trivial⟩ ?_
    refine okc_seq ?_
    refine okc_block ?_
    refine okc_seq ?_
    refine okc_region ?_
    refine s_move rfl rfl rfl rfl rfl rfl ?_
    refine s_assign rfl rfl rfl rfl rfl rfl ?_
    refine okl_nil ?_
    change OkC Try.prog _ _ _ _ _ _ _
    refine okc_weak (l' := [(1, _), (2, _), (4, _), (5, _), (6, _), (13, _), (14, _), (15, _)]) ⟨rfl, rfl, rfl, rfl, rfl, rfl, rfl, rfl, trivial⟩ ?_
    refine okc_region ?_
    refine s_move rfl rfl rfl rfl rfl rfl ?_
    refine s_field rfl rfl rfl rfl rfl rfl rfl rfl ?_
    refine s_field rfl rfl rfl rfl rfl rfl rfl rfl ?_
    refine s_load1 2 rfl rfl rfl rfl rfl rfl rfl rfl rfl ?_
    refine s_callv rfl rfl rfl rfl rfl rfl rfl c85 (span_fn _ _) covers_nil ?_
    refine s_indexA k rfl rfl rfl rfl rfl rfl rfl rfl rfl (by first | rfl | omega) (by omega) rfl ?_
    refine k_store 0 rfl rfl rfl rfl rfl rfl rfl rfl rfl rfl (Nat.ble_eq_true_of_le (by show _ ≤ 20; omega)) rfl ?_
    refine okl_nil ?_
    change OkC Try.prog _ _ _ _ _ _ _
    refine okc_weak (l' := [(1, _), (2, _), (4, _), (5, _), (6, _), (13, _), (14, _), (15, _)]) ⟨rfl, rfl, rfl, rfl, rfl, rfl, rfl, rfl, trivial⟩ ?_
    refine okc_region ?_
    refine s_add rfl rfl rfl rfl rfl rfl rfl (by omega) ?_
    refine s_move rfl rfl rfl rfl rfl rfl ?_
    refine okl_nil ?_
    refine fun a w hs => ⟨k + 1, by omega, by omega, ?_⟩
    rw [bd_set _ (k := k) (by omega) (by omega)] at hs
    refine hs.weak ⟨rfl, rfl, rfl, rfl, rfl, rfl, trivial⟩ [0, 1, 2] (by simp) ?_
    rfl
  · have hge : ¬ (k : Int) < s.weeks := by simpa using h4
    have hkw : k = s.weeks.toNat := by omega
    subst hkw
    refine okl_nil ?_
    change OkC Try.prog _ _ _ _ _ _ _
    refine okc_weak (l' := [(1, _), (2, _), (4, _), (5, _), (13, _), (14, _), (15, _)]) ⟨rfl, rfl, rfl, rfl, rfl, rfl, rfl, trivial⟩ ?_
    refine okc_seq ?_
    refine okc_cond_f rfl ?_
    refine okc_exit ?_
    change OkC Try.prog _ _ _ _ _ _ _
    refine okc_weak (l' := [(1, _), (2, _), (4, _), (5, _), (13, _), (14, _), (15, _)]) ⟨rfl, rfl, rfl, rfl, rfl, rfl, rfl, trivial⟩ ?_
    refine okc_seq ?_
    refine okc_seq ?_
    refine okc_region ?_
    refine s_field rfl rfl rfl rfl rfl rfl rfl rfl ?_
    refine s_field rfl rfl rfl rfl rfl rfl rfl rfl ?_
    refine s_load1 2 rfl rfl rfl rfl rfl rfl rfl rfl rfl ?_
    refine s_len rfl rfl rfl rfl rfl rfl rfl ?_
    refine s_move rfl rfl rfl rfl rfl rfl ?_
    refine okl_nil ?_
    change OkC Try.prog _ _ _ _ _ _ _
    refine okc_weak (l' := [(1, _), (2, _), (4, _), (5, _), (13, _), (14, _), (15, _), (26, _), (27, _), (28, _)]) ⟨rfl, rfl, rfl, rfl, rfl, rfl, rfl, rfl, rfl, rfl, trivial⟩ ?_
    refine okc_block ?_
    refine okc_loop (γ := Nat) (fun k => [(1, .int .i64 rain), (2, .pointer (some ⟨b1, 0, none⟩)), (4, .pointer (some ⟨b2, 0, none⟩)), (5, .pointer (some ⟨b3, 0, none⟩)), (26, .slice s.bp s.book.length s.bc), (27, .int .i64 s.book.length), (28, .int .i64 k)]) (fun k => [(b3, bdC ((s.book.take k).foldl (addL rain) (iniN s.most s.weeks.toNat)), 167), (b2, bdC bz, 167), (b1, [.int .i64 s.weeks, .int .i64 s.most, .int .i64 s.fall, .int .i64 s.slo, .int .i64 s.shi, .int .i64 s.wlo, .int .i64 s.whi, .slice s.bp s.book.length s.bc, .slice s.rp s.reads.length s.rc], 114)]) (fun k => k ≤ s.book.length) (fun k => s.book.length - k) 0 (by omega) (fun a w hs => hs.weak ⟨rfl, rfl, rfl, rfl, rfl, rfl, rfl, trivial⟩ [0, 1, 2] (by simp) (by rfl)) ?_
    rintro k hk
    refine okc_seq ?_
    refine okc_region ?_
    refine s_cmpS rfl rfl rfl rfl rfl rfl rfl rfl (fun h5 => ?_) (fun h5 => ?_)
    · have hlt : k < s.book.length := by simpa using h5
      obtain ⟨x, hx⟩ : ∃ x, s.book[k]? = some x := ⟨s.book[k], by simp [hlt]⟩
      obtain ⟨hpB, hjB, hatB⟩ := hB (by intro e; simp [e] at hlt)
      have hcell := hatB k x hx
      have hxo := hs0.book x (List.mem_of_getElem? hx)
      obtain ⟨r1, r2, r3, k1, k2, y1, y2, y3⟩ := hxo
      obtain ⟨m, hm⟩ : ∃ m : Nat, x.week = m := ⟨x.week.toNat, by omega⟩
      have hF := lns_ok hs0 rain k
      have g1 := bd_lo ((s.book.take k).foldl (addL rain) (iniN s.most s.weeks.toNat)) (k := m) (n := 0 + m * 2) (by omega) (by omega)
      have g2 := bd_hi ((s.book.take k).foldl (addL rain) (iniN s.most s.weeks.toNat)) (k := m) (n := 0 + m * 2 + 1) (by omega) (by omega)
      refine okl_nil ?_
      change OkC Try.prog _ _ _ _ _ _ _
      refine okc_weak (l' := [(1, _), (2, _), (4, _), (5, _), (26, _), (27, _), (28, _), (29, _)]) ⟨rfl, rfl, rfl, rfl, rfl, rfl, rfl, rfl, trivial⟩ ?_
      refine okc_seq ?_
      refine okc_cond_t rfl ?_
      refine okc_skip ?_
      change OkC Try.prog _ _ _ _ _ _ _
      refine okc_weak (l' := [(1, _), (2, _), (4, _), (5, _), (26, _), (27, _), (28, _), (29, _)]) ⟨rfl, rfl, rfl, rfl, rfl, rfl, rfl, rfl, trivial⟩ ?_
      refine okc_seq ?_
      refine okc_block ?_
      refine okc_seq ?_
      refine okc_region ?_
      refine s_indexP k hpB rfl rfl rfl rfl rfl rfl rfl rfl rfl rfl (by omega) rfl ?_
      refine s_loadAP jB rfl rfl rfl rfl rfl rfl rfl hjB rfl (by assumption) rfl ?_
      refine s_alloc rfl rfl rfl rfl rfl rfl (fun b6 => ?_)
      refine k_storeW 0 rfl rfl rfl rfl rfl rfl rfl rfl rfl rfl rfl rfl ?_
      refine okl_nil ?_
      change OkC Try.prog _ _ _ _ _ _ _
      refine okc_weak (l' := [(1, _), (2, _), (4, _), (5, _), (8, _), (26, _), (27, _), (28, _), (29, _)]) ⟨rfl, rfl, rfl, rfl, rfl, rfl, rfl, rfl, rfl, trivial⟩ ?_
      refine okc_seq ?_
      refine okc_region ?_
      refine s_field rfl rfl rfl rfl rfl rfl rfl rfl ?_
      refine s_loadP2 0 rfl rfl rfl rfl rfl rfl rfl rfl rfl rfl rfl ?_
      refine s_move rfl rfl rfl rfl rfl rfl ?_
      refine s_slice1 rfl rfl rfl rfl rfl rfl rfl rfl rfl rfl (fun b7 => ?_)
      refine s_callb rfl rfl rfl rfl rfl rfl rfl c131 (within_fn _ _ [_] _ 1 (by simp)) (covers_own 0 rfl covers_nil) (fun h8 => ?_) (fun h8 => ?_)
      · have hin2 : inS x.rlo x.rhi rain = true := by simpa using h8
        refine okl_nil ?_
        change OkC Try.prog _ _ _ _ _ _ _
        refine okc_weak (l' := [(1, _), (2, _), (4, _), (5, _), (8, _), (26, _), (27, _), (28, _), (29, _), (36, _)]) ⟨rfl, rfl, rfl, rfl, rfl, rfl, rfl, rfl, rfl, rfl, trivial⟩ ?_
        refine okc_cond_t rfl ?_
        refine dr_start [37, 38, 39, 40, 41, 42, 43, 44, 45, 46] ?_
        refine d_field [] rfl rfl rfl rfl rfl (fun ν => rfl) rfl (fun ν => rfl) rfl rfl ?_
        refine d_load1 1 [0] rfl rfl rfl rfl rfl (fun ν => rfl) rfl rfl (fun ν => rfl) (fun ν => rfl) rfl ?_
        refine d_field [] rfl rfl rfl rfl rfl (fun ν => rfl) rfl (fun ν => rfl) rfl rfl ?_
        refine d_load1 1 [2] rfl rfl rfl rfl rfl (fun ν => rfl) rfl rfl (fun ν => rfl) (fun ν => rfl) rfl ?_
        refine d_indexA m [3] rfl rfl rfl rfl rfl (fun ν => rfl) rfl (fun ν => rfl) (fun ν => rfl) rfl rfl (by first | rfl | omega) (by omega) rfl ?_
        refine d_loadP2 2 [4] rfl rfl rfl rfl rfl (fun ν => rfl) rfl rfl (fun ν => rfl) (fun ν => rfl) rfl (by assumption) (by assumption) ?_
        refine d_field [] rfl rfl rfl rfl rfl (fun ν => rfl) rfl (fun ν => rfl) rfl rfl ?_
        refine d_loadP2 1 [6] rfl rfl rfl rfl rfl (fun ν => rfl) rfl rfl (fun ν => rfl) (fun ν => rfl) rfl rfl rfl ?_
        refine d_callv [5, 7] rfl rfl rfl rfl rfl (fun ν => rfl) rfl (fun ν => rfl) (fun ν => rfl) c135 (fun ν => both_fn _ _ _ _) (fun ν => covers_nil) ?_
        refine d_indexA m [1] rfl rfl rfl rfl rfl (fun ν => rfl) rfl (fun ν => rfl) (fun ν => rfl) rfl rfl (by first | rfl | omega) (by omega) rfl ?_
        refine dr_end [37, 38, 39, 40, 41, 42, 43, 44, 45, 46] [8, 9] 10 rfl rfl rfl rfl rfl rfl rfl rfl rfl (fun ν => ?_)
        refine k_store 2 rfl rfl rfl rfl rfl rfl rfl rfl rfl rfl (Nat.ble_eq_true_of_le (by show _ ≤ 20; omega)) rfl ?_
        refine okl_nil ?_
        change OkC Try.prog _ _ _ _ _ _ _
        refine okc_weak (l' := [(1, _), (2, _), (4, _), (5, _), (8, _), (26, _), (27, _), (28, _), (29, _), (36, _)]) ⟨rfl, rfl, rfl, rfl, rfl, rfl, rfl, rfl, rfl, rfl, trivial⟩ ?_
        refine okc_region ?_
        refine s_add rfl rfl rfl rfl rfl rfl rfl (by omega) ?_
        refine s_move rfl rfl rfl rfl rfl rfl ?_
        refine okl_nil ?_
        refine fun a w hs => ⟨k + 1, by omega, by omega, ?_⟩
        try rw [bd_set _ (k := m) (by omega) (by omega)] at hs
        refine hs.weak ⟨rfl, rfl, rfl, rfl, rfl, rfl, rfl, trivial⟩ [2, 3, 4] (by simp) ?_
        first | (rw [fold_take _ hx, addL, if_pos hin2, hm]; rfl) | (rw [fold_take _ hx, addL, if_neg (by simp [hin2])]; rfl)
      · have hin2 : inS x.rlo x.rhi rain = false := by simpa using h8
        refine okl_nil ?_
        change OkC Try.prog _ _ _ _ _ _ _
        refine okc_weak (l' := [(1, _), (2, _), (4, _), (5, _), (8, _), (26, _), (27, _), (28, _), (29, _), (36, _)]) ⟨rfl, rfl, rfl, rfl, rfl, rfl, rfl, rfl, rfl, rfl, trivial⟩ ?_
        refine okc_cond_f rfl ?_
        refine okc_skip ?_
        change OkC Try.prog _ _ _ _ _ _ _
        refine okc_weak (l' := [(1, _), (2, _), (4, _), (5, _), (8, _), (26, _), (27, _), (28, _), (29, _), (36, _)]) ⟨rfl, rfl, rfl, rfl, rfl, rfl, rfl, rfl, rfl, rfl, trivial⟩ ?_
        refine okc_region ?_
        refine s_add rfl rfl rfl rfl rfl rfl rfl (by omega) ?_
        refine s_move rfl rfl rfl rfl rfl rfl ?_
        refine okl_nil ?_
        refine fun a w hs => ⟨k + 1, by omega, by omega, ?_⟩
        try rw [bd_set _ (k := m) (by omega) (by omega)] at hs
        refine hs.weak ⟨rfl, rfl, rfl, rfl, rfl, rfl, rfl, trivial⟩ [2, 3, 4] (by simp) ?_
        first | (rw [fold_take _ hx, addL, if_pos hin2, hm]; rfl) | (rw [fold_take _ hx, addL, if_neg (by simp [hin2])]; rfl)
    · have hge : ¬ k < s.book.length := by simpa using h5
      have hkw : k = s.book.length := by omega
      subst hkw
      rw [List.take_length]
      refine okl_nil ?_
      change OkC Try.prog _ _ _ _ _ _ _
      refine okc_weak (l' := [(1, _), (2, _), (4, _), (5, _), (26, _), (27, _), (28, _), (29, _)]) ⟨rfl, rfl, rfl, rfl, rfl, rfl, rfl, rfl, trivial⟩ ?_
      refine okc_seq ?_
      refine okc_cond_f rfl ?_
      refine okc_exit ?_
      change OkC Try.prog _ _ _ _ _ _ _
      refine okc_weak (l' := [(1, _), (2, _), (4, _), (5, _), (26, _), (27, _), (28, _), (29, _)]) ⟨rfl, rfl, rfl, rfl, rfl, rfl, rfl, rfl, trivial⟩ ?_
      refine okc_seq ?_
      refine okc_seq ?_
      refine okc_region ?_
      refine s_field rfl rfl rfl rfl rfl rfl rfl rfl ?_
      refine s_field rfl rfl rfl rfl rfl rfl rfl rfl ?_
      refine s_load1 2 rfl rfl rfl rfl rfl rfl rfl rfl rfl ?_
      refine s_len rfl rfl rfl rfl rfl rfl rfl ?_
      refine s_move rfl rfl rfl rfl rfl rfl ?_
      refine okl_nil ?_
      change OkC Try.prog _ _ _ _ _ _ _
      refine okc_weak (l' := [(1, _), (2, _), (4, _), (5, _), (26, _), (27, _), (28, _), (29, _), (50, _), (51, _), (52, _)]) ⟨rfl, rfl, rfl, rfl, rfl, rfl, rfl, rfl, rfl, rfl, rfl, trivial⟩ ?_
      refine okc_block ?_
      refine okc_loop (γ := Nat) (fun k => [(1, .int .i64 rain), (2, .pointer (some ⟨b1, 0, none⟩)), (4, .pointer (some ⟨b2, 0, none⟩)), (5, .pointer (some ⟨b3, 0, none⟩)), (50, .slice s.rp s.reads.length s.rc), (51, .int .i64 s.reads.length), (52, .int .i64 k)]) (fun k => [(b3, bdC ((s.reads.take k).foldl (addR s) (s.book.foldl (addL rain) (iniN s.most s.weeks.toNat))), 167), (b2, bdC bz, 167), (b1, [.int .i64 s.weeks, .int .i64 s.most, .int .i64 s.fall, .int .i64 s.slo, .int .i64 s.shi, .int .i64 s.wlo, .int .i64 s.whi, .slice s.bp s.book.length s.bc, .slice s.rp s.reads.length s.rc], 114)]) (fun k => k ≤ s.reads.length) (fun k => s.reads.length - k) 0 (by omega) (fun a w hs => hs.weak ⟨rfl, rfl, rfl, rfl, rfl, rfl, rfl, trivial⟩ [0, 1, 2] (by simp) (by rfl)) ?_
      rintro k hk
      refine okc_seq ?_
      refine okc_region ?_
      refine s_cmpS rfl rfl rfl rfl rfl rfl rfl rfl (fun h9 => ?_) (fun h9 => ?_)
      · have hlt : k < s.reads.length := by simpa using h9
        obtain ⟨x, hx⟩ : ∃ x, s.reads[k]? = some x := ⟨s.reads[k], by simp [hlt]⟩
        obtain ⟨hpR, hjR, hatR⟩ := hR (by intro e; simp [e] at hlt)
        have hcell := hatR k x hx
        have hxo := hs0.reads x (List.mem_of_getElem? hx)
        have hxo2 := hxo
        obtain ⟨n1, n2, k1, k2, b1, b2, l1, l2, l3, l4⟩ := hxo2
        obtain ⟨m, hm⟩ : ∃ m : Nat, x.week = m := ⟨x.week.toNat, by omega⟩
        have hF := pre_ok' hs0 rain k
        have g1 := bd_lo ((s.reads.take k).foldl (addR s) (s.book.foldl (addL rain) (iniN s.most s.weeks.toNat))) (k := m) (n := 0 + m * 2) (by omega) (by omega)
        have g2 := bd_hi ((s.reads.take k).foldl (addR s) (s.book.foldl (addL rain) (iniN s.most s.weeks.toNat))) (k := m) (n := 0 + m * 2 + 1) (by omega) (by omega)
        refine okl_nil ?_
        change OkC Try.prog _ _ _ _ _ _ _
        refine okc_weak (l' := [(1, _), (2, _), (4, _), (5, _), (50, _), (51, _), (52, _), (53, _)]) ⟨rfl, rfl, rfl, rfl, rfl, rfl, rfl, rfl, trivial⟩ ?_
        refine okc_seq ?_
        refine okc_cond_t rfl ?_
        refine okc_skip ?_
        change OkC Try.prog _ _ _ _ _ _ _
        refine okc_weak (l' := [(1, _), (2, _), (4, _), (5, _), (50, _), (51, _), (52, _), (53, _)]) ⟨rfl, rfl, rfl, rfl, rfl, rfl, rfl, rfl, trivial⟩ ?_
        refine okc_seq ?_
        refine okc_block ?_
        refine okc_seq ?_
        refine okc_region ?_
        refine s_indexP k hpR rfl rfl rfl rfl rfl rfl rfl rfl rfl rfl (by omega) rfl ?_
        refine s_loadAP jR rfl rfl rfl rfl rfl rfl rfl hjR rfl (by assumption) rfl ?_
        refine s_alloc rfl rfl rfl rfl rfl rfl (fun b10 => ?_)
        refine k_storeW 0 rfl rfl rfl rfl rfl rfl rfl rfl rfl rfl rfl rfl ?_
        refine okl_nil ?_
        change OkC Try.prog _ _ _ _ _ _ _
        refine okc_weak (l' := [(1, _), (2, _), (4, _), (5, _), (10, _), (50, _), (51, _), (52, _), (53, _)]) ⟨rfl, rfl, rfl, rfl, rfl, rfl, rfl, rfl, rfl, trivial⟩ ?_
        refine dr_start [56, 57, 58, 59, 60, 61, 62, 63, 64, 65, 66] ?_
        refine d_field [] rfl rfl rfl rfl rfl (fun ν => rfl) rfl (fun ν => rfl) rfl rfl ?_
        refine d_load1 0 [0] rfl rfl rfl rfl rfl (fun ν => rfl) rfl rfl (fun ν => rfl) (fun ν => rfl) rfl ?_
        refine d_field [] rfl rfl rfl rfl rfl (fun ν => rfl) rfl (fun ν => rfl) rfl rfl ?_
        refine d_load1 0 [2] rfl rfl rfl rfl rfl (fun ν => rfl) rfl rfl (fun ν => rfl) (fun ν => rfl) rfl ?_
        refine d_indexA m [3] rfl rfl rfl rfl rfl (fun ν => rfl) rfl (fun ν => rfl) (fun ν => rfl) rfl rfl (by first | rfl | omega) (by omega) rfl ?_
        refine d_loadP2 1 [4] rfl rfl rfl rfl rfl (fun ν => rfl) rfl rfl (fun ν => rfl) (fun ν => rfl) rfl (by assumption) (by assumption) ?_
        refine d_loadW 3 [] rfl rfl rfl rfl rfl (fun ν => rfl) rfl rfl (fun ν => rfl) (fun ν => rfl) rfl rfl ?_
        refine d_loadW 0 [] rfl rfl rfl rfl rfl (fun ν => rfl) rfl rfl (fun ν => rfl) (fun ν => rfl) rfl rfl ?_
        refine d_callv [6, 7] rfl rfl rfl rfl rfl (fun ν => rfl) rfl (fun ν => rfl) (fun ν => rfl) c91 (fun ν => told_fn _ _ (by assumption) (by assumption)) (fun ν => covers_nil) ?_
        refine d_callv [5, 8] rfl rfl rfl rfl rfl (fun ν => rfl) rfl (fun ν => rfl) (fun ν => rfl) c135 (fun ν => both_fn _ _ _ _) (fun ν => covers_nil) ?_
        refine d_indexA m [1] rfl rfl rfl rfl rfl (fun ν => rfl) rfl (fun ν => rfl) (fun ν => rfl) rfl rfl (by first | rfl | omega) (by omega) rfl ?_
        refine dr_end [56, 57, 58, 59, 60, 61, 62, 63, 64, 65, 66] [9, 10] 11 rfl rfl rfl rfl rfl rfl rfl rfl rfl (fun ν => ?_)
        refine k_store 1 rfl rfl rfl rfl rfl rfl rfl rfl rfl rfl (Nat.ble_eq_true_of_le (by show _ ≤ 20; omega)) rfl ?_
        refine okl_nil ?_
        change OkC Try.prog _ _ _ _ _ _ _
        refine okc_weak (l' := [(1, _), (2, _), (4, _), (5, _), (10, _), (50, _), (51, _), (52, _), (53, _)]) ⟨rfl, rfl, rfl, rfl, rfl, rfl, rfl, rfl, rfl, trivial⟩ ?_
        refine okc_region ?_
        refine s_add rfl rfl rfl rfl rfl rfl rfl (by omega) ?_
        refine s_move rfl rfl rfl rfl rfl rfl ?_
        refine okl_nil ?_
        refine fun a w hs => ⟨k + 1, by omega, by omega, ?_⟩
        rw [bd_set _ (k := m) (by omega) (by omega)] at hs
        refine hs.weak ⟨rfl, rfl, rfl, rfl, rfl, rfl, rfl, trivial⟩ [1, 2, 3] (by simp) ?_
        rw [fold_take _ hx, addR, hm]; rfl
      · have hge : ¬ k < s.reads.length := by simpa using h9
        have hkw : k = s.reads.length := by omega
        have hpre := pre_ok' hs0 rain k
        subst hkw
        rw [List.take_length] at hpre ⊢
        refine okl_nil ?_
        change OkC Try.prog _ _ _ _ _ _ _
        refine okc_weak (l' := [(1, _), (2, _), (4, _), (5, _), (50, _), (51, _), (52, _), (53, _)]) ⟨rfl, rfl, rfl, rfl, rfl, rfl, rfl, rfl, trivial⟩ ?_
        refine okc_seq ?_
        refine okc_cond_f rfl ?_
        refine okc_exit ?_
        change OkC Try.prog _ _ _ _ _ _ _
        refine okc_weak (l' := [(1, _), (2, _), (4, _), (5, _), (50, _), (51, _), (52, _), (53, _)]) ⟨rfl, rfl, rfl, rfl, rfl, rfl, rfl, rfl, trivial⟩ ?_
        refine okc_seq ?_
        refine okc_region ?_
        refine s_loadW 2 rfl rfl rfl rfl rfl rfl rfl rfl rfl rfl ?_
        refine s_loadW 0 rfl rfl rfl rfl rfl rfl rfl rfl rfl (by first | rfl | assumption) ?_
        refine s_callv rfl rfl rfl rfl rfl rfl rfl c136 (narrow_fn _ _ (by assumption) (by assumption)) covers_nil ?_
        refine k_storeW 1 rfl rfl rfl rfl rfl rfl rfl rfl rfl rfl rfl rfl ?_
        refine okl_nil ?_
        change OkC Try.prog _ _ _ _ _ _ _
        refine okc_weak (l' := [(1, _), (2, _), (4, _), (5, _), (50, _), (51, _), (52, _), (53, _)]) ⟨rfl, rfl, rfl, rfl, rfl, rfl, rfl, rfl, trivial⟩ ?_
        refine okc_ret fun a w hs => ?_
        exact ret_v hs (run_results1 hs rfl (k_ragg 1 rfl rfl rfl rfl rfl)) (by clear hs; rfl)

end Go.Proofs.Ytdpnadknaacinaa
