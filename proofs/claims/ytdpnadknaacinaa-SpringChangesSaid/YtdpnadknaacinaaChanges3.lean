/-
  Texts that the proof uses, part 3.
  Conditions: none.
-/
import Derived.Test.YtdpnadknaacinaaChanges2
import Derived.RangeFuncIn
import Derived.RangeFuncRecord
import Derived.RangeFuncSeq
import Derived.Scope

set_option linter.unusedVariables false
set_option linter.unusedSimpArgs false

section
namespace Go.Proofs.Ytdpnadknaacinaa
open Go.Sx Go.Proofs.Ytdpnadknaacinaa.Ty
set_option linter.unusedVariables false
set_option maxHeartbeats 2000000


def bookB (weeks : Int) (L : List Ln) : Bool := decide (L.length ≤ 8) && L.all (lineB weeks)
def rdsB (weeks : Int) : Int → List Rd → Bool
  | _, [] => true
  | before, x :: xs => decide (before < x.number) && readB weeks x && rdsB weeks x.number xs
def readsB (weeks : Int) (L : List Rd) : Bool := decide (L.length ≤ 12) && rdsB weeks 0 L
def validB (s : Sp) : Bool := frameB s && bookB s.weeks s.book && readsB s.weeks s.reads

theorem drop_at {α : Type} {L : List α} {k : Nat} {x : α} (h : L[k]? = some x) : L.drop k = x :: L.drop (k + 1) := by
  obtain ⟨hlt, rfl⟩ := List.getElem?_eq_some_iff.1 h
  exact List.drop_eq_getElem_cons hlt

theorem validBook_fn (s : Sp) (M : Args) (hin : s.In M) (h1 : 1 ≤ s.weeks) (h2 : s.weeks ≤ 10) : Cn Try.prog 141 [spV s] M (fun _ : Unit => .bool (bookB s.weeks s.book)) (fun _ => []) (fun _ => True) := by
  obtain ⟨bB, oB, cB, jB, hB⟩ := hin.book
  have hbn := hin.bn
  refine fn_intro (N := 21) Try.func141 rfl rfl rfl fun w0 => ?_
  refine okc_seq ?_
  refine okc_region ?_
  refine s_boxA rfl rfl rfl rfl rfl rfl (fun b1 => ?_)
  refine s_assign rfl rfl rfl rfl rfl rfl ?_
  refine okl_nil ?_
  change OkC Try.prog _ _ _ _ _ _ _
  refine okc_weak (l' := [(0, _), (1, _), (2, _)]) ⟨rfl, rfl, rfl, trivial⟩ ?_
  refine okc_seq ?_
  refine okc_seq ?_
  refine okc_region ?_
  refine s_field rfl rfl rfl rfl rfl rfl rfl rfl ?_
  refine s_load1 0 rfl rfl rfl rfl rfl rfl rfl rfl rfl ?_
  refine s_len rfl rfl rfl rfl rfl rfl rfl ?_
  refine s_cmpS rfl rfl rfl rfl rfl rfl rfl rfl (fun h2 => ?_) (fun h2 => ?_)
  · refine okl_nil ?_
    change OkC Try.prog _ _ _ _ _ _ _
    refine okc_weak (l' := [(0, _), (1, _), (2, _), (8, _)]) ⟨rfl, rfl, rfl, rfl, trivial⟩ ?_
    refine okc_cond_t rfl ?_
    refine okc_seq ?_
    refine okc_region ?_
    refine s_assign rfl rfl rfl rfl rfl rfl ?_
    refine okl_nil ?_
    change OkC Try.prog _ _ _ _ _ _ _
    refine okc_weak (l' := [(0, _), (1, _), (2, _), (8, _)]) ⟨rfl, rfl, rfl, rfl, trivial⟩ ?_
    refine okc_ret fun a w hs => ?_
    exact ret_v hs (run_results1 hs rfl (rv_tmp rfl)) (by clear hs hB; first | (simp_all [bookB]; done) | (rw [bookB, all_false hx (by simp_all)]; simp; done) | (rw [bookB, all_end hge hall]; simp_all; done) | (simp_all [bookB]; omega))
  · have hle8 : s.book.length ≤ 8 := by have hq := h2; simp at hq; omega
    refine okl_nil ?_
    change OkC Try.prog _ _ _ _ _ _ _
    refine okc_weak (l' := [(0, _), (1, _), (2, _), (8, _)]) ⟨rfl, rfl, rfl, rfl, trivial⟩ ?_
    refine okc_cond_f rfl ?_
    refine okc_skip ?_
    change OkC Try.prog _ _ _ _ _ _ _
    refine okc_weak (l' := [(0, _), (1, _), (2, _), (8, _)]) ⟨rfl, rfl, rfl, rfl, trivial⟩ ?_
    refine okc_seq ?_
    refine okc_seq ?_
    refine okc_region ?_
    refine s_field rfl rfl rfl rfl rfl rfl rfl rfl ?_
    refine s_load1 0 rfl rfl rfl rfl rfl rfl rfl rfl rfl ?_
    refine s_len rfl rfl rfl rfl rfl rfl rfl ?_
    refine s_move rfl rfl rfl rfl rfl rfl ?_
    refine okl_nil ?_
    change OkC Try.prog _ _ _ _ _ _ _
    refine okc_weak (l' := [(0, _), (1, _), (2, _), (8, _), (10, _), (11, _), (12, _)]) ⟨rfl, rfl, rfl, rfl, rfl, rfl, rfl, trivial⟩ ?_
    refine okc_block ?_
    refine okc_loop (γ := Nat) (fun k => [(1, .pointer (some ⟨b1, 0, none⟩)), (10, .slice s.bp s.book.length s.bc), (11, .int .i64 s.book.length), (12, .int .i64 k)]) (fun _ => [(b1, [.int .i64 s.weeks, .int .i64 s.most, .int .i64 s.fall, .int .i64 s.slo, .int .i64 s.shi, .int .i64 s.wlo, .int .i64 s.whi, .slice s.bp s.book.length s.bc, .slice s.rp s.reads.length s.rc], 27)]) (fun k => k ≤ s.book.length ∧ (s.book.take k).all (lineB s.weeks) = true) (fun k => s.book.length - k) 0 ⟨Nat.zero_le _, rfl⟩ (fun a w hs => hs.weak ⟨rfl, rfl, rfl, rfl, trivial⟩ [0] (by simp) rfl) ?_
    rintro k ⟨hk, hall⟩
    refine okc_seq ?_
    refine okc_region ?_
    refine s_cmpS rfl rfl rfl rfl rfl rfl rfl rfl (fun h3 => ?_) (fun h3 => ?_)
    · have hlt : k < s.book.length := by simpa using h3
      obtain ⟨x, hx⟩ : ∃ x, s.book[k]? = some x := ⟨s.book[k], by simp [hlt]⟩
      obtain ⟨hpB, hjB, hatB⟩ := hB (by intro e; simp [e] at hlt)
      have hcell := hatB k x hx
      refine okl_nil ?_
      change OkC Try.prog _ _ _ _ _ _ _
      refine okc_weak (l' := [(1, _), (10, _), (11, _), (12, _), (13, _)]) ⟨rfl, rfl, rfl, rfl, rfl, trivial⟩ ?_
      refine okc_seq ?_
      refine okc_cond_t rfl ?_
      refine okc_skip ?_
      change OkC Try.prog _ _ _ _ _ _ _
      refine okc_weak (l' := [(1, _), (10, _), (11, _), (12, _), (13, _)]) ⟨rfl, rfl, rfl, rfl, rfl, trivial⟩ ?_
      refine okc_seq ?_
      refine okc_block ?_
      refine okc_seq ?_
      refine okc_region ?_
      refine s_indexP k hpB rfl rfl rfl rfl rfl rfl rfl rfl rfl rfl (by omega) rfl ?_
      refine s_loadAP jB rfl rfl rfl rfl rfl rfl rfl hjB rfl (by assumption) rfl ?_
      refine s_alloc rfl rfl rfl rfl rfl rfl (fun b4 => ?_)
      refine k_storeW 0 rfl rfl rfl rfl rfl rfl rfl rfl rfl rfl rfl rfl ?_
      try dsimp only [List.set_cons_zero, List.set_cons_succ, setL]
      refine okl_nil ?_
      change OkC Try.prog _ _ _ _ _ _ _
      refine okc_weak (l' := [(1, _), (4, _), (10, _), (11, _), (12, _), (13, _)]) ⟨rfl, rfl, rfl, rfl, rfl, rfl, trivial⟩ ?_
      refine okc_seq ?_
      refine okc_region ?_
      refine s_loadW 1 rfl rfl rfl rfl rfl rfl rfl rfl rfl rfl ?_
      refine s_loadW 0 rfl rfl rfl rfl rfl rfl rfl rfl rfl rfl ?_
      refine s_callb rfl rfl rfl rfl rfl rfl rfl c146 (validLine_fn s M _ (by assumption) (by assumption)) covers_all (fun h5 => ?_) (fun h5 => ?_)
      · refine s_not rfl rfl rfl rfl rfl rfl ?_
        refine okl_nil ?_
        change OkC Try.prog _ _ _ _ _ _ _
        refine okc_weak (l' := [(1, _), (4, _), (10, _), (11, _), (12, _), (13, _), (19, _)]) ⟨rfl, rfl, rfl, rfl, rfl, rfl, rfl, trivial⟩ ?_
        refine okc_cond_f rfl ?_
        refine okc_skip ?_
        change OkC Try.prog _ _ _ _ _ _ _
        refine okc_weak (l' := [(1, _), (4, _), (10, _), (11, _), (12, _), (13, _), (19, _)]) ⟨rfl, rfl, rfl, rfl, rfl, rfl, rfl, trivial⟩ ?_
        refine okc_region ?_
        refine s_add rfl rfl rfl rfl rfl rfl rfl (by omega) ?_
        refine s_move rfl rfl rfl rfl rfl rfl ?_
        refine okl_nil ?_
        exact fun a w hs => ⟨k + 1, ⟨by omega, by rw [all_snoc _ hx, hall]; clear hs hB; simp_all⟩, by omega, hs.weak ⟨rfl, rfl, rfl, rfl, trivial⟩ [1] (by simp) rfl⟩
      · refine s_not rfl rfl rfl rfl rfl rfl ?_
        refine okl_nil ?_
        change OkC Try.prog _ _ _ _ _ _ _
        refine okc_weak (l' := [(1, _), (4, _), (10, _), (11, _), (12, _), (13, _), (19, _)]) ⟨rfl, rfl, rfl, rfl, rfl, rfl, rfl, trivial⟩ ?_
        refine okc_cond_t rfl ?_
        refine okc_seq ?_
        refine okc_region ?_
        refine s_assign rfl rfl rfl rfl rfl rfl ?_
        refine okl_nil ?_
        change OkC Try.prog _ _ _ _ _ _ _
        refine okc_weak (l' := [(1, _), (2, _), (4, _), (10, _), (11, _), (12, _), (13, _), (19, _)]) ⟨rfl, rfl, rfl, rfl, rfl, rfl, rfl, rfl, trivial⟩ ?_
        refine okc_ret fun a w hs => ?_
        exact ret_v hs (run_results1 hs rfl (rv_tmp rfl)) (by clear hs hB; first | (simp_all [bookB]; done) | (rw [bookB, all_false hx (by simp_all)]; simp; done) | (rw [bookB, all_end hge hall]; simp_all; done) | (simp_all [bookB]; omega))
    · have hge : ¬ k < s.book.length := by simpa using h3
      refine okl_nil ?_
      change OkC Try.prog _ _ _ _ _ _ _
      refine okc_weak (l' := [(1, _), (10, _), (11, _), (12, _), (13, _)]) ⟨rfl, rfl, rfl, rfl, rfl, trivial⟩ ?_
      refine okc_seq ?_
      refine okc_cond_f rfl ?_
      refine okc_exit ?_
      change OkC Try.prog _ _ _ _ _ _ _
      refine okc_weak (l' := [(1, _), (10, _), (11, _), (12, _), (13, _)]) ⟨rfl, rfl, rfl, rfl, rfl, trivial⟩ ?_
      refine okc_seq ?_
      refine okc_region ?_
      refine s_assign rfl rfl rfl rfl rfl rfl ?_
      refine okl_nil ?_
      change OkC Try.prog _ _ _ _ _ _ _
      refine okc_weak (l' := [(1, _), (2, _), (10, _), (11, _), (12, _), (13, _)]) ⟨rfl, rfl, rfl, rfl, rfl, rfl, trivial⟩ ?_
      refine okc_ret fun a w hs => ?_
      exact ret_v hs (run_results1 hs rfl (rv_tmp rfl)) (by clear hs hB; first | (simp_all [bookB]; done) | (rw [bookB, all_false hx (by simp_all)]; simp; done) | (rw [bookB, all_end hge hall]; simp_all; done) | (simp_all [bookB]; omega))

theorem validReadings_fn (s : Sp) (M : Args) (hin : s.In M) (h1 : 1 ≤ s.weeks) (h2 : s.weeks ≤ 10) : Cn Try.prog 142 [spV s] M (fun _ : Unit => .bool (readsB s.weeks s.reads)) (fun _ => []) (fun _ => True) := by
  obtain ⟨bR, oR, cR, jR, hR⟩ := hin.reads
  have hrn := hin.rn
  refine fn_intro (N := 30) Try.func142 rfl rfl rfl fun w0 => ?_
  refine okc_seq ?_
  refine okc_region ?_
  refine s_boxA rfl rfl rfl rfl rfl rfl (fun b6 => ?_)
  refine s_assign rfl rfl rfl rfl rfl rfl ?_
  refine okl_nil ?_
  change OkC Try.prog _ _ _ _ _ _ _
  refine okc_weak (l' := [(0, _), (1, _), (2, _)]) ⟨rfl, rfl, rfl, trivial⟩ ?_
  refine okc_seq ?_
  refine okc_seq ?_
  refine okc_region ?_
  refine s_field rfl rfl rfl rfl rfl rfl rfl rfl ?_
  refine s_load1 0 rfl rfl rfl rfl rfl rfl rfl rfl rfl ?_
  refine s_len rfl rfl rfl rfl rfl rfl rfl ?_
  refine s_cmpS rfl rfl rfl rfl rfl rfl rfl rfl (fun h7 => ?_) (fun h7 => ?_)
  · refine okl_nil ?_
    change OkC Try.prog _ _ _ _ _ _ _
    refine okc_weak (l' := [(0, _), (1, _), (2, _), (9, _)]) ⟨rfl, rfl, rfl, rfl, trivial⟩ ?_
    refine okc_cond_t rfl ?_
    refine okc_seq ?_
    refine okc_region ?_
    refine s_assign rfl rfl rfl rfl rfl rfl ?_
    refine okl_nil ?_
    change OkC Try.prog _ _ _ _ _ _ _
    refine okc_weak (l' := [(0, _), (1, _), (2, _), (9, _)]) ⟨rfl, rfl, rfl, rfl, trivial⟩ ?_
    refine okc_ret fun a w hs => ?_
    exact ret_v hs (run_results1 hs rfl (rv_tmp rfl)) (by clear hs hR; first | (simp_all [readsB]; done) | (rw [readsB, hall, drop_at hx]; simp_all [rdsB]; done) | (rw [readsB, hall, drop_at hx]; simp_all [rdsB] <;> omega) | (simp_all [readsB]; omega))
  · have hle12 : s.reads.length ≤ 12 := by have hq := h7; simp at hq; omega
    refine okl_nil ?_
    change OkC Try.prog _ _ _ _ _ _ _
    refine okc_weak (l' := [(0, _), (1, _), (2, _), (9, _)]) ⟨rfl, rfl, rfl, rfl, trivial⟩ ?_
    refine okc_cond_f rfl ?_
    refine okc_skip ?_
    change OkC Try.prog _ _ _ _ _ _ _
    refine okc_weak (l' := [(0, _), (1, _), (2, _), (9, _)]) ⟨rfl, rfl, rfl, rfl, trivial⟩ ?_
    refine okc_seq ?_
    refine okc_region ?_
    refine s_assign rfl rfl rfl rfl rfl rfl ?_
    refine okl_nil ?_
    change OkC Try.prog _ _ _ _ _ _ _
    refine okc_weak (l' := [(0, _), (1, _), (2, _), (3, _), (9, _)]) ⟨rfl, rfl, rfl, rfl, rfl, trivial⟩ ?_
    refine okc_seq ?_
    refine okc_seq ?_
    refine okc_region ?_
    refine s_field rfl rfl rfl rfl rfl rfl rfl rfl ?_
    refine s_load1 0 rfl rfl rfl rfl rfl rfl rfl rfl rfl ?_
    refine s_len rfl rfl rfl rfl rfl rfl rfl ?_
    refine s_move rfl rfl rfl rfl rfl rfl ?_
    refine okl_nil ?_
    change OkC Try.prog _ _ _ _ _ _ _
    refine okc_weak (l' := [(0, _), (1, _), (2, _), (3, _), (9, _), (11, _), (12, _), (13, _)]) ⟨rfl, rfl, rfl, rfl, rfl, rfl, rfl, rfl, trivial⟩ ?_
    refine okc_block ?_
    refine okc_loop (γ := Nat × Int) (fun g => [(1, .pointer (some ⟨b6, 0, none⟩)), (3, .int .i64 g.2), (11, .slice s.rp s.reads.length s.rc), (12, .int .i64 s.reads.length), (13, .int .i64 g.1)]) (fun _ => [(b6, [.int .i64 s.weeks, .int .i64 s.most, .int .i64 s.fall, .int .i64 s.slo, .int .i64 s.shi, .int .i64 s.wlo, .int .i64 s.whi, .slice s.bp s.book.length s.bc, .slice s.rp s.reads.length s.rc], 27)]) (fun g => g.1 ≤ s.reads.length ∧ rdsB s.weeks 0 s.reads = rdsB s.weeks g.2 (s.reads.drop g.1)) (fun g => s.reads.length - g.1) (0, 0) ⟨Nat.zero_le _, rfl⟩ (fun a w hs => hs.weak ⟨rfl, rfl, rfl, rfl, rfl, trivial⟩ [0] (by simp) rfl) ?_
    rintro ⟨k, bef⟩ ⟨hk, hall⟩
    dsimp only at hk hall ⊢
    refine okc_seq ?_
    refine okc_region ?_
    refine s_cmpS rfl rfl rfl rfl rfl rfl rfl rfl (fun h8 => ?_) (fun h8 => ?_)
    · have hlt : k < s.reads.length := by simpa using h8
      obtain ⟨x, hx⟩ : ∃ x, s.reads[k]? = some x := ⟨s.reads[k], by simp [hlt]⟩
      obtain ⟨hpR, hjR, hatR⟩ := hR (by intro e; simp [e] at hlt)
      have hcell := hatR k x hx
      refine okl_nil ?_
      change OkC Try.prog _ _ _ _ _ _ _
      refine okc_weak (l' := [(1, _), (3, _), (11, _), (12, _), (13, _), (14, _)]) ⟨rfl, rfl, rfl, rfl, rfl, rfl, trivial⟩ ?_
      refine okc_seq ?_
      refine okc_cond_t rfl ?_
      refine okc_skip ?_
      change OkC Try.prog _ _ _ _ _ _ _
      refine okc_weak (l' := [(1, _), (3, _), (11, _), (12, _), (13, _), (14, _)]) ⟨rfl, rfl, rfl, rfl, rfl, rfl, trivial⟩ ?_
      refine okc_seq ?_
      refine okc_block ?_
      refine okc_seq ?_
      refine okc_region ?_
      refine s_indexP k hpR rfl rfl rfl rfl rfl rfl rfl rfl rfl rfl (by omega) rfl ?_
      refine s_loadAP jR rfl rfl rfl rfl rfl rfl rfl hjR rfl (by assumption) rfl ?_
      refine s_alloc rfl rfl rfl rfl rfl rfl (fun b9 => ?_)
      refine k_storeW 0 rfl rfl rfl rfl rfl rfl rfl rfl rfl rfl rfl rfl ?_
      try dsimp only [List.set_cons_zero, List.set_cons_succ, setL]
      refine okl_nil ?_
      change OkC Try.prog _ _ _ _ _ _ _
      refine okc_weak (l' := [(1, _), (3, _), (5, _), (11, _), (12, _), (13, _), (14, _)]) ⟨rfl, rfl, rfl, rfl, rfl, rfl, rfl, trivial⟩ ?_
      refine okc_seq ?_
      refine okc_seq ?_
      refine okc_region ?_
      refine s_field rfl rfl rfl rfl rfl rfl rfl rfl ?_
      refine s_load1 0 rfl rfl rfl rfl rfl rfl rfl rfl rfl ?_
      refine s_move rfl rfl rfl rfl rfl rfl ?_
      refine s_cmpS rfl rfl rfl rfl rfl rfl rfl rfl (fun h10 => ?_) (fun h10 => ?_)
      · refine s_move rfl rfl rfl rfl rfl rfl ?_
        refine okl_skip rfl rfl rfl rfl ?_
        refine okl_skip rfl rfl rfl rfl ?_
        refine okl_skip rfl rfl rfl rfl ?_
        refine okl_skip rfl rfl rfl rfl ?_
        refine s_pick_t rfl rfl rfl rfl rfl rfl rfl ?_
        refine okl_nil ?_
        change OkC Try.prog _ _ _ _ _ _ _
        refine okc_weak (l' := [(1, _), (3, _), (5, _), (11, _), (12, _), (13, _), (14, _), (26, _)]) ⟨rfl, rfl, rfl, rfl, rfl, rfl, rfl, rfl, trivial⟩ ?_
        refine okc_cond_t rfl ?_
        refine okc_seq ?_
        refine okc_region ?_
        refine s_assign rfl rfl rfl rfl rfl rfl ?_
        refine okl_nil ?_
        change OkC Try.prog _ _ _ _ _ _ _
        refine okc_weak (l' := [(1, _), (2, _), (3, _), (5, _), (11, _), (12, _), (13, _), (14, _), (26, _)]) ⟨rfl, rfl, rfl, rfl, rfl, rfl, rfl, rfl, rfl, trivial⟩ ?_
        refine okc_ret fun a w hs => ?_
        exact ret_v hs (run_results1 hs rfl (rv_tmp rfl)) (by clear hs hR; first | (simp_all [readsB]; done) | (rw [readsB, hall, drop_at hx]; simp_all [rdsB]; done) | (rw [readsB, hall, drop_at hx]; simp_all [rdsB] <;> omega) | (simp_all [readsB]; omega))
      · refine s_move rfl rfl rfl rfl rfl rfl ?_
        refine s_loadW 1 rfl rfl rfl rfl rfl rfl rfl rfl rfl rfl ?_
        refine s_loadW 0 rfl rfl rfl rfl rfl rfl rfl rfl rfl rfl ?_
        refine s_callb rfl rfl rfl rfl rfl rfl rfl c133 (validReading_fn s M _ (by assumption) (by assumption)) covers_all (fun h11 => ?_) (fun h11 => ?_)
        · refine s_not rfl rfl rfl rfl rfl rfl ?_
          refine s_pick_f rfl rfl rfl rfl rfl rfl rfl ?_
          refine okl_nil ?_
          change OkC Try.prog _ _ _ _ _ _ _
          refine okc_weak (l' := [(1, _), (3, _), (5, _), (11, _), (12, _), (13, _), (14, _), (26, _)]) ⟨rfl, rfl, rfl, rfl, rfl, rfl, rfl, rfl, trivial⟩ ?_
          refine okc_cond_f rfl ?_
          refine okc_skip ?_
          change OkC Try.prog _ _ _ _ _ _ _
          refine okc_weak (l' := [(1, _), (3, _), (5, _), (11, _), (12, _), (13, _), (14, _), (26, _)]) ⟨rfl, rfl, rfl, rfl, rfl, rfl, rfl, rfl, trivial⟩ ?_
          refine okc_region ?_
          refine s_field rfl rfl rfl rfl rfl rfl rfl rfl ?_
          refine s_load1 0 rfl rfl rfl rfl rfl rfl rfl rfl rfl ?_
          refine s_assign rfl rfl rfl rfl rfl rfl ?_
          refine okl_nil ?_
          change OkC Try.prog _ _ _ _ _ _ _
          refine okc_weak (l' := [(1, _), (3, _), (5, _), (11, _), (12, _), (13, _), (14, _), (26, _)]) ⟨rfl, rfl, rfl, rfl, rfl, rfl, rfl, rfl, trivial⟩ ?_
          refine okc_region ?_
          refine s_add rfl rfl rfl rfl rfl rfl rfl (by omega) ?_
          refine s_move rfl rfl rfl rfl rfl rfl ?_
          refine okl_nil ?_
          exact fun a w hs => ⟨(k + 1, x.number), ⟨by show k + 1 ≤ _; omega, by clear hs hR; rw [hall, drop_at hx]; simp_all [rdsB]⟩, by simp; omega, hs.weak ⟨rfl, rfl, rfl, rfl, rfl, trivial⟩ [1] (by simp) rfl⟩
        · refine s_not rfl rfl rfl rfl rfl rfl ?_
          refine s_pick_f rfl rfl rfl rfl rfl rfl rfl ?_
          refine okl_nil ?_
          change OkC Try.prog _ _ _ _ _ _ _
          refine okc_weak (l' := [(1, _), (3, _), (5, _), (11, _), (12, _), (13, _), (14, _), (26, _)]) ⟨rfl, rfl, rfl, rfl, rfl, rfl, rfl, rfl, trivial⟩ ?_
          refine okc_cond_t rfl ?_
          refine okc_seq ?_
          refine okc_region ?_
          refine s_assign rfl rfl rfl rfl rfl rfl ?_
          refine okl_nil ?_
          change OkC Try.prog _ _ _ _ _ _ _
          refine okc_weak (l' := [(1, _), (2, _), (3, _), (5, _), (11, _), (12, _), (13, _), (14, _), (26, _)]) ⟨rfl, rfl, rfl, rfl, rfl, rfl, rfl, rfl, rfl, trivial⟩ ?_
          refine okc_ret fun a w hs => ?_
          exact ret_v hs (run_results1 hs rfl (rv_tmp rfl)) (by clear hs hR; first | (simp_all [readsB]; done) | (rw [readsB, hall, drop_at hx]; simp_all [rdsB]; done) | (rw [readsB, hall, drop_at hx]; simp_all [rdsB] <;> omega) | (simp_all [readsB]; omega))
    · have hge : ¬ k < s.reads.length := by simpa using h8
      have hall2 : rdsB s.weeks 0 s.reads = true := by rw [hall, List.drop_of_length_le (by omega)]; rfl
      refine okl_nil ?_
      change OkC Try.prog _ _ _ _ _ _ _
      refine okc_weak (l' := [(1, _), (3, _), (11, _), (12, _), (13, _), (14, _)]) ⟨rfl, rfl, rfl, rfl, rfl, rfl, trivial⟩ ?_
      refine okc_seq ?_
      refine okc_cond_f rfl ?_
      refine okc_exit ?_
      change OkC Try.prog _ _ _ _ _ _ _
      refine okc_weak (l' := [(1, _), (3, _), (11, _), (12, _), (13, _), (14, _)]) ⟨rfl, rfl, rfl, rfl, rfl, rfl, trivial⟩ ?_
      refine okc_seq ?_
      refine okc_region ?_
      refine s_assign rfl rfl rfl rfl rfl rfl ?_
      refine okl_nil ?_
      change OkC Try.prog _ _ _ _ _ _ _
      refine okc_weak (l' := [(1, _), (2, _), (3, _), (11, _), (12, _), (13, _), (14, _)]) ⟨rfl, rfl, rfl, rfl, rfl, rfl, rfl, trivial⟩ ?_
      refine okc_ret fun a w hs => ?_
      exact ret_v hs (run_results1 hs rfl (rv_tmp rfl)) (by clear hs hR; first | (simp_all [readsB]; done) | (rw [readsB, hall, drop_at hx]; simp_all [rdsB]; done) | (rw [readsB, hall, drop_at hx]; simp_all [rdsB] <;> omega) | (simp_all [readsB]; omega))

theorem frame_weeks {s : Sp} (h : frameB s = true) : 1 ≤ s.weeks ∧ s.weeks ≤ 10 := by simp [frameB, inS] at h; omega
theorem valid_fn (s : Sp) (M : Args) (hin : s.In M) : Cn Try.prog 127 [spV s] M (fun _ : Unit => .bool (validB s)) (fun _ => []) (fun _ => True) := by
  refine fn_intro (N := 13) Try.func127 rfl rfl rfl fun w0 => ?_
  refine okc_seq ?_
  refine okc_region ?_
  refine s_boxA rfl rfl rfl rfl rfl rfl (fun b12 => ?_)
  refine s_assign rfl rfl rfl rfl rfl rfl ?_
  refine okl_nil ?_
  change OkC Try.prog _ _ _ _ _ _ _
  refine okc_weak (l' := [(0, _), (1, _), (2, _)]) ⟨rfl, rfl, rfl, trivial⟩ ?_
  refine okc_seq ?_
  refine okc_region ?_
  refine s_loadW 0 rfl rfl rfl rfl rfl rfl rfl rfl rfl rfl ?_
  refine s_callb rfl rfl rfl rfl rfl rfl rfl c140 (validFrame_fn _ M) covers_all (fun h13 => ?_) (fun h13 => ?_)
  · have hw := frame_weeks h13
    obtain ⟨h1, h2⟩ := hw
    refine s_move rfl rfl rfl rfl rfl rfl ?_
    refine s_loadW 0 rfl rfl rfl rfl rfl rfl rfl rfl rfl rfl ?_
    refine s_callb rfl rfl rfl rfl rfl rfl rfl c141 (validBook_fn s M hin (by assumption) (by assumption)) covers_all (fun h14 => ?_) (fun h14 => ?_)
    · refine s_pick_t rfl rfl rfl rfl rfl rfl rfl ?_
      refine s_move rfl rfl rfl rfl rfl rfl ?_
      refine s_loadW 0 rfl rfl rfl rfl rfl rfl rfl rfl rfl rfl ?_
      refine s_callb rfl rfl rfl rfl rfl rfl rfl c142 (validReadings_fn s M hin (by assumption) (by assumption)) covers_all (fun h15 => ?_) (fun h15 => ?_)
      · refine s_pick_t rfl rfl rfl rfl rfl rfl rfl ?_
        refine s_assign rfl rfl rfl rfl rfl rfl ?_
        refine okl_nil ?_
        change OkC Try.prog _ _ _ _ _ _ _
        refine okc_weak (l' := [(0, _), (1, _), (2, _)]) ⟨rfl, rfl, rfl, trivial⟩ ?_
        refine okc_ret fun a w hs => ?_
        exact ret_v hs (run_results1 hs rfl (rv_tmp rfl)) (by clear hs; simp_all [validB])
      · refine s_pick_t rfl rfl rfl rfl rfl rfl rfl ?_
        refine s_assign rfl rfl rfl rfl rfl rfl ?_
        refine okl_nil ?_
        change OkC Try.prog _ _ _ _ _ _ _
        refine okc_weak (l' := [(0, _), (1, _), (2, _)]) ⟨rfl, rfl, rfl, trivial⟩ ?_
        refine okc_ret fun a w hs => ?_
        exact ret_v hs (run_results1 hs rfl (rv_tmp rfl)) (by clear hs; simp_all [validB])
    · refine s_pick_t rfl rfl rfl rfl rfl rfl rfl ?_
      refine s_move rfl rfl rfl rfl rfl rfl ?_
      refine okl_skip rfl rfl rfl rfl ?_
      refine okl_skip rfl rfl rfl rfl ?_
      refine s_pick_f rfl rfl rfl rfl rfl rfl rfl ?_
      refine s_assign rfl rfl rfl rfl rfl rfl ?_
      refine okl_nil ?_
      change OkC Try.prog _ _ _ _ _ _ _
      refine okc_weak (l' := [(0, _), (1, _), (2, _)]) ⟨rfl, rfl, rfl, trivial⟩ ?_
      refine okc_ret fun a w hs => ?_
      exact ret_v hs (run_results1 hs rfl (rv_tmp rfl)) (by clear hs; simp_all [validB])
  · refine s_move rfl rfl rfl rfl rfl rfl ?_
    refine okl_skip rfl rfl rfl rfl ?_
    refine okl_skip rfl rfl rfl rfl ?_
    refine s_pick_f rfl rfl rfl rfl rfl rfl rfl ?_
    refine s_move rfl rfl rfl rfl rfl rfl ?_
    refine okl_skip rfl rfl rfl rfl ?_
    refine okl_skip rfl rfl rfl rfl ?_
    refine s_pick_f rfl rfl rfl rfl rfl rfl rfl ?_
    refine s_assign rfl rfl rfl rfl rfl rfl ?_
    refine okl_nil ?_
    change OkC Try.prog _ _ _ _ _ _ _
    refine okc_weak (l' := [(0, _), (1, _), (2, _)]) ⟨rfl, rfl, rfl, trivial⟩ ?_
    refine okc_ret fun a w hs => ?_
    exact ret_v hs (run_results1 hs rfl (rv_tmp rfl)) (by clear hs; simp_all [validB])

theorem spanned_eq (lo hi a b : Int) : (inS a b hi && inS a hi lo) = isSpanB lo hi a b := by
  rw [Bool.eq_iff_iff]; simp [inS, isSpanB]; omega
theorem spanned_fn (lo hi a b : Int) : Cn Try.prog 106 [.agg #[.int .i64 lo, .int .i64 hi], .int .i64 a, .int .i64 b] [] (fun _ : Unit => .bool (isSpanB lo hi a b)) (fun _ => []) (fun _ => True) := by
  refine fn_intro (N := 20) Try.func106 rfl rfl rfl fun w0 => ?_
  refine okc_seq ?_
  refine okc_region ?_
  refine s_boxA rfl rfl rfl rfl rfl rfl (fun b16 => ?_)
  refine s_assign rfl rfl rfl rfl rfl rfl ?_
  refine okl_nil ?_
  change OkC Try.prog _ _ _ _ _ _ _
  refine okc_weak (l' := [(0, _), (1, _), (2, _), (3, _), (6, _)]) ⟨rfl, rfl, rfl, rfl, rfl, trivial⟩ ?_
  refine okc_seq ?_
  refine okc_region ?_
  refine s_field rfl rfl rfl rfl rfl rfl rfl rfl ?_
  refine s_load1 0 rfl rfl rfl rfl rfl rfl rfl rfl rfl ?_
  refine s_move rfl rfl rfl rfl rfl rfl ?_
  refine s_move rfl rfl rfl rfl rfl rfl ?_
  refine s_callb rfl rfl rfl rfl rfl rfl rfl c87 (rwithin_fn _ _ _) covers_nil (fun h17 => ?_) (fun h17 => ?_)
  · refine s_move rfl rfl rfl rfl rfl rfl ?_
    refine s_field rfl rfl rfl rfl rfl rfl rfl rfl ?_
    refine s_load1 0 rfl rfl rfl rfl rfl rfl rfl rfl rfl ?_
    refine s_move rfl rfl rfl rfl rfl rfl ?_
    refine s_field rfl rfl rfl rfl rfl rfl rfl rfl ?_
    refine s_load1 0 rfl rfl rfl rfl rfl rfl rfl rfl rfl ?_
    refine s_callb rfl rfl rfl rfl rfl rfl rfl c87 (rwithin_fn _ _ _) covers_nil (fun h18 => ?_) (fun h18 => ?_)
    · refine s_pick_t rfl rfl rfl rfl rfl rfl rfl ?_
      refine s_assign rfl rfl rfl rfl rfl rfl ?_
      refine okl_nil ?_
      change OkC Try.prog _ _ _ _ _ _ _
      refine okc_weak (l' := [(0, _), (1, _), (2, _), (3, _), (6, _)]) ⟨rfl, rfl, rfl, rfl, rfl, trivial⟩ ?_
      refine okc_ret fun a w hs => ?_
      exact ret_v hs (run_results1 hs rfl (rv_tmp rfl)) (by clear hs; refine congrArg Value.bool ?_; rw [Bool.eq_iff_iff]; simp only [isSpanB, inS, readB, isWeekB, Bool.and_eq_true, Bool.and_eq_false_iff, decide_eq_true_eq, decide_eq_false_iff_not, Bool.false_eq_true, false_iff, true_iff] at *; omega)
    · refine s_pick_t rfl rfl rfl rfl rfl rfl rfl ?_
      refine s_assign rfl rfl rfl rfl rfl rfl ?_
      refine okl_nil ?_
      change OkC Try.prog _ _ _ _ _ _ _
      refine okc_weak (l' := [(0, _), (1, _), (2, _), (3, _), (6, _)]) ⟨rfl, rfl, rfl, rfl, rfl, trivial⟩ ?_
      refine okc_ret fun a w hs => ?_
      exact ret_v hs (run_results1 hs rfl (rv_tmp rfl)) (by clear hs; refine congrArg Value.bool ?_; rw [Bool.eq_iff_iff]; simp only [isSpanB, inS, readB, isWeekB, Bool.and_eq_true, Bool.and_eq_false_iff, decide_eq_true_eq, decide_eq_false_iff_not, Bool.false_eq_true, false_iff, true_iff] at *; omega)
  · refine s_move rfl rfl rfl rfl rfl rfl ?_
    refine okl_skip rfl rfl rfl rfl ?_
    refine okl_skip rfl rfl rfl rfl ?_
    refine okl_skip rfl rfl rfl rfl ?_
    refine okl_skip rfl rfl rfl rfl ?_
    refine okl_skip rfl rfl rfl rfl ?_
    refine okl_skip rfl rfl rfl rfl ?_
    refine s_pick_f rfl rfl rfl rfl rfl rfl rfl ?_
    refine s_assign rfl rfl rfl rfl rfl rfl ?_
    refine okl_nil ?_
    change OkC Try.prog _ _ _ _ _ _ _
    refine okc_weak (l' := [(0, _), (1, _), (2, _), (3, _), (6, _)]) ⟨rfl, rfl, rfl, rfl, rfl, trivial⟩ ?_
    refine okc_ret fun a w hs => ?_
    exact ret_v hs (run_results1 hs rfl (rv_tmp rfl)) (by clear hs; refine congrArg Value.bool ?_; rw [Bool.eq_iff_iff]; simp only [isSpanB, inS, readB, isWeekB, Bool.and_eq_true, Bool.and_eq_false_iff, decide_eq_true_eq, decide_eq_false_iff_not, Bool.false_eq_true, false_iff, true_iff] at *; omega)

theorem rReading_fn (x : Rd) (weeks : Int) (h1 : 1 ≤ weeks) (h2 : weeks ≤ 10) : Cn Try.prog 68 [rdV x, .int .i64 weeks] [] (fun _ : Unit => .bool (readB weeks x)) (fun _ => []) (fun _ => True) := by
  refine fn_intro (N := 31) Try.func68 rfl rfl rfl fun w0 => ?_
  refine okc_seq ?_
  refine okc_region ?_
  refine s_boxA rfl rfl rfl rfl rfl rfl (fun b19 => ?_)
  refine s_assign rfl rfl rfl rfl rfl rfl ?_
  refine okl_nil ?_
  change OkC Try.prog _ _ _ _ _ _ _
  refine okc_weak (l' := [(0, _), (1, _), (2, _), (4, _)]) ⟨rfl, rfl, rfl, rfl, trivial⟩ ?_
  refine okc_seq ?_
  refine okc_region ?_
  refine s_field rfl rfl rfl rfl rfl rfl rfl rfl ?_
  refine s_load1 0 rfl rfl rfl rfl rfl rfl rfl rfl rfl ?_
  refine s_callb rfl rfl rfl rfl rfl rfl rfl c87 (rwithin_fn _ _ _) covers_nil (fun h20 => ?_) (fun h20 => ?_)
  · refine s_move rfl rfl rfl rfl rfl rfl ?_
    refine s_field rfl rfl rfl rfl rfl rfl rfl rfl ?_
    refine s_load1 0 rfl rfl rfl rfl rfl rfl rfl rfl rfl ?_
    refine s_move rfl rfl rfl rfl rfl rfl ?_
    refine s_sub rfl rfl rfl rfl rfl rfl rfl (by omega) ?_
    refine s_callb rfl rfl rfl rfl rfl rfl rfl c87 (rwithin_fn _ _ _) covers_nil (fun h21 => ?_) (fun h21 => ?_)
    · refine s_pick_t rfl rfl rfl rfl rfl rfl rfl ?_
      refine s_move rfl rfl rfl rfl rfl rfl ?_
      refine s_field rfl rfl rfl rfl rfl rfl rfl rfl ?_
      refine s_load1 0 rfl rfl rfl rfl rfl rfl rfl rfl rfl ?_
      refine s_callb rfl rfl rfl rfl rfl rfl rfl c87 (rwithin_fn _ _ _) covers_nil (fun h22 => ?_) (fun h22 => ?_)
      · refine s_pick_t rfl rfl rfl rfl rfl rfl rfl ?_
        refine s_move rfl rfl rfl rfl rfl rfl ?_
        refine s_field rfl rfl rfl rfl rfl rfl rfl rfl ?_
        refine s_loadP2 0 rfl rfl rfl rfl rfl rfl rfl rfl rfl rfl rfl ?_
        refine s_callb rfl rfl rfl rfl rfl rfl rfl c106 (spanned_fn _ _ _ _) covers_nil (fun h23 => ?_) (fun h23 => ?_)
        · refine s_pick_t rfl rfl rfl rfl rfl rfl rfl ?_
          refine s_move rfl rfl rfl rfl rfl rfl ?_
          refine s_field rfl rfl rfl rfl rfl rfl rfl rfl ?_
          refine s_field rfl rfl rfl rfl rfl rfl rfl rfl ?_
          refine s_load1 0 rfl rfl rfl rfl rfl rfl rfl rfl rfl ?_
          refine s_cmpS rfl rfl rfl rfl rfl rfl rfl rfl (fun h24 => ?_) (fun h24 => ?_)
          · refine s_pick_t rfl rfl rfl rfl rfl rfl rfl ?_
            refine s_assign rfl rfl rfl rfl rfl rfl ?_
            refine okl_nil ?_
            change OkC Try.prog _ _ _ _ _ _ _
            refine okc_weak (l' := [(0, _), (1, _), (2, _), (4, _)]) ⟨rfl, rfl, rfl, rfl, trivial⟩ ?_
            refine okc_ret fun a w hs => ?_
            exact ret_v hs (run_results1 hs rfl (rv_tmp rfl)) (by clear hs; refine congrArg Value.bool ?_; rw [Bool.eq_iff_iff]; simp only [isSpanB, inS, readB, isWeekB, Bool.and_eq_true, Bool.and_eq_false_iff, decide_eq_true_eq, decide_eq_false_iff_not, Bool.false_eq_true, false_iff, true_iff] at *; omega)
          · refine s_pick_t rfl rfl rfl rfl rfl rfl rfl ?_
            refine s_assign rfl rfl rfl rfl rfl rfl ?_
            refine okl_nil ?_
            change OkC Try.prog _ _ _ _ _ _ _
            refine okc_weak (l' := [(0, _), (1, _), (2, _), (4, _)]) ⟨rfl, rfl, rfl, rfl, trivial⟩ ?_
            refine okc_ret fun a w hs => ?_
            exact ret_v hs (run_results1 hs rfl (rv_tmp rfl)) (by clear hs; refine congrArg Value.bool ?_; rw [Bool.eq_iff_iff]; simp only [isSpanB, inS, readB, isWeekB, Bool.and_eq_true, Bool.and_eq_false_iff, decide_eq_true_eq, decide_eq_false_iff_not, Bool.false_eq_true, false_iff, true_iff] at *; omega)
        · refine s_pick_t rfl rfl rfl rfl rfl rfl rfl ?_
          refine s_move rfl rfl rfl rfl rfl rfl ?_
          refine okl_skip rfl rfl rfl rfl ?_
          refine okl_skip rfl rfl rfl rfl ?_
          refine okl_skip rfl rfl rfl rfl ?_
          refine okl_skip rfl rfl rfl rfl ?_
          refine s_pick_f rfl rfl rfl rfl rfl rfl rfl ?_
          refine s_assign rfl rfl rfl rfl rfl rfl ?_
          refine okl_nil ?_
          change OkC Try.prog _ _ _ _ _ _ _
          refine okc_weak (l' := [(0, _), (1, _), (2, _), (4, _)]) ⟨rfl, rfl, rfl, rfl, trivial⟩ ?_
          refine okc_ret fun a w hs => ?_
          exact ret_v hs (run_results1 hs rfl (rv_tmp rfl)) (by clear hs; refine congrArg Value.bool ?_; rw [Bool.eq_iff_iff]; simp only [isSpanB, inS, readB, isWeekB, Bool.and_eq_true, Bool.and_eq_false_iff, decide_eq_true_eq, decide_eq_false_iff_not, Bool.false_eq_true, false_iff, true_iff] at *; omega)
      · refine s_pick_t rfl rfl rfl rfl rfl rfl rfl ?_
        refine s_move rfl rfl rfl rfl rfl rfl ?_
        refine okl_skip rfl rfl rfl rfl ?_
        refine okl_skip rfl rfl rfl rfl ?_
        refine okl_skip rfl rfl rfl rfl ?_
        refine s_pick_f rfl rfl rfl rfl rfl rfl rfl ?_
        refine s_move rfl rfl rfl rfl rfl rfl ?_
        refine okl_skip rfl rfl rfl rfl ?_
        refine okl_skip rfl rfl rfl rfl ?_
        refine okl_skip rfl rfl rfl rfl ?_
        refine okl_skip rfl rfl rfl rfl ?_
        refine s_pick_f rfl rfl rfl rfl rfl rfl rfl ?_
        refine s_assign rfl rfl rfl rfl rfl rfl ?_
        refine okl_nil ?_
        change OkC Try.prog _ _ _ _ _ _ _
        refine okc_weak (l' := [(0, _), (1, _), (2, _), (4, _)]) ⟨rfl, rfl, rfl, rfl, trivial⟩ ?_
        refine okc_ret fun a w hs => ?_
        exact ret_v hs (run_results1 hs rfl (rv_tmp rfl)) (by clear hs; refine congrArg Value.bool ?_; rw [Bool.eq_iff_iff]; simp only [isSpanB, inS, readB, isWeekB, Bool.and_eq_true, Bool.and_eq_false_iff, decide_eq_true_eq, decide_eq_false_iff_not, Bool.false_eq_true, false_iff, true_iff] at *; omega)
    · refine s_pick_t rfl rfl rfl rfl rfl rfl rfl ?_
      refine s_move rfl rfl rfl rfl rfl rfl ?_
      refine okl_skip rfl rfl rfl rfl ?_
      refine okl_skip rfl rfl rfl rfl ?_
      refine okl_skip rfl rfl rfl rfl ?_
      refine s_pick_f rfl rfl rfl rfl rfl rfl rfl ?_
      refine s_move rfl rfl rfl rfl rfl rfl ?_
      refine okl_skip rfl rfl rfl rfl ?_
      refine okl_skip rfl rfl rfl rfl ?_
      refine okl_skip rfl rfl rfl rfl ?_
      refine s_pick_f rfl rfl rfl rfl rfl rfl rfl ?_
      refine s_move rfl rfl rfl rfl rfl rfl ?_
      refine okl_skip rfl rfl rfl rfl ?_
      refine okl_skip rfl rfl rfl rfl ?_
      refine okl_skip rfl rfl rfl rfl ?_
      refine okl_skip rfl rfl rfl rfl ?_
      refine s_pick_f rfl rfl rfl rfl rfl rfl rfl ?_
      refine s_assign rfl rfl rfl rfl rfl rfl ?_
      refine okl_nil ?_
      change OkC Try.prog _ _ _ _ _ _ _
      refine okc_weak (l' := [(0, _), (1, _), (2, _), (4, _)]) ⟨rfl, rfl, rfl, rfl, trivial⟩ ?_
      refine okc_ret fun a w hs => ?_
      exact ret_v hs (run_results1 hs rfl (rv_tmp rfl)) (by clear hs; refine congrArg Value.bool ?_; rw [Bool.eq_iff_iff]; simp only [isSpanB, inS, readB, isWeekB, Bool.and_eq_true, Bool.and_eq_false_iff, decide_eq_true_eq, decide_eq_false_iff_not, Bool.false_eq_true, false_iff, true_iff] at *; omega)
  · refine s_move rfl rfl rfl rfl rfl rfl ?_
    refine okl_skip rfl rfl rfl rfl ?_
    refine okl_skip rfl rfl rfl rfl ?_
    refine okl_skip rfl rfl rfl rfl ?_
    refine okl_skip rfl rfl rfl rfl ?_
    refine okl_skip rfl rfl rfl rfl ?_
    refine s_pick_f rfl rfl rfl rfl rfl rfl rfl ?_
    refine s_move rfl rfl rfl rfl rfl rfl ?_
    refine okl_skip rfl rfl rfl rfl ?_
    refine okl_skip rfl rfl rfl rfl ?_
    refine okl_skip rfl rfl rfl rfl ?_
    refine s_pick_f rfl rfl rfl rfl rfl rfl rfl ?_
    refine s_move rfl rfl rfl rfl rfl rfl ?_
    refine okl_skip rfl rfl rfl rfl ?_
    refine okl_skip rfl rfl rfl rfl ?_
    refine okl_skip rfl rfl rfl rfl ?_
    refine s_pick_f rfl rfl rfl rfl rfl rfl rfl ?_
    refine s_move rfl rfl rfl rfl rfl rfl ?_
    refine okl_skip rfl rfl rfl rfl ?_
    refine okl_skip rfl rfl rfl rfl ?_
    refine okl_skip rfl rfl rfl rfl ?_
    refine okl_skip rfl rfl rfl rfl ?_
    refine s_pick_f rfl rfl rfl rfl rfl rfl rfl ?_
    refine s_assign rfl rfl rfl rfl rfl rfl ?_
    refine okl_nil ?_
    change OkC Try.prog _ _ _ _ _ _ _
    refine okc_weak (l' := [(0, _), (1, _), (2, _), (4, _)]) ⟨rfl, rfl, rfl, rfl, trivial⟩ ?_
    refine okc_ret fun a w hs => ?_
    exact ret_v hs (run_results1 hs rfl (rv_tmp rfl)) (by clear hs; refine congrArg Value.bool ?_; rw [Bool.eq_iff_iff]; simp only [isSpanB, inS, readB, isWeekB, Bool.and_eq_true, Bool.and_eq_false_iff, decide_eq_true_eq, decide_eq_false_iff_not, Bool.false_eq_true, false_iff, true_iff] at *; omega)

end Go.Proofs.Ytdpnadknaacinaa
end

section
namespace Go.Sx
open Go.RowKit

def nums (O : Blks) : List Nat := O.map (·.1)
def argsOf (O : Blks) : Args := O.map fun b => (b.1, b.2.1)

theorem mem_nums {O : Blks} {b : Nat} : b ∈ nums O ↔ ∃ cs T, (b, cs, T) ∈ O := by
  simp [nums]
theorem mem_argsOf {O : Blks} {b : Nat} {cs : List Value} : (b, cs) ∈ argsOf O ↔ ∃ T, (b, cs, T) ∈ O := by
  simp [argsOf]

/-- The world's part of a state. -/
structure WS (N : Cx) (w0 : World) (O : Blks) (A : Args) (w : World) : Prop where
  bel : BelowX N.wr w0 w
  own : ∀ (b : Nat) (cs : List Value) (T : TypeId), (b, cs, T) ∈ O → holds w b cs T ∧ (w0.heap.size ≤ b ∨ b ∈ N.wr)
  nodup : (nums O).Nodup
  arg : ∀ (b : Nat) (cs : List Value), (b, cs) ∈ A → reads w b cs ∧ b < w0.heap.size ∧ b ∉ N.wr

section
variable {N : Cx} {w0 : World} {l : Env} {O Ob Oa O3 Fx : Blks} {A : Args} {a : Act} {w W W' W3 : World}

theorem St.ws (h : St N w0 l O A a w) : WS N w0 O A w :=
  ⟨h.bel, fun b cs T hm => by obtain ⟨j, hj⟩ := List.mem_iff_getElem?.1 hm; exact h.own j b cs T hj, h.nodup,
   fun b cs hm => by obtain ⟨j, hj⟩ := List.mem_iff_getElem?.1 hm; exact h.arg j b cs hj⟩

theorem WS.st (h : WS N w0 O A w) (hs : a.tmps.size = N.n) (hd : a.defers = N.marks.map mark) (he : ∀ t v, get l t = some v → a.tmps[t]? = some v)
    (hm : Mk N w0 w) : St N w0 l O A a w :=
  ⟨hs, hd, h.bel, he, fun _ b cs T hj => h.own b cs T (List.mem_of_getElem? hj), h.nodup, fun _ b cs hj => h.arg b cs (List.mem_of_getElem? hj), hm⟩

theorem WS.ext (h : WS N w0 O A w) (hb : Below w.heap.size w W) : WS N w0 O A W :=
  ⟨h.bel.trans (.of hb), fun b cs T hm => by
     obtain ⟨h1, h2⟩ := h.own b cs T hm
     exact ⟨by unfold holds; rw [hb.block b h1.lt]; exact h1, h2⟩, h.nodup, fun b cs hm => by
     obtain ⟨⟨T, fr, h1⟩, h2⟩ := h.arg b cs hm
     exact ⟨⟨T, fr, by rw [hb.block b (lt_of_get h1)]; exact h1⟩, h2⟩⟩

theorem holds_ne {b r : Nat} {cs : List Value} {T : TypeId} {o : Obj} (h : holds w b cs T) (hr : w.heap[r]? = some o) (ho : o.isCells = false) : b ≠ r := by
  intro e
  subst e
  unfold holds at h
  rw [h] at hr; cases hr; cases ho
theorem reads_ne {b r : Nat} {cs : List Value} {o : Obj} (h : reads w b cs) (hr : w.heap[r]? = some o) (ho : o.isCells = false) : b ≠ r := by
  intro e
  subst e
  obtain ⟨T, fr, h⟩ := h
  rw [h] at hr; cases hr; cases ho

theorem WS.put (h : WS N w0 O A w) {r : Nat} {o : Obj} (o' : Obj) (hr : w.heap[r]? = some o) (ho : o.isCells = false) (h0 : w0.heap.size ≤ r) : WS N w0 O A (w.putObj r o') :=
  ⟨⟨h.bel.os, h.bel.tape, h.bel.output, by rw [World.putObj_size]; exact h.bel.size, fun k hk hS => (World.putObj_heap_other (by omega)).trans (h.bel.block k hk hS)⟩,
   fun b cs T hm => by
     obtain ⟨h1, h2⟩ := h.own b cs T hm
     exact ⟨(World.putObj_heap_other (holds_ne h1 hr ho)).trans h1, h2⟩, h.nodup, fun b cs hm => by
     obtain ⟨h1, h2⟩ := h.arg b cs hm
     have hne := reads_ne h1 hr ho
     obtain ⟨T, fr, h1⟩ := h1
     exact ⟨⟨T, fr, (World.putObj_heap_other hne).trans h1⟩, h2⟩⟩

/-- A round begins: what is written lies in the list of blocks that may be. -/
theorem WS.enter {n : Nat} {r : Option Nat} (h : WS N w0 (Fx ++ Ob) A W) : WS ⟨n, [], r, nums Ob, []⟩ W Ob (argsOf Fx ++ A) W := by
  have hnd := h.nodup
  simp only [nums, List.map_append, List.nodup_append] at hnd
  refine ⟨BelowX.refl _ _, fun b cs T hm => ⟨(h.own b cs T (List.mem_append_right _ hm)).1, .inr (mem_nums.2 ⟨cs, T, hm⟩)⟩, hnd.2.1, ?_⟩
  intro b cs hm
  rcases List.mem_append.1 hm with hm | hm
  · obtain ⟨T, hm⟩ := mem_argsOf.1 hm
    have h1 := (h.own b cs T (List.mem_append_left _ hm)).1
    refine ⟨⟨T, _, h1⟩, h1.lt, fun hb => ?_⟩
    exact hnd.2.2 b (List.mem_map.2 ⟨_, hm, rfl⟩) b hb rfl
  · obtain ⟨h1, h2, h3⟩ := h.arg b cs hm
    refine ⟨h1, h1.lt, fun hb => ?_⟩
    obtain ⟨cs', T', hb⟩ := mem_nums.1 hb
    rcases (h.own b cs' T' (List.mem_append_right _ hb)).2 with h4 | h4
    · omega
    · exact h3 h4

/-- .. and ends. -/
theorem WS.leave {n n' r : Nat} {rr rr' : Option Nat} {o o' : Obj} (h : WS N w0 (Fx ++ Ob) A W) (h1 : WS ⟨n, [], rr, nums Ob, []⟩ W Oa (argsOf Fx ++ A) W')
    (h2 : WS ⟨n', [], rr', nums Oa, []⟩ (W'.putObj r o') O3 (argsOf Fx ++ A) W3) (hr0 : w0.heap.size ≤ r) (hr : W.heap[r]? = some o) (ho : o.isCells = false) (ho' : o'.isCells = false) :
    WS N w0 (Fx ++ O3) A W3 ∧ W3.heap[r]? = some o' ∧ (∀ (D : Nat) (x : Obj), W.heap[D]? = some x → x.isCells = false → D ≠ r → W3.heap[D]? = some x) := by
  have hsz : (W'.putObj r o').heap.size = W'.heap.size := World.putObj_size
  have hOb : ∀ b, b ∈ nums Ob → ∃ cs T, holds W b cs T ∧ (w0.heap.size ≤ b ∨ b ∈ N.wr) := fun b hb => by
    obtain ⟨cs, T, hm⟩ := mem_nums.1 hb
    exact ⟨cs, T, h.own b cs T (List.mem_append_right _ hm)⟩
  have hOa : ∀ b, b ∈ nums Oa → ∃ cs T, holds W' b cs T ∧ (W.heap.size ≤ b ∨ b ∈ nums Ob) := fun b hb => by
    obtain ⟨cs, T, hm⟩ := mem_nums.1 hb
    exact ⟨cs, T, h1.own b cs T hm⟩
  -- what is no cells
  have hnc : ∀ (D : Nat) (x : Obj), W.heap[D]? = some x → x.isCells = false → W'.heap[D]? = some x := fun D x hD hx => by
    rw [h1.bel.block D (lt_of_get hD) (fun hb => by obtain ⟨cs, T, hh, _⟩ := hOb D hb; exact holds_ne hh hD hx rfl)]
    exact hD
  have hr' := hnc r o hr ho
  have hrs : (W'.putObj r o').heap[r]? = some o' := World.putObj_heap_same (lt_of_get hr')
  have hnc3 : ∀ (D : Nat) (x : Obj), (W'.putObj r o').heap[D]? = some x → x.isCells = false → D ∉ nums Oa → W3.heap[D]? = some x := fun D x hD hx hn => by
    rw [h2.bel.block D (lt_of_get hD) hn]; exact hD
  have hrOa : r ∉ nums Oa := fun hb => by obtain ⟨cs, T, hh, _⟩ := hOa r hb; exact holds_ne hh hr' ho rfl
  -- a block of before
  have hold : ∀ k, k < W.heap.size → k ∉ nums Ob → k ≠ r → W3.heap[k]? = W.heap[k]? := fun k hk hb hkr => by
    have e1 : W'.heap[k]? = W.heap[k]? := h1.bel.block k hk hb
    have e2 : (W'.putObj r o').heap[k]? = W'.heap[k]? := World.putObj_heap_other hkr
    have hn : k ∉ nums Oa := fun hm => by
      obtain ⟨_, _, _, h3⟩ := hOa k hm
      rcases h3 with h3 | h3
      · omega
      · exact hb h3
    have := h1.bel.size
    exact (h2.bel.block k (by rw [hsz]; omega) hn).trans (e2.trans e1)
  have hfx : ∀ b cs, (b, cs) ∈ argsOf Fx ++ A → b < W.heap.size ∧ b ∉ nums Ob ∧ b ∉ nums Oa := fun b cs hm =>
    ⟨(h1.arg b cs hm).2.1, (h1.arg b cs hm).2.2, (h2.arg b cs hm).2.2⟩
  have hin3 : ∀ b, b ∈ nums O3 → W.heap.size ≤ b ∨ b ∈ nums Ob := fun b hb => by
    obtain ⟨cs, T, hm⟩ := mem_nums.1 hb
    have h4 : (W'.putObj r o').heap.size ≤ b ∨ b ∈ nums Oa := (h2.own b cs T hm).2
    rcases h4 with h3 | h3
    · have := h1.bel.size; exact .inl (by omega)
    · obtain ⟨_, _, _, h4⟩ := hOa b h3; exact h4
  have hto0 : ∀ b, (W.heap.size ≤ b ∨ b ∈ nums Ob) → w0.heap.size ≤ b ∨ b ∈ N.wr := fun b hb => by
    rcases hb with h3 | h3
    · have := h.bel.size; exact .inl (by omega)
    · obtain ⟨_, _, _, h4⟩ := hOb b h3; exact h4
  refine ⟨⟨⟨?_, ?_, ?_, ?_, ?_⟩, ?_, ?_, ?_⟩, hnc3 r o' hrs ho' hrOa, ?_⟩
  · exact h2.bel.os.trans (h1.bel.os.trans h.bel.os)
  · exact h2.bel.tape.trans (h1.bel.tape.trans h.bel.tape)
  · exact h2.bel.output.trans (h1.bel.output.trans h.bel.output)
  · exact Nat.le_trans (Nat.le_trans h.bel.size h1.bel.size) (by rw [← hsz]; exact h2.bel.size)
  · intro k hk hS
    have h3 := h.bel.size
    refine (hold k (by omega) (fun hb => ?_) (by omega)).trans (h.bel.block k hk hS)
    rcases hto0 k (.inr hb) with h4 | h4
    · omega
    · exact hS h4
  · intro b cs T hm
    rcases List.mem_append.1 hm with hm | hm
    · obtain ⟨g1, g2⟩ := h.own b cs T (List.mem_append_left _ hm)
      obtain ⟨g3, g4, _⟩ := hfx b cs (List.mem_append_left _ (mem_argsOf.2 ⟨T, hm⟩))
      refine ⟨?_, g2⟩
      unfold holds
      rw [hold b g3 g4 (holds_ne g1 hr ho)]
      exact g1
    · exact ⟨(h2.own b cs T hm).1, hto0 b (hin3 b (mem_nums.2 ⟨cs, T, hm⟩))⟩
  · have hnd := h.nodup
    simp only [nums, List.map_append, List.nodup_append] at hnd ⊢
    refine ⟨hnd.1, h2.nodup, ?_⟩
    intro x hx y hy e
    subst e
    obtain ⟨⟨b, cs, T⟩, hm, rfl⟩ := List.mem_map.1 hx
    obtain ⟨g3, g4, _⟩ := hfx b cs (List.mem_append_left _ (mem_argsOf.2 ⟨T, hm⟩))
    rcases hin3 b hy with h5 | h5
    · omega
    · exact g4 h5
  · intro b cs hm
    obtain ⟨g1, g2⟩ := h.arg b cs hm
    obtain ⟨g3, g4, _⟩ := hfx b cs (List.mem_append_right _ hm)
    have hne := reads_ne g1 hr ho
    obtain ⟨T, fr, g1⟩ := g1
    exact ⟨⟨T, fr, (hold b g3 g4 hne).trans g1⟩, g2⟩
  · intro D x hD hx hne
    have hD' := hnc D x hD hx
    refine hnc3 D x ((World.putObj_heap_other hne).trans hD') hx (fun hb => ?_)
    obtain ⟨cs, T, hh, _⟩ := hOa D hb
    exact holds_ne hh hD' hx rfl
end

/-- What a function that is ranged over owes: it yields the elements in their order, till a round says 'no more'. -/
def It {α : Type} (P : Program) (gf : Nat) (lb : List Value) (M : Args) (encs : α → List Value) (xs : List α) : Prop :=
  ∀ (y : Nat) (J : List α → World → Prop) (Jx : World → Prop) (W : World),
    (∀ pre W1 W2, J pre W1 → Below W1.heap.size W1 W2 → J pre W2) → (∀ W1 W2, Jx W1 → Below W1.heap.size W1 W2 → Jx W2) →
    (∀ pre W1, J pre W1 → ∀ b cs, (b, cs) ∈ M → reads W1 b cs) →
    (∀ pre x W1, pre ++ [x] <+: xs → J pre W1 → YieldAt (Fr none) 0 P y (encs x).toArray W1 fun e W' => (e = .returned (.bool true) ∧ J (pre ++ [x]) W') ∨ (e = .returned (.bool false) ∧ Jx W')) →
    J [] W → CallsIn (Fr none) 0 P gf (#[.func (.yield y) #[] #[]] ++ lb.toArray) W fun e W' => (∃ v, e = .returned v) ∧ (J xs W' ∨ Jx W')

/-- The slots of a round when it begins. -/
def penv : List Nat → List Value → Env → Env
  | p :: ps, v :: vs, l => penv ps vs ((p, v) :: l)
  | _, _, l => l

theorem penv_get : ∀ (ps : List Nat) (vs : List Value) (l : Env) (tm : Array Value), (∀ t v, get l t = some v → tm[t]? = some v) → (∀ p ∈ ps, p < tm.size) →
    ∀ t v, get (penv ps vs l) t = some v → ((ps.zip vs).foldl (fun t (x : Nat × Value) => t.setIfInBounds x.1 x.2) tm)[t]? = some v
  | [], vs, l, tm, h, _, t, v, hg => by simpa [penv] using h t v hg
  | p :: ps, [], l, tm, h, _, t, v, hg => by simpa [penv] using h t v hg
  | p :: ps, u :: vs, l, tm, h, hp, t, v, hg => by
    simp only [List.zip_cons_cons, List.foldl_cons]
    refine penv_get ps vs ((p, u) :: l) (tm.setIfInBounds p u) ?_ (fun q hq => by have := hp q (by simp [hq]); simpa using this) t v hg
    intro t' v' hg'
    simp only [get] at hg'
    have hpl := hp p (by simp)
    by_cases e : p = t'
    · subst e
      rw [Nat.beq_refl] at hg'
      simp only [cond_true, Option.some.injEq] at hg'
      subst hg'
      simp [hpl]
    · have : Nat.beq p t' = false := by
        cases hb : Nat.beq p t' with
        | false => rfl
        | true => exact absurd (Nat.eq_of_beq_eq_true hb) e
      rw [this] at hg'
      simp only [cond_false] at hg'
      rw [Array.getElem?_setIfInBounds_ne e]
      exact h t' v' hg'

theorem penv_size : ∀ (ps : List (Nat × Value)) (tm : Array Value), (ps.foldl (fun t (x : Nat × Value) => t.setIfInBounds x.1 x.2) tm).size = tm.size
  | [], tm => rfl
  | p :: ps, tm => by rw [List.foldl_cons, penv_size ps]; simp

/-- How a round's body may be left. -/
def rndPost {α : Type} (N : Cx) (W : World) (A : Args) (good : List α → Blks → Prop) (stop : Code → Blks → Prop) (xs : List α) : Exit → Act → World → Prop
  | .normal, a, w => ∃ l O, good xs O ∧ St N W l O A a w
  | .ret, a, w => ∃ l O, stop .ret O ∧ St N W l O A a w
  | .exit id, a, w => ∃ l O, stop (.exit id) O ∧ St N W l O A a w
  | _, _, _ => False

section
variable {P : Program} {N : Cx} {w0 : World} {l : Env} {O Fx O0 : Blks} {A : Args} {Q : Exit → Act → World → Prop}

theorem okc_range {α : Type} {g : Operand} {ps : Array Tmp} {assign body : Code} {gf : Nat} {lb : List Value} {M : Args} {encs : α → List Value} {xs : List α}
    (hit : It P gf lb M encs xs) (hr : N.r = none) (hmm : (N.marks, N.maps) = ([], [])) (hg : ev l g = some (.func (.func gf) #[] lb.toArray)) (hc : callable P gf)
    (hps : ∀ x, (encs x).length = ps.size) (hpn : (ps.toList.all fun p => Nat.blt p N.n) = true)
    (good : List α → Blks → Prop) (stop : Code → Blks → Prop) (h0 : good [] O0) (hM : ∀ b cs, (b, cs) ∈ M → (∃ T, (b, cs, T) ∈ Fx) ∨ (b, cs) ∈ A)
    (round : ∀ pre x Ob W r, pre ++ [x] <+: xs → good pre Ob →
      OkC P ⟨N.n, [], some r, nums Ob, []⟩ W assign (Exit.then (fun a' W' => ∃ la Oa, St ⟨N.n, [], some r, nums Ob, []⟩ W la Oa (argsOf Fx ++ A) a' W' ∧
        ∀ W'', OkC P ⟨N.n, [], some r, nums Oa, []⟩ W'' body (rndPost ⟨N.n, [], some r, nums Oa, []⟩ W'' (argsOf Fx ++ A) good stop (pre ++ [x])) la Oa (argsOf Fx ++ A)) (fun _ _ _ => False))
        (penv ps.toList (encs x) l) Ob (argsOf Fx ++ A))
    (done : ∀ Ob D, good xs Ob → ∀ a w, St { N with marks := [D] } w0 l (Fx ++ Ob) A a w → Q .normal a w)
    (stopped : ∀ c Ob D, stop c Ob → OkC P { N with marks := [D] } w0 c Q l (Fx ++ Ob) A) :
    OkC P N w0 (.rangeFunc g ps assign body) Q l (Fx ++ O0) A := by
  intro a w hs
  have hm : N.marks = [] := congrArg Prod.fst hmm
  have hmp : N.maps = [] := congrArg Prod.snd hmm
  refine wpIn_rangeFunc ?_
  intro fn hfn
  have hro : (Fr N.r).round = none := hr
  rw [hro]
  obtain ⟨rec, hrec⟩ : ∃ rec : LoopState → Option Code → Loop, rec = fun st pe => { state := st, pending := pe, fn, tmps := a.tmps, params := ps, assign, body, defers := w.heap.size } := ⟨_, rfl⟩
  have hws := hs.ws
  have hw0 : w0.heap.size ≤ w.heap.size := hs.bel.size
  have hb1 : Below w.heap.size w ((w.alloc (.deferred (some []))).alloc (.loop (rec .ready none))) :=
    (below_alloc w _).trans ((below_alloc _ _).mono (by simp))
  have hL1 : ((w.alloc (.deferred (some []))).alloc (.loop (rec .ready none))).heap[w.heap.size + 1]? = some (.loop (rec .ready none)) := by
    have := World.alloc_heap_new (w.alloc (.deferred (some []))) (.loop (rec .ready none)); rwa [World.size_alloc] at this
  have hK1 : ((w.alloc (.deferred (some []))).alloc (.loop (rec .ready none))).heap[w.heap.size]? = some (.deferred (some [])) :=
    (Below.heap_alloc _ _ _ (by simp)).trans (World.alloc_heap_new w _)
  generalize hW1 : (w.alloc (.deferred (some []))).alloc (.loop (rec .ready none)) = W1 at hb1 hL1 hK1
  have hen : (Instr.enterLoop fn a.tmps ps assign body none).run P w = .ok (w.heap.size + 1, [mark w.heap.size]) W1 := by
    rw [← hW1, hrec]; exact run_enterLoop_outer _ _ _ _ _
  refine ⟨w.heap.size + 1, [mark w.heap.size], W1, { target := .fn (.func gf) lb.toArray, args := #[.func (.yield (w.heap.size + 1)) #[] #[]] }, W1, gf,
    #[.func (.yield (w.heap.size + 1)) #[] #[]] ++ lb.toArray, W1, hen, ?_, ?_, ?_, fun h => absurd h (by simp [Fr, Fence.wide]), ?_⟩
  · simp only [resolve, hs.eval hg]
    simp [go_sem]
  · intro _ _; trivial
  · simp only [invoke]
    exact run_callee hc
  · have hst : ∀ (st : LoopState) (pe : Option Code), (rec st pe).state = st ∧ (rec st pe).pending = pe ∧ (rec st pe).params = ps := fun st pe => by rw [hrec]; exact ⟨rfl, rfl, rfl⟩
    have hcall := hit (w.heap.size + 1)
      (fun pre W => ∃ Ob, good pre Ob ∧ WS N w0 (Fx ++ Ob) A W ∧ W.heap[w.heap.size + 1]? = some (.loop (rec .ready none)) ∧ W.heap[w.heap.size]? = some (.deferred (some [])))
      (fun W => ∃ c Ob, stop c Ob ∧ WS N w0 (Fx ++ Ob) A W ∧ W.heap[w.heap.size + 1]? = some (.loop (rec .done (some c))) ∧ W.heap[w.heap.size]? = some (.deferred (some []))) W1
      (fun pre A1 B1 h hb => by
        obtain ⟨Ob, h1, h2, h3, h4⟩ := h
        exact ⟨Ob, h1, h2.ext hb, (hb.block _ (lt_of_get h3)).trans h3, (hb.block _ (lt_of_get h4)).trans h4⟩)
      (fun A1 B1 h hb => by
        obtain ⟨c, Ob, h1, h2, h3, h4⟩ := h
        exact ⟨c, Ob, h1, h2.ext hb, (hb.block _ (lt_of_get h3)).trans h3, (hb.block _ (lt_of_get h4)).trans h4⟩)
      (fun pre A1 h b cs hb => by
        obtain ⟨Ob, h1, h2, h3, h4⟩ := h
        rcases hM b cs hb with ⟨T, hb⟩ | hb
        · exact ⟨T, _, (h2.own b cs T (List.mem_append_left _ hb)).1⟩
        · exact (h2.arg b cs hb).1)
      ?_ ⟨O0, h0, hws.ext hb1, hL1, hK1⟩
    · refine CallsIn.mono (R := fun e W' => (∃ v, e = .returned v) ∧ _) (hr ▸ hcall) ?_
      rintro e W2 ⟨⟨v, rfl⟩, ⟨Ob, h1, h2, h3, h4⟩ | ⟨c, Ob, h1, h2, h3, h4⟩⟩
      · have he := run_endLoop (P := P) h3 (by rw [(hst _ _).1]; simp)
        rw [(hst _ _).2.1] at he
        refine ⟨none, _, he, done Ob w.heap.size h1 _ _ ?_⟩
        refine WS.st (N := { N with marks := [w.heap.size] }) ?_ hs.size (by show [mark _] ++ a.defers = _; rw [hs.noDef, hm]; rfl) hs.env ?_
        · have hp := fun (o' : Obj) => h2.put o' h3 rfl (by omega)
          exact ⟨(hp _).bel, (hp _).own, h2.nodup, (hp _).arg⟩
        refine ⟨fun D hD => ?_, fun b es c own hb => by have hb' : (b, es, c, own) ∈ N.maps := hb; rw [hmp] at hb'; cases hb'⟩
        simp only [List.mem_singleton] at hD
        subst hD
        exact ⟨(World.putObj_heap_other (by omega)).trans h4, hw0⟩
      · have he := run_endLoop (P := P) h3 (by rw [(hst _ _).1]; simp)
        rw [(hst _ _).2.1] at he
        refine ⟨some c, _, he, stopped c Ob w.heap.size h1 _ _ ?_⟩
        refine WS.st (N := { N with marks := [w.heap.size] }) ?_ hs.size (by show [mark _] ++ a.defers = _; rw [hs.noDef, hm]; rfl) hs.env ?_
        · have hp := fun (o' : Obj) => h2.put o' h3 rfl (by omega)
          exact ⟨(hp _).bel, (hp _).own, h2.nodup, (hp _).arg⟩
        refine ⟨fun D hD => ?_, fun b es c own hb => by have hb' : (b, es, c, own) ∈ N.maps := hb; rw [hmp] at hb'; cases hb'⟩
        simp only [List.mem_singleton] at hD
        subst hD
        exact ⟨(World.putObj_heap_other (by omega)).trans h4, hw0⟩
    · rintro pre x W hpre ⟨Ob, hgood, hw, hl, hk⟩
      have hy := run_yield (P := P) (args := (encs x).toArray) hl (by rw [(hst _ _).2.2]; simpa using hps x)
      refine ⟨_, _, _, _, hy, roundIn_of_wpIn (by rw [hrec]; exact hfn) ?_⟩
      have hre : (rec .ready none).assign = assign ∧ (rec .ready none).body = body ∧ (rec .ready none).tmps = a.tmps ∧ (rec .ready none).params = ps := by rw [hrec]; exact ⟨rfl, rfl, rfl, rfl⟩
      rw [hre.1, hre.2.1, hre.2.2.1, hre.2.2.2]
      have hfold : (ps.zip (encs x).toArray).foldl (fun tmps (x : Nat × Value) => tmps.setIfInBounds x.1 x.2) a.tmps = (ps.toList.zip (encs x)).foldl (fun t (x : Nat × Value) => t.setIfInBounds x.1 x.2) a.tmps := by
        rw [← Array.foldl_toList]; simp
      have hst0 : St ⟨N.n, [], some (w.heap.size + 1), nums Ob, []⟩ W (penv ps.toList (encs x) l) Ob (argsOf Fx ++ A) { tmps := (ps.toList.zip (encs x)).foldl (fun t (x : Nat × Value) => t.setIfInBounds x.1 x.2) a.tmps, defers := [] } W := by
        refine (hw.enter (n := N.n) (r := some (w.heap.size + 1))).st ?_ rfl ?_ (Mk.nil rfl rfl)
        · rw [penv_size]; exact hs.size
        · refine penv_get _ _ _ _ hs.env ?_
          intro p hp
          rw [List.all_eq_true] at hpn
          have := hpn p hp
          rw [hs.size]
          simpa [Nat.blt_eq] using this
      have hasg := round pre x Ob W (w.heap.size + 1) hpre hgood _ W hst0
      show assign.wpIn (Fr (some (w.heap.size + 1))) 0 P _ { tmps := (ps.zip (encs x).toArray).foldl (fun tmps (x : Nat × Value) => tmps.setIfInBounds x.1 x.2) a.tmps, defers := [] } W
      rw [hfold]
      refine wpIn_mono hasg ?_
      intro e a' W' he
      cases e <;> first | exact he.elim | skip
      obtain ⟨la, Oa, hst1, hbody⟩ := he
      have hl' : W'.heap[w.heap.size + 1]? = some (.loop (rec .ready none)) := by
        rw [hst1.bel.block _ (lt_of_get hl) (fun hb => by obtain ⟨cs, T, hb⟩ := mem_nums.1 hb; exact holds_ne (hw.own _ cs T (List.mem_append_right _ hb)).1 hl rfl rfl)]; exact hl
      refine ⟨_, run_beginRound hl' (hst _ _).1, ?_⟩
      have hst2 : St ⟨N.n, [], some (w.heap.size + 1), nums Oa, []⟩ (W'.putObj (w.heap.size + 1) (.loop { rec .ready none with state := .busy })) la Oa (argsOf Fx ++ A) a' (W'.putObj (w.heap.size + 1) (.loop { rec .ready none with state := .busy })) := by
        have hws1 : WS ⟨N.n, [], some (w.heap.size + 1), nums Ob, []⟩ W ([] ++ Oa) (argsOf Fx ++ A) W' := hst1.ws
        have hent := hws1.enter (n := N.n) (r := some (w.heap.size + 1))
        have hput : WS ⟨N.n, [], some (w.heap.size + 1), nums Oa, []⟩ (W'.putObj (w.heap.size + 1) (.loop { rec .ready none with state := .busy })) Oa (argsOf Fx ++ A) (W'.putObj (w.heap.size + 1) (.loop { rec .ready none with state := .busy })) := by
          refine ⟨BelowX.refl _ _, fun b cs T hm => ?_, hent.nodup, fun b cs hm => ?_⟩
          · obtain ⟨g1, _⟩ := hent.own b cs T hm
            exact ⟨(World.putObj_heap_other (holds_ne g1 hl' rfl)).trans g1, .inr (mem_nums.2 ⟨cs, T, hm⟩)⟩
          · obtain ⟨g1, g2, g3⟩ := hent.arg b cs hm
            have hne := reads_ne g1 hl' rfl
            obtain ⟨T, fr, g1⟩ := g1
            exact ⟨⟨T, fr, (World.putObj_heap_other hne).trans g1⟩, by rw [World.putObj_size]; exact g2, g3⟩
        exact hput.st hst1.size hst1.noDef hst1.env (Mk.nil rfl rfl)
      refine wpIn_mono (hbody _ a' _ hst2) ?_
      have fin : ∀ (O3 : Blks) (l3 : Env) (a3 : Act) (W3 : World) (jump : Option Code),
          St ⟨N.n, [], some (w.heap.size + 1), nums Oa, []⟩ (W'.putObj (w.heap.size + 1) (.loop { rec .ready none with state := .busy })) l3 O3 (argsOf Fx ++ A) a3 W3 →
          ∃ W4, (Instr.endRound (w.heap.size + 1) jump).run P W3 = .ok (.bool jump.isNone) W4 ∧ WS N w0 (Fx ++ O3) A W4 ∧
            W4.heap[w.heap.size + 1]? = some (.loop (rec (if jump.isNone then .ready else .done) jump)) ∧ W4.heap[w.heap.size]? = some (.deferred (some [])) := by
        intro O3 l3 a3 W3 jump h3
        obtain ⟨g1, g2, g3⟩ := hw.leave (o := .loop (rec .ready none)) (o' := .loop { rec .ready none with state := .busy }) hst1.ws h3.ws (by omega) hl rfl rfl
        have g4 := g3 w.heap.size _ hk rfl (by omega)
        have he := run_endRound (P := P) jump g2
        refine ⟨_, he, g1.put _ g2 rfl (by omega), ?_, (World.putObj_heap_other (by omega)).trans g4⟩
        rw [World.putObj_heap_same (lt_of_get g2), hrec]
      intro e a3 W3 he3
      cases e with
      | normal =>
        obtain ⟨l3, O3, hg3, hs3⟩ := he3
        obtain ⟨W4, g1, g2, g3, g4⟩ := fin O3 l3 a3 W3 none hs3
        exact ⟨_, W4, g1, .inl ⟨rfl, O3, hg3, g2, g3, g4⟩⟩
      | ret =>
        obtain ⟨l3, O3, hg3, hs3⟩ := he3
        obtain ⟨W4, g1, g2, g3, g4⟩ := fin O3 l3 a3 W3 (some .ret) hs3
        exact ⟨_, W4, g1, .inr ⟨rfl, .ret, O3, hg3, g2, g3, g4⟩⟩
      | exit id =>
        obtain ⟨l3, O3, hg3, hs3⟩ := he3
        obtain ⟨W4, g1, g2, g3, g4⟩ := fin O3 l3 a3 W3 (some (.exit id)) hs3
        exact ⟨_, W4, g1, .inr ⟨rfl, .exit id, O3, hg3, g2, g3, g4⟩⟩
      | goto t => exact he3.elim
      | panic ch => exact he3.elim
      | outgrown => exact he3.elim

/-! ### The end of a function that holds such a loop -/
theorem fn_introM {σ : Type} {f : Nat} {fn : Func} {c : Code} {args : List Value} {M : Args} {val : σ → Value} {blks : σ → Blks} {ok : σ → Prop}
    {n : Nat} (hf : P.funcs[f]? = some fn) (hb : fn.body = some c) (hn : fn.ntmps = n) (hN : Nat.ble args.length n = true)
    (h : ∀ w0, OkC P (C0 n) w0 c (bodyPostM (Fr none) 0 P fn (postOf w0 val blks ok)) (envOf args 0) [] M) : Cn P f args M val blks ok := by
  intro w hM
  refine callsIn_wide.1 (callsIn_of_wp_marks (F := Fr none) (n := 0) hf hb trivial ?_)
  rw [hn]
  exact h w _ w (st_start (Nat.le_of_ble_eq_true hN) hM)

theorem St.unmark {n D : Nat} {ds : List Nat} {r : Option Nat} {wr : List Nat} {mp : List (Nat × Array MapEntry × Nat × Bool)} {a : Act} {w : World} (hs : St ⟨n, D :: ds, r, wr, mp⟩ w0 l O A a w) (hnd : D ∉ ds) :
    St ⟨n, ds, r, wr, mp⟩ w0 l O A { tmps := a.tmps, defers := ds.map mark } (w.putObj D (.deferred none)) := by
  obtain ⟨h1, h2⟩ := hs.marked D (by simp)
  have hw : WS ⟨n, D :: ds, r, wr, mp⟩ w0 O A (w.putObj D (.deferred none)) := hs.ws.put _ h1 rfl h2
  refine WS.st ⟨hw.bel, hw.own, hw.nodup, hw.arg⟩ hs.size rfl hs.env ⟨?_, ?_⟩
  · intro D' hD'
    obtain ⟨h3, h4⟩ := hs.marked D' (by simp [hD'])
    have hne : D' ≠ D := fun e => hnd (by rw [← e]; exact hD')
    exact ⟨(World.putObj_heap_other hne).trans h3, h4⟩
  · intro b es c own hb
    obtain ⟨h3, h4⟩ := hs.more.mapped b es c own hb
    have hne : b ≠ D := fun e => by rw [e, h1] at h3; cases h3
    exact ⟨(World.putObj_heap_other hne).trans h3, h4⟩

theorem ret_postM {σ : Type} {fn : Func} {n D : Nat} {a : Act} {w : World} {val : σ → Value} {blks : σ → Blks} {ok : σ → Prop} {v : Value} (hs : St ⟨n, [D], none, [], []⟩ w0 l O A a w)
    (hr : ∀ a w, St (C0 n) w0 l O A a w → (results fn a.tmps).run P w = .ok v w)
    (s : σ) (hv : v = val s) (hok : ok s) (js : List Nat) (hjs : js.Nodup) (hB : blks s = pickB O js) : bodyPostM (Fr none) 0 P fn (postOf w0 val blks ok) .ret a w := by
  have h1 := hs.unmark (by simp)
  obtain ⟨_, v', h2, h3⟩ := ret_post h1 (hr _ _ h1) s hv hok js hjs hB
  show LeavesInM _ _ _ _ _ _ a.defers _ _
  rw [hs.noDef]
  refine ⟨by simp, .inl ⟨D, _, rfl, run_takeDeferred (hs.marked D (by simp)).1, v', h2, h3⟩⟩

theorem ret_vM {fn : Func} {n D : Nat} {a : Act} {w : World} {v r : Value} (hs : St ⟨n, [D], none, [], []⟩ w0 l O A a w) (hr : ∀ a w, St (C0 n) w0 l O A a w → (results fn a.tmps).run P w = .ok v w) (hv : v = r) :
    bodyPostM (Fr none) 0 P fn (postOf w0 (fun _ : Unit => r) (fun _ => []) (fun _ => True)) .ret a w :=
  ret_postM hs hr () hv trivial [] (by simp) rfl

/-- .. where the loop was not come to. -/
theorem ret_postM0 {σ : Type} {fn : Func} {n : Nat} {a : Act} {w : World} {val : σ → Value} {blks : σ → Blks} {ok : σ → Prop} {v : Value} (hs : St (C0 n) w0 l O A a w)
    (hr : ∀ a w, St (C0 n) w0 l O A a w → (results fn a.tmps).run P w = .ok v w)
    (s : σ) (hv : v = val s) (hok : ok s) (js : List Nat) (hjs : js.Nodup) (hB : blks s = pickB O js) : bodyPostM (Fr none) 0 P fn (postOf w0 val blks ok) .ret a w := by
  obtain ⟨_, v', h2, h3⟩ := ret_post hs (hr _ _ hs) s hv hok js hjs hB
  show LeavesInM _ _ _ _ _ _ a.defers _ _
  rw [hs.noDef]
  exact ⟨v', h2, h3⟩

/-! ### The iterator's side -/
theorem St.rebase {a : Act} {w : World} (hs : St N w0 l O A a w) (hm : N.marks = [] ∧ N.wr = [] ∧ N.maps = [] := by exact ⟨rfl, rfl, rfl⟩) : St N w l [] A a w :=
  WS.st (l := l) ⟨BelowX.refl _ _, fun b cs T h => (by cases h), by simp [nums], fun b cs h => by
    obtain ⟨h1, h2⟩ := hs.ws.arg b cs h
    exact ⟨h1, h1.lt, by simp [hm.2.1]⟩⟩ hs.size hs.noDef hs.env (Mk.nil hm.1 hm.2.2)

theorem St.noargs {a : Act} {w : World} (hs : St N w0 l O A a w) : St N w0 l O [] a w := ⟨hs.size, hs.noDef, hs.bel, hs.env, hs.own, hs.nodup, fun j b cs h => by simp at h, hs.more⟩

theorem okl_yield {o : Oper} {ops : Array Oper} {is : List Nat} {i d y : Nat} {xs : Array Operand} {ts : Array TypeId} {x : Operand} {vs : List Value} {T F : World → Prop}
    (ho : ops[i]? = some o) (hg : wantsB ops l o = some true) (hd : o.dst = some d) (hNd : Nat.blt d N.n = true) (hop : o.op = .call { callee := .value x, args := xs, argTypes := ts })
    (hf : ev l x = some (.func (.yield y) #[] #[])) (hx : evAll l xs.toList = some vs) (hN' : N.r = none ∧ N.marks = [] ∧ N.wr = [])
    (hY : ∀ w, Below w0.heap.size w0 w → YieldAt (Fr none) 0 P y vs.toArray w fun e W' => (e = .returned (.bool true) ∧ T W') ∨ (e = .returned (.bool false) ∧ F W'))
    (hA : ∀ W', T W' → ∀ b cs, (b, cs) ∈ A → reads W' b cs)
    (ht : ∀ W', T W' → OkL P N W' ops Q is ((d, .bool true) :: l) [] A) (hf' : ∀ W', F W' → OkL P N W' ops Q is ((d, .bool false) :: l) [] [])
    (hNm : N.maps = [] := by rfl) : OkL P N w0 ops Q (i :: is) l O A := by
  have hN := hN'
  intro a w hs
  simp only [wpOpsIn, ho, wanted_of hs hg, if_true]
  obtain ⟨fn, tmps, assign, body, hy, hR⟩ := hY w (hs.bel.below hN.2.2)
  have hargs : xs.map a.eval = vs.toArray := by
    have := evAll_map hs hx
    apply Array.ext'
    simpa using this
  have hrun : (execOp a.eval o).run P w = .ok (.round y fn tmps assign body) w := by
    rw [← hy]
    simp only [execOp, hop, resolve, Sem.run_bind, hs.eval hf, Deferred.ofValue, hargs, Sem.run_pure, Result.andThen_ok, invoke, Array.empty_append]
  refine ⟨fun _ _ => trivial, ?_⟩
  rw [Oper.semAt_eq _ _ _ (fun c h => by rw [hop] at h; cases h), hrun, hN.1]
  refine ⟨fun h => absurd h (by simp [Fr, Fence.wide]), ?_⟩
  refine RoundIn.mono hR ?_
  have hst : ∀ (W' : World) (v : Value) (B : Args), (∀ b cs, (b, cs) ∈ B → reads W' b cs) → St N W' ((d, v) :: l) [] B (a.put o.dst v) W' := by
    intro W' v B hB
    have h1 : St N W' l [] B a W' := WS.st ⟨BelowX.refl _ _, fun b cs T h => (by cases h), by simp [nums], fun b cs h => ⟨hB b cs h, (hB b cs h).lt, by simp [hN.2.2]⟩⟩ hs.size hs.noDef hs.env (Mk.nil hN.2.1 hNm)
    rw [hd]
    exact h1.put hNd v
  rintro e W' (⟨rfl, hT⟩ | ⟨rfl, hF⟩)
  · have := ht W' hT _ W' (hst W' (.bool true) A (hA W' hT))
    rw [hN.1] at this
    exact this
  · have := hf' W' hF _ W' (hst W' (.bool false) [] (fun b cs h => by cases h))
    rw [hN.1] at this
    exact this

theorem okc_scope {c : Code} (hr : N.r = none) (h : OkC P N w0 c (Exit.noGoto Q) l O A) : OkC P N w0 (.scope c) Q l O A := fun a w hs => by
  have := h a w hs
  rw [hr] at this ⊢
  exact (wpIn_wide (n := 0)).2 (wp_scope_straight ((wpIn_wide (n := 0)).1 this))
theorem okc_label {k : Nat} (h : ∀ a w, St N w0 l O A a w → Q .normal a w) : OkC P N w0 (.label k) Q l O A := fun a w hs => wpIn_label (h a w hs)

/-- A loop whose state is named by a ghost, whatever it says. -/
theorem wp_loopG {γ : Type} {r : Option Nat} {c : Code} (I : γ → Act → World → Prop) (μ : γ → Nat) (g0 : γ) {a : Act} {w : World} (h0 : I g0 a w)
    (round : ∀ g a w, I g a w → c.wpIn (Fr r) 0 P (Exit.then (fun a w => ∃ g', μ g' < μ g ∧ I g' a w) Q) a w) : (Code.loop c).wpIn (Fr r) 0 P Q a w := by
  intro b k cs hro hb hr
  have key : ∀ n (g : γ), μ g = n → ∀ a w, I g a w →
      ∃ e a' w', Q e a' w' ∧ ArrivesIn (Machine.fenced P (Fr r)) P (lone (b.atR a (.code c :: .inLoop c :: k)) cs w) b k cs e a' w' := by
    intro n
    induction n using Nat.strongRecOn with
    | _ n ih =>
      intro g hn a w hs
      obtain ⟨e, a₁, w₁, hq, harr⟩ := round g a w hs b (.inLoop c :: k) cs hro hb hr
      cases e with
      | normal =>
        obtain ⟨g', hlt, hs'⟩ := hq
        obtain ⟨e₂, a₂, w₂, hq₂, harr₂⟩ := ih (μ g') (hn ▸ hlt) g' rfl a₁ w₁ hs'
        exact ⟨e₂, a₂, w₂, hq₂, .of_steps (StepsIn.trans harr (.one (fenced_calm hb hr rfl) stepR_inLoop)) harr₂⟩
      | exit id => exact ⟨_, a₁, w₁, hq, .pass (x := .inLoop c) rfl (fun _ _ => .inl (by simp)) harr⟩
      | goto l => exact ⟨_, a₁, w₁, hq, .pass (x := .inLoop c) rfl (fun _ _ => .inl (by simp)) harr⟩
      | ret => exact ⟨_, a₁, w₁, hq, .pass (x := .inLoop c) rfl (fun _ _ => .inl (by simp)) harr⟩
      | panic ch => exact ⟨_, a₁, w₁, hq, .pass (x := .inLoop c) rfl (fun _ _ => .inl (by simp)) harr⟩
      | outgrown => exact ⟨_, a₁, w₁, hq, .pass (x := .inLoop c) rfl (fun _ _ => .inl (by simp)) harr⟩
  obtain ⟨e, a', w', hq, harr⟩ := key _ g0 rfl a w h0
  exact ⟨e, a', w', hq, .of_steps (.one (fenced_calm hb hr rfl) stepR_loop) harr⟩

theorem op_makeFunc {o : Oper} {f : Nat} {x : Operand} {v : Value} (ho : o.op = .makeFunc (.func f) #[] #[x]) (hx : ev l x = some v) : OpV P N w0 l O A o (pv (.func (.func f) #[] #[v])) :=
  opv_run fun a w hs => by simp [execOp, ho, hs.eval hx, Instr.makeFunc]

theorem okc_reo {c : Code} {l' : Env} {O' : Blks} (hE : SubE l' l) (js : List Nat) (hjs : js.Nodup) (hO : pickB O js = O') (h : OkC P N w0 c Q l' O' A) : OkC P N w0 c Q l O A := fun a w hs => h a w (hs.weak hE js hjs hO)
end
end Go.Sx
end

section
namespace Go.Proofs.Ytdpnadknaacinaa
open Go.Sx Go.Proofs.Ytdpnadknaacinaa.Ty
set_option linter.unusedVariables false
set_option maxHeartbeats 2000000


def upS (n d : Int) : Int := (n + d - 1) / d

theorem dividedUp_fn (n d : Int) (h0 : 0 ≤ n) (h1 : 1 ≤ d) (h2 : n ≤ 1000000000) (h3 : d ≤ 1000000000) : Cn Try.prog 86 [.int .i64 n, .int .i64 d] [] (fun _ : Unit => .int .i64 (upS n d)) (fun _ => []) (fun _ => True) := by
  refine fn_intro (N := 11) Try.func86 rfl rfl rfl fun w0 => ?_
  refine okc_seq ?_
  refine okc_region ?_
  refine s_assign rfl rfl rfl rfl rfl rfl ?_
  refine okl_nil ?_
  change OkC Try.prog _ _ _ _ _ _ _
  refine okc_weak (l' := [(0, _), (1, _), (4, _)]) ⟨rfl, rfl, rfl, trivial⟩ ?_
  refine okc_seq ?_
  refine okc_region ?_
  refine s_move rfl rfl rfl rfl rfl rfl ?_
  refine s_move rfl rfl rfl rfl rfl rfl ?_
  refine s_add rfl rfl rfl rfl rfl rfl rfl (by omega) ?_
  refine s_sub rfl rfl rfl rfl rfl rfl rfl (by omega) ?_
  refine s_move rfl rfl rfl rfl rfl rfl ?_
  refine s_quo rfl rfl rfl rfl rfl rfl rfl (by omega) ?_
  refine s_assign rfl rfl rfl rfl rfl rfl ?_
  refine okl_nil ?_
  change OkC Try.prog _ _ _ _ _ _ _
  refine okc_weak (l' := [(0, _), (1, _), (4, _)]) ⟨rfl, rfl, rfl, trivial⟩ ?_
  refine okc_ret fun a w hs => ?_
  exact ret_v hs (run_results1 hs rfl (rv_tmp rfl)) (rfl)


def toldB (s : Sp) (x : Rd) : Int × Int := (upS (3600 * x.bucket) (x.hi * s.shi), if 0 < x.lo * s.slo then min s.most (3600 * x.bucket / (x.lo * s.slo)) else s.most)
structure Ok (s : Sp) : Prop where
  w1 : 1 ≤ s.weeks
  w2 : s.weeks ≤ 10
  m1 : 0 ≤ s.most
  m2 : s.most ≤ 100
  f1 : 0 ≤ s.fall
  f2 : s.fall ≤ 100
  a1 : 1 ≤ s.slo
  a2 : s.slo ≤ s.shi
  a3 : s.shi ≤ 600
  v1 : 0 ≤ s.wlo
  v2 : s.wlo ≤ s.whi
  v3 : s.whi ≤ 20
structure OkR (s : Sp) (x : Rd) : Prop where
  n1 : 1 ≤ x.number
  n2 : x.number ≤ 9999
  w1 : 0 ≤ x.week
  w2 : x.week ≤ s.weeks - 1
  b1 : 1 ≤ x.bucket
  b2 : x.bucket ≤ 40
  l1 : 0 ≤ x.lo
  l2 : x.lo ≤ x.hi
  l3 : x.hi ≤ 99
  l4 : 1 ≤ x.hi
theorem mul_bd {a b m n : Int} (h1 : 0 ≤ a) (h2 : a ≤ m) (h3 : 0 ≤ b) (h4 : b ≤ n) : 0 ≤ a * b ∧ a * b ≤ m * n :=
  ⟨Int.mul_nonneg h1 h3, Int.mul_le_mul h2 h4 h3 (by omega)⟩
theorem mul_pos' {a b : Int} (h1 : 1 ≤ a) (h2 : 1 ≤ b) : 1 ≤ a * b := by
  have := Int.mul_le_mul h1 h2 (by omega) (by omega : (0 : Int) ≤ a); simpa using this

theorem told_fn (s : Sp) (x : Rd) (ho : Ok s) (hx : OkR s x) : Cn Try.prog 91 [spV s, rdV x] [] (fun _ : Unit => .agg #[.int .i64 (toldB s x).1, .int .i64 (toldB s x).2]) (fun _ => []) (fun _ => True) := by
  obtain ⟨w1, w2, m1, m2, f1, f2, a1, a2, a3, v1, v2, v3⟩ := ho
  obtain ⟨n1, n2, k1, k2, b1, b2, l1, l2, l3, l4⟩ := hx
  have hp1 := mul_bd (a := x.hi) (b := s.shi) (by omega) l3 (by omega) a3
  have hp2 := mul_pos' (a := x.hi) (b := s.shi) (by omega) (by omega)
  have hp3 := mul_bd (a := x.lo) (b := s.slo) (m := 99) (n := 600) l1 (by omega) (by omega) (by omega)
  refine fn_intro (N := 43) Try.func91 rfl rfl rfl fun w0 => ?_
  refine okc_seq ?_
  refine okc_region ?_
  refine s_boxA rfl rfl rfl rfl rfl rfl (fun b1 => ?_)
  refine s_boxA rfl rfl rfl rfl rfl rfl (fun b2 => ?_)
  refine s_alloc rfl rfl rfl rfl rfl rfl (fun b3 => ?_)
  refine okl_nil ?_
  change OkC Try.prog _ _ _ _ _ _ _
  refine okc_weak (l' := [(0, _), (1, _), (2, _), (3, _), (4, _)]) ⟨rfl, rfl, rfl, rfl, rfl, trivial⟩ ?_
  refine okc_seq ?_
  refine okc_region ?_
  refine s_field rfl rfl rfl rfl rfl rfl rfl rfl ?_
  refine s_load1 1 rfl rfl rfl rfl rfl rfl rfl rfl rfl ?_
  refine s_mul rfl rfl rfl rfl rfl rfl rfl (by omega) ?_
  refine s_assign rfl rfl rfl rfl rfl rfl ?_
  refine okl_nil ?_
  change OkC Try.prog _ _ _ _ _ _ _
  refine okc_weak (l' := [(0, _), (1, _), (2, _), (3, _), (4, _), (5, _)]) ⟨rfl, rfl, rfl, rfl, rfl, rfl, trivial⟩ ?_
  refine okc_seq ?_
  refine dr_start [11, 12, 13, 14, 15, 16, 17, 18, 19, 20, 21, 22, 23, 24, 6] ?_
  refine d_move [] rfl rfl rfl rfl rfl (fun ν => rfl) rfl (fun ν => rfl) ?_
  refine d_field [] rfl rfl rfl rfl rfl (fun ν => rfl) rfl (fun ν => rfl) rfl rfl ?_
  refine d_field [1] rfl rfl rfl rfl rfl (fun ν => rfl) rfl (fun ν => rfl) rfl rfl ?_
  refine d_load1 1 [2] rfl rfl rfl rfl rfl (fun ν => rfl) rfl rfl (fun ν => rfl) (fun ν => rfl) rfl ?_
  refine d_field [] rfl rfl rfl rfl rfl (fun ν => rfl) rfl (fun ν => rfl) rfl rfl ?_
  refine d_field [4] rfl rfl rfl rfl rfl (fun ν => rfl) rfl (fun ν => rfl) rfl rfl ?_
  refine d_field [5] rfl rfl rfl rfl rfl (fun ν => rfl) rfl (fun ν => rfl) rfl rfl ?_
  refine d_load1 2 [6] rfl rfl rfl rfl rfl (fun ν => rfl) rfl rfl (fun ν => rfl) (fun ν => rfl) rfl ?_
  refine d_mul [3, 7] rfl rfl rfl rfl rfl (fun ν => rfl) rfl (fun ν => rfl) (fun ν => rfl) (by omega) ?_
  refine d_callv [0, 8] rfl rfl rfl rfl rfl (fun ν => rfl) rfl (fun ν => rfl) (fun ν => rfl) c86 (fun ν => dividedUp_fn _ _ (by omega) (by omega) (by omega) (by omega)) (fun ν => covers_nil) ?_
  refine d_field [] rfl rfl rfl rfl rfl (fun ν => rfl) rfl (fun ν => rfl) rfl rfl ?_
  refine d_field [10] rfl rfl rfl rfl rfl (fun ν => rfl) rfl (fun ν => rfl) rfl rfl ?_
  refine d_load1 2 [11] rfl rfl rfl rfl rfl (fun ν => rfl) rfl rfl (fun ν => rfl) (fun ν => rfl) rfl ?_
  refine d_callv [9, 12] rfl rfl rfl rfl rfl (fun ν => rfl) rfl (fun ν => rfl) (fun ν => rfl) c85 (fun ν => span_fn _ _) (fun ν => covers_nil) ?_
  refine d_alloc [] rfl rfl rfl rfl rfl (fun ν => rfl) rfl rfl ?_
  refine dr_end [11, 12, 13, 14, 15, 16, 17, 18, 19, 20, 21, 22, 23, 24, 6] [13, 14] 15 rfl rfl rfl rfl rfl rfl rfl rfl rfl (fun ν => ?_)
  refine k_storeW 0 rfl rfl rfl rfl rfl rfl rfl rfl rfl rfl rfl rfl ?_
  try dsimp only [List.set_cons_zero, List.set_cons_succ, setL]
  refine okl_nil ?_
  change OkC Try.prog _ _ _ _ _ _ _
  refine okc_weak (l' := [(0, _), (1, _), (2, _), (3, _), (4, _), (5, _), (6, _)]) ⟨rfl, rfl, rfl, rfl, rfl, rfl, rfl, trivial⟩ ?_
  refine okc_seq ?_
  refine okc_seq ?_
  refine okc_region ?_
  refine s_field rfl rfl rfl rfl rfl rfl rfl rfl ?_
  refine s_field rfl rfl rfl rfl rfl rfl rfl rfl ?_
  refine s_load1 2 rfl rfl rfl rfl rfl rfl rfl rfl rfl ?_
  refine s_field rfl rfl rfl rfl rfl rfl rfl rfl ?_
  refine s_field rfl rfl rfl rfl rfl rfl rfl rfl ?_
  refine s_field rfl rfl rfl rfl rfl rfl rfl rfl ?_
  refine s_load1 3 rfl rfl rfl rfl rfl rfl rfl rfl rfl ?_
  refine s_mul rfl rfl rfl rfl rfl rfl rfl (by omega) ?_
  refine s_assign rfl rfl rfl rfl rfl rfl ?_
  refine okl_nil ?_
  change OkC Try.prog _ _ _ _ _ _ _
  refine okc_weak (l' := [(0, _), (1, _), (2, _), (3, _), (4, _), (5, _), (6, _), (7, _)]) ⟨rfl, rfl, rfl, rfl, rfl, rfl, rfl, rfl, trivial⟩ ?_
  refine okc_seq ?_
  refine okc_region ?_
  refine s_move rfl rfl rfl rfl rfl rfl ?_
  refine s_cmpS rfl rfl rfl rfl rfl rfl rfl rfl (fun h5 => ?_) (fun h5 => ?_)
  · have hpos : 0 < x.lo * s.slo := by simpa using h5
    refine okl_nil ?_
    change OkC Try.prog _ _ _ _ _ _ _
    refine okc_weak (l' := [(0, _), (1, _), (2, _), (3, _), (4, _), (5, _), (6, _), (7, _), (34, _)]) ⟨rfl, rfl, rfl, rfl, rfl, rfl, rfl, rfl, rfl, trivial⟩ ?_
    refine okc_cond_t rfl ?_
    refine dr_start [35, 36, 37, 38, 39, 40, 41] ?_
    refine d_field [] rfl rfl rfl rfl rfl (fun ν => rfl) rfl (fun ν => rfl) rfl rfl ?_
    refine d_load1 0 [0] rfl rfl rfl rfl rfl (fun ν => rfl) rfl rfl (fun ν => rfl) (fun ν => rfl) rfl ?_
    refine d_move [] rfl rfl rfl rfl rfl (fun ν => rfl) rfl (fun ν => rfl) ?_
    refine d_move [] rfl rfl rfl rfl rfl (fun ν => rfl) rfl (fun ν => rfl) ?_
    refine d_quo [2, 3] rfl rfl rfl rfl rfl (fun ν => rfl) rfl (fun ν => rfl) (fun ν => rfl) (by omega) ?_
    refine d_min [1, 4] rfl rfl rfl rfl rfl (fun ν => rfl) rfl (fun ν => rfl) (fun ν => rfl) ?_
    refine d_field [] rfl rfl rfl rfl rfl (fun ν => rfl) rfl (fun ν => rfl) rfl rfl ?_
    refine dr_end [35, 36, 37, 38, 39, 40, 41] [5, 6] 7 rfl rfl rfl rfl rfl rfl rfl rfl rfl (fun ν => ?_)
    refine k_store 0 rfl rfl rfl rfl rfl rfl rfl rfl rfl rfl rfl rfl ?_
    try dsimp only [List.set_cons_zero, List.set_cons_succ, setL]
    refine okl_nil ?_
    change OkC Try.prog _ _ _ _ _ _ _
    refine okc_weak (l' := [(0, _), (1, _), (2, _), (3, _), (4, _), (5, _), (6, _), (7, _), (34, _)]) ⟨rfl, rfl, rfl, rfl, rfl, rfl, rfl, rfl, rfl, trivial⟩ ?_
    refine okc_seq ?_
    refine okc_region ?_
    refine s_loadW 0 rfl rfl rfl rfl rfl rfl rfl rfl rfl rfl ?_
    refine k_storeW 1 rfl rfl rfl rfl rfl rfl rfl rfl rfl rfl rfl rfl ?_
    try dsimp only [List.set_cons_zero, List.set_cons_succ, setL]
    refine okl_nil ?_
    change OkC Try.prog _ _ _ _ _ _ _
    refine okc_weak (l' := [(0, _), (1, _), (2, _), (3, _), (4, _), (5, _), (6, _), (7, _), (34, _)]) ⟨rfl, rfl, rfl, rfl, rfl, rfl, rfl, rfl, rfl, trivial⟩ ?_
    refine okc_ret fun a w hs => ?_
    exact ret_v hs (run_results1 hs rfl (k_ragg 1 rfl rfl rfl rfl rfl)) (by clear hs; first | (simp only [toldB, if_pos hpos, upS]; done) | (simp only [toldB, if_neg hnp, upS]; done))
  · have hnp : ¬ 0 < x.lo * s.slo := by simpa using h5
    refine okl_nil ?_
    change OkC Try.prog _ _ _ _ _ _ _
    refine okc_weak (l' := [(0, _), (1, _), (2, _), (3, _), (4, _), (5, _), (6, _), (7, _), (34, _)]) ⟨rfl, rfl, rfl, rfl, rfl, rfl, rfl, rfl, rfl, trivial⟩ ?_
    refine okc_cond_f rfl ?_
    refine okc_skip ?_
    change OkC Try.prog _ _ _ _ _ _ _
    refine okc_weak (l' := [(0, _), (1, _), (2, _), (3, _), (4, _), (5, _), (6, _), (7, _), (34, _)]) ⟨rfl, rfl, rfl, rfl, rfl, rfl, rfl, rfl, rfl, trivial⟩ ?_
    refine okc_seq ?_
    refine okc_region ?_
    refine s_loadW 0 rfl rfl rfl rfl rfl rfl rfl rfl rfl rfl ?_
    refine k_storeW 1 rfl rfl rfl rfl rfl rfl rfl rfl rfl rfl rfl rfl ?_
    try dsimp only [List.set_cons_zero, List.set_cons_succ, setL]
    refine okl_nil ?_
    change OkC Try.prog _ _ _ _ _ _ _
    refine okc_weak (l' := [(0, _), (1, _), (2, _), (3, _), (4, _), (5, _), (6, _), (7, _), (34, _)]) ⟨rfl, rfl, rfl, rfl, rfl, rfl, rfl, rfl, rfl, trivial⟩ ?_
    refine okc_ret fun a w hs => ?_
    exact ret_v hs (run_results1 hs rfl (k_ragg 1 rfl rfl rfl rfl rfl)) (by clear hs; first | (simp only [toldB, if_pos hpos, upS]; done) | (simp only [toldB, if_neg hnp, upS]; done))

end Go.Proofs.Ytdpnadknaacinaa
end

section
namespace Go.Proofs.Ytdpnadknaacinaa
open Go.Sx Go.Proofs.Ytdpnadknaacinaa.Ty
set_option linter.unusedVariables false
set_option linter.unusedSimpArgs false
set_option maxHeartbeats 2000000


abbrev Bd := Nat → Int × Int
def bdC (f : Bd) : List Value := [.int .i64 (f 0).1, .int .i64 (f 0).2, .int .i64 (f 1).1, .int .i64 (f 1).2, .int .i64 (f 2).1, .int .i64 (f 2).2, .int .i64 (f 3).1, .int .i64 (f 3).2, .int .i64 (f 4).1, .int .i64 (f 4).2, .int .i64 (f 5).1, .int .i64 (f 5).2, .int .i64 (f 6).1, .int .i64 (f 6).2, .int .i64 (f 7).1, .int .i64 (f 7).2, .int .i64 (f 8).1, .int .i64 (f 8).2, .int .i64 (f 9).1, .int .i64 (f 9).2]
def leC (f : Bd) : List Value := [.int .i64 (f 0).1, .int .i64 (f 1).1, .int .i64 (f 2).1, .int .i64 (f 3).1, .int .i64 (f 4).1, .int .i64 (f 5).1, .int .i64 (f 6).1, .int .i64 (f 7).1, .int .i64 (f 8).1, .int .i64 (f 9).1, .int .i64 (f 0).2, .int .i64 (f 1).2, .int .i64 (f 2).2, .int .i64 (f 3).2, .int .i64 (f 4).2, .int .i64 (f 5).2, .int .i64 (f 6).2, .int .i64 (f 7).2, .int .i64 (f 8).2, .int .i64 (f 9).2]
abbrev bdV (f : Bd) : Value := .agg (bdC f).toArray
abbrev leV (f : Bd) : Value := .agg (leC f).toArray
def up (f : Bd) (k : Nat) (v : Int × Int) : Bd := fun j => if j = k then v else f j
def bz : Bd := fun _ => (0, 0)

theorem bd_lo (f : Bd) {k n : Nat} (hk : k < 10) (hn : n = k * 2) : (bdC f)[n]? = some (.int .i64 (f k).1) := by
  subst hn
  exact match k, hk with
  | 0, _ => rfl
  | 1, _ => rfl
  | 2, _ => rfl
  | 3, _ => rfl
  | 4, _ => rfl
  | 5, _ => rfl
  | 6, _ => rfl
  | 7, _ => rfl
  | 8, _ => rfl
  | 9, _ => rfl
  | k + 10, h => absurd h (by omega)
theorem bd_hi (f : Bd) {k n : Nat} (hk : k < 10) (hn : n = k * 2 + 1) : (bdC f)[n]? = some (.int .i64 (f k).2) := by
  subst hn
  exact match k, hk with
  | 0, _ => rfl
  | 1, _ => rfl
  | 2, _ => rfl
  | 3, _ => rfl
  | 4, _ => rfl
  | 5, _ => rfl
  | 6, _ => rfl
  | 7, _ => rfl
  | 8, _ => rfl
  | 9, _ => rfl
  | k + 10, h => absurd h (by omega)
theorem le_lo (f : Bd) {k n : Nat} (hk : k < 10) (hn : n = k) : (leC f)[n]? = some (.int .i64 (f k).1) := by
  subst hn
  exact match n, hk with
  | 0, _ => rfl
  | 1, _ => rfl
  | 2, _ => rfl
  | 3, _ => rfl
  | 4, _ => rfl
  | 5, _ => rfl
  | 6, _ => rfl
  | 7, _ => rfl
  | 8, _ => rfl
  | 9, _ => rfl
  | k + 10, h => absurd h (by omega)
theorem le_hi (f : Bd) {k n : Nat} (hk : k < 10) (hn : n = 10 + k) : (leC f)[n]? = some (.int .i64 (f k).2) := by
  subst hn
  exact match k, hk with
  | 0, _ => rfl
  | 1, _ => rfl
  | 2, _ => rfl
  | 3, _ => rfl
  | 4, _ => rfl
  | 5, _ => rfl
  | 6, _ => rfl
  | 7, _ => rfl
  | 8, _ => rfl
  | 9, _ => rfl
  | k + 10, h => absurd h (by omega)
theorem bd_set (f : Bd) {k n : Nat} (hk : k < 10) (hn : n = k * 2) (a b : Int) : setL (bdC f) n [.int .i64 a, .int .i64 b] = bdC (up f k (a, b)) := by
  subst hn
  exact match k, hk with
  | 0, _ => rfl
  | 1, _ => rfl
  | 2, _ => rfl
  | 3, _ => rfl
  | 4, _ => rfl
  | 5, _ => rfl
  | 6, _ => rfl
  | 7, _ => rfl
  | 8, _ => rfl
  | 9, _ => rfl
  | k + 10, h => absurd h (by omega)
theorem le_setlo (f : Bd) {k n : Nat} (hk : k < 10) (hn : n = k) (a : Int) : setL (leC f) n [.int .i64 a] = leC (up f k (a, (f k).2)) := by
  subst hn
  exact match n, hk with
  | 0, _ => rfl
  | 1, _ => rfl
  | 2, _ => rfl
  | 3, _ => rfl
  | 4, _ => rfl
  | 5, _ => rfl
  | 6, _ => rfl
  | 7, _ => rfl
  | 8, _ => rfl
  | 9, _ => rfl
  | k + 10, h => absurd h (by omega)
theorem le_sethi (f : Bd) {k n : Nat} (hk : k < 10) (hn : n = 10 + k) (b : Int) : setL (leC f) n [.int .i64 b] = leC (up f k ((f k).1, b)) := by
  subst hn
  exact match k, hk with
  | 0, _ => rfl
  | 1, _ => rfl
  | 2, _ => rfl
  | 3, _ => rfl
  | 4, _ => rfl
  | 5, _ => rfl
  | 6, _ => rfl
  | 7, _ => rfl
  | 8, _ => rfl
  | 9, _ => rfl
  | k + 10, h => absurd h (by omega)

def BdOk (f : Bd) : Prop := ∀ j, -1000000 ≤ (f j).1 ∧ (f j).1 ≤ 1000000 ∧ -1000000 ≤ (f j).2 ∧ (f j).2 ≤ 1000000
theorem BdOk.up {f : Bd} (h : BdOk f) (k : Nat) {a b : Int} (ha : -1000000 ≤ a ∧ a ≤ 1000000) (hb : -1000000 ≤ b ∧ b ≤ 1000000) : BdOk (up f k (a, b)) := by
  intro j
  unfold Ytdpnadknaacinaa.up
  split
  · exact ⟨ha.1, ha.2, hb.1, hb.2⟩
  · exact h j

def fwdN (fall : Int) : Nat → Bd → Bd
  | 0, f => f
  | k + 1, f => up (fwdN fall k f) (k + 1) (max (fwdN fall k f (k + 1)).1 ((fwdN fall k f k).1 - fall), min (fwdN fall k f (k + 1)).2 (fwdN fall k f k).2)
def bwdN (fall : Int) (n : Nat) : Nat → Bd → Bd
  | 0, f => f
  | j + 1, f => up (bwdN fall n j f) (n - 2 - j) (max (bwdN fall n j f (n - 2 - j)).1 (bwdN fall n j f (n - 2 - j + 1)).1, min (bwdN fall n j f (n - 2 - j)).2 ((bwdN fall n j f (n - 2 - j + 1)).2 + fall))
theorem fwd_ok {fall : Int} (h0 : 0 ≤ fall) (h1 : fall ≤ 100) {f : Bd} (h : BdOk f) : ∀ k, BdOk (fwdN fall k f)
  | 0 => h
  | k + 1 => by
    have ih := fwd_ok h0 h1 h k
    have a1 := ih k
    have a2 := ih (k + 1)
    exact ih.up _ (by omega) (by omega)
theorem bwd_ok {fall : Int} {n : Nat} (h0 : 0 ≤ fall) (h1 : fall ≤ 100) {f : Bd} (h : BdOk f) : ∀ k, BdOk (bwdN fall n k f)
  | 0 => h
  | k + 1 => by
    have ih := bwd_ok (n := n) h0 h1 h k
    have a1 := ih (n - 2 - k)
    have a2 := ih (n - 2 - k + 1)
    exact ih.up _ (by omega) (by omega)
def narS (s : Sp) (f : Bd) : Bd := bwdN s.fall s.weeks.toNat (s.weeks.toNat - 1) (fwdN s.fall (s.weeks.toNat - 1) f)
theorem nar_ok {s : Sp} (ho : Ok s) {f : Bd} (h : BdOk f) : BdOk (narS s f) := bwd_ok ho.f1 ho.f2 (fwd_ok ho.f1 ho.f2 h _) _

theorem narrow_fn (s : Sp) (f : Bd) (ho : Ok s) (hf : BdOk f) : Cn Try.prog 136 [spV s, bdV f] [] (fun _ : Unit => bdV (narS s f)) (fun _ => []) (fun _ => True) := by
  obtain ⟨w1, w2, m1, m2, f1, f2, a1, a2, a3, v1, v2, v3⟩ := ho
  refine fn_intro (N := 73) Try.func136 rfl rfl rfl fun w0 => ?_
  refine okc_seq ?_
  refine okc_region ?_
  refine s_boxA rfl rfl rfl rfl rfl rfl (fun b1 => ?_)
  refine s_boxA rfl rfl rfl rfl rfl rfl (fun b2 => ?_)
  refine s_alloc rfl rfl rfl rfl rfl rfl (fun b3 => ?_)
  refine okl_nil ?_
  change OkC Try.prog _ _ _ _ _ _ _
  refine okc_weak (l' := [(0, _), (1, _), (2, _), (3, _), (4, _)]) ⟨rfl, rfl, rfl, rfl, rfl, trivial⟩ ?_
  refine okc_seq ?_
  refine okc_seq ?_
  refine okc_region ?_
  refine s_field rfl rfl rfl rfl rfl rfl rfl rfl ?_
  refine s_field rfl rfl rfl rfl rfl rfl rfl rfl ?_
  refine s_load1 2 rfl rfl rfl rfl rfl rfl rfl rfl rfl ?_
  refine s_sub rfl rfl rfl rfl rfl rfl rfl (by omega) ?_
  refine s_move rfl rfl rfl rfl rfl rfl ?_
  refine okl_nil ?_
  change OkC Try.prog _ _ _ _ _ _ _
  refine okc_weak (l' := [(0, _), (1, _), (2, _), (3, _), (4, _), (11, _), (12, _)]) ⟨rfl, rfl, rfl, rfl, rfl, rfl, rfl, trivial⟩ ?_
  refine okc_block ?_
  refine okc_loop (γ := Nat) (fun k => [(2, .pointer (some ⟨b1, 0, none⟩)), (3, .pointer (some ⟨b2, 0, none⟩)), (4, .pointer (some ⟨b3, 0, none⟩)), (11, .int .i64 (s.weeks - 1)), (12, .int .i64 k)]) (fun k => [(b3, bdC bz, 167), (b2, bdC (fwdN s.fall k f), 167), (b1, [.int .i64 s.weeks, .int .i64 s.most, .int .i64 s.fall, .int .i64 s.slo, .int .i64 s.shi, .int .i64 s.wlo, .int .i64 s.whi, .slice s.bp s.book.length s.bc, .slice s.rp s.reads.length s.rc], 114)]) (fun k => (k : Int) ≤ s.weeks - 1) (fun k => (s.weeks - 1).toNat - k) 0 (by omega) (fun a w hs => hs.weak ⟨rfl, rfl, rfl, rfl, rfl, trivial⟩ [0, 1, 2] (by simp) rfl) ?_
  rintro k hk
  refine okc_seq ?_
  refine okc_region ?_
  refine s_cmpS rfl rfl rfl rfl rfl rfl rfl rfl (fun h4 => ?_) (fun h4 => ?_)
  · have hlt : (k : Int) < s.weeks - 1 := by simpa using h4
    have hF := fwd_ok f1 f2 hf k
    have q1 := hF k
    have q2 := hF (k + 1)
    have g1 := bd_lo (fwdN s.fall k f) (k := k + 1) (n := 0 + (k + 1) * 2) (by omega) (by omega)
    have g2 := bd_hi (fwdN s.fall k f) (k := k + 1) (n := 0 + (k + 1) * 2 + 1) (by omega) (by omega)
    have g3 := bd_lo (fwdN s.fall k f) (k := k) (n := 0 + k * 2 + 0) (by omega) (by omega)
    have g4 := bd_hi (fwdN s.fall k f) (k := k) (n := 0 + k * 2 + 1) (by omega) (by omega)
    refine okl_nil ?_
    change OkC Try.prog _ _ _ _ _ _ _
    refine okc_weak (l' := [(2, _), (3, _), (4, _), (11, _), (12, _), (13, _)]) ⟨rfl, rfl, rfl, rfl, rfl, rfl, trivial⟩ ?_
    refine okc_seq ?_
    refine okc_cond_t rfl ?_
    refine okc_skip ?_
    change OkC Try.prog _ _ _ _ _ _ _
    refine okc_weak (l' := [(2, _), (3, _), (4, _), (11, _), (12, _), (13, _)]) ⟨rfl, rfl, rfl, rfl, rfl, rfl, trivial⟩ ?_
    refine okc_seq ?_
    refine okc_block ?_
    refine okc_seq ?_
    refine okc_region ?_
    refine s_move rfl rfl rfl rfl rfl rfl ?_
    refine s_assign rfl rfl rfl rfl rfl rfl ?_
    refine okl_nil ?_
    change OkC Try.prog _ _ _ _ _ _ _
    refine okc_weak (l' := [(2, _), (3, _), (4, _), (5, _), (11, _), (12, _), (13, _)]) ⟨rfl, rfl, rfl, rfl, rfl, rfl, rfl, trivial⟩ ?_
    refine dr_start [15, 16, 17, 18, 19, 20, 21, 22, 23, 24, 25, 26, 27, 28, 29, 30, 31, 32, 33, 34, 35] ?_
    refine d_move [] rfl rfl rfl rfl rfl (fun ν => rfl) rfl (fun ν => rfl) ?_
    refine d_add [0] rfl rfl rfl rfl rfl (fun ν => rfl) rfl (fun ν => rfl) (fun ν => rfl) (by omega) ?_
    refine d_move [] rfl rfl rfl rfl rfl (fun ν => rfl) rfl (fun ν => rfl) ?_
    refine d_add [2] rfl rfl rfl rfl rfl (fun ν => rfl) rfl (fun ν => rfl) (fun ν => rfl) (by omega) ?_
    refine d_indexA (k + 1) [3] rfl rfl rfl rfl rfl (fun ν => rfl) rfl (fun ν => rfl) (fun ν => rfl) rfl rfl (by first | rfl | omega) (by omega) rfl ?_
    refine d_loadP2 1 [4] rfl rfl rfl rfl rfl (fun ν => rfl) rfl rfl (fun ν => rfl) (fun ν => rfl) rfl (by assumption) (by assumption) ?_
    refine d_move [] rfl rfl rfl rfl rfl (fun ν => rfl) rfl (fun ν => rfl) ?_
    refine d_indexA k [6] rfl rfl rfl rfl rfl (fun ν => rfl) rfl (fun ν => rfl) (fun ν => rfl) rfl rfl (by first | rfl | omega) (by omega) rfl ?_
    refine d_field [7] rfl rfl rfl rfl rfl (fun ν => rfl) rfl (fun ν => rfl) rfl rfl ?_
    refine d_load1 1 [8] rfl rfl rfl rfl rfl (fun ν => rfl) rfl rfl (fun ν => rfl) (fun ν => rfl) (by assumption) ?_
    refine d_field [] rfl rfl rfl rfl rfl (fun ν => rfl) rfl (fun ν => rfl) rfl rfl ?_
    refine d_field [10] rfl rfl rfl rfl rfl (fun ν => rfl) rfl (fun ν => rfl) rfl rfl ?_
    refine d_load1 2 [11] rfl rfl rfl rfl rfl (fun ν => rfl) rfl rfl (fun ν => rfl) (fun ν => rfl) rfl ?_
    refine d_sub [9, 12] rfl rfl rfl rfl rfl (fun ν => rfl) rfl (fun ν => rfl) (fun ν => rfl) (by omega) ?_
    refine d_move [] rfl rfl rfl rfl rfl (fun ν => rfl) rfl (fun ν => rfl) ?_
    refine d_indexA k [14] rfl rfl rfl rfl rfl (fun ν => rfl) rfl (fun ν => rfl) (fun ν => rfl) rfl rfl (by first | rfl | omega) (by omega) rfl ?_
    refine d_field [15] rfl rfl rfl rfl rfl (fun ν => rfl) rfl (fun ν => rfl) rfl rfl ?_
    refine d_load1 1 [16] rfl rfl rfl rfl rfl (fun ν => rfl) rfl rfl (fun ν => rfl) (fun ν => rfl) (by assumption) ?_
    refine d_callv [13, 17] rfl rfl rfl rfl rfl (fun ν => rfl) rfl (fun ν => rfl) (fun ν => rfl) c85 (fun ν => span_fn _ _) (fun ν => covers_nil) ?_
    refine d_callv [5, 18] rfl rfl rfl rfl rfl (fun ν => rfl) rfl (fun ν => rfl) (fun ν => rfl) c135 (fun ν => both_fn _ _ _ _) (fun ν => covers_nil) ?_
    refine d_indexA (k + 1) [1] rfl rfl rfl rfl rfl (fun ν => rfl) rfl (fun ν => rfl) (fun ν => rfl) rfl rfl (by first | rfl | omega) (by omega) rfl ?_
    refine dr_end [15, 16, 17, 18, 19, 20, 21, 22, 23, 24, 25, 26, 27, 28, 29, 30, 31, 32, 33, 34, 35] [19, 20] 21 rfl rfl rfl rfl rfl rfl rfl rfl rfl (fun nu5 => ?_)
    refine k_store 1 rfl rfl rfl rfl rfl rfl rfl rfl rfl rfl (Nat.ble_eq_true_of_le (by first | (show _ ≤ 20; omega) | (rw [length_setL]; show _ ≤ 20; omega))) rfl ?_
    refine okl_nil ?_
    change OkC Try.prog _ _ _ _ _ _ _
    refine okc_weak (l' := [(2, _), (3, _), (4, _), (5, _), (11, _), (12, _), (13, _)]) ⟨rfl, rfl, rfl, rfl, rfl, rfl, rfl, trivial⟩ ?_
    refine okc_region ?_
    refine s_add rfl rfl rfl rfl rfl rfl rfl (by omega) ?_
    refine s_move rfl rfl rfl rfl rfl rfl ?_
    refine okl_nil ?_
    refine fun a w hs => ⟨k + 1, by omega, by omega, ?_⟩
    rw [bd_set _ (k := k + 1) (by omega) (by omega)] at hs
    exact hs.weak ⟨rfl, rfl, rfl, rfl, rfl, trivial⟩ [0, 1, 2] (by simp) rfl
  · have hge : ¬ (k : Int) < s.weeks - 1 := by simpa using h4
    have hkw : k = s.weeks.toNat - 1 := by omega
    subst hkw
    refine okl_nil ?_
    change OkC Try.prog _ _ _ _ _ _ _
    refine okc_weak (l' := [(2, _), (3, _), (4, _), (11, _), (12, _), (13, _)]) ⟨rfl, rfl, rfl, rfl, rfl, rfl, trivial⟩ ?_
    refine okc_seq ?_
    refine okc_cond_f rfl ?_
    refine okc_exit ?_
    change OkC Try.prog _ _ _ _ _ _ _
    refine okc_weak (l' := [(2, _), (3, _), (4, _), (11, _), (12, _), (13, _)]) ⟨rfl, rfl, rfl, rfl, rfl, rfl, trivial⟩ ?_
    refine okc_seq ?_
    refine okc_seq ?_
    refine okc_region ?_
    refine s_field rfl rfl rfl rfl rfl rfl rfl rfl ?_
    refine s_field rfl rfl rfl rfl rfl rfl rfl rfl ?_
    refine s_load1 2 rfl rfl rfl rfl rfl rfl rfl rfl rfl ?_
    refine s_sub rfl rfl rfl rfl rfl rfl rfl (by omega) ?_
    refine s_move rfl rfl rfl rfl rfl rfl ?_
    refine okl_nil ?_
    change OkC Try.prog _ _ _ _ _ _ _
    refine okc_weak (l' := [(2, _), (3, _), (4, _), (11, _), (12, _), (13, _), (40, _), (41, _)]) ⟨rfl, rfl, rfl, rfl, rfl, rfl, rfl, rfl, trivial⟩ ?_
    refine okc_block ?_
    have hF2 := fwd_ok f1 f2 hf (s.weeks.toNat - 1)
    generalize hFe : fwdN s.fall (s.weeks.toNat - 1) f = F at hF2 ⊢
    refine okc_loop (γ := Nat) (fun k => [(2, .pointer (some ⟨b1, 0, none⟩)), (3, .pointer (some ⟨b2, 0, none⟩)), (4, .pointer (some ⟨b3, 0, none⟩)), (40, .int .i64 (s.weeks - 1)), (41, .int .i64 k)]) (fun k => [(b3, bdC bz, 167), (b2, bdC (bwdN s.fall s.weeks.toNat k F), 167), (b1, [.int .i64 s.weeks, .int .i64 s.most, .int .i64 s.fall, .int .i64 s.slo, .int .i64 s.shi, .int .i64 s.wlo, .int .i64 s.whi, .slice s.bp s.book.length s.bc, .slice s.rp s.reads.length s.rc], 114)]) (fun k => (k : Int) ≤ s.weeks - 1) (fun k => (s.weeks - 1).toNat - k) 0 (by omega) (fun a w hs => hs.weak ⟨rfl, rfl, rfl, rfl, rfl, trivial⟩ [0, 1, 2] (by simp) rfl) ?_
    rintro k hk
    refine okc_seq ?_
    refine okc_region ?_
    refine s_cmpS rfl rfl rfl rfl rfl rfl rfl rfl (fun h6 => ?_) (fun h6 => ?_)
    · have hlt : (k : Int) < s.weeks - 1 := by simpa using h6
      have hG := bwd_ok (n := s.weeks.toNat) f1 f2 hF2 k
      obtain ⟨m, hm⟩ : ∃ m, m = s.weeks.toNat - 2 - k := ⟨_, rfl⟩
      have q1 := hG m
      have q2 := hG (m + 1)
      have g1 := bd_lo (bwdN s.fall s.weeks.toNat k F) (k := m + 1) (n := 0 + (m + 1) * 2 + 0) (by omega) (by omega)
      have g2 := bd_hi (bwdN s.fall s.weeks.toNat k F) (k := m + 1) (n := 0 + (m + 1) * 2 + 1) (by omega) (by omega)
      have g3 := bd_lo (bwdN s.fall s.weeks.toNat k F) (k := m) (n := 0 + m * 2) (by omega) (by omega)
      have g4 := bd_hi (bwdN s.fall s.weeks.toNat k F) (k := m) (n := 0 + m * 2 + 1) (by omega) (by omega)
      refine okl_nil ?_
      change OkC Try.prog _ _ _ _ _ _ _
      refine okc_weak (l' := [(2, _), (3, _), (4, _), (40, _), (41, _), (42, _)]) ⟨rfl, rfl, rfl, rfl, rfl, rfl, trivial⟩ ?_
      refine okc_seq ?_
      refine okc_cond_t rfl ?_
      refine okc_skip ?_
      change OkC Try.prog _ _ _ _ _ _ _
      refine okc_weak (l' := [(2, _), (3, _), (4, _), (40, _), (41, _), (42, _)]) ⟨rfl, rfl, rfl, rfl, rfl, rfl, trivial⟩ ?_
      refine okc_seq ?_
      refine okc_block ?_
      refine okc_seq ?_
      refine okc_region ?_
      refine s_move rfl rfl rfl rfl rfl rfl ?_
      refine s_assign rfl rfl rfl rfl rfl rfl ?_
      refine okl_nil ?_
      change OkC Try.prog _ _ _ _ _ _ _
      refine okc_weak (l' := [(2, _), (3, _), (4, _), (6, _), (40, _), (41, _), (42, _)]) ⟨rfl, rfl, rfl, rfl, rfl, rfl, rfl, trivial⟩ ?_
      refine okc_seq ?_
      refine okc_region ?_
      refine s_field rfl rfl rfl rfl rfl rfl rfl rfl ?_
      refine s_field rfl rfl rfl rfl rfl rfl rfl rfl ?_
      refine s_load1 2 rfl rfl rfl rfl rfl rfl rfl rfl rfl ?_
      refine s_sub rfl rfl rfl rfl rfl rfl rfl (by omega) ?_
      refine s_move rfl rfl rfl rfl rfl rfl ?_
      refine s_sub rfl rfl rfl rfl rfl rfl rfl (by omega) ?_
      refine s_assign rfl rfl rfl rfl rfl rfl ?_
      refine okl_nil ?_
      change OkC Try.prog _ _ _ _ _ _ _
      refine okc_weak (l' := [(2, _), (3, _), (4, _), (6, _), (7, _), (40, _), (41, _), (42, _)]) ⟨rfl, rfl, rfl, rfl, rfl, rfl, rfl, rfl, trivial⟩ ?_
      refine dr_start [50, 51, 52, 53, 54, 55, 56, 57, 58, 59, 60, 61, 62, 63, 64, 65, 66, 67, 68, 69, 70] ?_
      refine d_move [] rfl rfl rfl rfl rfl (fun ν => rfl) rfl (fun ν => rfl) ?_
      refine d_sub [0] rfl rfl rfl rfl rfl (fun ν => rfl) rfl (fun ν => rfl) (fun ν => rfl) (by omega) ?_
      refine d_move [] rfl rfl rfl rfl rfl (fun ν => rfl) rfl (fun ν => rfl) ?_
      refine d_sub [2] rfl rfl rfl rfl rfl (fun ν => rfl) rfl (fun ν => rfl) (fun ν => rfl) (by omega) ?_
      refine d_indexA m [3] rfl rfl rfl rfl rfl (fun ν => rfl) rfl (fun ν => rfl) (fun ν => rfl) rfl rfl (by first | rfl | omega) (by omega) rfl ?_
      refine d_loadP2 1 [4] rfl rfl rfl rfl rfl (fun ν => rfl) rfl rfl (fun ν => rfl) (fun ν => rfl) rfl (by assumption) (by assumption) ?_
      refine d_move [] rfl rfl rfl rfl rfl (fun ν => rfl) rfl (fun ν => rfl) ?_
      refine d_indexA (m + 1) [6] rfl rfl rfl rfl rfl (fun ν => rfl) rfl (fun ν => rfl) (fun ν => rfl) rfl rfl (by first | rfl | omega) (by omega) rfl ?_
      refine d_field [7] rfl rfl rfl rfl rfl (fun ν => rfl) rfl (fun ν => rfl) rfl rfl ?_
      refine d_load1 1 [8] rfl rfl rfl rfl rfl (fun ν => rfl) rfl rfl (fun ν => rfl) (fun ν => rfl) (by assumption) ?_
      refine d_move [] rfl rfl rfl rfl rfl (fun ν => rfl) rfl (fun ν => rfl) ?_
      refine d_indexA (m + 1) [10] rfl rfl rfl rfl rfl (fun ν => rfl) rfl (fun ν => rfl) (fun ν => rfl) rfl rfl (by first | rfl | omega) (by omega) rfl ?_
      refine d_field [11] rfl rfl rfl rfl rfl (fun ν => rfl) rfl (fun ν => rfl) rfl rfl ?_
      refine d_load1 1 [12] rfl rfl rfl rfl rfl (fun ν => rfl) rfl rfl (fun ν => rfl) (fun ν => rfl) (by assumption) ?_
      refine d_field [] rfl rfl rfl rfl rfl (fun ν => rfl) rfl (fun ν => rfl) rfl rfl ?_
      refine d_field [14] rfl rfl rfl rfl rfl (fun ν => rfl) rfl (fun ν => rfl) rfl rfl ?_
      refine d_load1 2 [15] rfl rfl rfl rfl rfl (fun ν => rfl) rfl rfl (fun ν => rfl) (fun ν => rfl) rfl ?_
      refine d_add [13, 16] rfl rfl rfl rfl rfl (fun ν => rfl) rfl (fun ν => rfl) (fun ν => rfl) (by omega) ?_
      refine d_callv [9, 17] rfl rfl rfl rfl rfl (fun ν => rfl) rfl (fun ν => rfl) (fun ν => rfl) c85 (fun ν => span_fn _ _) (fun ν => covers_nil) ?_
      refine d_callv [5, 18] rfl rfl rfl rfl rfl (fun ν => rfl) rfl (fun ν => rfl) (fun ν => rfl) c135 (fun ν => both_fn _ _ _ _) (fun ν => covers_nil) ?_
      refine d_indexA m [1] rfl rfl rfl rfl rfl (fun ν => rfl) rfl (fun ν => rfl) (fun ν => rfl) rfl rfl (by first | rfl | omega) (by omega) rfl ?_
      refine dr_end [50, 51, 52, 53, 54, 55, 56, 57, 58, 59, 60, 61, 62, 63, 64, 65, 66, 67, 68, 69, 70] [19, 20] 21 rfl rfl rfl rfl rfl rfl rfl rfl rfl (fun nu7 => ?_)
      refine k_store 1 rfl rfl rfl rfl rfl rfl rfl rfl rfl rfl (Nat.ble_eq_true_of_le (by first | (show _ ≤ 20; omega) | (rw [length_setL]; show _ ≤ 20; omega))) rfl ?_
      refine okl_nil ?_
      change OkC Try.prog _ _ _ _ _ _ _
      refine okc_weak (l' := [(2, _), (3, _), (4, _), (6, _), (7, _), (40, _), (41, _), (42, _)]) ⟨rfl, rfl, rfl, rfl, rfl, rfl, rfl, rfl, trivial⟩ ?_
      refine okc_region ?_
      refine s_add rfl rfl rfl rfl rfl rfl rfl (by omega) ?_
      refine s_move rfl rfl rfl rfl rfl rfl ?_
      refine okl_nil ?_
      refine fun a w hs => ⟨k + 1, by omega, by omega, ?_⟩
      rw [bd_set _ (k := m) (by omega) (by omega)] at hs
      refine hs.weak ⟨rfl, rfl, rfl, rfl, rfl, trivial⟩ [0, 1, 2] (by simp) ?_
      subst hm; rfl
    · have hge : ¬ (k : Int) < s.weeks - 1 := by simpa using h6
      have hkw : k = s.weeks.toNat - 1 := by omega
      refine okl_nil ?_
      change OkC Try.prog _ _ _ _ _ _ _
      refine okc_weak (l' := [(2, _), (3, _), (4, _), (40, _), (41, _), (42, _)]) ⟨rfl, rfl, rfl, rfl, rfl, rfl, trivial⟩ ?_
      refine okc_seq ?_
      refine okc_cond_f rfl ?_
      refine okc_exit ?_
      change OkC Try.prog _ _ _ _ _ _ _
      refine okc_weak (l' := [(2, _), (3, _), (4, _), (40, _), (41, _), (42, _)]) ⟨rfl, rfl, rfl, rfl, rfl, rfl, trivial⟩ ?_
      refine okc_seq ?_
      refine okc_region ?_
      refine s_loadW 1 rfl rfl rfl rfl rfl rfl rfl rfl rfl (by first | rfl | assumption) ?_
      refine k_storeW 0 rfl rfl rfl rfl rfl rfl rfl rfl rfl rfl rfl rfl ?_
      refine okl_nil ?_
      change OkC Try.prog _ _ _ _ _ _ _
      refine okc_weak (l' := [(2, _), (3, _), (4, _), (40, _), (41, _), (42, _)]) ⟨rfl, rfl, rfl, rfl, rfl, rfl, trivial⟩ ?_
      refine okc_ret fun a w hs => ?_
      exact ret_v hs (run_results1 hs rfl (k_ragg 0 rfl rfl rfl rfl rfl)) (by clear hs; subst hkw; subst hFe; rfl)

end Go.Proofs.Ytdpnadknaacinaa
end

section
namespace Go.Proofs.Ytdpnadknaacinaa
open Go.Sx Go.Proofs.Ytdpnadknaacinaa.Ty
set_option linter.unusedVariables false
set_option maxHeartbeats 2000000


structure OkLn (s : Sp) (x : Ln) : Prop where
  r1 : 0 ≤ x.rlo
  r2 : x.rlo ≤ x.rhi
  r3 : x.rhi ≤ 20
  w1 : 0 ≤ x.week
  w2 : x.week ≤ s.weeks - 1
  g1 : 0 ≤ x.glo
  g2 : x.glo ≤ x.ghi
  g3 : x.ghi ≤ 100
structure OkS (s : Sp) : Prop where
  ok : Ok s
  book : ∀ x ∈ s.book, OkLn s x
  reads : ∀ x ∈ s.reads, OkR s x
  nb : s.book.length ≤ 8
  nr : s.reads.length ≤ 12
theorem rds_ok {s : Sp} : ∀ (L : List Rd) (bef : Int), rdsB s.weeks bef L = true → ∀ x ∈ L, OkR s x
  | [], _, _, x, hx => by cases hx
  | y :: L, bef, h, x, hx => by
    simp only [rdsB, Bool.and_eq_true] at h
    rcases List.mem_cons.1 hx with e | hx
    · subst e
      have h2 := h.1.2
      simp only [readB, isWeekB, isSpanB, inS, Bool.and_eq_true, decide_eq_true_eq] at h2
      constructor <;> omega
    · exact rds_ok L _ h.2 x hx
theorem ok_of_valid {s : Sp} (h : validB s = true) : OkS s := by
  simp only [validB, Bool.and_eq_true, frameB, isSpanB, inS, bookB, readsB, decide_eq_true_eq, List.all_eq_true, lineB, isWeekB] at h
  obtain ⟨⟨hf, hb⟩, hr⟩ := h
  refine ⟨?_, ?_, rds_ok _ _ hr.2, hb.1, hr.1⟩
  · constructor <;> omega
  · intro x hx
    have := hb.2 x hx
    constructor <;> omega

def iniN (most : Int) : Nat → Bd
  | 0 => bz
  | k + 1 => up (iniN most k) k (0, most)
def addL (rain : Int) (f : Bd) (x : Ln) : Bd := if inS x.rlo x.rhi rain then up f x.week.toNat (max (f x.week.toNat).1 x.glo, min (f x.week.toNat).2 x.ghi) else f
def addR (s : Sp) (f : Bd) (x : Rd) : Bd := up f x.week.toNat (max (f x.week.toNat).1 (toldB s x).1, min (f x.week.toNat).2 (toldB s x).2)
def preS (s : Sp) (rain : Int) : Bd := s.reads.foldl (addR s) (s.book.foldl (addL rain) (iniN s.most s.weeks.toNat))
def leavesS (s : Sp) (rain : Int) : Bd := narS s (preS s rain)

theorem ini_ok {most : Int} (h0 : 0 ≤ most) (h1 : most ≤ 100) : ∀ k, BdOk (iniN most k)
  | 0 => fun j => by simp [iniN, bz]
  | k + 1 => (ini_ok h0 h1 k).up _ (by omega) (by omega)
theorem told_bd {s : Sp} {x : Rd} (ho : Ok s) (hx : OkR s x) : 1 ≤ (toldB s x).1 ∧ (toldB s x).1 ≤ 1000000 ∧ 0 ≤ (toldB s x).2 ∧ (toldB s x).2 ≤ 100 := by
  obtain ⟨w1, w2, m1, m2, f1, f2, a1, a2, a3, v1, v2, v3⟩ := ho
  obtain ⟨n1, n2, k1, k2, b1, b2, l1, l2, l3, l4⟩ := hx
  have hp1 := mul_bd (a := x.hi) (b := s.shi) (by omega) l3 (by omega) a3
  have hp2 := mul_pos' (a := x.hi) (b := s.shi) (by omega) (by omega)
  have e1 : 1 ≤ upS (3600 * x.bucket) (x.hi * s.shi) := by
    unfold upS
    have : x.hi * s.shi / (x.hi * s.shi) ≤ (3600 * x.bucket + x.hi * s.shi - 1) / (x.hi * s.shi) := Int.ediv_le_ediv (by omega) (by omega)
    rw [Int.ediv_self (by omega)] at this
    exact this
  have e2 : upS (3600 * x.bucket) (x.hi * s.shi) ≤ 3600 * x.bucket + x.hi * s.shi - 1 := Int.ediv_le_self _ (by omega)
  refine ⟨e1, by show upS _ _ ≤ _; omega, ?_, ?_⟩
  · simp only [toldB]
    split
    · rename_i hp
      have := Int.ediv_nonneg (a := 3600 * x.bucket) (b := x.lo * s.slo) (by omega) (by omega)
      omega
    · omega
  · simp only [toldB]
    split <;> omega
theorem addL_ok {s : Sp} {rain : Int} {f : Bd} (h : BdOk f) {x : Ln} (hx : OkLn s x) : BdOk (addL rain f x) := by
  unfold addL
  split
  · have := h x.week.toNat
    obtain ⟨_, _, _, _, _, _, _, _⟩ := hx
    exact h.up _ (by omega) (by omega)
  · exact h
theorem addR_ok {s : Sp} {f : Bd} (ho : Ok s) (h : BdOk f) {x : Rd} (hx : OkR s x) : BdOk (addR s f x) := by
  have := h x.week.toNat
  have := told_bd ho hx
  exact h.up _ (by omega) (by omega)
theorem fold_ok {α : Type} {step : Bd → α → Bd} {L : List α} (hs : ∀ f x, x ∈ L → BdOk f → BdOk (step f x)) {f : Bd} (h : BdOk f) : BdOk (L.foldl step f) := by
  induction L generalizing f with
  | nil => exact h
  | cons y L ih => exact ih (fun f x hx => hs f x (List.mem_cons_of_mem _ hx)) (hs f y (by simp) h)
theorem fold_take {α : Type} (step : Bd → α → Bd) {L : List α} {k : Nat} {x : α} (h : L[k]? = some x) (f : Bd) : (L.take (k + 1)).foldl step f = step ((L.take k).foldl step f) x := by
  rw [List.take_add_one, h]; simp
theorem lns_ok {s : Sp} (hs : OkS s) (rain : Int) (k : Nat) : BdOk ((s.book.take k).foldl (addL rain) (iniN s.most s.weeks.toNat)) :=
  fold_ok (fun f x hx h => addL_ok h (hs.book x (List.mem_of_mem_take hx))) (ini_ok hs.ok.m1 hs.ok.m2 _)
theorem pre_ok' {s : Sp} (hs : OkS s) (rain : Int) (k : Nat) : BdOk ((s.reads.take k).foldl (addR s) (s.book.foldl (addL rain) (iniN s.most s.weeks.toNat))) := by
  refine fold_ok (fun f x hx h => addR_ok hs.ok h (hs.reads x (List.mem_of_mem_take hx))) ?_
  have := lns_ok hs rain s.book.length
  rwa [List.take_length] at this

theorem leaves_fn (s : Sp) (rain : Int) (M : Args) (hin : s.In M) (hs0 : OkS s) : Cn Try.prog 111 [spV s, .int .i64 rain] M (fun _ : Unit => bdV (leavesS s rain)) (fun _ => []) (fun _ => True) := by
  have ho := hs0.ok
  have ho2 := ho
  obtain ⟨w1, w2, m1, m2, f1, f2, a1, a2, a3, v1, v2, v3⟩ := ho2
  obtain ⟨bB, oB, cB, jB, hB⟩ := hin.book
  have hbn := hin.bn
  obtain ⟨bR, oR, cR, jR, hR⟩ := hin.reads
  have hrn := hin.rn
  refine fn_intro (N := 71) Try.func111 rfl rfl rfl fun w0 => ?_
  refine okc_seq ?_
  refine okc_region ?_
  refine s_boxA rfl rfl rfl rfl rfl rfl (fun b1 => ?_)
  refine s_alloc rfl rfl rfl rfl rfl rfl (fun b2 => ?_)
  refine okl_nil ?_
  change OkC Try.prog _ _ _ _ _ _ _
  refine okc_weak (l' := [(0, _), (1, _), (2, _), (4, _)]) ⟨rfl, rfl, rfl, rfl, trivial⟩ ?_
  refine okc_seq ?_
  refine okc_region ?_
  refine s_alloc rfl rfl rfl rfl rfl rfl (fun b3 => ?_)
  refine okl_nil ?_
  change OkC Try.prog _ _ _ _ _ _ _
  refine okc_weak (l' := [(0, _), (1, _), (2, _), (4, _), (5, _)]) ⟨rfl, rfl, rfl, rfl, rfl, trivial⟩ ?_
  refine okc_seq ?_
  refine okc_seq ?_
  refine okc_region ?_
  refine s_field rfl rfl rfl rfl rfl rfl rfl rfl ?_
  refine s_field rfl rfl rfl rfl rfl rfl rfl rfl ?_
  refine s_load1 2 rfl rfl rfl rfl rfl rfl rfl rfl rfl ?_
  refine s_move rfl rfl rfl rfl rfl rfl ?_
  refine okl_nil ?_
  change OkC Try.prog _ _ _ _ _ _ _
  refine okc_weak (l' := [(0, _), (1, _), (2, _), (4, _), (5, _), (13, _), (14, _)]) ⟨rfl, rfl, rfl, rfl, rfl, rfl, rfl, trivial⟩ ?_
  refine okc_block ?_
  refine okc_loop (γ := Nat) (fun k => [(1, .int .i64 rain), (2, .pointer (some ⟨b1, 0, none⟩)), (4, .pointer (some ⟨b2, 0, none⟩)), (5, .pointer (some ⟨b3, 0, none⟩)), (13, .int .i64 s.weeks), (14, .int .i64 k)]) (fun k => [(b3, bdC (iniN s.most k), 167), (b2, bdC bz, 167), (b1, [.int .i64 s.weeks, .int .i64 s.most, .int .i64 s.fall, .int .i64 s.slo, .int .i64 s.shi, .int .i64 s.wlo, .int .i64 s.whi, .slice s.bp s.book.length s.bc, .slice s.rp s.reads.length s.rc], 114)]) (fun k => (k : Int) ≤ s.weeks) (fun k => s.weeks.toNat - k) 0 (by omega) (fun a w hs => hs.weak ⟨rfl, rfl, rfl, rfl, rfl, rfl, trivial⟩ [0, 1, 2] (by simp) (by rfl)) ?_
  rintro k hk
  refine okc_seq ?_
  refine okc_region ?_
  refine s_cmpS rfl rfl rfl rfl rfl rfl rfl rfl (fun h4 => ?_) (fun h4 => ?_)
  · have hlt : (k : Int) < s.weeks := by simpa using h4
    refine okl_nil ?_
    change OkC Try.prog _ _ _ _ _ _ _
    refine okc_weak (l' := [(1, _), (2, _), (4, _), (5, _), (13, _), (14, _), (15, _)]) ⟨rfl, rfl, rfl, rfl, rfl, rfl, rfl, trivial⟩ ?_
    refine okc_seq ?_
    refine okc_cond_t rfl ?_
    refine okc_skip ?_
    change OkC Try.prog _ _ _ _ _ _ _
    refine okc_weak (l' := [(1, _), (2, _), (4, _), (5, _), (13, _), (14, _), (15, _)]) ⟨rfl, rfl, rfl, rfl, rfl, rfl, rfl, trivial⟩ ?_
    refine okc_seq ?_
    refine okc_block ?_
    refine okc_seq ?_
    refine okc_region ?_
    refine s_move rfl rfl rfl rfl rfl rfl ?_
    refine s_assign rfl rfl rfl rfl rfl rfl ?_
    refine okl_nil ?_
    change OkC Try.prog _ _ _ _ _ _ _
    refine okc_weak (l' := [(1, _), (2, _), (4, _), (5, _), (6, _), (13, _), (14, _), (15, _)]) ⟨rfl, rfl, rfl, rfl, rfl, rfl, rfl, rfl, trivial⟩ ?_
    refine okc_region ?_
    refine s_move rfl rfl rfl rfl rfl rfl ?_
    refine s_field rfl rfl rfl rfl rfl rfl rfl rfl ?_
    refine s_field rfl rfl rfl rfl rfl rfl rfl rfl ?_
    refine s_load1 2 rfl rfl rfl rfl rfl rfl rfl rfl rfl ?_
    refine s_callv rfl rfl rfl rfl rfl rfl rfl c85 (span_fn _ _) covers_nil ?_
    refine s_indexA k rfl rfl rfl rfl rfl rfl rfl rfl rfl (by first | rfl | omega) (by omega) rfl ?_
    refine k_store 0 rfl rfl rfl rfl rfl rfl rfl rfl rfl rfl (Nat.ble_eq_true_of_le (by show _ ≤ 20; omega)) rfl ?_
    refine okl_nil ?_
    change OkC Try.prog _ _ _ _ _ _ _
    refine okc_weak (l' := [(1, _), (2, _), (4, _), (5, _), (6, _), (13, _), (14, _), (15, _)]) ⟨rfl, rfl, rfl, rfl, rfl, rfl, rfl, rfl, trivial⟩ ?_
    refine okc_region ?_
    refine s_add rfl rfl rfl rfl rfl rfl rfl (by omega) ?_
    refine s_move rfl rfl rfl rfl rfl rfl ?_
    refine okl_nil ?_
    refine fun a w hs => ⟨k + 1, by omega, by omega, ?_⟩
    rw [bd_set _ (k := k) (by omega) (by omega)] at hs
    refine hs.weak ⟨rfl, rfl, rfl, rfl, rfl, rfl, trivial⟩ [0, 1, 2] (by simp) ?_
    rfl
  · have hge : ¬ (k : Int) < s.weeks := by simpa using h4
    have hkw : k = s.weeks.toNat := by omega
    subst hkw
    refine okl_nil ?_
    change OkC Try.prog _ _ _ _ _ _ _
    refine okc_weak (l' := [(1, _), (2, _), (4, _), (5, _), (13, _), (14, _), (15, _)]) ⟨rfl, rfl, rfl, rfl, rfl, rfl, rfl, trivial⟩ ?_
    refine okc_seq ?_
    refine okc_cond_f rfl ?_
    refine okc_exit ?_
    change OkC Try.prog _ _ _ _ _ _ _
    refine okc_weak (l' := [(1, _), (2, _), (4, _), (5, _), (13, _), (14, _), (15, _)]) ⟨rfl, rfl, rfl, rfl, rfl, rfl, rfl, trivial⟩ ?_
    refine okc_seq ?_
    refine okc_seq ?_
    refine okc_region ?_
    refine s_field rfl rfl rfl rfl rfl rfl rfl rfl ?_
    refine s_field rfl rfl rfl rfl rfl rfl rfl rfl ?_
    refine s_load1 2 rfl rfl rfl rfl rfl rfl rfl rfl rfl ?_
    refine s_len rfl rfl rfl rfl rfl rfl rfl ?_
    refine s_move rfl rfl rfl rfl rfl rfl ?_
    refine okl_nil ?_
    change OkC Try.prog _ _ _ _ _ _ _
    refine okc_weak (l' := [(1, _), (2, _), (4, _), (5, _), (13, _), (14, _), (15, _), (26, _), (27, _), (28, _)]) ⟨rfl, rfl, rfl, rfl, rfl, rfl, rfl, rfl, rfl, rfl, trivial⟩ ?_
    refine okc_block ?_
    refine okc_loop (γ := Nat) (fun k => [(1, .int .i64 rain), (2, .pointer (some ⟨b1, 0, none⟩)), (4, .pointer (some ⟨b2, 0, none⟩)), (5, .pointer (some ⟨b3, 0, none⟩)), (26, .slice s.bp s.book.length s.bc), (27, .int .i64 s.book.length), (28, .int .i64 k)]) (fun k => [(b3, bdC ((s.book.take k).foldl (addL rain) (iniN s.most s.weeks.toNat)), 167), (b2, bdC bz, 167), (b1, [.int .i64 s.weeks, .int .i64 s.most, .int .i64 s.fall, .int .i64 s.slo, .int .i64 s.shi, .int .i64 s.wlo, .int .i64 s.whi, .slice s.bp s.book.length s.bc, .slice s.rp s.reads.length s.rc], 114)]) (fun k => k ≤ s.book.length) (fun k => s.book.length - k) 0 (by omega) (fun a w hs => hs.weak ⟨rfl, rfl, rfl, rfl, rfl, rfl, rfl, trivial⟩ [0, 1, 2] (by simp) (by rfl)) ?_
    rintro k hk
    refine okc_seq ?_
    refine okc_region ?_
    refine s_cmpS rfl rfl rfl rfl rfl rfl rfl rfl (fun h5 => ?_) (fun h5 => ?_)
    · have hlt : k < s.book.length := by simpa using h5
      obtain ⟨x, hx⟩ : ∃ x, s.book[k]? = some x := ⟨s.book[k], by simp [hlt]⟩
      obtain ⟨hpB, hjB, hatB⟩ := hB (by intro e; simp [e] at hlt)
      have hcell := hatB k x hx
      have hxo := hs0.book x (List.mem_of_getElem? hx)
      obtain ⟨r1, r2, r3, k1, k2, y1, y2, y3⟩ := hxo
      obtain ⟨m, hm⟩ : ∃ m : Nat, x.week = m := ⟨x.week.toNat, by omega⟩
      have hF := lns_ok hs0 rain k
      have g1 := bd_lo ((s.book.take k).foldl (addL rain) (iniN s.most s.weeks.toNat)) (k := m) (n := 0 + m * 2) (by omega) (by omega)
      have g2 := bd_hi ((s.book.take k).foldl (addL rain) (iniN s.most s.weeks.toNat)) (k := m) (n := 0 + m * 2 + 1) (by omega) (by omega)
      refine okl_nil ?_
      change OkC Try.prog _ _ _ _ _ _ _
      refine okc_weak (l' := [(1, _), (2, _), (4, _), (5, _), (26, _), (27, _), (28, _), (29, _)]) ⟨rfl, rfl, rfl, rfl, rfl, rfl, rfl, rfl, trivial⟩ ?_
      refine okc_seq ?_
      refine okc_cond_t rfl ?_
      refine okc_skip ?_
      change OkC Try.prog _ _ _ _ _ _ _
      refine okc_weak (l' := [(1, _), (2, _), (4, _), (5, _), (26, _), (27, _), (28, _), (29, _)]) ⟨rfl, rfl, rfl, rfl, rfl, rfl, rfl, rfl, trivial⟩ ?_
      refine okc_seq ?_
      refine okc_block ?_
      refine okc_seq ?_
      refine okc_region ?_
      refine s_indexP k hpB rfl rfl rfl rfl rfl rfl rfl rfl rfl rfl (by omega) rfl ?_
      refine s_loadAP jB rfl rfl rfl rfl rfl rfl rfl hjB rfl (by assumption) rfl ?_
      refine s_alloc rfl rfl rfl rfl rfl rfl (fun b6 => ?_)
      refine k_storeW 0 rfl rfl rfl rfl rfl rfl rfl rfl rfl rfl rfl rfl ?_
      refine okl_nil ?_
      change OkC Try.prog _ _ _ _ _ _ _
      refine okc_weak (l' := [(1, _), (2, _), (4, _), (5, _), (8, _), (26, _), (27, _), (28, _), (29, _)]) ⟨rfl, rfl, rfl, rfl, rfl, rfl, rfl, rfl, rfl, trivial⟩ ?_
      refine okc_seq ?_
      refine okc_region ?_
      refine s_field rfl rfl rfl rfl rfl rfl rfl rfl ?_
      refine s_loadP2 0 rfl rfl rfl rfl rfl rfl rfl rfl rfl rfl rfl ?_
      refine s_move rfl rfl rfl rfl rfl rfl ?_
      refine s_slice1 rfl rfl rfl rfl rfl rfl rfl rfl rfl rfl (fun b7 => ?_)
      refine s_callb rfl rfl rfl rfl rfl rfl rfl c131 (within_fn _ _ [_] _ 1 (by simp)) (covers_own 0 rfl covers_nil) (fun h8 => ?_) (fun h8 => ?_)
      · have hin2 : inS x.rlo x.rhi rain = true := by simpa using h8
        refine okl_nil ?_
        change OkC Try.prog _ _ _ _ _ _ _
        refine okc_weak (l' := [(1, _), (2, _), (4, _), (5, _), (8, _), (26, _), (27, _), (28, _), (29, _), (36, _)]) ⟨rfl, rfl, rfl, rfl, rfl, rfl, rfl, rfl, rfl, rfl, trivial⟩ ?_
        refine okc_cond_t rfl ?_
        refine dr_start [37, 38, 39, 40, 41, 42, 43, 44, 45, 46] ?_
        refine d_field [] rfl rfl rfl rfl rfl (fun ν => rfl) rfl (fun ν => rfl) rfl rfl ?_
        refine d_load1 1 [0] rfl rfl rfl rfl rfl (fun ν => rfl) rfl rfl (fun ν => rfl) (fun ν => rfl) rfl ?_
        refine d_field [] rfl rfl rfl rfl rfl (fun ν => rfl) rfl (fun ν => rfl) rfl rfl ?_
        refine d_load1 1 [2] rfl rfl rfl rfl rfl (fun ν => rfl) rfl rfl (fun ν => rfl) (fun ν => rfl) rfl ?_
        refine d_indexA m [3] rfl rfl rfl rfl rfl (fun ν => rfl) rfl (fun ν => rfl) (fun ν => rfl) rfl rfl (by first | rfl | omega) (by omega) rfl ?_
        refine d_loadP2 2 [4] rfl rfl rfl rfl rfl (fun ν => rfl) rfl rfl (fun ν => rfl) (fun ν => rfl) rfl (by assumption) (by assumption) ?_
        refine d_field [] rfl rfl rfl rfl rfl (fun ν => rfl) rfl (fun ν => rfl) rfl rfl ?_
        refine d_loadP2 1 [6] rfl rfl rfl rfl rfl (fun ν => rfl) rfl rfl (fun ν => rfl) (fun ν => rfl) rfl rfl rfl ?_
        refine d_callv [5, 7] rfl rfl rfl rfl rfl (fun ν => rfl) rfl (fun ν => rfl) (fun ν => rfl) c135 (fun ν => both_fn _ _ _ _) (fun ν => covers_nil) ?_
        refine d_indexA m [1] rfl rfl rfl rfl rfl (fun ν => rfl) rfl (fun ν => rfl) (fun ν => rfl) rfl rfl (by first | rfl | omega) (by omega) rfl ?_
        refine dr_end [37, 38, 39, 40, 41, 42, 43, 44, 45, 46] [8, 9] 10 rfl rfl rfl rfl rfl rfl rfl rfl rfl (fun ν => ?_)
        refine k_store 2 rfl rfl rfl rfl rfl rfl rfl rfl rfl rfl (Nat.ble_eq_true_of_le (by show _ ≤ 20; omega)) rfl ?_
        refine okl_nil ?_
        change OkC Try.prog _ _ _ _ _ _ _
        refine okc_weak (l' := [(1, _), (2, _), (4, _), (5, _), (8, _), (26, _), (27, _), (28, _), (29, _), (36, _)]) ⟨rfl, rfl, rfl, rfl, rfl, rfl, rfl, rfl, rfl, rfl, trivial⟩ ?_
        refine okc_region ?_
        refine s_add rfl rfl rfl rfl rfl rfl rfl (by omega) ?_
        refine s_move rfl rfl rfl rfl rfl rfl ?_
        refine okl_nil ?_
        refine fun a w hs => ⟨k + 1, by omega, by omega, ?_⟩
        try rw [bd_set _ (k := m) (by omega) (by omega)] at hs
        refine hs.weak ⟨rfl, rfl, rfl, rfl, rfl, rfl, rfl, trivial⟩ [2, 3, 4] (by simp) ?_
        first | (rw [fold_take _ hx, addL, if_pos hin2, hm]; rfl) | (rw [fold_take _ hx, addL, if_neg (by simp [hin2])]; rfl)
      · have hin2 : inS x.rlo x.rhi rain = false := by simpa using h8
        refine okl_nil ?_
        change OkC Try.prog _ _ _ _ _ _ _
        refine okc_weak (l' := [(1, _), (2, _), (4, _), (5, _), (8, _), (26, _), (27, _), (28, _), (29, _), (36, _)]) ⟨rfl, rfl, rfl, rfl, rfl, rfl, rfl, rfl, rfl, rfl, trivial⟩ ?_
        refine okc_cond_f rfl ?_
        refine okc_skip ?_
        change OkC Try.prog _ _ _ _ _ _ _
        refine okc_weak (l' := [(1, _), (2, _), (4, _), (5, _), (8, _), (26, _), (27, _), (28, _), (29, _), (36, _)]) ⟨rfl, rfl, rfl, rfl, rfl, rfl, rfl, rfl, rfl, rfl, trivial⟩ ?_
        refine okc_region ?_
        refine s_add rfl rfl rfl rfl rfl rfl rfl (by omega) ?_
        refine s_move rfl rfl rfl rfl rfl rfl ?_
        refine okl_nil ?_
        refine fun a w hs => ⟨k + 1, by omega, by omega, ?_⟩
        try rw [bd_set _ (k := m) (by omega) (by omega)] at hs
        refine hs.weak ⟨rfl, rfl, rfl, rfl, rfl, rfl, rfl, trivial⟩ [2, 3, 4] (by simp) ?_
        first | (rw [fold_take _ hx, addL, if_pos hin2, hm]; rfl) | (rw [fold_take _ hx, addL, if_neg (by simp [hin2])]; rfl)
    · have hge : ¬ k < s.book.length := by simpa using h5
      have hkw : k = s.book.length := by omega
      subst hkw
      rw [List.take_length]
      refine okl_nil ?_
      change OkC Try.prog _ _ _ _ _ _ _
      refine okc_weak (l' := [(1, _), (2, _), (4, _), (5, _), (26, _), (27, _), (28, _), (29, _)]) ⟨rfl, rfl, rfl, rfl, rfl, rfl, rfl, rfl, trivial⟩ ?_
      refine okc_seq ?_
      refine okc_cond_f rfl ?_
      refine okc_exit ?_
      change OkC Try.prog _ _ _ _ _ _ _
      refine okc_weak (l' := [(1, _), (2, _), (4, _), (5, _), (26, _), (27, _), (28, _), (29, _)]) ⟨rfl, rfl, rfl, rfl, rfl, rfl, rfl, rfl, trivial⟩ ?_
      refine okc_seq ?_
      refine okc_seq ?_
      refine okc_region ?_
      refine s_field rfl rfl rfl rfl rfl rfl rfl rfl ?_
      refine s_field rfl rfl rfl rfl rfl rfl rfl rfl ?_
      refine s_load1 2 rfl rfl rfl rfl rfl rfl rfl rfl rfl ?_
      refine s_len rfl rfl rfl rfl rfl rfl rfl ?_
      refine s_move rfl rfl rfl rfl rfl rfl ?_
      refine okl_nil ?_
      change OkC Try.prog _ _ _ _ _ _ _
      refine okc_weak (l' := [(1, _), (2, _), (4, _), (5, _), (26, _), (27, _), (28, _), (29, _), (50, _), (51, _), (52, _)]) ⟨rfl, rfl, rfl, rfl, rfl, rfl, rfl, rfl, rfl, rfl, rfl, trivial⟩ ?_
      refine okc_block ?_
      refine okc_loop (γ := Nat) (fun k => [(1, .int .i64 rain), (2, .pointer (some ⟨b1, 0, none⟩)), (4, .pointer (some ⟨b2, 0, none⟩)), (5, .pointer (some ⟨b3, 0, none⟩)), (50, .slice s.rp s.reads.length s.rc), (51, .int .i64 s.reads.length), (52, .int .i64 k)]) (fun k => [(b3, bdC ((s.reads.take k).foldl (addR s) (s.book.foldl (addL rain) (iniN s.most s.weeks.toNat))), 167), (b2, bdC bz, 167), (b1, [.int .i64 s.weeks, .int .i64 s.most, .int .i64 s.fall, .int .i64 s.slo, .int .i64 s.shi, .int .i64 s.wlo, .int .i64 s.whi, .slice s.bp s.book.length s.bc, .slice s.rp s.reads.length s.rc], 114)]) (fun k => k ≤ s.reads.length) (fun k => s.reads.length - k) 0 (by omega) (fun a w hs => hs.weak ⟨rfl, rfl, rfl, rfl, rfl, rfl, rfl, trivial⟩ [0, 1, 2] (by simp) (by rfl)) ?_
      rintro k hk
      refine okc_seq ?_
      refine okc_region ?_
      refine s_cmpS rfl rfl rfl rfl rfl rfl rfl rfl (fun h9 => ?_) (fun h9 => ?_)
      · have hlt : k < s.reads.length := by simpa using h9
        obtain ⟨x, hx⟩ : ∃ x, s.reads[k]? = some x := ⟨s.reads[k], by simp [hlt]⟩
        obtain ⟨hpR, hjR, hatR⟩ := hR (by intro e; simp [e] at hlt)
        have hcell := hatR k x hx
        have hxo := hs0.reads x (List.mem_of_getElem? hx)
        have hxo2 := hxo
        obtain ⟨n1, n2, k1, k2, b1, b2, l1, l2, l3, l4⟩ := hxo2
        obtain ⟨m, hm⟩ : ∃ m : Nat, x.week = m := ⟨x.week.toNat, by omega⟩
        have hF := pre_ok' hs0 rain k
        have g1 := bd_lo ((s.reads.take k).foldl (addR s) (s.book.foldl (addL rain) (iniN s.most s.weeks.toNat))) (k := m) (n := 0 + m * 2) (by omega) (by omega)
        have g2 := bd_hi ((s.reads.take k).foldl (addR s) (s.book.foldl (addL rain) (iniN s.most s.weeks.toNat))) (k := m) (n := 0 + m * 2 + 1) (by omega) (by omega)
        refine okl_nil ?_
        change OkC Try.prog _ _ _ _ _ _ _
        refine okc_weak (l' := [(1, _), (2, _), (4, _), (5, _), (50, _), (51, _), (52, _), (53, _)]) ⟨rfl, rfl, rfl, rfl, rfl, rfl, rfl, rfl, trivial⟩ ?_
        refine okc_seq ?_
        refine okc_cond_t rfl ?_
        refine okc_skip ?_
        change OkC Try.prog _ _ _ _ _ _ _
        refine okc_weak (l' := [(1, _), (2, _), (4, _), (5, _), (50, _), (51, _), (52, _), (53, _)]) ⟨rfl, rfl, rfl, rfl, rfl, rfl, rfl, rfl, trivial⟩ ?_
        refine okc_seq ?_
        refine okc_block ?_
        refine okc_seq ?_
        refine okc_region ?_
        refine s_indexP k hpR rfl rfl rfl rfl rfl rfl rfl rfl rfl rfl (by omega) rfl ?_
        refine s_loadAP jR rfl rfl rfl rfl rfl rfl rfl hjR rfl (by assumption) rfl ?_
        refine s_alloc rfl rfl rfl rfl rfl rfl (fun b10 => ?_)
        refine k_storeW 0 rfl rfl rfl rfl rfl rfl rfl rfl rfl rfl rfl rfl ?_
        refine okl_nil ?_
        change OkC Try.prog _ _ _ _ _ _ _
        refine okc_weak (l' := [(1, _), (2, _), (4, _), (5, _), (10, _), (50, _), (51, _), (52, _), (53, _)]) ⟨rfl, rfl, rfl, rfl, rfl, rfl, rfl, rfl, rfl, trivial⟩ ?_
        refine dr_start [56, 57, 58, 59, 60, 61, 62, 63, 64, 65, 66] ?_
        refine d_field [] rfl rfl rfl rfl rfl (fun ν => rfl) rfl (fun ν => rfl) rfl rfl ?_
        refine d_load1 0 [0] rfl rfl rfl rfl rfl (fun ν => rfl) rfl rfl (fun ν => rfl) (fun ν => rfl) rfl ?_
        refine d_field [] rfl rfl rfl rfl rfl (fun ν => rfl) rfl (fun ν => rfl) rfl rfl ?_
        refine d_load1 0 [2] rfl rfl rfl rfl rfl (fun ν => rfl) rfl rfl (fun ν => rfl) (fun ν => rfl) rfl ?_
        refine d_indexA m [3] rfl rfl rfl rfl rfl (fun ν => rfl) rfl (fun ν => rfl) (fun ν => rfl) rfl rfl (by first | rfl | omega) (by omega) rfl ?_
        refine d_loadP2 1 [4] rfl rfl rfl rfl rfl (fun ν => rfl) rfl rfl (fun ν => rfl) (fun ν => rfl) rfl (by assumption) (by assumption) ?_
        refine d_loadW 3 [] rfl rfl rfl rfl rfl (fun ν => rfl) rfl rfl (fun ν => rfl) (fun ν => rfl) rfl rfl ?_
        refine d_loadW 0 [] rfl rfl rfl rfl rfl (fun ν => rfl) rfl rfl (fun ν => rfl) (fun ν => rfl) rfl rfl ?_
        refine d_callv [6, 7] rfl rfl rfl rfl rfl (fun ν => rfl) rfl (fun ν => rfl) (fun ν => rfl) c91 (fun ν => told_fn _ _ (by assumption) (by assumption)) (fun ν => covers_nil) ?_
        refine d_callv [5, 8] rfl rfl rfl rfl rfl (fun ν => rfl) rfl (fun ν => rfl) (fun ν => rfl) c135 (fun ν => both_fn _ _ _ _) (fun ν => covers_nil) ?_
        refine d_indexA m [1] rfl rfl rfl rfl rfl (fun ν => rfl) rfl (fun ν => rfl) (fun ν => rfl) rfl rfl (by first | rfl | omega) (by omega) rfl ?_
        refine dr_end [56, 57, 58, 59, 60, 61, 62, 63, 64, 65, 66] [9, 10] 11 rfl rfl rfl rfl rfl rfl rfl rfl rfl (fun ν => ?_)
        refine k_store 1 rfl rfl rfl rfl rfl rfl rfl rfl rfl rfl (Nat.ble_eq_true_of_le (by show _ ≤ 20; omega)) rfl ?_
        refine okl_nil ?_
        change OkC Try.prog _ _ _ _ _ _ _
        refine okc_weak (l' := [(1, _), (2, _), (4, _), (5, _), (10, _), (50, _), (51, _), (52, _), (53, _)]) ⟨rfl, rfl, rfl, rfl, rfl, rfl, rfl, rfl, rfl, trivial⟩ ?_
        refine okc_region ?_
        refine s_add rfl rfl rfl rfl rfl rfl rfl (by omega) ?_
        refine s_move rfl rfl rfl rfl rfl rfl ?_
        refine okl_nil ?_
        refine fun a w hs => ⟨k + 1, by omega, by omega, ?_⟩
        rw [bd_set _ (k := m) (by omega) (by omega)] at hs
        refine hs.weak ⟨rfl, rfl, rfl, rfl, rfl, rfl, rfl, trivial⟩ [1, 2, 3] (by simp) ?_
        rw [fold_take _ hx, addR, hm]; rfl
      · have hge : ¬ k < s.reads.length := by simpa using h9
        have hkw : k = s.reads.length := by omega
        have hpre := pre_ok' hs0 rain k
        subst hkw
        rw [List.take_length] at hpre ⊢
        refine okl_nil ?_
        change OkC Try.prog _ _ _ _ _ _ _
        refine okc_weak (l' := [(1, _), (2, _), (4, _), (5, _), (50, _), (51, _), (52, _), (53, _)]) ⟨rfl, rfl, rfl, rfl, rfl, rfl, rfl, rfl, trivial⟩ ?_
        refine okc_seq ?_
        refine okc_cond_f rfl ?_
        refine okc_exit ?_
        change OkC Try.prog _ _ _ _ _ _ _
        refine okc_weak (l' := [(1, _), (2, _), (4, _), (5, _), (50, _), (51, _), (52, _), (53, _)]) ⟨rfl, rfl, rfl, rfl, rfl, rfl, rfl, rfl, trivial⟩ ?_
        refine okc_seq ?_
        refine okc_region ?_
        refine s_loadW 2 rfl rfl rfl rfl rfl rfl rfl rfl rfl rfl ?_
        refine s_loadW 0 rfl rfl rfl rfl rfl rfl rfl rfl rfl (by first | rfl | assumption) ?_
        refine s_callv rfl rfl rfl rfl rfl rfl rfl c136 (narrow_fn _ _ (by assumption) (by assumption)) covers_nil ?_
        refine k_storeW 1 rfl rfl rfl rfl rfl rfl rfl rfl rfl rfl rfl rfl ?_
        refine okl_nil ?_
        change OkC Try.prog _ _ _ _ _ _ _
        refine okc_weak (l' := [(1, _), (2, _), (4, _), (5, _), (50, _), (51, _), (52, _), (53, _)]) ⟨rfl, rfl, rfl, rfl, rfl, rfl, rfl, rfl, trivial⟩ ?_
        refine okc_ret fun a w hs => ?_
        exact ret_v hs (run_results1 hs rfl (k_ragg 1 rfl rfl rfl rfl rfl)) (by clear hs; rfl)

end Go.Proofs.Ytdpnadknaacinaa
end

section
namespace Go.Proofs.Ytdpnadknaacinaa
open Go.Sx Go.Proofs.Ytdpnadknaacinaa.Ty
set_option linter.unusedVariables false
set_option maxHeartbeats 2000000


abbrev spC (s : Sp) : List Value := [.int .i64 s.weeks, .int .i64 s.most, .int .i64 s.fall, .int .i64 s.slo, .int .i64 s.shi, .int .i64 s.wlo, .int .i64 s.whi, .slice s.bp s.book.length s.bc, .slice s.rp s.reads.length s.rc]
def okN (s : Sp) (f : Bd) : Bool := (List.range s.weeks.toNat).all fun k => decide ((f k).1 ≤ (f k).2)
def rainN (s : Sp) : Nat := (s.whi + 1 - s.wlo).toNat
def rainsN (s : Sp) (k : Nat) : List Int := ((List.range k).map fun (i : Nat) => s.wlo + (i : Int)).filter fun r => okN s (leavesS s r)
/-- The rains that there can have been. -/
def rainsS (s : Sp) : List Int := rainsN s (rainN s)
theorem rainsN_succ (s : Sp) (k : Nat) : rainsN s (k + 1) = if okN s (leavesS s (s.wlo + (k : Int))) then rainsN s k ++ [s.wlo + (k : Int)] else rainsN s k := by
  simp only [rainsN, List.range_succ, List.map_append, List.filter_append, List.map_cons, List.map_nil, List.filter_cons, List.filter_nil]
  split <;> simp
theorem rainsN_pre (s : Sp) {k n : Nat} (h : k ≤ n) : rainsN s k <+: rainsN s n := by
  refine List.IsPrefix.filter _ (List.IsPrefix.map _ ?_)
  obtain ⟨m, rfl⟩ := Nat.exists_eq_add_of_le h
  rw [List.range_add]
  exact List.prefix_append _ _
theorem okN_of {s : Sp} {f : Bd} {n : Nat} (hn : n = s.weeks.toNat) (h : ∀ j, j < n → (f j).1 ≤ (f j).2) : okN s f = true := by
  subst hn; simp only [okN, List.all_eq_true, List.mem_range, decide_eq_true_eq]; exact h
theorem okN_not {s : Sp} {f : Bd} {k : Nat} (hk : k < s.weeks.toNat) (h : ¬ (f k).1 ≤ (f k).2) : okN s f = false := by
  rw [okN, List.all_eq_false]; exact ⟨k, by simpa using hk, by simpa using h⟩
theorem leaves_ok {s : Sp} (hs : OkS s) (rain : Int) : BdOk (leavesS s rain) := by
  refine nar_ok hs.ok ?_
  have := pre_ok' hs rain s.reads.length
  rwa [List.take_length] at this
theorem covers_cons {O : Blks} {A : Args} (x : Nat × List Value) : covers O (x :: A) A := fun _ _ h => .inr (List.mem_cons_of_mem _ h)
abbrev rainE (s : Sp) (r : Int) : List Value := [.int .i64 r, bdV (leavesS s r)]

theorem rains_fn (s : Sp) : Cn Try.prog 75 [spV s] [] (fun b : Nat => .func (.func 110) #[] #[.pointer (some ⟨b, 0, none⟩)]) (fun b => [(b, spC s, 114)]) (fun _ => True) := by
  refine fn_intro (N := 4) Try.func75 rfl rfl rfl fun w0 => ?_
  refine okc_seq ?_
  refine okc_region ?_
  refine s_boxA rfl rfl rfl rfl rfl rfl (fun b1 => ?_)
  refine s_assign rfl rfl rfl rfl rfl rfl ?_
  refine okl_nil ?_
  change OkC Try.prog _ _ _ _ _ _ _
  refine okc_seq ?_
  refine okc_region ?_
  refine okl_v rfl rfl rfl rfl (op_makeFunc rfl rfl) ?_
  refine s_assign rfl rfl rfl rfl rfl rfl ?_
  refine okl_nil ?_
  change OkC Try.prog _ _ _ _ _ _ _
  refine okc_ret fun a w hs => ?_
  exact ret_post hs (run_results1 hs rfl (rv_tmp rfl)) b1 rfl trivial [0] (by simp) rfl

theorem rains_it (s : Sp) (M : Args) (hin : s.In M) (hs0 : OkS s) (b : Nat) : It Try.prog 110 [.pointer (some ⟨b, 0, none⟩)] ((b, spC s) :: M) (rainE s) (rainsS s) := by
  have ho := hs0.ok
  obtain ⟨w1, w2, m1, m2, f1, f2, a1, a2, a3, v1, v2, v3⟩ := ho
  intro y J Jx WW hJ hJx hJM hY h0
  refine callsIn_of_wp (F := Fr none) (n := 0) Try.func110 rfl trivial ?_
  refine (?_ : OkC Try.prog (C0 42) WW _ _ (envOf [.func (.yield y) #[] #[], .pointer (some ⟨b, 0, none⟩)] 0) [] ((b, spC s) :: M)) _ WW (st_start (n := 42) (args := [.func (.yield y) #[] #[], .pointer (some ⟨b, 0, none⟩)]) (by simp) (hJM _ _ h0))
  refine okc_scope rfl ?_
  refine okc_seq ?_
  refine okc_label ?_
  change OkC Try.prog _ _ _ _ _ _ _
  refine okc_weak (l' := [(0, _), (1, _)]) ⟨rfl, rfl, trivial⟩ ?_
  refine okc_seq ?_
  refine okc_region ?_
  refine s_field rfl rfl rfl rfl rfl rfl rfl rfl ?_
  refine s_field rfl rfl rfl rfl rfl rfl rfl rfl ?_
  refine s_field rfl rfl rfl rfl rfl rfl rfl rfl ?_
  refine s_loadA1 0 rfl rfl rfl rfl rfl rfl rfl rfl rfl ?_
  refine s_assign rfl rfl rfl rfl rfl rfl ?_
  refine okl_nil ?_
  change OkC Try.prog _ _ _ _ _ _ _
  refine okc_weak (l' := [(0, _), (1, _), (3, _)]) ⟨rfl, rfl, rfl, trivial⟩ ?_
  refine okc_block ?_
  intro a0 ws hst0
  refine wp_loopG (fun (k : Nat) a w => k ≤ rainN s ∧ St (C0 42) w [(0, .func (.yield y) #[] #[]), (1, .pointer (some ⟨b, 0, none⟩)), (3, .int .i64 (s.wlo + (k : Int)))] [] ((b, spC s) :: M) a w ∧ J (rainsN s k) w) (fun k => rainN s - k) 0 ⟨Nat.zero_le _, ?_, hJ _ _ _ h0 (hst0.bel.below rfl)⟩ ?_
  · exact hst0.rebase.weak ⟨rfl, rfl, congrArg (fun z => some (Value.int .i64 z)) (by omega), trivial⟩ [] (by simp) rfl
  rintro k a1 w1 ⟨hk, hst1, hJ1⟩
  refine (?_ : OkC Try.prog (C0 42) w1 _ _ _ _ _) a1 w1 hst1
  refine okc_seq ?_
  refine okc_seq ?_
  refine okc_region ?_
  refine s_move rfl rfl rfl rfl rfl rfl ?_
  refine s_field rfl rfl rfl rfl rfl rfl rfl rfl ?_
  refine s_field rfl rfl rfl rfl rfl rfl rfl rfl ?_
  refine s_field rfl rfl rfl rfl rfl rfl rfl rfl ?_
  refine s_loadA1 0 rfl rfl rfl rfl rfl rfl rfl rfl rfl ?_
  refine s_cmpS rfl rfl rfl rfl rfl rfl rfl rfl (fun h1 => ?_) (fun h1 => ?_)
  · have hle : s.wlo + (k : Int) ≤ s.whi := by simpa using h1
    have hlt : k < rainN s := by unfold rainN; omega
    have hL := leaves_ok hs0 (s.wlo + (k : Int))
    refine okl_nil ?_
    change OkC Try.prog _ _ _ _ _ _ _
    refine okc_weak (l' := [(0, _), (1, _), (3, _), (15, _)]) ⟨rfl, rfl, rfl, rfl, trivial⟩ ?_
    refine okc_cond_t rfl ?_
    refine okc_skip ?_
    change OkC Try.prog _ _ _ _ _ _ _
    refine okc_weak (l' := [(0, _), (1, _), (3, _), (15, _)]) ⟨rfl, rfl, rfl, rfl, trivial⟩ ?_
    refine okc_seq ?_
    refine okc_block ?_
    refine okc_seq ?_
    refine okc_region ?_
    refine s_loadAP 0 rfl rfl rfl rfl rfl rfl rfl rfl rfl rfl rfl ?_
    refine s_move rfl rfl rfl rfl rfl rfl ?_
    refine s_callv rfl rfl rfl rfl rfl rfl rfl c111 (leaves_fn s (s.wlo + (k : Int)) M hin hs0) (covers_cons _) ?_
    refine s_alloc rfl rfl rfl rfl rfl rfl (fun b2 => ?_)
    refine k_storeW 0 rfl rfl rfl rfl rfl rfl rfl rfl rfl rfl rfl rfl ?_
    refine okl_nil ?_
    change OkC Try.prog _ _ _ _ _ _ _
    refine okc_weak (l' := [(0, _), (1, _), (3, _), (4, _), (15, _)]) ⟨rfl, rfl, rfl, rfl, rfl, trivial⟩ ?_
    refine okc_seq ?_
    refine okc_seq ?_
    refine okc_region ?_
    refine s_field rfl rfl rfl rfl rfl rfl rfl rfl ?_
    refine s_field rfl rfl rfl rfl rfl rfl rfl rfl ?_
    refine s_loadA1 0 rfl rfl rfl rfl rfl rfl rfl rfl rfl ?_
    refine s_move rfl rfl rfl rfl rfl rfl ?_
    refine okl_nil ?_
    change OkC Try.prog _ _ _ _ _ _ _
    refine okc_weak (l' := [(0, _), (1, _), (3, _), (4, _), (15, _), (23, _), (24, _)]) ⟨rfl, rfl, rfl, rfl, rfl, rfl, rfl, trivial⟩ ?_
    refine okc_block ?_
    have hadd : s.wlo + (k : Int) ≤ 20 ∧ 0 ≤ s.wlo + (k : Int) := by omega
    refine okc_loop (γ := Nat) (fun j => [(0, .func (.yield y) #[] #[]), (1, .pointer (some ⟨b, 0, none⟩)), (3, .int .i64 (s.wlo + (k : Int))), (4, .pointer (some ⟨b2, 0, none⟩)), (23, .int .i64 s.weeks), (24, .int .i64 j)]) (fun _ => [(b2, bdC (leavesS s (s.wlo + (k : Int))), 167)]) (fun j => (j : Int) ≤ s.weeks ∧ ∀ i, i < j → ((leavesS s (s.wlo + (k : Int))) i).1 ≤ ((leavesS s (s.wlo + (k : Int))) i).2) (fun j => s.weeks.toNat - j) 0 ⟨by omega, fun i hi => absurd hi (Nat.not_lt_zero _)⟩ (fun a w hs => hs.weak ⟨rfl, rfl, rfl, rfl, rfl, rfl, trivial⟩ [0] (by simp) (by rfl)) ?_
    rintro j ⟨hj, hall⟩
    refine okc_seq ?_
    refine okc_region ?_
    refine s_cmpS rfl rfl rfl rfl rfl rfl rfl rfl (fun h3 => ?_) (fun h3 => ?_)
    · have hltj : (j : Int) < s.weeks := by simpa using h3
      have hLj := hL j
      have g1 := bd_lo (leavesS s (s.wlo + (k : Int))) (k := j) (n := 0 + j * 2 + 0) (by omega) (by omega)
      have g2 := bd_hi (leavesS s (s.wlo + (k : Int))) (k := j) (n := 0 + j * 2 + 1) (by omega) (by omega)
      refine okl_nil ?_
      change OkC Try.prog _ _ _ _ _ _ _
      refine okc_weak (l' := [(0, _), (1, _), (3, _), (4, _), (23, _), (24, _), (25, _)]) ⟨rfl, rfl, rfl, rfl, rfl, rfl, rfl, trivial⟩ ?_
      refine okc_seq ?_
      refine okc_cond_t rfl ?_
      refine okc_skip ?_
      change OkC Try.prog _ _ _ _ _ _ _
      refine okc_weak (l' := [(0, _), (1, _), (3, _), (4, _), (23, _), (24, _), (25, _)]) ⟨rfl, rfl, rfl, rfl, rfl, rfl, rfl, trivial⟩ ?_
      refine okc_seq ?_
      refine okc_block ?_
      refine okc_seq ?_
      refine okc_region ?_
      refine s_move rfl rfl rfl rfl rfl rfl ?_
      refine s_assign rfl rfl rfl rfl rfl rfl ?_
      refine okl_nil ?_
      change OkC Try.prog _ _ _ _ _ _ _
      refine okc_weak (l' := [(0, _), (1, _), (3, _), (4, _), (5, _), (23, _), (24, _), (25, _)]) ⟨rfl, rfl, rfl, rfl, rfl, rfl, rfl, rfl, trivial⟩ ?_
      refine okc_seq ?_
      refine dr_start [27, 28, 29, 30, 31, 32, 33, 34, 35] ?_
      refine d_move [] rfl rfl rfl rfl rfl (fun ν => rfl) rfl (fun ν => rfl) ?_
      refine d_indexA j [0] rfl rfl rfl rfl rfl (fun ν => rfl) rfl (fun ν => rfl) (fun ν => rfl) rfl rfl (by first | rfl | omega) (by omega) rfl ?_
      refine d_field [1] rfl rfl rfl rfl rfl (fun ν => rfl) rfl (fun ν => rfl) rfl rfl ?_
      refine d_load1 0 [2] rfl rfl rfl rfl rfl (fun ν => rfl) rfl rfl (fun ν => rfl) (fun ν => rfl) (by assumption) ?_
      refine d_move [] rfl rfl rfl rfl rfl (fun ν => rfl) rfl (fun ν => rfl) ?_
      refine d_indexA j [4] rfl rfl rfl rfl rfl (fun ν => rfl) rfl (fun ν => rfl) (fun ν => rfl) rfl rfl (by first | rfl | omega) (by omega) rfl ?_
      refine d_field [5] rfl rfl rfl rfl rfl (fun ν => rfl) rfl (fun ν => rfl) rfl rfl ?_
      refine d_load1 0 [6] rfl rfl rfl rfl rfl (fun ν => rfl) rfl rfl (fun ν => rfl) (fun ν => rfl) (by assumption) ?_
      refine d_cmpS [3, 7] rfl rfl rfl rfl rfl (fun ν => rfl) rfl (fun ν => rfl) (fun ν => rfl) rfl (fun h4 => ?_) (fun h4 => ?_)
      · have hbad := okN_not (s := s) (f := (leavesS s (s.wlo + (k : Int)))) (k := j) (by omega) (by have hq := h4; simp at hq; omega)
        refine dr_end [27, 28, 29, 30, 31, 32, 33, 34, 35] [8] 9 rfl rfl rfl rfl rfl rfl rfl rfl rfl (fun ν => ?_)
        refine okl_nil ?_
        change OkC Try.prog _ _ _ _ _ _ _
        refine okc_weak (l' := [(0, _), (1, _), (3, _), (4, _), (5, _), (23, _), (24, _), (25, _), (35, _)]) ⟨rfl, rfl, rfl, rfl, rfl, rfl, rfl, rfl, rfl, trivial⟩ ?_
        refine okc_cond_t rfl ?_
        refine okc_exit ?_
        change OkC Try.prog _ _ _ _ _ _ _
        refine okc_weak (l' := [(0, _), (1, _), (3, _), (4, _), (5, _), (23, _), (24, _), (25, _), (35, _)]) ⟨rfl, rfl, rfl, rfl, rfl, rfl, rfl, rfl, rfl, trivial⟩ ?_
        refine okc_region ?_
        refine s_move rfl rfl rfl rfl rfl rfl ?_
        refine s_add rfl rfl rfl rfl rfl rfl rfl (by omega) ?_
        refine s_assign rfl rfl rfl rfl rfl rfl ?_
        refine okl_nil ?_
        refine fun a w hs => ⟨k + 1, by omega, by omega, hs.rebase.weak ⟨rfl, rfl, congrArg (fun z => some (Value.int .i64 z)) (by omega), trivial⟩ [] (by simp) rfl, ?_⟩
        first | exact (rainsN_succ s k ▸ (if_neg (by simp [hbad]) : (if okN s (leavesS s (s.wlo + (k : Int))) = true then rainsN s k ++ [s.wlo + (k : Int)] else rainsN s k) = rainsN s k) ▸ hJ _ _ _ hJ1 (hs.bel.below rfl)) | (rw [rainsN_succ, if_neg (by simp [hbad])]; exact hJ _ _ _ hJ1 (hs.bel.below rfl)) | (rw [rainsN_succ, if_pos hgood]; exact hJ _ _ _ hJ2 (hs.bel.below rfl))
      · have hfine : ((leavesS s (s.wlo + (k : Int))) j).1 ≤ ((leavesS s (s.wlo + (k : Int))) j).2 := by have hq := h4; simp at hq; omega
        refine dr_end [27, 28, 29, 30, 31, 32, 33, 34, 35] [8] 9 rfl rfl rfl rfl rfl rfl rfl rfl rfl (fun ν => ?_)
        refine okl_nil ?_
        change OkC Try.prog _ _ _ _ _ _ _
        refine okc_weak (l' := [(0, _), (1, _), (3, _), (4, _), (5, _), (23, _), (24, _), (25, _), (35, _)]) ⟨rfl, rfl, rfl, rfl, rfl, rfl, rfl, rfl, rfl, trivial⟩ ?_
        refine okc_cond_f rfl ?_
        refine okc_skip ?_
        change OkC Try.prog _ _ _ _ _ _ _
        refine okc_weak (l' := [(0, _), (1, _), (3, _), (4, _), (5, _), (23, _), (24, _), (25, _), (35, _)]) ⟨rfl, rfl, rfl, rfl, rfl, rfl, rfl, rfl, rfl, trivial⟩ ?_
        refine okc_region ?_
        refine s_add rfl rfl rfl rfl rfl rfl rfl (by omega) ?_
        refine s_move rfl rfl rfl rfl rfl rfl ?_
        refine okl_nil ?_
        refine fun a w hs => ⟨j + 1, ⟨by omega, fun i hi => ?_⟩, by omega, hs.weak ⟨rfl, rfl, rfl, rfl, rfl, rfl, trivial⟩ [0] (by simp) rfl⟩
        rcases Nat.lt_or_ge i j with h | h
        · exact hall i h
        · have : i = j := by omega
          subst this; exact hfine
    · have hgej : ¬ (j : Int) < s.weeks := by simpa using h3
      have hgood := okN_of (s := s) (f := (leavesS s (s.wlo + (k : Int)))) (n := j) (by omega) hall
      have hpfx : rainsN s k ++ [s.wlo + (k : Int)] <+: rainsS s := by have := rainsN_pre s (k := k + 1) (n := rainN s) (by omega); rwa [rainsN_succ, if_pos hgood] at this
      refine okl_nil ?_
      change OkC Try.prog _ _ _ _ _ _ _
      refine okc_weak (l' := [(0, _), (1, _), (3, _), (4, _), (23, _), (24, _), (25, _)]) ⟨rfl, rfl, rfl, rfl, rfl, rfl, rfl, trivial⟩ ?_
      refine okc_seq ?_
      refine okc_cond_f rfl ?_
      refine okc_exit ?_
      change OkC Try.prog _ _ _ _ _ _ _
      refine okc_weak (l' := [(0, _), (1, _), (3, _), (4, _), (23, _), (24, _), (25, _)]) ⟨rfl, rfl, rfl, rfl, rfl, rfl, rfl, trivial⟩ ?_
      refine okc_seq ?_
      refine okc_region ?_
      refine s_move rfl rfl rfl rfl rfl rfl ?_
      refine s_move rfl rfl rfl rfl rfl rfl ?_
      refine s_loadW 0 rfl rfl rfl rfl rfl rfl rfl rfl rfl (by first | rfl | assumption) ?_
      refine okl_yield rfl rfl rfl rfl rfl rfl rfl ⟨rfl, rfl, rfl⟩ (fun w2 hb2 => hY _ (s.wlo + (k : Int)) w2 hpfx (hJ _ _ _ hJ1 hb2)) (fun w2 h => hJM _ _ h) (fun w2 hJ2 => ?_) (fun w2 hJx2 => ?_)
      · refine s_not rfl rfl rfl rfl rfl rfl ?_
        refine okl_nil ?_
        change OkC Try.prog _ _ _ _ _ _ _
        refine okc_weak (l' := [(0, _), (1, _), (3, _), (4, _), (23, _), (24, _), (25, _), (41, _)]) ⟨rfl, rfl, rfl, rfl, rfl, rfl, rfl, rfl, trivial⟩ ?_
        refine okc_cond_f rfl ?_
        refine okc_skip ?_
        change OkC Try.prog _ _ _ _ _ _ _
        refine okc_weak (l' := [(0, _), (1, _), (3, _), (4, _), (23, _), (24, _), (25, _), (41, _)]) ⟨rfl, rfl, rfl, rfl, rfl, rfl, rfl, rfl, trivial⟩ ?_
        refine okc_region ?_
        refine s_move rfl rfl rfl rfl rfl rfl ?_
        refine s_add rfl rfl rfl rfl rfl rfl rfl (by omega) ?_
        refine s_assign rfl rfl rfl rfl rfl rfl ?_
        refine okl_nil ?_
        refine fun a w hs => ⟨k + 1, by omega, by omega, hs.rebase.weak ⟨rfl, rfl, congrArg (fun z => some (Value.int .i64 z)) (by omega), trivial⟩ [] (by simp) rfl, ?_⟩
        first | exact (rainsN_succ s k ▸ (if_neg (by simp [hbad]) : (if okN s (leavesS s (s.wlo + (k : Int))) = true then rainsN s k ++ [s.wlo + (k : Int)] else rainsN s k) = rainsN s k) ▸ hJ _ _ _ hJ1 (hs.bel.below rfl)) | (rw [rainsN_succ, if_neg (by simp [hbad])]; exact hJ _ _ _ hJ1 (hs.bel.below rfl)) | (rw [rainsN_succ, if_pos hgood]; exact hJ _ _ _ hJ2 (hs.bel.below rfl))
      · refine s_not rfl rfl rfl rfl rfl rfl ?_
        refine okl_nil ?_
        change OkC Try.prog _ _ _ _ _ _ _
        refine okc_weak (l' := [(0, _), (1, _), (3, _), (4, _), (23, _), (24, _), (25, _), (41, _)]) ⟨rfl, rfl, rfl, rfl, rfl, rfl, rfl, rfl, trivial⟩ ?_
        refine okc_cond_t rfl ?_
        refine okc_ret fun a w hs => ?_
        exact ⟨hs.noDef, _, results_none rfl _ _ _, ⟨_, rfl⟩, .inr (hJx _ _ hJx2 (hs.bel.below rfl))⟩
  · have hge : ¬ s.wlo + (k : Int) ≤ s.whi := by simpa using h1
    have hkn : k = rainN s := by unfold rainN at hk ⊢; omega
    refine okl_nil ?_
    change OkC Try.prog _ _ _ _ _ _ _
    refine okc_weak (l' := [(0, _), (1, _), (3, _), (15, _)]) ⟨rfl, rfl, rfl, rfl, trivial⟩ ?_
    refine okc_cond_f rfl ?_
    refine okc_exit ?_
    exact fun a w hs => ⟨hs.noDef, _, results_none rfl _ _ _, ⟨_, rfl⟩, .inl (by have hx := hJ _ _ _ hJ1 (hs.bel.below rfl); rw [hkn] at hx; exact hx)⟩
end Go.Proofs.Ytdpnadknaacinaa
end

section
namespace Go.Proofs.Ytdpnadknaacinaa
open Go.Sx Go.Proofs.Ytdpnadknaacinaa.Ty
set_option linter.unusedVariables false
set_option maxHeartbeats 2000000


def canS (s : Sp) : Bool := !(rainsS s).isEmpty
theorem can_fn (s : Sp) (M : Args) (hin : s.In M) (hs0 : OkS s) : Cn Try.prog 73 [spV s] M (fun _ : Unit => .bool (canS s)) (fun _ => []) (fun _ => True) := by
  refine fn_introM (n := 7) Try.func73 rfl rfl rfl fun w0 => ?_
  refine okc_seq ?_
  refine okc_region ?_
  refine s_boxA rfl rfl rfl rfl rfl rfl (fun b1 => ?_)
  refine s_alloc rfl rfl rfl rfl rfl rfl (fun b2 => ?_)
  refine okl_nil ?_
  change OkC Try.prog _ _ _ _ _ _ _
  refine okc_seq ?_
  refine okc_seq ?_
  refine okc_region ?_
  refine s_loadW 1 rfl rfl rfl rfl rfl rfl rfl rfl rfl rfl ?_
  refine okl_r rfl rfl rfl rfl (op_call rfl rfl rfl c75 (rains_fn s) covers_nil) (fun bx _ => ?_)
  refine okl_nil ?_
  change OkC Try.prog _ _ _ _ _ _ _
  refine okc_block ?_
  refine okc_reo (l' := [(2, .pointer (some ⟨b2, 0, none⟩)), (4, .func (.func 110) #[] #[.pointer (some ⟨bx, 0, none⟩)])]) (O' := [(bx, spC s, 114), (b1, spC s, 114)] ++ [(b2, [.bool false], 4)]) ⟨rfl, rfl, trivial⟩ [0, 2, 1] (by simp) rfl ?_
  refine okc_range (rains_it s M hin hs0 bx) rfl rfl rfl c110 (fun _ => rfl) rfl (fun pre Ob => pre = [] ∧ Ob = [(b2, [.bool false], 4)]) (fun c Ob => c = .ret ∧ Ob = [(b2, [.bool true], 4)] ∧ rainsS s ≠ []) ⟨rfl, rfl⟩ ?_ ?_ ?_ ?_
  · intro b cs hb
    rcases List.mem_cons.1 hb with e | hb
    · cases e; exact .inl ⟨114, by simp⟩
    · exact .inr hb
  · rintro pre x Ob W r hpre ⟨rfl, rfl⟩
    refine okc_skip fun a w hs => ⟨_, _, hs, fun W'' => ?_⟩
    refine okc_block ?_
    refine okc_seq ?_
    refine okc_region ?_
    refine k_storeW 0 rfl rfl rfl rfl rfl rfl rfl rfl rfl rfl rfl rfl ?_
    refine okl_nil ?_
    change OkC Try.prog _ _ _ _ _ _ _
    refine okc_ret fun a w hs => ?_
    exact ⟨_, _, ⟨rfl, rfl, by intro e; rw [e] at hpre; simp at hpre⟩, hs⟩
  · rintro Ob D ⟨hx, rfl⟩
    refine fun a w hs => (?_ : OkC Try.prog ⟨7, [D], none, [], []⟩ w0 _ _ _ _ _) a w hs
    refine okc_seq ?_
    refine okc_region ?_
    refine k_storeW 2 rfl rfl rfl rfl rfl rfl rfl rfl rfl rfl rfl rfl ?_
    refine okl_nil ?_
    change OkC Try.prog _ _ _ _ _ _ _
    refine okc_ret fun a w hs => ?_
    exact ret_vM hs (fun a w hs => run_results1 hs rfl (k_rone 2 rfl rfl rfl rfl)) (by simp [canS, hx])
  · rintro c Ob D ⟨rfl, rfl, hx⟩
    refine okc_ret fun a w hs => ?_
    exact ret_vM hs (fun a w hs => run_results1 hs rfl (k_rone 2 rfl rfl rfl rfl)) (by cases h : rainsS s <;> simp_all [canS])

end Go.Proofs.Ytdpnadknaacinaa
end
