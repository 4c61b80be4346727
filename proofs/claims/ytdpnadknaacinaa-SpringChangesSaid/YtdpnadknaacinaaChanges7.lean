/-
  Texts that the proof uses, part 7.
  Conditions: none.
-/
import Derived.Test.YtdpnadknaacinaaChanges6
import Derived.Test.YtdpnadknaacinaaRows
import Derived.ProofKit
import Derived.Deep.Slices
import Derived.MapKept
import Derived.Laws.Cover3

set_option linter.unusedVariables false
set_option linter.unusedSimpArgs false

section
namespace Go.Proofs.Ytdpnadknaacinaa
open Go.Sx Go.Proofs.Ytdpnadknaacinaa.Ty
set_option linter.unusedVariables false
set_option maxHeartbeats 2000000

theorem same_fn (s : Sp) (M : Args) (g : Rn2) (hin : s.In M) (hin2 : (twS s g).In M) : Cn Try.prog 29 [spV (twS s g), spV s] M (fun _ : Unit => .bool true) (fun _ => []) (fun _ => True) := by
  have hbn := hin.bn
  have hrn := hin.rn
  obtain ⟨bB, oB, cB, jB, hB⟩ := hin.book
  obtain ⟨bR, oR, cR, jR, hR⟩ := hin.reads
  obtain ⟨bP, oP, cP, jP, hP⟩ := hin2.book
  obtain ⟨bQ, oQ, cQ, jQ, hQ⟩ := hin2.reads
  refine fn_intro (N := 94) Try.func29 rfl rfl rfl fun w0 => ?_
  refine okc_seq ?_
  refine okc_region ?_
  refine s_boxA rfl rfl rfl rfl rfl rfl (fun b1 => ?_)
  refine s_boxA rfl rfl rfl rfl rfl rfl (fun b2 => ?_)
  refine s_assign rfl rfl rfl rfl rfl rfl ?_
  refine okl_nil ?_
  change OkC Try.prog _ _ _ _ _ _ _
  refine okc_weak (l' := [(0, _), (1, _), (2, _), (3, _), (4, _)]) ⟨rfl, rfl, rfl, rfl, rfl, trivial⟩ ?_
  refine okc_seq ?_
  refine okc_seq ?_
  refine okc_region ?_
  refine s_field rfl rfl rfl rfl rfl rfl rfl rfl ?_
  refine s_load1 1 rfl rfl rfl rfl rfl rfl rfl rfl rfl ?_
  refine s_field rfl rfl rfl rfl rfl rfl rfl rfl ?_
  refine s_load1 0 rfl rfl rfl rfl rfl rfl rfl rfl rfl ?_
  refine s_cmpS rfl rfl rfl rfl rfl rfl rfl rfl (fun h3 => ?_) (fun h3 => ?_)
  · exact absurd h3 (by simp [twS]) --closed
  · refine s_move rfl rfl rfl rfl rfl rfl ?_
    refine s_field rfl rfl rfl rfl rfl rfl rfl rfl ?_
    refine s_load1 1 rfl rfl rfl rfl rfl rfl rfl rfl rfl ?_
    refine s_field rfl rfl rfl rfl rfl rfl rfl rfl ?_
    refine s_load1 0 rfl rfl rfl rfl rfl rfl rfl rfl rfl ?_
    refine s_cmpS rfl rfl rfl rfl rfl rfl rfl rfl (fun h4 => ?_) (fun h4 => ?_)
    · exact absurd h4 (by simp [twS]) --closed
    · refine s_pick_f rfl rfl rfl rfl rfl rfl rfl ?_
      refine s_move rfl rfl rfl rfl rfl rfl ?_
      refine s_field rfl rfl rfl rfl rfl rfl rfl rfl ?_
      refine s_load1 1 rfl rfl rfl rfl rfl rfl rfl rfl rfl ?_
      refine s_field rfl rfl rfl rfl rfl rfl rfl rfl ?_
      refine s_load1 0 rfl rfl rfl rfl rfl rfl rfl rfl rfl ?_
      refine s_cmpS rfl rfl rfl rfl rfl rfl rfl rfl (fun h5 => ?_) (fun h5 => ?_)
      · exact absurd h5 (by simp [twS]) --closed
      · refine s_pick_f rfl rfl rfl rfl rfl rfl rfl ?_
        refine s_move rfl rfl rfl rfl rfl rfl ?_
        refine s_field rfl rfl rfl rfl rfl rfl rfl rfl ?_
        refine s_loadP2 1 rfl rfl rfl rfl rfl rfl rfl rfl rfl rfl rfl ?_
        refine s_field rfl rfl rfl rfl rfl rfl rfl rfl ?_
        refine s_loadP2 0 rfl rfl rfl rfl rfl rfl rfl rfl rfl rfl rfl ?_
        refine s_b rfl rfl rfl rfl (op_neqA rfl rfl rfl g23 (eq23 9998 _ _ _ _)) (fun h6 => ?_) (fun h6 => ?_)
        · exact absurd h6 (by simp [twS]) --closed
        · refine s_pick_f rfl rfl rfl rfl rfl rfl rfl ?_
          refine s_move rfl rfl rfl rfl rfl rfl ?_
          refine s_field rfl rfl rfl rfl rfl rfl rfl rfl ?_
          refine s_loadP2 1 rfl rfl rfl rfl rfl rfl rfl rfl rfl rfl rfl ?_
          refine s_field rfl rfl rfl rfl rfl rfl rfl rfl ?_
          refine s_loadP2 0 rfl rfl rfl rfl rfl rfl rfl rfl rfl rfl rfl ?_
          refine s_b rfl rfl rfl rfl (op_neqA rfl rfl rfl g23 (eq23 9998 _ _ _ _)) (fun h7 => ?_) (fun h7 => ?_)
          · exact absurd h7 (by simp [twS]) --closed
          · refine s_pick_f rfl rfl rfl rfl rfl rfl rfl ?_
            refine s_move rfl rfl rfl rfl rfl rfl ?_
            refine s_field rfl rfl rfl rfl rfl rfl rfl rfl ?_
            refine s_load1 1 rfl rfl rfl rfl rfl rfl rfl rfl rfl ?_
            refine s_len rfl rfl rfl rfl rfl rfl rfl ?_
            refine s_field rfl rfl rfl rfl rfl rfl rfl rfl ?_
            refine s_load1 0 rfl rfl rfl rfl rfl rfl rfl rfl rfl ?_
            refine s_len rfl rfl rfl rfl rfl rfl rfl ?_
            refine s_cmpS rfl rfl rfl rfl rfl rfl rfl rfl (fun h8 => ?_) (fun h8 => ?_)
            · exact absurd h8 (by simp [twS]) --closed
            · refine s_pick_f rfl rfl rfl rfl rfl rfl rfl ?_
              refine s_move rfl rfl rfl rfl rfl rfl ?_
              refine s_field rfl rfl rfl rfl rfl rfl rfl rfl ?_
              refine s_load1 1 rfl rfl rfl rfl rfl rfl rfl rfl rfl ?_
              refine s_len rfl rfl rfl rfl rfl rfl rfl ?_
              refine s_field rfl rfl rfl rfl rfl rfl rfl rfl ?_
              refine s_load1 0 rfl rfl rfl rfl rfl rfl rfl rfl rfl ?_
              refine s_len rfl rfl rfl rfl rfl rfl rfl ?_
              refine s_cmpS rfl rfl rfl rfl rfl rfl rfl rfl (fun h9 => ?_) (fun h9 => ?_)
              · exact absurd h9 (by simp [twS]) --closed
              · refine s_pick_f rfl rfl rfl rfl rfl rfl rfl ?_
                refine okl_nil ?_
                change OkC Try.prog _ _ _ _ _ _ _
                refine okc_weak (l' := [(0, _), (1, _), (2, _), (3, _), (4, _), (57, _)]) ⟨rfl, rfl, rfl, rfl, rfl, rfl, trivial⟩ ?_
                refine okc_cond_f rfl ?_
                refine okc_skip ?_
                change OkC Try.prog _ _ _ _ _ _ _
                refine okc_weak (l' := [(0, _), (1, _), (2, _), (3, _), (4, _), (57, _)]) ⟨rfl, rfl, rfl, rfl, rfl, rfl, trivial⟩ ?_
                refine okc_seq ?_
                refine okc_seq ?_
                refine okc_region ?_
                refine s_assign rfl rfl rfl rfl rfl rfl ?_
                refine okl_nil ?_
                change OkC Try.prog _ _ _ _ _ _ _
                refine okc_weak (l' := [(0, _), (1, _), (2, _), (3, _), (4, _), (5, _), (57, _)]) ⟨rfl, rfl, rfl, rfl, rfl, rfl, rfl, trivial⟩ ?_
                refine okc_block ?_
                refine okc_loop (γ := Nat) (fun k => [(2, .pointer (some ⟨b1, 0, none⟩)), (3, .pointer (some ⟨b2, 0, none⟩)), (5, .int .i64 k)]) (fun k => [(b2, [.int .i64 s.weeks, .int .i64 s.most, .int .i64 s.fall, .int .i64 s.slo, .int .i64 s.shi, .int .i64 s.wlo, .int .i64 s.whi, .slice s.bp s.book.length s.bc, .slice s.rp s.reads.length s.rc], 27), (b1, [.int .i64 s.weeks, .int .i64 s.most, .int .i64 s.fall, .int .i64 s.slo, .int .i64 s.shi, .int .i64 s.wlo, .int .i64 s.whi, .slice g.p1 s.book.length g.c1, .slice g.p2 s.reads.length g.c2], 27)]) (fun k => k ≤ s.book.length) (fun k => s.book.length - k) 0 (Nat.zero_le _) (fun a w hs => by exact hs.weak ⟨rfl, rfl, rfl, trivial⟩ [0, 1] (by simp) (by rfl)) ?_
                rintro k hk
                refine okc_seq ?_
                refine okc_seq ?_
                refine okc_region ?_
                refine s_move rfl rfl rfl rfl rfl rfl ?_
                refine s_field rfl rfl rfl rfl rfl rfl rfl rfl ?_
                refine s_load1 1 rfl rfl rfl rfl rfl rfl rfl rfl rfl ?_
                refine s_len rfl rfl rfl rfl rfl rfl rfl ?_
                refine s_cmpS rfl rfl rfl rfl rfl rfl rfl rfl (fun h10 => ?_) (fun h10 => ?_)
                · have hlt : k < s.book.length := by simpa using h10
                  obtain ⟨x, hx⟩ : ∃ x, s.book[k]? = some x := ⟨s.book[k], by simp [hlt]⟩
                  obtain ⟨hpP, hjP, hatP⟩ := hP (by intro e; have e2 : s.book = [] := e; simp [e2] at hx)
                  obtain ⟨hpB, hjB, hatB⟩ := hB (by intro e; simp [e] at hx)
                  have hcx := hatP k x hx
                  have hcy := hatB k x hx
                  refine okl_nil ?_
                  change OkC Try.prog _ _ _ _ _ _ _
                  refine okc_weak (l' := [(2, _), (3, _), (5, _), (62, _)]) ⟨rfl, rfl, rfl, rfl, trivial⟩ ?_
                  refine okc_cond_t rfl ?_
                  refine okc_skip ?_
                  change OkC Try.prog _ _ _ _ _ _ _
                  refine okc_weak (l' := [(2, _), (3, _), (5, _), (62, _)]) ⟨rfl, rfl, rfl, rfl, trivial⟩ ?_
                  refine okc_seq ?_
                  refine okc_block ?_
                  refine okc_seq ?_
                  refine dr_start [65, 66, 67, 68, 69, 70, 71, 72, 73, 74, 75] ?_
                  refine d_field [] rfl rfl rfl rfl rfl (fun ν => rfl) rfl (fun ν => rfl) rfl rfl ?_
                  refine d_load1 1 [0] rfl rfl rfl rfl rfl (fun ν => rfl) rfl rfl (fun ν => rfl) (fun ν => rfl) rfl ?_
                  refine d_move [] rfl rfl rfl rfl rfl (fun ν => rfl) rfl (fun ν => rfl) ?_
                  refine d_indexP k hpP [1, 2] rfl rfl rfl rfl rfl (fun ν => rfl) rfl (fun ν => rfl) (fun ν => rfl) rfl rfl rfl (by omega) rfl ?_
                  refine d_loadAP jP [3] rfl rfl rfl rfl rfl (fun ν => rfl) rfl rfl (fun ν => rfl) hjP rfl (by assumption) rfl rfl ?_
                  refine d_field [] rfl rfl rfl rfl rfl (fun ν => rfl) rfl (fun ν => rfl) rfl rfl ?_
                  refine d_load1 0 [5] rfl rfl rfl rfl rfl (fun ν => rfl) rfl rfl (fun ν => rfl) (fun ν => rfl) rfl ?_
                  refine d_move [] rfl rfl rfl rfl rfl (fun ν => rfl) rfl (fun ν => rfl) ?_
                  refine d_indexP k hpB [6, 7] rfl rfl rfl rfl rfl (fun ν => rfl) rfl (fun ν => rfl) (fun ν => rfl) rfl rfl rfl (by omega) rfl ?_
                  refine d_loadAP jB [8] rfl rfl rfl rfl rfl (fun ν => rfl) rfl rfl (fun ν => rfl) hjB rfl (by assumption) rfl rfl ?_
                  refine d_b [4, 9] rfl rfl rfl rfl rfl (fun ν => rfl) (fun ν => op_neqA rfl rfl rfl g76 (eq76 9997 _ _ _ _ _ _ _ _ _ _ )) (fun h12 => ?_) (fun h12 => ?_)
                  · exact absurd h12 (by simp [twS]) --closed
                  · refine dr_end [65, 66, 67, 68, 69, 70, 71, 72, 73, 74, 75] [10] 11 rfl rfl rfl rfl rfl rfl rfl rfl rfl (fun nu11 => ?_)
                    refine okl_nil ?_
                    change OkC Try.prog _ _ _ _ _ _ _
                    refine okc_weak (l' := [(2, _), (3, _), (5, _), (62, _), (75, _)]) ⟨rfl, rfl, rfl, rfl, rfl, trivial⟩ ?_
                    refine okc_cond_f rfl ?_
                    refine okc_skip ?_
                    change OkC Try.prog _ _ _ _ _ _ _
                    refine okc_weak (l' := [(2, _), (3, _), (5, _), (62, _), (75, _)]) ⟨rfl, rfl, rfl, rfl, rfl, trivial⟩ ?_
                    refine okc_region ?_
                    refine s_move rfl rfl rfl rfl rfl rfl ?_
                    refine s_add rfl rfl rfl rfl rfl rfl rfl (by omega) ?_
                    refine s_assign rfl rfl rfl rfl rfl rfl ?_
                    refine okl_nil ?_
                    exact fun a w hs => ⟨k + 1, by omega, by omega, hs.weak ⟨rfl, rfl, rfl, trivial⟩ [0, 1] (by simp) (by rfl)⟩
                · have hge : ¬ k < s.book.length := by simpa using h10
                  refine okl_nil ?_
                  change OkC Try.prog _ _ _ _ _ _ _
                  refine okc_weak (l' := [(2, _), (3, _), (5, _), (62, _)]) ⟨rfl, rfl, rfl, rfl, trivial⟩ ?_
                  refine okc_cond_f rfl ?_
                  refine okc_exit ?_
                  change OkC Try.prog _ _ _ _ _ _ _
                  refine okc_weak (l' := [(2, _), (3, _), (5, _), (62, _)]) ⟨rfl, rfl, rfl, rfl, trivial⟩ ?_
                  refine okc_seq ?_
                  refine okc_seq ?_
                  refine okc_region ?_
                  refine s_assign rfl rfl rfl rfl rfl rfl ?_
                  refine okl_nil ?_
                  change OkC Try.prog _ _ _ _ _ _ _
                  refine okc_weak (l' := [(2, _), (3, _), (5, _), (6, _), (62, _)]) ⟨rfl, rfl, rfl, rfl, rfl, trivial⟩ ?_
                  refine okc_block ?_
                  refine okc_loop (γ := Nat) (fun k => [(2, .pointer (some ⟨b1, 0, none⟩)), (3, .pointer (some ⟨b2, 0, none⟩)), (6, .int .i64 k)]) (fun k => [(b2, [.int .i64 s.weeks, .int .i64 s.most, .int .i64 s.fall, .int .i64 s.slo, .int .i64 s.shi, .int .i64 s.wlo, .int .i64 s.whi, .slice s.bp s.book.length s.bc, .slice s.rp s.reads.length s.rc], 27), (b1, [.int .i64 s.weeks, .int .i64 s.most, .int .i64 s.fall, .int .i64 s.slo, .int .i64 s.shi, .int .i64 s.wlo, .int .i64 s.whi, .slice g.p1 s.book.length g.c1, .slice g.p2 s.reads.length g.c2], 27)]) (fun k => k ≤ s.reads.length) (fun k => s.reads.length - k) 0 (Nat.zero_le _) (fun a w hs => by exact hs.weak ⟨rfl, rfl, rfl, trivial⟩ [0, 1] (by simp) (by rfl)) ?_
                  rintro k hk
                  refine okc_seq ?_
                  refine okc_seq ?_
                  refine okc_region ?_
                  refine s_move rfl rfl rfl rfl rfl rfl ?_
                  refine s_field rfl rfl rfl rfl rfl rfl rfl rfl ?_
                  refine s_load1 1 rfl rfl rfl rfl rfl rfl rfl rfl rfl ?_
                  refine s_len rfl rfl rfl rfl rfl rfl rfl ?_
                  refine s_cmpS rfl rfl rfl rfl rfl rfl rfl rfl (fun h13 => ?_) (fun h13 => ?_)
                  · have hlt : k < s.reads.length := by simpa using h13
                    obtain ⟨x, hx⟩ : ∃ x, s.reads[k]? = some x := ⟨s.reads[k], by simp [hlt]⟩
                    obtain ⟨hpQ, hjQ, hatQ⟩ := hQ (by intro e; have e2 : s.reads = [] := e; simp [e2] at hx)
                    obtain ⟨hpR, hjR, hatR⟩ := hR (by intro e; simp [e] at hx)
                    have hcx := hatQ k x hx
                    have hcy := hatR k x hx
                    refine okl_nil ?_
                    change OkC Try.prog _ _ _ _ _ _ _
                    refine okc_weak (l' := [(2, _), (3, _), (6, _), (80, _)]) ⟨rfl, rfl, rfl, rfl, trivial⟩ ?_
                    refine okc_cond_t rfl ?_
                    refine okc_skip ?_
                    change OkC Try.prog _ _ _ _ _ _ _
                    refine okc_weak (l' := [(2, _), (3, _), (6, _), (80, _)]) ⟨rfl, rfl, rfl, rfl, trivial⟩ ?_
                    refine okc_seq ?_
                    refine okc_block ?_
                    refine okc_seq ?_
                    refine dr_start [83, 84, 85, 86, 87, 88, 89, 90, 91, 92, 93] ?_
                    refine d_field [] rfl rfl rfl rfl rfl (fun ν => rfl) rfl (fun ν => rfl) rfl rfl ?_
                    refine d_load1 1 [0] rfl rfl rfl rfl rfl (fun ν => rfl) rfl rfl (fun ν => rfl) (fun ν => rfl) rfl ?_
                    refine d_move [] rfl rfl rfl rfl rfl (fun ν => rfl) rfl (fun ν => rfl) ?_
                    refine d_indexP k hpQ [1, 2] rfl rfl rfl rfl rfl (fun ν => rfl) rfl (fun ν => rfl) (fun ν => rfl) rfl rfl rfl (by omega) rfl ?_
                    refine d_loadAP jQ [3] rfl rfl rfl rfl rfl (fun ν => rfl) rfl rfl (fun ν => rfl) hjQ rfl (by assumption) rfl rfl ?_
                    refine d_field [] rfl rfl rfl rfl rfl (fun ν => rfl) rfl (fun ν => rfl) rfl rfl ?_
                    refine d_load1 0 [5] rfl rfl rfl rfl rfl (fun ν => rfl) rfl rfl (fun ν => rfl) (fun ν => rfl) rfl ?_
                    refine d_move [] rfl rfl rfl rfl rfl (fun ν => rfl) rfl (fun ν => rfl) ?_
                    refine d_indexP k hpR [6, 7] rfl rfl rfl rfl rfl (fun ν => rfl) rfl (fun ν => rfl) (fun ν => rfl) rfl rfl rfl (by omega) rfl ?_
                    refine d_loadAP jR [8] rfl rfl rfl rfl rfl (fun ν => rfl) rfl rfl (fun ν => rfl) hjR rfl (by assumption) rfl rfl ?_
                    refine d_b [4, 9] rfl rfl rfl rfl rfl (fun ν => rfl) (fun ν => op_neqA rfl rfl rfl g69 (eq69 9997 _ _ _ _ _ _ _ _ _ _ )) (fun h15 => ?_) (fun h15 => ?_)
                    · exact absurd h15 (by simp [twS]) --closed
                    · refine dr_end [83, 84, 85, 86, 87, 88, 89, 90, 91, 92, 93] [10] 11 rfl rfl rfl rfl rfl rfl rfl rfl rfl (fun nu14 => ?_)
                      refine okl_nil ?_
                      change OkC Try.prog _ _ _ _ _ _ _
                      refine okc_weak (l' := [(2, _), (3, _), (6, _), (80, _), (93, _)]) ⟨rfl, rfl, rfl, rfl, rfl, trivial⟩ ?_
                      refine okc_cond_f rfl ?_
                      refine okc_skip ?_
                      change OkC Try.prog _ _ _ _ _ _ _
                      refine okc_weak (l' := [(2, _), (3, _), (6, _), (80, _), (93, _)]) ⟨rfl, rfl, rfl, rfl, rfl, trivial⟩ ?_
                      refine okc_region ?_
                      refine s_move rfl rfl rfl rfl rfl rfl ?_
                      refine s_add rfl rfl rfl rfl rfl rfl rfl (by omega) ?_
                      refine s_assign rfl rfl rfl rfl rfl rfl ?_
                      refine okl_nil ?_
                      exact fun a w hs => ⟨k + 1, by omega, by omega, hs.weak ⟨rfl, rfl, rfl, trivial⟩ [0, 1] (by simp) (by rfl)⟩
                  · have hge : ¬ k < s.reads.length := by simpa using h13
                    refine okl_nil ?_
                    change OkC Try.prog _ _ _ _ _ _ _
                    refine okc_weak (l' := [(2, _), (3, _), (6, _), (80, _)]) ⟨rfl, rfl, rfl, rfl, trivial⟩ ?_
                    refine okc_cond_f rfl ?_
                    refine okc_exit ?_
                    change OkC Try.prog _ _ _ _ _ _ _
                    refine okc_weak (l' := [(2, _), (3, _), (6, _), (80, _)]) ⟨rfl, rfl, rfl, rfl, trivial⟩ ?_
                    refine okc_seq ?_
                    refine okc_region ?_
                    refine s_assign rfl rfl rfl rfl rfl rfl ?_
                    refine okl_nil ?_
                    change OkC Try.prog _ _ _ _ _ _ _
                    refine okc_weak (l' := [(2, _), (3, _), (4, _), (6, _), (80, _)]) ⟨rfl, rfl, rfl, rfl, rfl, trivial⟩ ?_
                    refine okc_ret fun a w hs => ?_
                    exact ret_v hs (run_results1 hs rfl (rv_tmp rfl)) (rfl)

end Go.Proofs.Ytdpnadknaacinaa
end

section
namespace Go.Proofs.Ytdpnadknaacinaa
open Go.Sx Go.Proofs.Ytdpnadknaacinaa.Ty
set_option linter.unusedVariables false
set_option maxHeartbeats 2000000


theorem begin_nil (s : Sp) : beginS s qz [] = ckS s := by unfold beginS ckS askN; rfl
theorem Check_fn (s : Sp) (M : Args) (hin : s.In M) : Cn Try.prog 26 [spV s] M (fun _ : Unit => .int .i64 (ckS s)) (fun _ => []) (fun _ => True) := by
  by_cases hb : beginS s qz [] = 0
  · have h := Check_ok s M hin hb
    rw [← begin_nil, hb]; exact h
  · rw [← begin_nil]; exact Check_no s M hin hb
theorem Can_fn (s : Sp) (M : Args) (hin : s.In M) : Cn Try.prog 18 [spV s] M (fun _ : Unit => .tuple #[.bool (cnS s), .int .i64 (ckS s)]) (fun _ => []) (fun _ => True) := by
  by_cases hb : beginS s qz [] = 0
  · have h := Can_ok s M hin hb
    rw [← begin_nil, hb]
    rw [show cnS s = canS s from if_pos (begin_valid hb)]
    exact h
  · rw [← begin_nil]
    have h := Can_no s M hin hb
    rw [show cnS s = false from if_neg (fun hv => hb (by rw [begin_nil, ckS, if_pos hv]))]
    exact h
theorem begin4 (s : Sp) : beginS s qz [4] = erS s 0 := by
  by_cases hv : validB s = true
  · have hs0 := ok_of_valid hv
    obtain ⟨w1, w2, _⟩ := hs0.ok
    have hw : isWeekB s.weeks 0 = true := by simp [isWeekB, inS]; omega
    by_cases hc : canS s = true
    · rw [er0 hv hw hc]
      have : askB s qz (4 : Int).toNat = true := hc
      simp only [beginS, hv, if_true, askN, this]
    · have hc' : canS s = false := by simpa using hc
      rw [er8 hv hw hc']
      have : askB s qz (4 : Int).toNat = false := hc'
      simp only [beginS, hv, if_true, askN, this]; rfl
  · have hv' : validB s = false := by simpa using hv
    rw [er10 hv']; simp [beginS, hv']
theorem rn_tl (s : Sp) : rnS s = tlS s 0 := by unfold rnS tlS; rw [begin4]
theorem argsOf_mem {B : Blks} {b : Nat} {cs : List Value} {T : TypeId} (h : (b, cs, T) ∈ B) : ∃ j : Nat, (argsOf B)[j]? = some (b, cs) := List.mem_iff_getElem?.1 (mem_argsOf.2 ⟨T, h⟩)
theorem twin_in {s : Sp} {M : Args} {g : Rn2} (hin : s.In M) (h : TwOk s g) : (twS s g).In (argsOf (g.B1 ++ g.B2)) := by
  obtain ⟨h1, h2⟩ := h
  refine ⟨?_, ?_, hin.bn, hin.rn⟩
  · by_cases hn : s.book = []
    · exact ⟨0, 0, [], 0, fun hne => absurd hn hne⟩
    · obtain ⟨b, cs, hp, hB, ht⟩ := sl_pos h1 (by rcases hb : s.book with _ | _; exact absurd hb hn; simp)
      obtain ⟨j, hj⟩ := argsOf_mem (B := g.B1 ++ g.B2) (b := b) (cs := cs) (T := 76) (by simp [hB])
      refine ⟨b, 0, cs, j, fun _ => ⟨hp, hj, fun k x hx => ?_⟩⟩
      have hk : k < s.book.length := by
        rcases Nat.lt_or_ge k s.book.length with h | h
        · exact h
        · have hx' : s.book[k]? = some x := hx
          rw [List.getElem?_eq_none h] at hx'; cases hx'
      rw [Nat.zero_add, sub_take hk, ht]
      exact rows_at (f := lnL) (fun _ => rfl) hx
  · by_cases hn : s.reads = []
    · exact ⟨0, 0, [], 0, fun hne => absurd hn hne⟩
    · obtain ⟨b, cs, hp, hB, ht⟩ := sl_pos h2 (by rcases hb : s.reads with _ | _; exact absurd hb hn; simp)
      obtain ⟨j, hj⟩ := argsOf_mem (B := g.B1 ++ g.B2) (b := b) (cs := cs) (T := 69) (by simp [hB])
      refine ⟨b, 0, cs, j, fun _ => ⟨hp, hj, fun k x hx => ?_⟩⟩
      have hk : k < s.reads.length := by
        rcases Nat.lt_or_ge k s.reads.length with h | h
        · exact h
        · have hx' : s.reads[k]? = some x := hx
          rw [List.getElem?_eq_none h] at hx'; cases hx'
      rw [Nat.zero_add, sub_take hk, ht]
      exact rows_at (f := rdL) (fun _ => rfl) hx
theorem ints_in {B B' : Blks} {p : Option Addr} {c : Nat} {L : List Int} (h : Sl B 3 1 p L.length c (ints L)) (hB : ∀ x ∈ B, x ∈ B') (hl : L.length ≤ 1000000000) : IntsIn (argsOf B') p L := by
  refine ⟨hl, ?_⟩
  by_cases hn : L = []
  · exact ⟨0, 0, [], 0, fun hne => absurd hn hne⟩
  · obtain ⟨b, cs, hp, hBe, ht⟩ := sl_pos h (by rcases hb : L with _ | _; exact absurd hb hn; simp)
    obtain ⟨j, hj⟩ := argsOf_mem (B := B') (b := b) (cs := cs) (T := 3) (hB _ (by simp [hBe]))
    refine ⟨b, 0, cs, j, fun _ => ⟨hp, hj, fun k x hx => ?_⟩⟩
    have hk : k < L.length := by
      rcases Nat.lt_or_ge k L.length with h | h
      · exact h
      · rw [List.getElem?_eq_none h] at hx; cases hx
    have h1 : (ints L)[k]? = some (.int .i64 x) := by simp [ints, hx]
    rw [← ht, List.getElem?_take] at h1
    rw [if_pos (by omega)] at h1
    rw [Nat.zero_add, Nat.mul_one]; exact h1
theorem tl_len (s : Sp) (w : Int) : (tlS s w).length ≤ 1000000000 := by
  unfold tlS
  split
  · rename_i h
    have := rains_len (ok_of_valid (er_ok h).1); omega
  · simp
theorem Sp.In.mono {M M' : Args} {s : Sp} (h : s.In M) (hM : ∀ x ∈ M, x ∈ M') : s.In M' := by
  obtain ⟨⟨b, off, cs, j, h1⟩, ⟨b', off', cs', j', h2⟩, h3, h4⟩ := h
  refine ⟨?_, ?_, h3, h4⟩
  · by_cases hn : s.book = []
    · exact ⟨0, 0, [], 0, fun hne => absurd hn hne⟩
    · obtain ⟨g1, g2, g3⟩ := h1 hn
      obtain ⟨i, hi⟩ := List.mem_iff_getElem?.1 (hM _ (List.mem_of_getElem? g2))
      exact ⟨b, off, cs, i, fun _ => ⟨g1, hi, g3⟩⟩
  · by_cases hn : s.reads = []
    · exact ⟨0, 0, [], 0, fun hne => absurd hn hne⟩
    · obtain ⟨g1, g2, g3⟩ := h2 hn
      obtain ⟨i, hi⟩ := List.mem_iff_getElem?.1 (hM _ (List.mem_of_getElem? g2))
      exact ⟨b', off', cs', i, fun _ => ⟨g1, hi, g3⟩⟩

theorem tells_fn (s : Sp) (M : Args) (hin : s.In M) (w need : Int) : Cn Try.prog 3 [spV s, .int .i64 w, .int .i64 need] M (fun _ : Unit => .bool true) (fun _ => []) (fun _ => True) := by
  refine fn_intro (N := 124) Try.func3 rfl rfl rfl fun w0 => ?_
  refine okc_seq ?_
  refine okc_region ?_
  refine s_boxA rfl rfl rfl rfl rfl rfl (fun b1 => ?_)
  refine s_assign rfl rfl rfl rfl rfl rfl ?_
  refine okl_nil ?_
  change OkC Try.prog _ _ _ _ _ _ _
  refine okc_weak (l' := [(0, _), (1, _), (2, _), (3, _), (6, _)]) ⟨rfl, rfl, rfl, rfl, rfl, trivial⟩ ?_
  refine okc_seq ?_
  refine okc_seq ?_
  refine okc_region ?_
  refine s_loadW 0 rfl rfl rfl rfl rfl rfl rfl rfl rfl rfl ?_
  refine s_callb rfl rfl rfl rfl rfl rfl rfl c16 (great_fn s) covers_nil (fun h2 => ?_) (fun h2 => ?_)
  · refine okl_nil ?_
    change OkC Try.prog _ _ _ _ _ _ _
    refine okc_weak (l' := [(0, _), (1, _), (2, _), (3, _), (6, _), (25, _)]) ⟨rfl, rfl, rfl, rfl, rfl, rfl, trivial⟩ ?_
    refine okc_cond_t rfl ?_
    refine okc_seq ?_
    refine okc_region ?_
    refine s_assign rfl rfl rfl rfl rfl rfl ?_
    refine okl_nil ?_
    change OkC Try.prog _ _ _ _ _ _ _
    refine okc_weak (l' := [(0, _), (1, _), (2, _), (3, _), (6, _), (25, _)]) ⟨rfl, rfl, rfl, rfl, rfl, rfl, trivial⟩ ?_
    refine okc_ret fun a w hs => ?_
    exact ret_v hs (run_results1 hs rfl (rv_tmp rfl)) (rfl)
  · have hgr : s.book.length ≤ 30 ∧ s.reads.length ≤ 30 := by have hq := h2; simp [greatB] at hq; omega
    refine okl_nil ?_
    change OkC Try.prog _ _ _ _ _ _ _
    refine okc_weak (l' := [(0, _), (1, _), (2, _), (3, _), (6, _), (25, _)]) ⟨rfl, rfl, rfl, rfl, rfl, rfl, trivial⟩ ?_
    refine okc_cond_f rfl ?_
    refine okc_skip ?_
    change OkC Try.prog _ _ _ _ _ _ _
    refine okc_weak (l' := [(0, _), (1, _), (2, _), (3, _), (6, _), (25, _)]) ⟨rfl, rfl, rfl, rfl, rfl, rfl, trivial⟩ ?_
    refine okc_seq ?_
    refine okc_region ?_
    refine s_loadW 0 rfl rfl rfl rfl rfl rfl rfl rfl rfl rfl ?_
    refine okl_rE rfl rfl rfl rfl (op_call rfl rfl rfl c17 (twin_fn s M hin hgr) covers_all) (fun g hg => ?_)
    have hown := twin_in hin hg
    have hCan : Cn Try.prog 18 [spV (twS s g)] (argsOf (g.B1 ++ g.B2)) (fun _ : Unit => .tuple #[.bool (cnS s), .int .i64 (ckS s)]) (fun _ => []) (fun _ => True) := Can_fn (twS s g) _ hown
    have hRains : Cn Try.prog 20 [spV (twS s g)] (argsOf (g.B1 ++ g.B2)) (fun h : SlG => .tuple #[.slice h.p (tlS s 0).length h.c, .int .i64 (erS s 0)]) (fun h => h.B) (fun h => Sl h.B 3 1 h.p (tlS s 0).length h.c (ints (tlS s 0))) := by have h := Rains_fn (twS s g) _ hown; rw [rn_tl, begin4] at h; exact h
    have hGives : Cn Try.prog 22 [spV (twS s g), .int .i64 w] (argsOf (g.B1 ++ g.B2)) (fun _ : Unit => .tuple #[.agg #[.int .i64 (gE s w).1, .int .i64 (gE s w).2], .int .i64 (erS s w)]) (fun _ => []) (fun _ => True) := Gives_fn (twS s g) _ hown w
    have hKnown : Cn Try.prog 24 [spV (twS s g), .int .i64 w, .int .i64 need] (argsOf (g.B1 ++ g.B2)) (fun _ : Unit => .tuple #[.int .u8 (knS s w need), .int .i64 (erS s w)]) (fun _ => []) (fun _ => True) := Known_fn (twS s g) _ hown w need
    have hCheck : Cn Try.prog 26 [spV (twS s g)] (argsOf (g.B1 ++ g.B2)) (fun _ : Unit => .int .i64 (ckS s)) (fun _ => []) (fun _ => True) := Check_fn (twS s g) _ hown
    refine s_alloc rfl rfl rfl rfl rfl rfl (fun b3 => ?_)
    refine k_storeW 0 rfl rfl rfl rfl rfl rfl rfl rfl rfl rfl rfl rfl ?_
    refine okl_nil ?_
    change OkC Try.prog _ _ _ _ _ _ _
    refine okc_weak (l' := [(0, _), (1, _), (2, _), (3, _), (6, _), (7, _), (25, _)]) ⟨rfl, rfl, rfl, rfl, rfl, rfl, rfl, trivial⟩ ?_
    refine okc_seq ?_
    refine okc_region ?_
    refine s_loadW 0 rfl rfl rfl rfl rfl rfl rfl rfl rfl rfl ?_
    refine s_callv rfl rfl rfl rfl rfl rfl rfl c18 (hCan) (covers_grp fun x hx => by simp only [List.mem_append, List.mem_cons, List.append_assoc] at hx ⊢; rcases hx with hx | hx <;> simp [hx]) ?_
    refine s_move rfl rfl rfl rfl rfl rfl ?_
    refine s_extract rfl rfl rfl rfl rfl rfl rfl ?_
    refine s_extract rfl rfl rfl rfl rfl rfl rfl ?_
    refine s_assign rfl rfl rfl rfl rfl rfl ?_
    refine s_assign rfl rfl rfl rfl rfl rfl ?_
    refine okl_nil ?_
    change OkC Try.prog _ _ _ _ _ _ _
    refine okc_weak (l' := [(0, _), (1, _), (2, _), (3, _), (6, _), (7, _), (8, _), (9, _), (25, _)]) ⟨rfl, rfl, rfl, rfl, rfl, rfl, rfl, rfl, rfl, trivial⟩ ?_
    refine okc_seq ?_
    refine okc_region ?_
    refine s_loadW 1 rfl rfl rfl rfl rfl rfl rfl rfl rfl rfl ?_
    refine s_callv rfl rfl rfl rfl rfl rfl rfl c19 (rCan_fn s M hin) covers_all ?_
    refine s_move rfl rfl rfl rfl rfl rfl ?_
    refine s_extract rfl rfl rfl rfl rfl rfl rfl ?_
    refine s_extract rfl rfl rfl rfl rfl rfl rfl ?_
    refine s_assign rfl rfl rfl rfl rfl rfl ?_
    refine s_assign rfl rfl rfl rfl rfl rfl ?_
    refine okl_nil ?_
    change OkC Try.prog _ _ _ _ _ _ _
    refine okc_weak (l' := [(0, _), (1, _), (2, _), (3, _), (6, _), (7, _), (8, _), (9, _), (10, _), (11, _), (25, _)]) ⟨rfl, rfl, rfl, rfl, rfl, rfl, rfl, rfl, rfl, rfl, rfl, trivial⟩ ?_
    refine okc_seq ?_
    refine okc_region ?_
    refine s_loadW 0 rfl rfl rfl rfl rfl rfl rfl rfl rfl rfl ?_
    refine okl_rE rfl rfl rfl rfl (op_call rfl rfl rfl c20 (hRains) (covers_grp fun x hx => by simp only [List.mem_append, List.mem_cons, List.append_assoc] at hx ⊢; rcases hx with hx | hx <;> simp [hx])) (fun gl hgl => ?_)
    refine s_move rfl rfl rfl rfl rfl rfl ?_
    refine s_extract rfl rfl rfl rfl rfl rfl rfl ?_
    refine s_extract rfl rfl rfl rfl rfl rfl rfl ?_
    refine s_assign rfl rfl rfl rfl rfl rfl ?_
    refine s_assign rfl rfl rfl rfl rfl rfl ?_
    refine okl_nil ?_
    change OkC Try.prog _ _ _ _ _ _ _
    refine okc_weak (l' := [(0, _), (1, _), (2, _), (3, _), (6, _), (7, _), (8, _), (9, _), (10, _), (11, _), (12, _), (13, _), (25, _)]) ⟨rfl, rfl, rfl, rfl, rfl, rfl, rfl, rfl, rfl, rfl, rfl, rfl, rfl, trivial⟩ ?_
    refine okc_seq ?_
    refine okc_region ?_
    refine s_loadW 1 rfl rfl rfl rfl rfl rfl rfl rfl rfl rfl ?_
    refine okl_rE rfl rfl rfl rfl (op_call rfl rfl rfl c21 (rRains_fn s M hin) covers_all) (fun gm hgm => ?_)
    refine s_move rfl rfl rfl rfl rfl rfl ?_
    refine s_extract rfl rfl rfl rfl rfl rfl rfl ?_
    refine s_extract rfl rfl rfl rfl rfl rfl rfl ?_
    refine s_assign rfl rfl rfl rfl rfl rfl ?_
    refine s_assign rfl rfl rfl rfl rfl rfl ?_
    refine okl_nil ?_
    change OkC Try.prog _ _ _ _ _ _ _
    refine okc_weak (l' := [(0, _), (1, _), (2, _), (3, _), (6, _), (7, _), (8, _), (9, _), (10, _), (11, _), (12, _), (13, _), (14, _), (15, _), (25, _)]) ⟨rfl, rfl, rfl, rfl, rfl, rfl, rfl, rfl, rfl, rfl, rfl, rfl, rfl, rfl, rfl, trivial⟩ ?_
    refine okc_seq ?_
    refine okc_region ?_
    refine s_loadW 0 rfl rfl rfl rfl rfl rfl rfl rfl rfl rfl ?_
    refine s_move rfl rfl rfl rfl rfl rfl ?_
    refine s_callv rfl rfl rfl rfl rfl rfl rfl c22 (hGives) (covers_grp fun x hx => by simp only [List.mem_append, List.mem_cons, List.append_assoc] at hx ⊢; rcases hx with hx | hx <;> simp [hx]) ?_
    refine s_move rfl rfl rfl rfl rfl rfl ?_
    refine s_extract rfl rfl rfl rfl rfl rfl rfl ?_
    refine s_extract rfl rfl rfl rfl rfl rfl rfl ?_
    refine s_alloc rfl rfl rfl rfl rfl rfl (fun b4 => ?_)
    refine k_storeW 0 rfl rfl rfl rfl rfl rfl rfl rfl rfl rfl rfl rfl ?_
    refine s_assign rfl rfl rfl rfl rfl rfl ?_
    refine okl_nil ?_
    change OkC Try.prog _ _ _ _ _ _ _
    refine okc_weak (l' := [(0, _), (1, _), (2, _), (3, _), (6, _), (7, _), (8, _), (9, _), (10, _), (11, _), (12, _), (13, _), (14, _), (15, _), (16, _), (17, _), (25, _)]) ⟨rfl, rfl, rfl, rfl, rfl, rfl, rfl, rfl, rfl, rfl, rfl, rfl, rfl, rfl, rfl, rfl, rfl, trivial⟩ ?_
    refine okc_seq ?_
    refine okc_region ?_
    refine s_loadW 2 rfl rfl rfl rfl rfl rfl rfl rfl rfl rfl ?_
    refine s_move rfl rfl rfl rfl rfl rfl ?_
    refine s_callv rfl rfl rfl rfl rfl rfl rfl c23 (rGives_fn s M hin w) covers_all ?_
    refine s_move rfl rfl rfl rfl rfl rfl ?_
    refine s_extract rfl rfl rfl rfl rfl rfl rfl ?_
    refine s_extract rfl rfl rfl rfl rfl rfl rfl ?_
    refine s_alloc rfl rfl rfl rfl rfl rfl (fun b5 => ?_)
    refine k_storeW 0 rfl rfl rfl rfl rfl rfl rfl rfl rfl rfl rfl rfl ?_
    refine s_assign rfl rfl rfl rfl rfl rfl ?_
    refine okl_nil ?_
    change OkC Try.prog _ _ _ _ _ _ _
    refine okc_weak (l' := [(0, _), (1, _), (2, _), (3, _), (6, _), (7, _), (8, _), (9, _), (10, _), (11, _), (12, _), (13, _), (14, _), (15, _), (16, _), (17, _), (18, _), (19, _), (25, _)]) ⟨rfl, rfl, rfl, rfl, rfl, rfl, rfl, rfl, rfl, rfl, rfl, rfl, rfl, rfl, rfl, rfl, rfl, rfl, rfl, trivial⟩ ?_
    refine okc_seq ?_
    refine okc_region ?_
    refine s_loadW 2 rfl rfl rfl rfl rfl rfl rfl rfl rfl rfl ?_
    refine s_move rfl rfl rfl rfl rfl rfl ?_
    refine s_move rfl rfl rfl rfl rfl rfl ?_
    refine s_callv rfl rfl rfl rfl rfl rfl rfl c24 (hKnown) (covers_grp fun x hx => by simp only [List.mem_append, List.mem_cons, List.append_assoc] at hx ⊢; rcases hx with hx | hx <;> simp [hx]) ?_
    refine s_move rfl rfl rfl rfl rfl rfl ?_
    refine s_extract rfl rfl rfl rfl rfl rfl rfl ?_
    refine s_extract rfl rfl rfl rfl rfl rfl rfl ?_
    refine s_assign rfl rfl rfl rfl rfl rfl ?_
    refine s_assign rfl rfl rfl rfl rfl rfl ?_
    refine okl_nil ?_
    change OkC Try.prog _ _ _ _ _ _ _
    refine okc_weak (l' := [(0, _), (1, _), (2, _), (3, _), (6, _), (7, _), (8, _), (9, _), (10, _), (11, _), (12, _), (13, _), (14, _), (15, _), (16, _), (17, _), (18, _), (19, _), (20, _), (21, _), (25, _)]) ⟨rfl, rfl, rfl, rfl, rfl, rfl, rfl, rfl, rfl, rfl, rfl, rfl, rfl, rfl, rfl, rfl, rfl, rfl, rfl, rfl, rfl, trivial⟩ ?_
    refine okc_seq ?_
    refine okc_region ?_
    refine s_loadW 3 rfl rfl rfl rfl rfl rfl rfl rfl rfl rfl ?_
    refine s_move rfl rfl rfl rfl rfl rfl ?_
    refine s_move rfl rfl rfl rfl rfl rfl ?_
    refine s_callv rfl rfl rfl rfl rfl rfl rfl c25 (rKnown_fn s M hin w need) covers_all ?_
    refine s_move rfl rfl rfl rfl rfl rfl ?_
    refine s_extract rfl rfl rfl rfl rfl rfl rfl ?_
    refine s_extract rfl rfl rfl rfl rfl rfl rfl ?_
    refine s_assign rfl rfl rfl rfl rfl rfl ?_
    refine s_assign rfl rfl rfl rfl rfl rfl ?_
    refine okl_nil ?_
    change OkC Try.prog _ _ _ _ _ _ _
    refine okc_weak (l' := [(0, _), (1, _), (2, _), (3, _), (6, _), (7, _), (8, _), (9, _), (10, _), (11, _), (12, _), (13, _), (14, _), (15, _), (16, _), (17, _), (18, _), (19, _), (20, _), (21, _), (22, _), (23, _), (25, _)]) ⟨rfl, rfl, rfl, rfl, rfl, rfl, rfl, rfl, rfl, rfl, rfl, rfl, rfl, rfl, rfl, rfl, rfl, rfl, rfl, rfl, rfl, rfl, rfl, trivial⟩ ?_
    refine okc_seq ?_
    refine dr_start [74, 75, 76, 77, 78, 79, 80, 81, 82, 83, 84, 85, 86, 87, 88, 89, 90, 91, 92, 93, 94, 95, 96, 97, 98, 99, 100, 101, 102, 103, 104, 105, 106, 107, 108, 109, 110, 111, 112, 113, 114, 115, 116, 117, 118, 119, 120, 121, 122, 123, 6] ?_
    refine d_loadW 2 [] rfl rfl rfl rfl rfl (fun ν => rfl) rfl rfl (fun ν => rfl) (fun ν => rfl) rfl rfl ?_
    refine d_callv [0] rfl rfl rfl rfl rfl (fun ν => rfl) rfl (fun ν => rfl) (fun ν => rfl) c26 (fun ν => hCheck) (fun ν => (covers_grp fun x hx => by simp only [List.mem_append, List.mem_cons, List.append_assoc] at hx ⊢; rcases hx with hx | hx <;> simp [hx])) ?_
    refine d_loadW 3 [] rfl rfl rfl rfl rfl (fun ν => rfl) rfl rfl (fun ν => rfl) (fun ν => rfl) rfl rfl ?_
    refine d_callv [2] rfl rfl rfl rfl rfl (fun ν => rfl) rfl (fun ν => rfl) (fun ν => rfl) c27 (fun ν => rCheck_fn s M hin) (fun ν => covers_all) ?_
    refine d_cmpS [1, 3] rfl rfl rfl rfl rfl (fun ν => rfl) rfl (fun ν => rfl) (fun ν => rfl) rfl (fun h7 => ?_) (fun h7 => ?_)
    · refine d_move [4] rfl rfl rfl rfl rfl (fun ν => rfl) rfl (fun ν => rfl) ?_
      refine d_move [5] rfl rfl rfl rfl rfl (fun ν => rfl) rfl (fun ν => rfl) ?_
      refine d_move [5] rfl rfl rfl rfl rfl (fun ν => rfl) rfl (fun ν => rfl) ?_
      refine d_b [6, 7, 5] rfl rfl rfl rfl rfl (fun ν => rfl) (fun ν => op_eqlB rfl rfl rfl bool4) (fun h8 => ?_) (fun h8 => ?_)
      · refine d_pick_t [5, 8] rfl rfl rfl rfl rfl (fun ν => rfl) rfl (fun ν => rfl) (fun ν => rfl) ?_
        refine d_move [9] rfl rfl rfl rfl rfl (fun ν => rfl) rfl (fun ν => rfl) ?_
        refine d_move [10] rfl rfl rfl rfl rfl (fun ν => rfl) rfl (fun ν => rfl) ?_
        refine d_move [10] rfl rfl rfl rfl rfl (fun ν => rfl) rfl (fun ν => rfl) ?_
        refine d_cmpS [11, 12, 10] rfl rfl rfl rfl rfl (fun ν => rfl) rfl (fun ν => rfl) (fun ν => rfl) rfl (fun h9 => ?_) (fun h9 => ?_)
        · refine d_pick_t [10, 13] rfl rfl rfl rfl rfl (fun ν => rfl) rfl (fun ν => rfl) (fun ν => rfl) ?_
          refine d_move [14] rfl rfl rfl rfl rfl (fun ν => rfl) rfl (fun ν => rfl) ?_
          refine d_move [15] rfl rfl rfl rfl rfl (fun ν => rfl) rfl (fun ν => rfl) ?_
          refine d_move [15] rfl rfl rfl rfl rfl (fun ν => rfl) rfl (fun ν => rfl) ?_
          refine d_callb [16, 17, 15] rfl rfl rfl rfl rfl (fun ν => rfl) rfl (fun ν => rfl) (fun ν => rfl) c28 (fun ν => sameInts_fn (argsOf (gl.B ++ gm.B)) _ _ _ _ _ _ (ints_in hgl (by simp +contextual) (tl_len s 0)) (ints_in hgm (by simp +contextual) (tl_len s 0))) (fun ν => (covers_grp fun x hx => by simp only [List.mem_append, List.mem_cons, List.append_assoc] at hx ⊢; rcases hx with hx | hx <;> simp [hx])) (fun h10 => ?_) (fun h10 => ?_)
          · refine d_pick_t [15, 18] rfl rfl rfl rfl rfl (fun ν => rfl) rfl (fun ν => rfl) (fun ν => rfl) ?_
            refine d_move [19] rfl rfl rfl rfl rfl (fun ν => rfl) rfl (fun ν => rfl) ?_
            refine d_move [20] rfl rfl rfl rfl rfl (fun ν => rfl) rfl (fun ν => rfl) ?_
            refine d_move [20] rfl rfl rfl rfl rfl (fun ν => rfl) rfl (fun ν => rfl) ?_
            refine d_cmpS [21, 22, 20] rfl rfl rfl rfl rfl (fun ν => rfl) rfl (fun ν => rfl) (fun ν => rfl) rfl (fun h11 => ?_) (fun h11 => ?_)
            · refine d_pick_t [20, 23] rfl rfl rfl rfl rfl (fun ν => rfl) rfl (fun ν => rfl) (fun ν => rfl) ?_
              refine d_move [24] rfl rfl rfl rfl rfl (fun ν => rfl) rfl (fun ν => rfl) ?_
              refine d_loadW 1 [25] rfl rfl rfl rfl rfl (fun ν => rfl) rfl rfl (fun ν => rfl) (fun ν => rfl) rfl rfl ?_
              refine d_loadW 0 [25] rfl rfl rfl rfl rfl (fun ν => rfl) rfl rfl (fun ν => rfl) (fun ν => rfl) rfl rfl ?_
              refine d_b [26, 27, 25] rfl rfl rfl rfl rfl (fun ν => rfl) (fun ν => op_eqlA rfl rfl rfl g23 (eq23 9998 _ _ _ _)) (fun h12 => ?_) (fun h12 => ?_)
              · refine d_pick_t [25, 28] rfl rfl rfl rfl rfl (fun ν => rfl) rfl (fun ν => rfl) (fun ν => rfl) ?_
                refine d_move [29] rfl rfl rfl rfl rfl (fun ν => rfl) rfl (fun ν => rfl) ?_
                refine d_move [30] rfl rfl rfl rfl rfl (fun ν => rfl) rfl (fun ν => rfl) ?_
                refine d_move [30] rfl rfl rfl rfl rfl (fun ν => rfl) rfl (fun ν => rfl) ?_
                refine d_cmpS [31, 32, 30] rfl rfl rfl rfl rfl (fun ν => rfl) rfl (fun ν => rfl) (fun ν => rfl) rfl (fun h13 => ?_) (fun h13 => ?_)
                · refine d_pick_t [30, 33] rfl rfl rfl rfl rfl (fun ν => rfl) rfl (fun ν => rfl) (fun ν => rfl) ?_
                  refine d_move [34] rfl rfl rfl rfl rfl (fun ν => rfl) rfl (fun ν => rfl) ?_
                  refine d_move [35] rfl rfl rfl rfl rfl (fun ν => rfl) rfl (fun ν => rfl) ?_
                  refine d_move [35] rfl rfl rfl rfl rfl (fun ν => rfl) rfl (fun ν => rfl) ?_
                  refine d_cmpS [36, 37, 35] rfl rfl rfl rfl rfl (fun ν => rfl) rfl (fun ν => rfl) (fun ν => rfl) rfl (fun h14 => ?_) (fun h14 => ?_)
                  · refine d_pick_t [35, 38] rfl rfl rfl rfl rfl (fun ν => rfl) rfl (fun ν => rfl) (fun ν => rfl) ?_
                    refine d_move [39] rfl rfl rfl rfl rfl (fun ν => rfl) rfl (fun ν => rfl) ?_
                    refine d_move [40] rfl rfl rfl rfl rfl (fun ν => rfl) rfl (fun ν => rfl) ?_
                    refine d_move [40] rfl rfl rfl rfl rfl (fun ν => rfl) rfl (fun ν => rfl) ?_
                    refine d_cmpS [41, 42, 40] rfl rfl rfl rfl rfl (fun ν => rfl) rfl (fun ν => rfl) (fun ν => rfl) rfl (fun h15 => ?_) (fun h15 => ?_)
                    · refine d_pick_t [40, 43] rfl rfl rfl rfl rfl (fun ν => rfl) rfl (fun ν => rfl) (fun ν => rfl) ?_
                      refine d_move [44] rfl rfl rfl rfl rfl (fun ν => rfl) rfl (fun ν => rfl) ?_
                      refine d_loadW 2 [45] rfl rfl rfl rfl rfl (fun ν => rfl) rfl rfl (fun ν => rfl) (fun ν => rfl) rfl rfl ?_
                      refine d_loadW 3 [45] rfl rfl rfl rfl rfl (fun ν => rfl) rfl rfl (fun ν => rfl) (fun ν => rfl) rfl rfl ?_
                      refine d_callv [46, 47, 45] rfl rfl rfl rfl rfl (fun ν => rfl) rfl (fun ν => rfl) (fun ν => rfl) c29 (fun ν => same_fn s (argsOf (g.B1 ++ g.B2) ++ M) g (hin.mono (by simp +contextual)) (hown.mono (by simp +contextual))) (fun ν => (covers_two (covers_grp fun x hx => by simp only [List.mem_append, List.mem_cons, List.append_assoc] at hx ⊢; rcases hx with hx | hx <;> simp [hx]) covers_all)) ?_
                      refine d_pick_t [45, 48] rfl rfl rfl rfl rfl (fun ν => rfl) rfl (fun ν => rfl) (fun ν => rfl) ?_
                      refine d_assign [49] rfl rfl rfl rfl rfl (fun ν => rfl) rfl (fun ν => rfl) ?_
                      refine dr_end [74, 75, 76, 77, 78, 79, 80, 81, 82, 83, 84, 85, 86, 87, 88, 89, 90, 91, 92, 93, 94, 95, 96, 97, 98, 99, 100, 101, 102, 103, 104, 105, 106, 107, 108, 109, 110, 111, 112, 113, 114, 115, 116, 117, 118, 119, 120, 121, 122, 123, 6] [50] 51 rfl rfl rfl rfl rfl rfl rfl rfl rfl (fun nu6 => ?_)
                      refine okl_nil ?_
                      change OkC Try.prog _ _ _ _ _ _ _
                      refine okc_weak (l' := [(0, _), (1, _), (2, _), (3, _), (6, _), (7, _), (8, _), (9, _), (10, _), (11, _), (12, _), (13, _), (14, _), (15, _), (16, _), (17, _), (18, _), (19, _), (20, _), (21, _), (22, _), (23, _), (25, _)]) ⟨rfl, rfl, rfl, rfl, rfl, rfl, rfl, rfl, rfl, rfl, rfl, rfl, rfl, rfl, rfl, rfl, rfl, rfl, rfl, rfl, rfl, rfl, rfl, trivial⟩ ?_
                      refine okc_ret fun a w hs => ?_
                      exact ret_v hs (run_results1 hs rfl (rv_tmp rfl)) (rfl)
                    · exact absurd h15 (by simp) --closed
                  · exact absurd h14 (by simp) --closed
                · exact absurd h13 (by simp) --closed
              · exact absurd h12 (by simp) --closed
            · exact absurd h11 (by simp) --closed
          · exact absurd h10 (by simp) --closed
        · exact absurd h9 (by simp) --closed
      · exact absurd h8 (by simp) --closed
    · exact absurd h7 (by simp) --closed

end Go.Proofs.Ytdpnadknaacinaa
end

section
namespace Go.Proofs.Ytdpnadknaacinaa
open Go.Sx Go.Proofs.Ytdpnadknaacinaa.Ty Go.ChangeShapes Go.WideShapes Go.ChangeAt Go.RowKit
set_option linter.unusedVariables false
set_option maxRecDepth 100000

theorem Try.own : ownKnob Try.prog.godebug = none := by kernel_rfl
theorem Try.laidOut : laidOutB Try.prog = true := by kernel_rfl
theorem cells23 : Try.prog.cellsOf 23 = 2 := by kernel_rfl
theorem cells3 : Try.prog.cellsOf 3 = 1 := by kernel_rfl
theorem cells76 : Try.prog.cellsOf 76 = 5 := by kernel_rfl
theorem cells69 : Try.prog.cellsOf 69 = 5 := by kernel_rfl
theorem cells27 : Try.prog.cellsOf 27 = 9 := by kernel_rfl
theorem cells24 : Try.prog.cellsOf 24 = 1 := by kernel_rfl
theorem cells25 : Try.prog.cellsOf 25 = 1 := by kernel_rfl

section
variable {H : Type} {enc : TypeId × Value → H} {P : Program} {w : World} {base fuel : Nat} {spare : Nat → Bool} {held : Bool} {x : DataW H × List MemPlace} {cs : List Value}

theorem mapM_at {α β : Type} {f : α → Option β} : ∀ {l : List α} {r : List β}, l.mapM f = some r → r.length = l.length ∧ ∀ (i : Nat) (a : α), l[i]? = some a → ∃ b, f a = some b ∧ r[i]? = some b
  | [], r, h => by
    simp at h; subst h
    exact ⟨rfl, fun i a h => by simp at h⟩
  | a :: l, r, h => by
    rw [List.mapM_cons] at h
    cases ha : f a with
    | none => simp [ha] at h
    | some b =>
      cases hl : l.mapM f with
      | none => simp [ha, hl] at h
      | some r' =>
        simp [ha, hl] at h
        subst h
        obtain ⟨h1, h2⟩ := mapM_at hl
        refine ⟨by simp [h1], fun i c hc => ?_⟩
        cases i with
        | zero => simp at hc; subst hc; exact ⟨b, ha, by simp⟩
        | succ i => obtain ⟨b', h3, h4⟩ := h2 i c (by simpa using hc); exact ⟨b', h3, by simpa using h4⟩

/-- Cells that are read lie in one block, one behind the other. -/
theorem cells_row {a : Addr} {n : Nat} (hn : 0 < n) (h : w.cells? base a n = some cs) : a.spot = none ∧ cs.length = n ∧ ∃ row, reads w a.block row ∧ ∀ j, j < n → row[a.off + j]? = cs[j]? := by
  unfold World.cells? at h
  split at h
  · obtain ⟨h1, h2⟩ := mapM_at h
    simp only [List.length_range] at h1
    have each : ∀ j, j < n → ∃ b, w.cell? (a.add j) = some b ∧ cs[j]? = some b := fun j hj => h2 j j (by simp [hj])
    obtain ⟨b, h3, _⟩ := each 0 hn
    have e0 : a.add 0 = a := by simp [Addr.add]
    rw [e0] at h3
    unfold World.cell? at h3
    cases hb : w.heap[a.block]? with
    | none => rw [hb] at h3; cases h3
    | some o =>
      rw [hb] at h3
      cases o with
      | cells c e f =>
        have hs : a.spot = none := by
          cases hs : a.spot with
          | none => rfl
          | some s => simp [hs] at h3
        refine ⟨hs, h1, c.toList, ⟨e, f, by simpa using hb⟩, fun j hj => ?_⟩
        obtain ⟨b', h4, h5⟩ := each j hj
        rw [h5]
        have e1 : (a.add j).block = a.block ∧ (a.add j).spot = none ∧ (a.add j).off = a.off + j := by
          unfold Addr.add
          split
          · rename_i h6; subst h6; exact ⟨rfl, hs, rfl⟩
          · exact ⟨rfl, rfl, rfl⟩
        unfold World.cell? at h4
        rw [e1.1, hb] at h4
        simp only [e1.2.1, e1.2.2] at h4
        simpa using h4
      | _ => simp at h3
  · cases h

theorem list_of {α : Type} {R : Nat → α → Prop} : ∀ n : Nat, (∀ i, i < n → ∃ a, R i a) → ∃ L : List α, L.length = n ∧ ∀ (i : Nat) (a : α), L[i]? = some a → R i a
  | 0, _ => ⟨[], rfl, fun i a h => by simp at h⟩
  | n + 1, h => by
    obtain ⟨L, h1, h2⟩ := list_of n (fun i hi => h i (by omega))
    obtain ⟨a, ha⟩ := h n (by omega)
    refine ⟨L ++ [a], by simp [h1], fun i b hb => ?_⟩
    rcases Nat.lt_or_ge i n with hi | hi
    · rw [List.getElem?_append_left (by omega)] at hb; exact h2 i b hb
    · rw [List.getElem?_append_right (by omega)] at hb
      have : i = n := by
        rcases Nat.lt_or_ge (i - L.length) 1 with h3 | h3
        · omega
        · rw [List.getElem?_eq_none (by simpa using h3)] at hb; cases hb
      subst this
      simp [h1] at hb
      subst hb; exact ha

/-- A slice of rows that came in. -/
theorem open_rows {α : Type} {f : α → List Value} {m : Nat} {t e : TypeId} (hm : 0 < m) (hf : ∀ r, (f r).length = m) (hc : P.cellsOf e = m) (ht : P.underlying t = some (.slice e))
    (hrow : ∀ fuel cs x, DataW.trod enc P w base spare held fuel e cs = some x → ∃ r : α, cs = f r) (h : DataW.trod enc P w base spare held fuel t cs = some x) :
    ∃ (p : Option Addr) (L : List α) (cap : Nat), cs = [.slice p L.length cap] ∧ ∃ (b off : Nat) (row : List Value), L ≠ [] → p = some ⟨b, off, none⟩ ∧ reads w b row ∧ ∀ (i : Nat) (r : α), L[i]? = some r → sub row (off + i * m) m = f r := by
  rcases Deep.open_slice ht h with ⟨rfl, _⟩ | ⟨a, len, cap, mm, n, D, Pl, rfl, _, hlc, _, hmm, _, hel⟩
  · exact ⟨none, [], 0, rfl, 0, 0, [], fun h => absurd rfl h⟩
  · have hle : len ≤ mm := by rw [hmm]; split <;> omega
    have each : ∀ i, i < len → ∃ r : α, w.cells? base (a.add (i * m)) m = some (f r) := fun i hi => by
      obtain ⟨cs', h1, h2⟩ := hel i (by omega)
      obtain ⟨r, rfl⟩ := hrow _ _ _ h2
      rw [hc] at h1; exact ⟨r, h1⟩
    obtain ⟨L, hL, hR⟩ := list_of (R := fun i r => w.cells? base (a.add (i * m)) m = some (f r)) len each
    refine ⟨some a, L, cap, by rw [hL], ?_⟩
    cases L with
    | nil => exact ⟨0, 0, [], fun h => absurd rfl h⟩
    | cons r0 L0 =>
      have h0 := hR 0 r0 rfl
      rw [Nat.zero_mul, show a.add 0 = a by simp [Addr.add]] at h0
      obtain ⟨hs, _, row, hrd, _⟩ := cells_row hm h0
      refine ⟨a.block, a.off, row, fun _ => ⟨?_, hrd, fun i r hr => ?_⟩⟩
      · cases a; simp at hs; subst hs; rfl
      · have h1 := hR i r hr
        obtain ⟨_, _, row', hrd', hcell⟩ := cells_row hm h1
        have e1 : (a.add (i * m)).block = a.block ∧ (a.add (i * m)).off = a.off + i * m := by
          unfold Addr.add
          split
          · rename_i h6; rw [h6]; exact ⟨rfl, rfl⟩
          · exact ⟨rfl, rfl⟩
        rw [e1.1] at hrd'
        have hrow' : row = row' := by
          obtain ⟨T, fr, g1⟩ := hrd
          obtain ⟨T', fr', g2⟩ := hrd'
          rw [g1] at g2
          simp only [Option.some.injEq, Obj.cells.injEq] at g2
          have := congrArg Array.toList g2.1
          simpa using this
        subst hrow'
        rw [e1.2] at hcell
        apply List.ext_getElem?
        intro j
        unfold sub
        rw [List.getElem?_take]
        split
        · rename_i hj
          rw [List.getElem?_drop]; exact hcell j hj
        · rename_i hj
          rw [List.getElem?_eq_none (by rw [hf]; omega)]
end

section
variable {H : Type} {enc : TypeId × Value → H} {w : World} {base fuel : Nat} {spare : Nat → Bool} {held : Bool} {x : DataW H × List MemPlace} {cs : List Value}
theorem fld {fs : Array Field} {xs : List (DataW H × List MemPlace)} {n : Nat} {cs : List Value} (hf : ∀ (i : Nat) (f : Field), fs[i]? = some f → DataW.trod enc Try.prog w base spare held n f.type ((cs.drop f.offset).take (Try.prog.cellsOf f.type)) = xs[i]?)
    (i off T k : Nat) (hi : ∃ f, fs[i]? = some f ∧ f.type = T ∧ f.offset = off) (hc : Try.prog.cellsOf T = k) {y : DataW H × List MemPlace} (hx : xs[i]? = some y) : DataW.trod enc Try.prog w base spare held n T ((cs.drop off).take k) = some y := by
  obtain ⟨f, h1, rfl, rfl⟩ := hi
  rw [← hc, hf i f h1, hx]
theorem rd_int (h : DataW.trod enc Try.prog w base spare held fuel 3 cs = some x) : ∃ n : Int, cs = [.int .i64 n] := by
  obtain ⟨n, h1, _⟩ := DataW.trod_int int3 h
  exact ⟨n, h1⟩
theorem rd_span (h : DataW.trod enc Try.prog w base spare held fuel 23 cs = some x) : ∃ a b : Int, cs = [.int .i64 a, .int .i64 b] := by
  obtain ⟨xs, n, _, _, hl, hxl, hf⟩ := DataW.trod_struct Try.underlying23 h
  rw [cells23] at hl
  match cs, hl with
  | [c0, c1], _ =>
    match xs, hxl with
    | [x0, x1], _ =>
      have f0 := fld hf 0 0 3 1 ⟨_, rfl, rfl, rfl⟩ cells3 (y := x0) rfl
      have f1 := fld hf 1 1 3 1 ⟨_, rfl, rfl, rfl⟩ cells3 (y := x1) rfl
      obtain ⟨a, ha⟩ := rd_int f0
      obtain ⟨b, hb⟩ := rd_int f1
      simp at ha hb
      exact ⟨a, b, by rw [ha, hb]⟩
theorem rd_line (h : DataW.trod enc Try.prog w base spare held fuel 76 cs = some x) : ∃ r : Ln, cs = lnL r := by
  obtain ⟨xs, n, _, _, hl, hxl, hf⟩ := DataW.trod_struct Try.underlying76 h
  rw [cells76] at hl
  match cs, hl with
  | [c0, c1, c2, c3, c4], _ =>
    match xs, hxl with
    | [x0, x1, x2], _ =>
      have f0 := fld hf 0 0 23 2 ⟨_, rfl, rfl, rfl⟩ cells23 (y := x0) rfl
      have f1 := fld hf 1 2 3 1 ⟨_, rfl, rfl, rfl⟩ cells3 (y := x1) rfl
      have f2 := fld hf 2 3 23 2 ⟨_, rfl, rfl, rfl⟩ cells23 (y := x2) rfl
      obtain ⟨a, b, hab⟩ := rd_span f0
      obtain ⟨c, hc⟩ := rd_int f1
      obtain ⟨d, e, hde⟩ := rd_span f2
      simp at hab hc hde
      exact ⟨⟨a, b, c, d, e⟩, by simp [lnL, hab, hc, hde]⟩
theorem rd_reading (h : DataW.trod enc Try.prog w base spare held fuel 69 cs = some x) : ∃ r : Rd, cs = rdL r := by
  obtain ⟨xs, n, _, _, hl, hxl, hf⟩ := DataW.trod_struct Try.underlying69 h
  rw [cells69] at hl
  match cs, hl with
  | [c0, c1, c2, c3, c4], _ =>
    match xs, hxl with
    | [x0, x1, x2, x3], _ =>
      have f0 := fld hf 0 0 3 1 ⟨_, rfl, rfl, rfl⟩ cells3 (y := x0) rfl
      have f1 := fld hf 1 1 3 1 ⟨_, rfl, rfl, rfl⟩ cells3 (y := x1) rfl
      have f2 := fld hf 2 2 3 1 ⟨_, rfl, rfl, rfl⟩ cells3 (y := x2) rfl
      have f3 := fld hf 3 3 23 2 ⟨_, rfl, rfl, rfl⟩ cells23 (y := x3) rfl
      obtain ⟨a, ha⟩ := rd_int f0
      obtain ⟨b, hb⟩ := rd_int f1
      obtain ⟨c, hc⟩ := rd_int f2
      obtain ⟨d, e, hde⟩ := rd_span f3
      simp at ha hb hc hde
      exact ⟨⟨a, b, c, d, e⟩, by simp [rdL, ha, hb, hc, hde]⟩

/-- What came in of a spring: its lists in blocks that lie there. -/
def Came (w : World) (M : Args) (s : Sp) : Prop := (∀ b cs, (b, cs) ∈ M → reads w b cs) ∧ (s.book.length ≤ 1000000000000 → s.reads.length ≤ 1000000000000 → s.In M)
theorem open_spring {v : Value} {d : DataW H} {ps : List MemPlace} (hv : Value.okWide Try.prog w .any base 27 v) (h : DataW.Trod enc Try.prog w 0 spare held 27 v d ps) : ∃ (s : Sp) (M : Args), v = spV s ∧ Came w M s := by
  obtain ⟨cs, rfl, hcs⟩ := okWide_struct Try.underlying27 hv
  obtain ⟨fuel, h⟩ := h
  obtain ⟨xs, n, _, _, hl, hxl, hf⟩ := DataW.trod_struct Try.underlying27 h
  have hl' : cs.toList.length = 9 := by rw [cells27] at hl; exact hl
  obtain ⟨c0, c1, c2, c3, c4, c5, c6, c7, c8, hc⟩ : ∃ c0 c1 c2 c3 c4 c5 c6 c7 c8, cs.toList = [c0, c1, c2, c3, c4, c5, c6, c7, c8] := by
    match hz : cs.toList, hl' with
    | [c0, c1, c2, c3, c4, c5, c6, c7, c8], _ => exact ⟨c0, c1, c2, c3, c4, c5, c6, c7, c8, rfl⟩
  have hce : (Value.agg cs).cells.toList = [c0, c1, c2, c3, c4, c5, c6, c7, c8] := hc
  rw [hce] at hf
  match xs, hxl with
  | [x0, x1, x2, x3, x4, x5, x6], _ =>
    have f0 := fld hf 0 0 3 1 ⟨_, rfl, rfl, rfl⟩ cells3 (y := x0) rfl
    have f1 := fld hf 1 1 3 1 ⟨_, rfl, rfl, rfl⟩ cells3 (y := x1) rfl
    have f2 := fld hf 2 2 3 1 ⟨_, rfl, rfl, rfl⟩ cells3 (y := x2) rfl
    have f3 := fld hf 3 3 23 2 ⟨_, rfl, rfl, rfl⟩ cells23 (y := x3) rfl
    have f4 := fld hf 4 5 23 2 ⟨_, rfl, rfl, rfl⟩ cells23 (y := x4) rfl
    have f5 := fld hf 5 7 24 1 ⟨_, rfl, rfl, rfl⟩ cells24 (y := x5) rfl
    have f6 := fld hf 6 8 25 1 ⟨_, rfl, rfl, rfl⟩ cells25 (y := x6) rfl
    obtain ⟨i0, e0⟩ := rd_int f0
    obtain ⟨i1, e1⟩ := rd_int f1
    obtain ⟨i2, e2⟩ := rd_int f2
    obtain ⟨i3, i4, e3⟩ := rd_span f3
    obtain ⟨i5, i6, e4⟩ := rd_span f4
    obtain ⟨p1, L1, k1, e5, b1, o1, r1, g1⟩ := open_rows (f := lnL) (m := 5) (by decide) (fun _ => rfl) cells76 Try.underlying24 (fun _ _ _ h => rd_line h) f5
    obtain ⟨p2, L2, k2, e6, b2, o2, r2, g2⟩ := open_rows (f := rdL) (m := 5) (by decide) (fun _ => rfl) cells69 Try.underlying25 (fun _ _ _ h => rd_reading h) f6
    simp at e0 e1 e2 e3 e4 e5 e6
    obtain ⟨e3, e3'⟩ := e3
    obtain ⟨e4, e4'⟩ := e4
    refine ⟨⟨i0, i1, i2, i3, i4, i5, i6, p1, k1, p2, k2, L1, L2⟩, (if L1 = [] then [] else [(b1, r1)]) ++ (if L2 = [] then [] else [(b2, r2)]), ?_, ?_, ?_⟩
    · show Value.agg cs = Value.agg _
      congr 1
      apply Array.ext'
      rw [hc, e0, e1, e2, e3, e3', e4, e4', e5, e6]
    · intro b cs hm
      rcases List.mem_append.1 hm with hm | hm
      · split at hm
        · cases hm
        · rename_i hn; cases List.mem_singleton.1 hm; exact (g1 hn).2.1
      · split at hm
        · cases hm
        · rename_i hn; cases List.mem_singleton.1 hm; exact (g2 hn).2.1
    · intro hb1 hb2
      refine ⟨⟨b1, o1, r1, 0, fun hn => ⟨(g1 hn).1, ?_, (g1 hn).2.2⟩⟩, ⟨b2, o2, r2, (if L1 = [] then 0 else 1), fun hn => ⟨(g2 hn).1, ?_, (g2 hn).2.2⟩⟩, hb1, hb2⟩
      · have hn' : L1 ≠ [] := hn
        simp [hn']
      · have hn' : L2 ≠ [] := hn
        by_cases h1 : L1 = [] <;> simp [h1, hn']
end

/-- What a law's walk ends in, as the row's 'post' asks. -/
theorem law_end {M : Args} {f : Nat} {args : List Value} {w : World} (h : Cn Try.prog f args M (fun _ : Unit => .bool true) (fun _ => []) (fun _ => True)) (hM : ∀ b cs, (b, cs) ∈ M → reads w b cs) :
    Calls Try.prog f args.toArray w fun e w' => e = .returned (.bool true) ∧ Below w.heap.size w w' := by
  refine (h w hM).mono ?_
  rintro e w' ⟨v, rfl, hb, _, rfl, _⟩
  exact ⟨rfl, hb⟩
end Go.Proofs.Ytdpnadknaacinaa
end

section
namespace Go.Proofs.Ytdpnadknaacinaa
open Go.Sx Go.Proofs.Ytdpnadknaacinaa.Ty Go.ChangeShapes Go.WideShapes Go.ChangeAt Go.RowKit
set_option linter.unusedVariables false
set_option maxRecDepth 100000
section
variable {H : Type} {enc : TypeId × Value → H} {P : Program} {w : World} {base fuel : Nat} {spare : Nat → Bool} {held : Bool} {x : DataW H × List MemPlace}
theorem row_cap {t e n c : Nat} {p : Option Addr} (ht : P.underlying t = some (.slice e)) (h : DataW.trod enc P w base spare held fuel t [.slice p n c] = some x) : n ≤ c := by
  rcases Deep.open_slice ht h with ⟨h1, _⟩ | ⟨a, len, cap, mm, n', D, Pl, h1, _, hlc, _⟩
  · simp only [List.cons.injEq, Value.slice.injEq, and_true] at h1; omega
  · simp only [List.cons.injEq, Value.slice.injEq, and_true] at h1; omega
theorem spring_caps {s : Sp} {d : DataW H} {ps : List MemPlace} (h : DataW.Trod enc Try.prog w 0 spare held 27 (spV s) d ps) : s.book.length ≤ s.bc ∧ s.reads.length ≤ s.rc := by
  obtain ⟨fuel, h⟩ := h
  obtain ⟨xs, n, _, _, hl, hxl, hf⟩ := DataW.trod_struct Try.underlying27 h
  match xs, hxl with
  | [x0, x1, x2, x3, x4, x5, x6], _ =>
    have f5 := fld hf 5 7 24 1 ⟨_, rfl, rfl, rfl⟩ cells24 (y := x5) rfl
    have f6 := fld hf 6 8 25 1 ⟨_, rfl, rfl, rfl⟩ cells25 (y := x6) rfl
    exact ⟨row_cap Try.underlying24 f5, row_cap Try.underlying25 f6⟩
end
end Go.Proofs.Ytdpnadknaacinaa
end

section
namespace Go.Proofs.Ytdpnadknaacinaa
open Go.Sx Go.Proofs.Ytdpnadknaacinaa.Ty Go.ChangeShapes Go.WideShapes Go.ChangeAt Go.RowKit
set_option linter.unusedVariables false
set_option maxRecDepth 100000
section
variable {H : Type} {enc : TypeId × Value → H} {w : World} {base fuel : Nat} {spare : Nat → Bool} {held : Bool}
theorem open_line {v : Value} {d : DataW H} {ps : List MemPlace} (hv : Value.okWide Try.prog w .any base 76 v) (h : DataW.Trod enc Try.prog w 0 spare held 76 v d ps) : ∃ x : Ln, v = lnV x := by
  obtain ⟨cs, rfl, hcs⟩ := okWide_struct Try.underlying76 hv
  obtain ⟨fuel, h⟩ := h
  have h' : DataW.trod enc Try.prog w 0 spare held fuel 76 cs.toList = some (d, ps) := h
  obtain ⟨r, hr⟩ := rd_line h'
  refine ⟨r, ?_⟩
  show Value.agg cs = Value.agg _
  congr 1
  apply Array.ext'
  rw [hr]
theorem open_numbers {v : Value} {d : DataW H} {ps : List MemPlace} (hv : Value.okWide Try.prog w .any base 35 v) (h : DataW.Trod enc Try.prog w 0 spare held 35 v d ps) :
    ∃ (L : List Int) (p : Option Addr) (c : Nat) (M : Args), v = .slice p L.length c ∧ (∀ b cs, (b, cs) ∈ M → reads w b cs) ∧ (L.length ≤ 1000000000 → IntsIn M p L) := by
  obtain ⟨p0, n0, c0, rfl⟩ := okWide_slice Try.underlying35 hv
  obtain ⟨fuel, h⟩ := h
  have h' : DataW.trod enc Try.prog w 0 spare held fuel 35 [.slice p0 n0 c0] = some (d, ps) := h
  obtain ⟨p, L, c, e, b, off, row, g⟩ := open_rows (f := fun n : Int => [.int .i64 n]) (m := 1) (by decide) (fun _ => rfl) cells3 Try.underlying35 (fun _ _ _ h => by obtain ⟨a, ha⟩ := rd_int h; exact ⟨a, by simpa using ha⟩) h'
  simp only [List.cons.injEq, and_true] at e
  rw [e]
  refine ⟨L, p, c, if L = [] then [] else [(b, row)], rfl, ?_, fun hl => ⟨hl, b, off, row, 0, fun hn => ⟨(g hn).1, by simp [hn], fun i x hx => ?_⟩⟩⟩
  · intro b' cs hm
    split at hm
    · cases hm
    · rename_i hn; cases List.mem_singleton.1 hm; exact (g hn).2.1
  · have h1 := (g hn).2.2 i x hx
    have h2 := sub_at h1 0 (by omega)
    simpa using h2
end
end Go.Proofs.Ytdpnadknaacinaa
end

section
namespace Go.Sx
open Go.RowKit
set_option linter.unusedVariables false
section
variable {P : Program} {N : Cx} {w0 : World} {l : Env} {O : Blks} {A : Args} {Q : Exit → Act → World → Prop}

theorem get_app_of {l₁ l₂ : Env} {t : Nat} {v : Value} (h : get (l₁ ++ l₂) t = some v) : get l₁ t = some v ∨ get l₂ t = some v := by
  induction l₁ with
  | nil => exact .inr h
  | cons p r ih =>
    obtain ⟨k, u⟩ := p
    simp only [List.cons_append, get] at h ⊢
    cases hb : Nat.beq k t with
    | true => rw [hb] at h; simp only [cond_true] at h ⊢; exact .inl h
    | false => rw [hb] at h; simp only [cond_false] at h ⊢; exact ih h

theorem pickB_app : ∀ (is js : List Nat), pickB O (is ++ js) = pickB O is ++ pickB O js
  | [], js => rfl
  | i :: is, js => by
    simp only [List.cons_append, pickB]
    split
    · rw [pickB_app is js]; rfl
    · exact pickB_app is js

/-- A loop: told are the slots and blocks that change; l0, O0: those that stay. -/
theorem okc_loopF {c : Code} {γ : Type} (l0 : Env) (hl0 : SubE l0 l) (js : List Nat) (is : List Nat) (hn : (is ++ js).Nodup) (O0 : Blks) (hO0 : pickB O js = O0)
    (lf : γ → Env) (Of : γ → Blks) (good : γ → Prop) (μ : γ → Nat) (g0 : γ) (h0 : good g0) (hE : SubE (lf g0) l) (hO : pickB O is = Of g0)
    (round : ∀ g, good g → OkC P N w0 c (Exit.then (fun a w => ∃ g', good g' ∧ μ g' < μ g ∧ St N w0 (lf g' ++ l0) (Of g' ++ O0) A a w) Q) (lf g ++ l0) (Of g ++ O0) A) :
    OkC P N w0 (.loop c) Q l O A := by
  refine okc_loop (fun g => lf g ++ l0) (fun g => Of g ++ O0) good μ g0 h0 (fun a w hs => ?_) round
  subst hO0
  have h1 : St N w0 l (pickB O (is ++ js)) A a w := ⟨hs.size, hs.noDef, hs.bel, hs.env, fun j b cs T hj => by
    obtain ⟨i, _, hi⟩ := mem_pickB (is ++ js) (List.mem_of_getElem? hj)
    exact hs.own i b cs T hi, nodup_pickB hs.nodup (is ++ js) hn, hs.arg, hs.more⟩
  rw [pickB_app, hO] at h1
  exact ⟨h1.size, h1.noDef, h1.bel, fun t v hv => by
    rcases get_app_of hv with h2 | h2
    · exact h1.env t v (hE.get t v h2)
    · exact h1.env t v (hl0.get t v h2), h1.own, h1.nodup, h1.arg, h1.more⟩
end
end Go.Sx
end

section
namespace Go.Proofs.Ytdpnadknaacinaa
open Go.Sx Go.Proofs.Ytdpnadknaacinaa.Ty
set_option linter.unusedVariables false
set_option linter.unusedSimpArgs false
set_option maxHeartbeats 2000000


def qx (x : Rd) : Ask := ⟨0, 0, x⟩
def edS (s : Sp) (x : Rd) : Int := beginS s (qx x) [3]
theorem ed10 {s : Sp} {x : Rd} (hv : validB s = false) : edS s x = 10 := by simp [edS, beginS, hv]
theorem ed12 {s : Sp} {x : Rd} (hv : validB s = true) (hx : readB s.weeks x = false) : edS s x = 12 := by
  have : askB s (qx x) (3 : Int).toNat = false := hx
  simp only [edS, beginS, hv, if_true, askN, this]; rfl
theorem ed0 {s : Sp} {x : Rd} (hv : validB s = true) (hx : readB s.weeks x = true) : edS s x = 0 := by
  have : askB s (qx x) (3 : Int).toNat = true := hx
  simp only [edS, beginS, hv, if_true, askN, this]
theorem ed_ok {s : Sp} {x : Rd} (h : edS s x = 0) : validB s = true ∧ readB s.weeks x = true := by
  have hv := begin_valid h
  refine ⟨hv, ?_⟩
  cases hx : readB s.weeks x with
  | true => rfl
  | false => rw [ed12 hv hx] at h; cases h
theorem okR_of {s : Sp} {x : Rd} (h : readB s.weeks x = true) : OkR s x := by
  simp only [readB, isSpanB, isWeekB, inS, Bool.and_eq_true, decide_eq_true_eq] at h
  constructor <;> omega
/-- What a reading tells alone, and the error. -/
def rdE (s : Sp) (x : Rd) : Int := if edS s x = 0 then (if (toldB s x).2 < (toldB s x).1 then 6 else 0) else edS s x
def rdG (s : Sp) (x : Rd) : Int × Int := if edS s x = 0 then (if (toldB s x).2 < (toldB s x).1 then (0, 0) else toldB s x) else (0, 0)

theorem Read_no (s : Sp) (M : Args) (hin : s.In M) (x : Rd) (hb : ¬ beginS s (qx x) [3] = 0) : Cn Try.prog 42 [spV s, rdV x] M (fun _ : Unit => .tuple #[.agg #[.int .i64 (rdG s x).1, .int .i64 (rdG s x).2], .int .i64 (rdE s x)]) (fun _ => []) (fun _ => True) := by
  refine fn_intro (N := 31) Try.func42 rfl rfl rfl fun w0 => ?_
  refine okc_seq ?_
  refine okc_region ?_
  refine s_boxA rfl rfl rfl rfl rfl rfl (fun b1 => ?_)
  refine s_boxA rfl rfl rfl rfl rfl rfl (fun b2 => ?_)
  refine s_alloc rfl rfl rfl rfl rfl rfl (fun b3 => ?_)
  refine s_assign rfl rfl rfl rfl rfl rfl ?_
  refine okl_nil ?_
  change OkC Try.prog _ _ _ _ _ _ _
  refine okc_weak (l' := [(0, _), (1, _), (2, _), (3, _), (4, _), (5, _)]) ⟨rfl, rfl, rfl, rfl, rfl, rfl, trivial⟩ ?_
  refine okc_seq ?_
  refine okc_region ?_
  refine s_loadW 2 rfl rfl rfl rfl rfl rfl rfl rfl rfl rfl ?_
  refine s_loadW 1 rfl rfl rfl rfl rfl rfl rfl rfl rfl rfl ?_
  refine s_build rfl rfl rfl rfl rfl rfl rfl rfl rfl ?_
  refine s_slice1 rfl rfl rfl rfl rfl rfl rfl rfl rfl rfl (fun b4 => ?_)
  refine s_callv rfl rfl rfl rfl rfl rfl rfl c72 (begin_no (M := (b4, ints [3]) :: M) (q := qx x) (more := [3]) (hin.cons _) (moreAt b4 [3] M (by decide) (by decide)) hb) (covers_own 0 rfl covers_all) ?_
  refine s_move rfl rfl rfl rfl rfl rfl ?_
  refine s_extract rfl rfl rfl rfl rfl rfl rfl ?_
  refine s_extract rfl rfl rfl rfl rfl rfl rfl ?_
  refine s_alloc rfl rfl rfl rfl rfl rfl (fun b5 => ?_)
  refine k_storeW 0 rfl rfl rfl rfl rfl rfl rfl rfl rfl rfl rfl rfl ?_
  refine s_assign rfl rfl rfl rfl rfl rfl ?_
  refine okl_nil ?_
  change OkC Try.prog _ _ _ _ _ _ _
  refine okc_weak (l' := [(0, _), (1, _), (2, _), (3, _), (4, _), (5, _), (6, _), (7, _)]) ⟨rfl, rfl, rfl, rfl, rfl, rfl, rfl, rfl, trivial⟩ ?_
  refine okc_seq ?_
  refine okc_seq ?_
  refine okc_region ?_
  refine s_move rfl rfl rfl rfl rfl rfl ?_
  refine s_cmpS rfl rfl rfl rfl rfl rfl rfl rfl (fun h6 => ?_) (fun h6 => ?_)
  · refine okl_nil ?_
    change OkC Try.prog _ _ _ _ _ _ _
    refine okc_weak (l' := [(0, _), (1, _), (2, _), (3, _), (4, _), (5, _), (6, _), (7, _), (18, _)]) ⟨rfl, rfl, rfl, rfl, rfl, rfl, rfl, rfl, rfl, trivial⟩ ?_
    refine okc_cond_t rfl ?_
    refine okc_seq ?_
    refine okc_region ?_
    refine s_build rfl rfl rfl rfl rfl rfl rfl rfl rfl ?_
    refine s_move rfl rfl rfl rfl rfl rfl ?_
    refine k_storeW 2 rfl rfl rfl rfl rfl rfl rfl rfl rfl rfl rfl rfl ?_
    refine s_assign rfl rfl rfl rfl rfl rfl ?_
    refine okl_nil ?_
    change OkC Try.prog _ _ _ _ _ _ _
    refine okc_weak (l' := [(0, _), (1, _), (2, _), (3, _), (4, _), (5, _), (6, _), (7, _), (18, _)]) ⟨rfl, rfl, rfl, rfl, rfl, rfl, rfl, rfl, rfl, trivial⟩ ?_
    refine okc_ret fun a w hs => ?_
    exact ret_v hs (run_results2 hs rfl (k_ragg 2 rfl rfl rfl rfl rfl) (rv_tmp rfl)) (by clear hs; simp [rdG, rdE, edS, hb])
  · exact absurd h6 (by simp [hb]) --closed

theorem Read_ok (s : Sp) (M : Args) (hin : s.In M) (x : Rd) (hb : beginS s (qx x) [3] = 0) (ho : Ok s) (hx : OkR s x) : Cn Try.prog 42 [spV s, rdV x] M (fun _ : Unit => .tuple #[.agg #[.int .i64 (rdG s x).1, .int .i64 (rdG s x).2], .int .i64 (rdE s x)]) (fun _ => []) (fun _ => True) := by
  refine fn_intro (N := 31) Try.func42 rfl rfl rfl fun w0 => ?_
  refine okc_seq ?_
  refine okc_region ?_
  refine s_boxA rfl rfl rfl rfl rfl rfl (fun b7 => ?_)
  refine s_boxA rfl rfl rfl rfl rfl rfl (fun b8 => ?_)
  refine s_alloc rfl rfl rfl rfl rfl rfl (fun b9 => ?_)
  refine s_assign rfl rfl rfl rfl rfl rfl ?_
  refine okl_nil ?_
  change OkC Try.prog _ _ _ _ _ _ _
  refine okc_weak (l' := [(0, _), (1, _), (2, _), (3, _), (4, _), (5, _)]) ⟨rfl, rfl, rfl, rfl, rfl, rfl, trivial⟩ ?_
  refine okc_seq ?_
  refine okc_region ?_
  refine s_loadW 2 rfl rfl rfl rfl rfl rfl rfl rfl rfl rfl ?_
  refine s_loadW 1 rfl rfl rfl rfl rfl rfl rfl rfl rfl rfl ?_
  refine s_build rfl rfl rfl rfl rfl rfl rfl rfl rfl ?_
  refine s_slice1 rfl rfl rfl rfl rfl rfl rfl rfl rfl rfl (fun b10 => ?_)
  refine s_callv rfl rfl rfl rfl rfl rfl rfl c72 (begin_ok (M := (b10, ints [3]) :: M) (q := qx x) (more := [3]) (hin.cons _) (moreAt b10 [3] M (by decide) (by decide)) hb) (covers_own 0 rfl covers_all) ?_
  refine s_move rfl rfl rfl rfl rfl rfl ?_
  refine s_extract rfl rfl rfl rfl rfl rfl rfl ?_
  refine s_extract rfl rfl rfl rfl rfl rfl rfl ?_
  refine s_alloc rfl rfl rfl rfl rfl rfl (fun b11 => ?_)
  refine k_storeW 0 rfl rfl rfl rfl rfl rfl rfl rfl rfl rfl rfl rfl ?_
  refine s_assign rfl rfl rfl rfl rfl rfl ?_
  refine okl_nil ?_
  change OkC Try.prog _ _ _ _ _ _ _
  refine okc_weak (l' := [(0, _), (1, _), (2, _), (3, _), (4, _), (5, _), (6, _), (7, _)]) ⟨rfl, rfl, rfl, rfl, rfl, rfl, rfl, rfl, trivial⟩ ?_
  refine okc_seq ?_
  refine okc_seq ?_
  refine okc_region ?_
  refine s_move rfl rfl rfl rfl rfl rfl ?_
  refine s_cmpS rfl rfl rfl rfl rfl rfl rfl rfl (fun h12 => ?_) (fun h12 => ?_)
  · exact absurd h12 (by decide) --closed
  · refine okl_nil ?_
    change OkC Try.prog _ _ _ _ _ _ _
    refine okc_weak (l' := [(0, _), (1, _), (2, _), (3, _), (4, _), (5, _), (6, _), (7, _), (18, _)]) ⟨rfl, rfl, rfl, rfl, rfl, rfl, rfl, rfl, rfl, trivial⟩ ?_
    refine okc_cond_f rfl ?_
    refine okc_skip ?_
    change OkC Try.prog _ _ _ _ _ _ _
    refine okc_weak (l' := [(0, _), (1, _), (2, _), (3, _), (4, _), (5, _), (6, _), (7, _), (18, _)]) ⟨rfl, rfl, rfl, rfl, rfl, rfl, rfl, rfl, rfl, trivial⟩ ?_
    refine okc_seq ?_
    refine okc_region ?_
    refine s_loadW 0 rfl rfl rfl rfl rfl rfl rfl rfl rfl rfl ?_
    refine s_loadW 3 rfl rfl rfl rfl rfl rfl rfl rfl rfl rfl ?_
    refine s_callv rfl rfl rfl rfl rfl rfl rfl c91 (told_fn s x ho hx) covers_nil ?_
    refine s_alloc rfl rfl rfl rfl rfl rfl (fun b13 => ?_)
    refine k_storeW 0 rfl rfl rfl rfl rfl rfl rfl rfl rfl rfl rfl rfl ?_
    refine okl_nil ?_
    change OkC Try.prog _ _ _ _ _ _ _
    refine okc_weak (l' := [(0, _), (1, _), (2, _), (3, _), (4, _), (5, _), (6, _), (7, _), (8, _), (18, _)]) ⟨rfl, rfl, rfl, rfl, rfl, rfl, rfl, rfl, rfl, rfl, trivial⟩ ?_
    refine okc_seq ?_
    refine okc_seq ?_
    refine okc_region ?_
    refine s_field rfl rfl rfl rfl rfl rfl rfl rfl ?_
    refine s_load1 0 rfl rfl rfl rfl rfl rfl rfl rfl rfl ?_
    refine s_field rfl rfl rfl rfl rfl rfl rfl rfl ?_
    refine s_load1 0 rfl rfl rfl rfl rfl rfl rfl rfl rfl ?_
    refine s_cmpS rfl rfl rfl rfl rfl rfl rfl rfl (fun h14 => ?_) (fun h14 => ?_)
    · have hlt : (toldB s x).2 < (toldB s x).1 := by simpa using h14
      refine okl_nil ?_
      change OkC Try.prog _ _ _ _ _ _ _
      refine okc_weak (l' := [(0, _), (1, _), (2, _), (3, _), (4, _), (5, _), (6, _), (7, _), (8, _), (18, _), (28, _)]) ⟨rfl, rfl, rfl, rfl, rfl, rfl, rfl, rfl, rfl, rfl, rfl, trivial⟩ ?_
      refine okc_cond_t rfl ?_
      refine okc_seq ?_
      refine okc_region ?_
      refine s_build rfl rfl rfl rfl rfl rfl rfl rfl rfl ?_
      refine k_storeW 3 rfl rfl rfl rfl rfl rfl rfl rfl rfl rfl rfl rfl ?_
      refine s_assign rfl rfl rfl rfl rfl rfl ?_
      refine okl_nil ?_
      change OkC Try.prog _ _ _ _ _ _ _
      refine okc_weak (l' := [(0, _), (1, _), (2, _), (3, _), (4, _), (5, _), (6, _), (7, _), (8, _), (18, _), (28, _)]) ⟨rfl, rfl, rfl, rfl, rfl, rfl, rfl, rfl, rfl, rfl, rfl, trivial⟩ ?_
      refine okc_ret fun a w hs => ?_
      exact ret_v hs (run_results2 hs rfl (k_ragg 3 rfl rfl rfl rfl rfl) (rv_tmp rfl)) (by clear hs; simp [rdG, rdE, edS, hb, hlt])
    · have hlt : ¬ (toldB s x).2 < (toldB s x).1 := by simpa using h14
      refine okl_nil ?_
      change OkC Try.prog _ _ _ _ _ _ _
      refine okc_weak (l' := [(0, _), (1, _), (2, _), (3, _), (4, _), (5, _), (6, _), (7, _), (8, _), (18, _), (28, _)]) ⟨rfl, rfl, rfl, rfl, rfl, rfl, rfl, rfl, rfl, rfl, rfl, trivial⟩ ?_
      refine okc_cond_f rfl ?_
      refine okc_skip ?_
      change OkC Try.prog _ _ _ _ _ _ _
      refine okc_weak (l' := [(0, _), (1, _), (2, _), (3, _), (4, _), (5, _), (6, _), (7, _), (8, _), (18, _), (28, _)]) ⟨rfl, rfl, rfl, rfl, rfl, rfl, rfl, rfl, rfl, rfl, rfl, trivial⟩ ?_
      refine okc_seq ?_
      refine okc_region ?_
      refine s_loadW 0 rfl rfl rfl rfl rfl rfl rfl rfl rfl rfl ?_
      refine k_storeW 3 rfl rfl rfl rfl rfl rfl rfl rfl rfl rfl rfl rfl ?_
      refine s_assign rfl rfl rfl rfl rfl rfl ?_
      refine okl_nil ?_
      change OkC Try.prog _ _ _ _ _ _ _
      refine okc_weak (l' := [(0, _), (1, _), (2, _), (3, _), (4, _), (5, _), (6, _), (7, _), (8, _), (18, _), (28, _)]) ⟨rfl, rfl, rfl, rfl, rfl, rfl, rfl, rfl, rfl, rfl, rfl, trivial⟩ ?_
      refine okc_ret fun a w hs => ?_
      exact ret_v hs (run_results2 hs rfl (k_ragg 3 rfl rfl rfl rfl rfl) (rv_tmp rfl)) (by clear hs; simp [rdG, rdE, edS, hb, hlt])


theorem Read_fn (s : Sp) (M : Args) (hin : s.In M) (x : Rd) : Cn Try.prog 42 [spV s, rdV x] M (fun _ : Unit => .tuple #[.agg #[.int .i64 (rdG s x).1, .int .i64 (rdG s x).2], .int .i64 (rdE s x)]) (fun _ => []) (fun _ => True) := by
  by_cases hb : beginS s (qx x) [3] = 0
  · obtain ⟨h1, h2⟩ := ed_ok hb
    exact Read_ok s M hin x hb (ok_of_valid h1).ok (okR_of h2)
  · exact Read_no s M hin x hb


def stepT (s : Sp) (x : Rd) : Nat → Int × Int
  | 0 => (s.most + 1, -1)
  | n + 1 => if rightB s x n then (min (stepT s x n).1 n, (n : Int)) else stepT s x n
theorem stepT_eq {s : Sp} {x : Rd} (ho : Ok s) (hx : OkR s x) : ∀ k : Nat, (k : Int) ≤ s.most + 1 →
    stepT s x k = if (toldB s x).1 ≤ (toldB s x).2 ∧ (toldB s x).1 < k then ((toldB s x).1, min (toldB s x).2 (k - 1)) else (s.most + 1, -1) := by
  have hb := told_bd ho hx
  intro k
  induction k with
  | zero => intro _; rw [if_neg (by omega)]; rfl
  | succ n ih =>
    intro hk
    have ih := ih (by omega)
    rw [stepT, ih]
    have hr := right_iff ho hx (n := (n : Int)) (by omega)
    by_cases h1 : (toldB s x).1 ≤ n ∧ (n : Int) ≤ (toldB s x).2
    · rw [if_pos (hr.2 h1)]
      split
      · rw [if_pos (by omega)]; apply Prod.ext <;> simp <;> omega
      · rw [if_pos (by omega)]; apply Prod.ext <;> simp <;> omega
    · rw [if_neg (fun h => h1 (hr.1 h))]
      split
      · rw [if_pos (by omega)]; apply Prod.ext <;> simp <;> omega
      · rw [if_neg (by omega)]
theorem told_hi {s : Sp} {x : Rd} (ho : Ok s) : (toldB s x).2 ≤ s.most := by
  unfold toldB; dsimp only; split <;> omega
theorem stepT_all {s : Sp} {x : Rd} (ho : Ok s) (hx : OkR s x) : stepT s x (s.most + 1).toNat = if (toldB s x).2 < (toldB s x).1 then (s.most + 1, -1) else toldB s x := by
  have hb := told_bd ho hx
  have hh := told_hi (x := x) ho
  obtain ⟨m1, m2⟩ := And.intro ho.m1 ho.m2
  rw [stepT_eq ho hx _ (by omega)]
  have e : (((s.most + 1).toNat : Nat) : Int) = s.most + 1 := by omega
  rw [e]
  by_cases h : (toldB s x).2 < (toldB s x).1
  · rw [if_pos h, if_neg (by omega)]
  · rw [if_neg h, if_pos (by omega)]
    apply Prod.ext
    · rfl
    · show min _ _ = _; omega
theorem rdE_no {s : Sp} {x : Rd} {e : Int} (h : edS s x = e) (he : e ≠ 0) : rdE s x = e ∧ rdG s x = (0, 0) := by
  simp [rdE, rdG, h, he]

theorem rRead_fn (s : Sp) (M : Args) (hin : s.In M) (x : Rd) : Cn Try.prog 43 [spV s, rdV x] M (fun _ : Unit => .tuple #[.agg #[.int .i64 (rdG s x).1, .int .i64 (rdG s x).2], .int .i64 (rdE s x)]) (fun _ => []) (fun _ => True) := by
  refine fn_intro (N := 43) Try.func43 rfl rfl rfl fun w0 => ?_
  refine okc_seq ?_
  refine okc_region ?_
  refine s_boxA rfl rfl rfl rfl rfl rfl (fun b15 => ?_)
  refine s_boxA rfl rfl rfl rfl rfl rfl (fun b16 => ?_)
  refine s_alloc rfl rfl rfl rfl rfl rfl (fun b17 => ?_)
  refine s_assign rfl rfl rfl rfl rfl rfl ?_
  refine okl_nil ?_
  change OkC Try.prog _ _ _ _ _ _ _
  refine okc_weak (l' := [(0, _), (1, _), (2, _), (3, _), (4, _), (5, _)]) ⟨rfl, rfl, rfl, rfl, rfl, rfl, trivial⟩ ?_
  refine okc_seq ?_
  refine okc_seq ?_
  refine okc_region ?_
  refine s_loadW 2 rfl rfl rfl rfl rfl rfl rfl rfl rfl rfl ?_
  refine s_callb rfl rfl rfl rfl rfl rfl rfl c74 (rSpring_fn s M hin) covers_all (fun h18 => ?_) (fun h18 => ?_)
  · have hv : validB s = true := h18
    have hs0 := ok_of_valid hv
    obtain ⟨w1, w2, m1, m2, f1, f2, a1, a2, a3, v1, v2, v3⟩ := hs0.ok
    refine s_not rfl rfl rfl rfl rfl rfl ?_
    refine okl_nil ?_
    change OkC Try.prog _ _ _ _ _ _ _
    refine okc_weak (l' := [(0, _), (1, _), (2, _), (3, _), (4, _), (5, _), (10, _)]) ⟨rfl, rfl, rfl, rfl, rfl, rfl, rfl, trivial⟩ ?_
    refine okc_cond_f rfl ?_
    refine okc_skip ?_
    change OkC Try.prog _ _ _ _ _ _ _
    refine okc_weak (l' := [(0, _), (1, _), (2, _), (3, _), (4, _), (5, _), (10, _)]) ⟨rfl, rfl, rfl, rfl, rfl, rfl, rfl, trivial⟩ ?_
    refine okc_seq ?_
    refine okc_seq ?_
    refine okc_region ?_
    refine s_loadW 1 rfl rfl rfl rfl rfl rfl rfl rfl rfl rfl ?_
    refine s_field rfl rfl rfl rfl rfl rfl rfl rfl ?_
    refine s_load1 2 rfl rfl rfl rfl rfl rfl rfl rfl rfl ?_
    refine s_callb rfl rfl rfl rfl rfl rfl rfl c68 (rReading_fn x s.weeks (by omega) (by omega)) covers_nil (fun h19 => ?_) (fun h19 => ?_)
    · have hxb : readB s.weeks x = true := h19
      have hx := okR_of hxb
      have ho := hs0.ok
      refine s_not rfl rfl rfl rfl rfl rfl ?_
      refine okl_nil ?_
      change OkC Try.prog _ _ _ _ _ _ _
      refine okc_weak (l' := [(0, _), (1, _), (2, _), (3, _), (4, _), (5, _), (10, _), (16, _)]) ⟨rfl, rfl, rfl, rfl, rfl, rfl, rfl, rfl, trivial⟩ ?_
      refine okc_cond_f rfl ?_
      refine okc_skip ?_
      change OkC Try.prog _ _ _ _ _ _ _
      refine okc_weak (l' := [(0, _), (1, _), (2, _), (3, _), (4, _), (5, _), (10, _), (16, _)]) ⟨rfl, rfl, rfl, rfl, rfl, rfl, rfl, rfl, trivial⟩ ?_
      refine okc_seq ?_
      refine okc_region ?_
      refine s_field rfl rfl rfl rfl rfl rfl rfl rfl ?_
      refine s_load1 2 rfl rfl rfl rfl rfl rfl rfl rfl rfl ?_
      refine s_add rfl rfl rfl rfl rfl rfl rfl (by omega) ?_
      refine s_build rfl rfl rfl rfl rfl rfl rfl rfl rfl ?_
      refine s_alloc rfl rfl rfl rfl rfl rfl (fun b20 => ?_)
      refine k_storeW 0 rfl rfl rfl rfl rfl rfl rfl rfl rfl rfl rfl rfl ?_
      refine okl_nil ?_
      change OkC Try.prog _ _ _ _ _ _ _
      refine okc_weak (l' := [(0, _), (1, _), (2, _), (3, _), (4, _), (5, _), (6, _), (10, _), (16, _)]) ⟨rfl, rfl, rfl, rfl, rfl, rfl, rfl, rfl, rfl, trivial⟩ ?_
      refine okc_seq ?_
      refine okc_seq ?_
      refine okc_region ?_
      refine s_assign rfl rfl rfl rfl rfl rfl ?_
      refine okl_nil ?_
      change OkC Try.prog _ _ _ _ _ _ _
      refine okc_weak (l' := [(0, _), (1, _), (2, _), (3, _), (4, _), (5, _), (6, _), (7, _), (10, _), (16, _)]) ⟨rfl, rfl, rfl, rfl, rfl, rfl, rfl, rfl, rfl, rfl, trivial⟩ ?_
      refine okc_block ?_
      refine okc_loopF (γ := Nat) [(0, _), (1, _), (2, _), (3, _), (4, _), (5, _), (6, _), (10, _), (16, _)] ⟨rfl, rfl, rfl, rfl, rfl, rfl, rfl, rfl, rfl, trivial⟩ [1, 2, 3] [0] (by decide) _ rfl (fun n => [(7, .int .i64 n)]) (fun n => [(b20, [.int .i64 (stepT s x n).1, .int .i64 (stepT s x n).2], 23)]) (fun n => (n : Int) ≤ s.most + 1) (fun n => (s.most + 1).toNat - n) 0 (by omega) ⟨rfl, trivial⟩ rfl ?_
      rintro n hn
      change OkC Try.prog _ _ _ _ _ _ _
      refine okc_seq ?_
      refine okc_seq ?_
      refine okc_region ?_
      refine s_move rfl rfl rfl rfl rfl rfl ?_
      refine s_field rfl rfl rfl rfl rfl rfl rfl rfl ?_
      refine s_load1 3 rfl rfl rfl rfl rfl rfl rfl rfl rfl ?_
      refine s_cmpS rfl rfl rfl rfl rfl rfl rfl rfl (fun h21 => ?_) (fun h21 => ?_)
      · have hle : (n : Int) ≤ s.most := by simpa using h21
        refine okl_nil ?_
        change OkC Try.prog _ _ _ _ _ _ _
        refine okc_weak (l' := [(0, _), (1, _), (2, _), (3, _), (4, _), (5, _), (6, _), (7, _), (10, _), (16, _), (25, _)]) ⟨rfl, rfl, rfl, rfl, rfl, rfl, rfl, rfl, rfl, rfl, rfl, trivial⟩ ?_
        refine okc_cond_t rfl ?_
        refine okc_skip ?_
        change OkC Try.prog _ _ _ _ _ _ _
        refine okc_weak (l' := [(0, _), (1, _), (2, _), (3, _), (4, _), (5, _), (6, _), (7, _), (10, _), (16, _), (25, _)]) ⟨rfl, rfl, rfl, rfl, rfl, rfl, rfl, rfl, rfl, rfl, rfl, trivial⟩ ?_
        refine okc_seq ?_
        refine okc_block ?_
        refine okc_seq ?_
        refine okc_region ?_
        refine s_loadW 3 rfl rfl rfl rfl rfl rfl rfl rfl rfl rfl ?_
        refine s_loadW 2 rfl rfl rfl rfl rfl rfl rfl rfl rfl rfl ?_
        refine s_move rfl rfl rfl rfl rfl rfl ?_
        refine s_callb rfl rfl rfl rfl rfl rfl rfl c92 (right_fn s x _ ho hx (by omega)) covers_nil (fun h22 => ?_) (fun h22 => ?_)
        · have hr : rightB s x n = true := h22
          refine okl_nil ?_
          change OkC Try.prog _ _ _ _ _ _ _
          refine okc_weak (l' := [(0, _), (1, _), (2, _), (3, _), (4, _), (5, _), (6, _), (7, _), (10, _), (16, _), (25, _), (31, _)]) ⟨rfl, rfl, rfl, rfl, rfl, rfl, rfl, rfl, rfl, rfl, rfl, rfl, trivial⟩ ?_
          refine okc_cond_t rfl ?_
          refine okc_region ?_
          refine s_field rfl rfl rfl rfl rfl rfl rfl rfl ?_
          refine s_load1 0 rfl rfl rfl rfl rfl rfl rfl rfl rfl ?_
          refine s_move rfl rfl rfl rfl rfl rfl ?_
          refine s_min rfl rfl rfl rfl rfl rfl rfl ?_
          refine s_move rfl rfl rfl rfl rfl rfl ?_
          refine s_build rfl rfl rfl rfl rfl rfl rfl rfl rfl ?_
          refine k_storeW 0 rfl rfl rfl rfl rfl rfl rfl rfl rfl rfl rfl rfl ?_
          refine okl_nil ?_
          change OkC Try.prog _ _ _ _ _ _ _
          refine okc_weak (l' := [(0, _), (1, _), (2, _), (3, _), (4, _), (5, _), (6, _), (7, _), (10, _), (16, _), (25, _), (31, _)]) ⟨rfl, rfl, rfl, rfl, rfl, rfl, rfl, rfl, rfl, rfl, rfl, rfl, trivial⟩ ?_
          refine okc_region ?_
          refine s_move rfl rfl rfl rfl rfl rfl ?_
          refine s_add rfl rfl rfl rfl rfl rfl rfl (by omega) ?_
          refine s_assign rfl rfl rfl rfl rfl rfl ?_
          refine okl_nil ?_
          refine fun a w hs => ⟨n + 1, by omega, by omega, ?_⟩
          exact hs.weak ⟨rfl, rfl, rfl, rfl, rfl, rfl, rfl, rfl, rfl, rfl, trivial⟩ [0, 1, 2, 3] (by decide) (by first | (rw [stepT, if_pos hr]; rfl) | (rw [stepT, if_neg (by simp [hr])]; rfl))
        · have hr : rightB s x n = false := h22
          refine okl_nil ?_
          change OkC Try.prog _ _ _ _ _ _ _
          refine okc_weak (l' := [(0, _), (1, _), (2, _), (3, _), (4, _), (5, _), (6, _), (7, _), (10, _), (16, _), (25, _), (31, _)]) ⟨rfl, rfl, rfl, rfl, rfl, rfl, rfl, rfl, rfl, rfl, rfl, rfl, trivial⟩ ?_
          refine okc_cond_f rfl ?_
          refine okc_skip ?_
          change OkC Try.prog _ _ _ _ _ _ _
          refine okc_weak (l' := [(0, _), (1, _), (2, _), (3, _), (4, _), (5, _), (6, _), (7, _), (10, _), (16, _), (25, _), (31, _)]) ⟨rfl, rfl, rfl, rfl, rfl, rfl, rfl, rfl, rfl, rfl, rfl, rfl, trivial⟩ ?_
          refine okc_region ?_
          refine s_move rfl rfl rfl rfl rfl rfl ?_
          refine s_add rfl rfl rfl rfl rfl rfl rfl (by omega) ?_
          refine s_assign rfl rfl rfl rfl rfl rfl ?_
          refine okl_nil ?_
          refine fun a w hs => ⟨n + 1, by omega, by omega, ?_⟩
          exact hs.weak ⟨rfl, rfl, rfl, rfl, rfl, rfl, rfl, rfl, rfl, rfl, trivial⟩ [0, 1, 2, 3] (by decide) (by first | (rw [stepT, if_pos hr]; rfl) | (rw [stepT, if_neg (by simp [hr])]; rfl))
      · have hgt : ¬ (n : Int) ≤ s.most := by simpa using h21
        have hnn : (s.most + 1).toNat = n := by omega
        have hall := stepT_all ho hx
        rw [hnn] at hall
        have hb9 := told_bd ho hx
        refine okl_nil ?_
        change OkC Try.prog _ _ _ _ _ _ _
        refine okc_weak (l' := [(0, _), (1, _), (2, _), (3, _), (4, _), (5, _), (6, _), (7, _), (10, _), (16, _), (25, _)]) ⟨rfl, rfl, rfl, rfl, rfl, rfl, rfl, rfl, rfl, rfl, rfl, trivial⟩ ?_
        refine okc_cond_f rfl ?_
        refine okc_exit ?_
        change OkC Try.prog _ _ _ _ _ _ _
        refine okc_weak (l' := [(0, _), (1, _), (2, _), (3, _), (4, _), (5, _), (6, _), (7, _), (10, _), (16, _), (25, _)]) ⟨rfl, rfl, rfl, rfl, rfl, rfl, rfl, rfl, rfl, rfl, rfl, trivial⟩ ?_
        refine okc_seq ?_
        refine okc_seq ?_
        refine okc_region ?_
        refine s_field rfl rfl rfl rfl rfl rfl rfl rfl ?_
        refine s_load1 0 rfl rfl rfl rfl rfl rfl rfl rfl rfl ?_
        refine s_cmpS rfl rfl rfl rfl rfl rfl rfl rfl (fun h23 => ?_) (fun h23 => ?_)
        · have hlt : (stepT s x n).2 < 0 := by simpa using h23
          refine okl_nil ?_
          change OkC Try.prog _ _ _ _ _ _ _
          refine okc_weak (l' := [(0, _), (1, _), (2, _), (3, _), (4, _), (5, _), (6, _), (7, _), (10, _), (16, _), (25, _), (40, _)]) ⟨rfl, rfl, rfl, rfl, rfl, rfl, rfl, rfl, rfl, rfl, rfl, rfl, trivial⟩ ?_
          refine okc_cond_t rfl ?_
          refine okc_seq ?_
          refine okc_region ?_
          refine s_build rfl rfl rfl rfl rfl rfl rfl rfl rfl ?_
          refine k_storeW 1 rfl rfl rfl rfl rfl rfl rfl rfl rfl rfl rfl rfl ?_
          refine s_assign rfl rfl rfl rfl rfl rfl ?_
          refine okl_nil ?_
          change OkC Try.prog _ _ _ _ _ _ _
          refine okc_weak (l' := [(0, _), (1, _), (2, _), (3, _), (4, _), (5, _), (6, _), (7, _), (10, _), (16, _), (25, _), (40, _)]) ⟨rfl, rfl, rfl, rfl, rfl, rfl, rfl, rfl, rfl, rfl, rfl, rfl, trivial⟩ ?_
          refine okc_ret fun a w hs => ?_
          exact ret_v hs (run_results2 hs rfl (k_ragg 1 rfl rfl rfl rfl rfl) (rv_tmp rfl)) (by clear hs; by_cases h9 : (toldB s x).2 < (toldB s x).1; (simp [rdE, rdG, ed0 hv hxb, h9]); (rw [hall, if_neg h9] at hlt; omega))
        · have hlt : ¬ (stepT s x n).2 < 0 := by simpa using h23
          refine okl_nil ?_
          change OkC Try.prog _ _ _ _ _ _ _
          refine okc_weak (l' := [(0, _), (1, _), (2, _), (3, _), (4, _), (5, _), (6, _), (7, _), (10, _), (16, _), (25, _), (40, _)]) ⟨rfl, rfl, rfl, rfl, rfl, rfl, rfl, rfl, rfl, rfl, rfl, rfl, trivial⟩ ?_
          refine okc_cond_f rfl ?_
          refine okc_skip ?_
          change OkC Try.prog _ _ _ _ _ _ _
          refine okc_weak (l' := [(0, _), (1, _), (2, _), (3, _), (4, _), (5, _), (6, _), (7, _), (10, _), (16, _), (25, _), (40, _)]) ⟨rfl, rfl, rfl, rfl, rfl, rfl, rfl, rfl, rfl, rfl, rfl, rfl, trivial⟩ ?_
          refine okc_seq ?_
          refine okc_region ?_
          refine s_loadW 0 rfl rfl rfl rfl rfl rfl rfl rfl rfl rfl ?_
          refine k_storeW 1 rfl rfl rfl rfl rfl rfl rfl rfl rfl rfl rfl rfl ?_
          refine s_assign rfl rfl rfl rfl rfl rfl ?_
          refine okl_nil ?_
          change OkC Try.prog _ _ _ _ _ _ _
          refine okc_weak (l' := [(0, _), (1, _), (2, _), (3, _), (4, _), (5, _), (6, _), (7, _), (10, _), (16, _), (25, _), (40, _)]) ⟨rfl, rfl, rfl, rfl, rfl, rfl, rfl, rfl, rfl, rfl, rfl, rfl, trivial⟩ ?_
          refine okc_ret fun a w hs => ?_
          exact ret_v hs (run_results2 hs rfl (k_ragg 1 rfl rfl rfl rfl rfl) (rv_tmp rfl)) (by clear hs; by_cases h9 : (toldB s x).2 < (toldB s x).1; (rw [hall, if_pos h9] at hlt; exact absurd (by show (-1 : Int) < 0; decide) hlt); (rw [hall]; simp [rdE, rdG, ed0 hv hxb, h9]))
    · have hxb : readB s.weeks x = false := h19
      refine s_not rfl rfl rfl rfl rfl rfl ?_
      refine okl_nil ?_
      change OkC Try.prog _ _ _ _ _ _ _
      refine okc_weak (l' := [(0, _), (1, _), (2, _), (3, _), (4, _), (5, _), (10, _), (16, _)]) ⟨rfl, rfl, rfl, rfl, rfl, rfl, rfl, rfl, trivial⟩ ?_
      refine okc_cond_t rfl ?_
      refine okc_seq ?_
      refine okc_region ?_
      refine s_build rfl rfl rfl rfl rfl rfl rfl rfl rfl ?_
      refine k_storeW 0 rfl rfl rfl rfl rfl rfl rfl rfl rfl rfl rfl rfl ?_
      refine s_assign rfl rfl rfl rfl rfl rfl ?_
      refine okl_nil ?_
      change OkC Try.prog _ _ _ _ _ _ _
      refine okc_weak (l' := [(0, _), (1, _), (2, _), (3, _), (4, _), (5, _), (10, _), (16, _)]) ⟨rfl, rfl, rfl, rfl, rfl, rfl, rfl, rfl, trivial⟩ ?_
      refine okc_ret fun a w hs => ?_
      exact ret_v hs (run_results2 hs rfl (k_ragg 0 rfl rfl rfl rfl rfl) (rv_tmp rfl)) (by clear hs; rw [(rdE_no (ed12 hv hxb) (by decide)).1, (rdE_no (ed12 hv hxb) (by decide)).2])
  · have hv : validB s = false := h18
    refine s_not rfl rfl rfl rfl rfl rfl ?_
    refine okl_nil ?_
    change OkC Try.prog _ _ _ _ _ _ _
    refine okc_weak (l' := [(0, _), (1, _), (2, _), (3, _), (4, _), (5, _), (10, _)]) ⟨rfl, rfl, rfl, rfl, rfl, rfl, rfl, trivial⟩ ?_
    refine okc_cond_t rfl ?_
    refine okc_seq ?_
    refine okc_region ?_
    refine s_build rfl rfl rfl rfl rfl rfl rfl rfl rfl ?_
    refine k_storeW 0 rfl rfl rfl rfl rfl rfl rfl rfl rfl rfl rfl rfl ?_
    refine s_assign rfl rfl rfl rfl rfl rfl ?_
    refine okl_nil ?_
    change OkC Try.prog _ _ _ _ _ _ _
    refine okc_weak (l' := [(0, _), (1, _), (2, _), (3, _), (4, _), (5, _), (10, _)]) ⟨rfl, rfl, rfl, rfl, rfl, rfl, rfl, trivial⟩ ?_
    refine okc_ret fun a w hs => ?_
    exact ret_v hs (run_results2 hs rfl (k_ragg 0 rfl rfl rfl rfl rfl) (rv_tmp rfl)) (by clear hs; rw [(rdE_no (ed10 hv) (by decide)).1, (rdE_no (ed10 (x := x) hv) (by decide)).2])

end Go.Proofs.Ytdpnadknaacinaa
end

section
namespace Go.Sx
open Go.RowKit
set_option linter.unusedVariables false
set_option linter.unusedSimpArgs false

/-! ### Maps -/
abbrev MapE := Nat × Array MapEntry × Nat × Bool
/-- The entries: these keys, all with one value. -/
def MapI (es : Array MapEntry) (ks : List Int) (v : Value) : Prop := es.toList.map (fun e => (e.key, e.val)) = ks.map (fun k => (Value.int .i64 k, v))
def insK (ks : List Int) (k : Int) : List Int := if k ∈ ks then ks else ks ++ [k]

section
variable {P : Program} {N : Cx} {w0 : World} {l : Env} {O F I R c keep : Blks} {A : Args} {a : Act} {w w' : World} {o : Oper} {ops : Array Oper} {Q : Exit → Act → World → Prop} {is : List Nat} {i d : Nat}

theorem MapI.nil (v : Value) : MapI #[] [] v := rfl

theorem find_now {k : Int} {v : Value} : ∀ (es : List MapEntry) (ks : List Int) (j : Nat), es.map (fun e => (e.key, e.val)) = ks.map (fun k => (Value.int .i64 k, v)) →
    Instr.findNow (.int .i64) (.int .i64 k) es j = some (if k ∈ ks then some (j + ks.idxOf k, v) else none)
  | [], ks, j, h => by cases ks <;> simp at h; simp [Instr.findNow]
  | e :: es, [], j, h => by simp at h
  | e :: es, x :: ks, j, h => by
    simp only [List.map_cons, List.cons.injEq, Prod.mk.injEq] at h
    obtain ⟨⟨h1, h2⟩, h3⟩ := h
    have ih := find_now (k := k) es ks (j + 1) h3
    unfold Instr.findNow
    rw [h1, h2]
    simp only [Instr.sameNow, if_true]
    by_cases hx : k = x
    · subst hx
      simp
    · have hb : (k == x) = false := by simpa using hx
      have hne : (x == k) = false := by simpa using fun e => hx e.symm
      simp only [hb, ih, List.mem_cons, hx, false_or]
      congr 1
      split
      · rw [List.idxOf_cons]; simp [hne]; omega
      · rfl

theorem St.maps {mp : List MapE} (h : St N w0 l O A a w) (hm : Mk { N with maps := mp } w0 w) : St { N with maps := mp } w0 l O A a w :=
  ⟨h.size, h.noDef, h.bel, h.env, h.own, h.nodup, h.arg, hm⟩

theorem okl_makeMap {T : TypeId} (ho : ops[i]? = some o) (hg : wantsB ops l o = some true) (hd : o.dst = some d) (hN : Nat.blt d N.n = true) (hop : o.op = .makeMap T none) (hmp : N.maps = [])
    (rest : ∀ b, OkL P { N with maps := [(b, #[], 0, true)] } w0 ops Q is ((d, .map (some b)) :: l) O A) : OkL P N w0 ops Q (i :: is) l O A := by
  intro a w hs
  simp only [wpOpsIn, ho, wanted_of hs hg, if_true]
  have hrun : (execOp a.eval o).run P w = .ok (.value (.map (some w.heap.size))) (w.alloc (.map #[] 0)) := by
    simp [execOp, hop, Instr.makeMap]
  refine opIn_of (fun c h => by rw [hop] at h; cases h) ?_
  rw [hrun, hd]
  refine rest w.heap.size _ _ (St.maps ((hs.ext (below_alloc w _)).put hN _) ?_)
  refine ⟨(hs.ext (below_alloc w _)).more.marked, fun b es c own hb => ?_⟩
  simp only [List.mem_singleton, Prod.mk.injEq] at hb
  obtain ⟨rfl, rfl, rfl, rfl⟩ := hb
  exact ⟨heap_new w _, fun _ => hs.bel.size⟩

theorem St.putMap {b cl cl' : Nat} {es es' : Array MapEntry} (h : St N w0 l O A a w) (hmp : N.maps = [(b, es, cl, true)]) : St { N with maps := [(b, es', cl', true)] } w0 l O A a (w.putObj b (.map es' cl')) := by
  obtain ⟨h1, h2⟩ := h.more.mapped b es cl true (by rw [hmp]; simp)
  have hw := h.ws.put (.map es' cl') h1 rfl (h2 rfl)
  have h3 : St N w0 l O A a w := h
  refine WS.st (N := { N with maps := [(b, es', cl', true)] }) ⟨hw.bel, hw.own, hw.nodup, hw.arg⟩ h.size h.noDef h.env ⟨fun D hD => ?_, fun k es2 c2 own hb => ?_⟩
  · obtain ⟨g1, g2⟩ := h.more.marked D hD
    have hne : D ≠ b := fun e => by rw [e, h1] at g1; cases g1
    exact ⟨(World.putObj_heap_other hne).trans g1, g2⟩
  · simp only [List.mem_singleton, Prod.mk.injEq] at hb
    obtain ⟨rfl, rfl, rfl, rfl⟩ := hb
    exact ⟨World.putObj_heap_same (lt_of_get h1), h2⟩

theorem check_int' {e : Bool} {kt : TypeId} {k : Int} (hk : P.underlying kt = some (.int .i64)) (n : Nat) (w : World) : (Instr.checkKey e (n + 1) kt (.int .i64 k)).run P w = .ok () w := by
  simp [Instr.checkKey, run_underlying hk]
theorem check_int {e : Bool} {kt : TypeId} {k : Int} (hk : P.underlying kt = some (.int .i64)) (w : World) : (Instr.checkKey e 10000 kt (.int .i64 k)).run P w = .ok () w := check_int' hk 9999 w
theorem find_int {kt : TypeId} {k : Int} {v : Value} {es : Array MapEntry} {ks : List Int} (hk : P.underlying kt = some (.int .i64)) (hI : MapI es ks v) (w : World) :
    (Instr.findKey kt (.int .i64 k) es.toList).run P w = .ok (if k ∈ ks then some (ks.idxOf k, v) else none) w := by
  have := find_now (k := k) es.toList ks 0 hI
  simp only [Nat.zero_add] at this
  simp [Instr.findKey, run_underlying hk, this]

theorem MapI.len {es : Array MapEntry} {ks : List Int} {v : Value} (h : MapI es ks v) : es.size = ks.length := by
  have := congrArg List.length h
  simpa using this
theorem MapI.at {es : Array MapEntry} {ks : List Int} {v : Value} (h : MapI es ks v) {i : Nat} {k : Int} (hk : ks[i]? = some k) : ∃ e, es[i]? = some e ∧ e.key = .int .i64 k ∧ e.val = v := by
  have h1 : (es.toList.map (fun e => (e.key, e.val)))[i]? = (ks.map (fun k => (Value.int .i64 k, v)))[i]? := by rw [h]
  simp only [List.getElem?_map, hk, Option.map_some, Array.getElem?_toList] at h1
  cases he : es[i]? with
  | none => rw [he] at h1; cases h1
  | some e =>
    rw [he] at h1
    simp only [Option.map_some, Option.some.injEq, Prod.mk.injEq] at h1
    exact ⟨e, rfl, h1.1, h1.2⟩

theorem okl_mapPut {T kt et : TypeId} {m k x : Operand} {b cl : Nat} {es : Array MapEntry} {key : Int} {v : Value} {ks : List Int} (ho : ops[i]? = some o) (hg : wantsB ops l o = some true) (hd : o.dst = none)
    (hop : o.op = .mapUpdate T m k x) (hm : ev l m = some (.map (some b))) (hk : ev l k = some (.int .i64 key)) (hx : ev l x = some v) (hT : P.underlying T = some (.map kt et)) (hkt : P.underlying kt = some (.int .i64))
    (hmp : N.maps = [(b, es, cl, true)]) (hI : MapI es ks v) (rest : ∀ es' cl', MapI es' (insK ks key) v → OkL P { N with maps := [(b, es', cl', true)] } w0 ops Q is l O A) : OkL P N w0 ops Q (i :: is) l O A := by
  intro a w hs
  simp only [wpOpsIn, ho, wanted_of hs hg, if_true]
  obtain ⟨h1, h2⟩ := hs.more.mapped b es cl true (by rw [hmp]; simp)
  have hget : (getObj b).run P w = .ok (.map es cl) w := by simp [getObj, Sem.run, h1]
  have hset : ∀ o', (setObj b o').run P w = .ok () (w.putObj b o') := fun o' => by simp [setObj, Sem.run, h1, World.putObj]
  by_cases hin : key ∈ ks
  · have hidx : ks[ks.idxOf key]? = some key := List.getElem?_eq_some_iff.2 ⟨List.idxOf_lt_length_of_mem hin, List.getElem_idxOf _⟩
    obtain ⟨e, he, hek, hev⟩ := hI.at hidx
    have hrun : (execOp a.eval o).run P w = .ok .skip (w.putObj b (.map (es.modify (ks.idxOf key) fun e => { e with key := .int .i64 key, val := v }) cl)) := by
      have hkey : (Instr.keyThatStays (.int .i64 key) (.int .i64 key)).run P w = .ok (.int .i64 key) w := by simp [Instr.keyThatStays, Instr.sameBits]
      simp [execOp, hop, hs.eval hm, hs.eval hk, hs.eval hx, Instr.mapUpdate, run_underlying hT, hget, check_int hkt, find_int hkt hI, hin, he, hek, hkey, hset]
    refine opIn_of (fun c h => by rw [hop] at h; cases h) ?_
    rw [hrun, hd]
    refine rest _ _ ?_ _ _ (hs.putMap hmp)
    unfold MapI at hI ⊢
    rw [insK, if_pos hin, ← hI]
    apply List.ext_getElem?
    intro j
    simp only [List.getElem?_map, Array.getElem?_toList, Array.getElem?_modify]
    split
    · rename_i e1
      subst e1
      rw [he]
      simp [hek, hev]
    · rfl
  · have hrun : (execOp a.eval o).run P w = .ok .skip (w.putObj b (.map (es.push { key := .int .i64 key, val := v, born := cl }) (cl + 1))) := by
      simp [execOp, hop, hs.eval hm, hs.eval hk, hs.eval hx, Instr.mapUpdate, run_underlying hT, hget, check_int hkt, find_int hkt hI, hin, hset]
    refine opIn_of (fun c h => by rw [hop] at h; cases h) ?_
    rw [hrun, hd]
    refine rest _ _ ?_ _ _ (hs.putMap hmp)
    unfold MapI at hI ⊢
    rw [insK, if_neg hin]
    simp [hI]

theorem map_eraseIdx' {α β : Type} (f : α → β) : ∀ (L : List α) (i : Nat), (L.eraseIdx i).map f = (L.map f).eraseIdx i
  | [], i => by simp
  | x :: L, 0 => by simp
  | x :: L, i + 1 => by simp [map_eraseIdx' f L i]
theorem erase_idx {ks : List Int} {k : Int} (h : k ∈ ks) : ks.eraseIdx (ks.idxOf k) = ks.erase k := (List.erase_eq_eraseIdx_of_idxOf rfl).symm

theorem okl_mapDel {T T2 kt et : TypeId} {m k : Operand} {b cl : Nat} {es : Array MapEntry} {key : Int} {v : Value} {ks : List Int} (ho : ops[i]? = some o) (hg : wantsB ops l o = some true) (hd : o.dst = none)
    (hop : o.op = .call { callee := .builtin .delete, args := #[m, k], argTypes := #[T, T2] }) (hm : ev l m = some (.map (some b))) (hk : ev l k = some (.int .i64 key)) (hT : P.underlying T = some (.map kt et)) (hkt : P.underlying kt = some (.int .i64))
    (hmp : N.maps = [(b, es, cl, true)]) (hI : MapI es ks v) (rest : ∀ es' cl', MapI es' (ks.erase key) v → OkL P { N with maps := [(b, es', cl', true)] } w0 ops Q is l O A) : OkL P N w0 ops Q (i :: is) l O A := by
  intro a w hs
  simp only [wpOpsIn, ho, wanted_of hs hg, if_true]
  obtain ⟨h1, h2⟩ := hs.more.mapped b es cl true (by rw [hmp]; simp)
  have hget : (getObj b).run P w = .ok (.map es cl) w := by simp [getObj, Sem.run, h1]
  have hset : ∀ o', (setObj b o').run P w = .ok () (w.putObj b o') := fun o' => by simp [setObj, Sem.run, h1, World.putObj]
  by_cases hin : key ∈ ks
  · have hrun : (execOp a.eval o).run P w = .ok (.value (.tuple #[])) (w.putObj b (.map (es.eraseIdxIfInBounds (ks.idxOf key)) cl)) := by
      simp [execOp, hop, resolve, hs.eval hm, hs.eval hk, invoke, builtin, Builtin.delete_, run_underlying hT, hget, check_int hkt, find_int hkt hI, hin, hset]
    refine opIn_of (fun c h => by rw [hop] at h; cases h) ?_
    rw [hrun, hd]
    refine rest _ _ ?_ _ _ (hs.putMap hmp)
    unfold MapI at hI ⊢
    have hlt : ks.idxOf key < es.size := by
      have h3 : es.size = ks.length := by have := congrArg List.length hI; simpa using this
      rw [h3]; exact List.idxOf_lt_length_of_mem hin
    rw [Array.eraseIdxIfInBounds, dif_pos hlt, Array.toList_eraseIdx, ← erase_idx hin, map_eraseIdx', map_eraseIdx', hI]
  · have hrun : (execOp a.eval o).run P w = .ok (.value (.tuple #[])) (w.putObj b (.map es cl)) := by
      simp [execOp, hop, resolve, hs.eval hm, hs.eval hk, invoke, builtin, Builtin.delete_, run_underlying hT, hget, check_int hkt, find_int hkt hI, hin, hset]
    refine opIn_of (fun c h => by rw [hop] at h; cases h) ?_
    rw [hrun, hd]
    refine rest _ _ ?_ _ _ (hs.putMap hmp)
    rw [List.erase_of_not_mem hin]; exact hI

theorem op_mapGet {T kt et : TypeId} {m k : Operand} {b cl : Nat} {own : Bool} {es : Array MapEntry} {key : Int} {v z : Value} {zs : List Value} {ks : List Int}
    (hop : o.op = .lookup T m k false) (hm : ev l m = some (.map (some b))) (hk : ev l k = some (.int .i64 key)) (hT : P.underlying T = some (.map kt et)) (hkt : P.underlying kt = some (.int .i64))
    (hz : ∀ w, (zeroValue et).run P w = .ok z w) (hmp : N.maps = [(b, es, cl, own)]) (hI : MapI es ks v) : OpV P N w0 l O A o (pv (if key ∈ ks then v else z)) :=
  opv_run fun a w hs => by
    obtain ⟨h1, h2⟩ := hs.more.mapped b es cl own (by rw [hmp]; simp)
    have hget : (getObj b).run P w = .ok (.map es cl) w := by simp [getObj, Sem.run, h1]
    by_cases hin : key ∈ ks <;> simp [execOp, hop, hs.eval hm, hs.eval hk, Instr.lookup, run_underlying hT, hget, check_int hkt, find_int hkt hI, hin, hz]

/-! ### Contracts of functions that write blocks of their caller's -/
def CnG {σ : Type} (P : Program) (f : Nat) (args : List Value) (M : Args) (mp : List (Nat × Array MapEntry × Nat)) (I : Blks) (val : σ → Value) (out blks : σ → Blks) (ok : σ → Prop) : Prop :=
  ∀ w, (∀ b cs, (b, cs) ∈ M → reads w b cs ∧ b ∉ nums I) → (∀ b cs T, (b, cs, T) ∈ I → holds w b cs T) → (nums I).Nodup → (∀ b es c, (b, es, c) ∈ mp → w.heap[b]? = some (.map es c)) →
    Calls P f args.toArray w fun e w' => ∃ v, e = .returned v ∧ BelowX (nums I) w w' ∧ ∃ s, v = val s ∧ ok s ∧ nums (out s) = nums I ∧ (∀ b cs T, (b, cs, T) ∈ out s → holds w' b cs T) ∧
      (∀ b cs T, (b, cs, T) ∈ blks s → holds w' b cs T ∧ w.heap.size ≤ b) ∧ (nums (blks s)).Nodup

theorem Cn.g {σ : Type} {f : Nat} {args : List Value} {M : Args} {val : σ → Value} {blks : σ → Blks} {ok : σ → Prop} (h : Cn P f args M val blks ok) (mp : List (Nat × Array MapEntry × Nat)) : CnG P f args M mp [] val (fun _ => []) blks ok := by
  intro w hM _ _ _
  refine (h w (fun b cs hb => (hM b cs hb).1)).mono ?_
  rintro e w' ⟨v, rfl, hb, s, hv, hok, hB, hn⟩
  exact ⟨v, rfl, .of hb, s, hv, hok, rfl, (fun b cs T h => by cases h), hB, hn⟩
theorem CnG.plain {σ : Type} {f : Nat} {args : List Value} {M : Args} {val : σ → Value} {out blks : σ → Blks} {ok : σ → Prop} (h : CnG P f args M [] [] val out blks ok) : Cn P f args M val blks ok := by
  intro w hM
  refine (h w (fun b cs hb => ⟨hM b cs hb, by simp [nums]⟩) (fun b cs T h => (by cases h)) (by simp [nums]) (fun b es c h => (by cases h))).mono ?_
  rintro e w' ⟨v, rfl, hb, s, hv, hok, _, _, hB, hn⟩
  exact ⟨v, rfl, hb.below rfl, s, hv, hok, hB, hn⟩

def cxG (n : Nat) (I : Blks) (mp : List (Nat × Array MapEntry × Nat)) : Cx := ⟨n, [], none, nums I, mp.map fun x => (x.1, x.2.1, x.2.2, false)⟩
def postG {σ : Type} (w0 : World) (I : Blks) (val : σ → Value) (out blks : σ → Blks) (ok : σ → Prop) (e : Ending) (w' : World) : Prop :=
  ∃ v, e = .returned v ∧ BelowX (nums I) w0 w' ∧ ∃ s, v = val s ∧ ok s ∧ nums (out s) = nums I ∧ (∀ b cs T, (b, cs, T) ∈ out s → holds w' b cs T) ∧
      (∀ b cs T, (b, cs, T) ∈ blks s → holds w' b cs T ∧ w0.heap.size ≤ b) ∧ (nums (blks s)).Nodup
theorem fn_introG {σ : Type} {f : Nat} {fn : Func} {c : Code} {args : List Value} {M : Args} {mp : List (Nat × Array MapEntry × Nat)} {val : σ → Value} {out blks : σ → Blks} {ok : σ → Prop}
    {n : Nat} (hf : P.funcs[f]? = some fn) (hb : fn.body = some c) (hn : fn.ntmps = n) (hN : Nat.ble args.length n = true)
    (h : ∀ w0, OkC P (cxG n I mp) w0 c (bodyPost P fn (postG w0 I val out blks ok)) (envOf args 0) I M) : CnG P f args M mp I val out blks ok := by
  intro w hM hI hnd hmp
  refine callsIn_wide.1 (callsIn_of_wp (F := Fence.wide) (n := 0) hf hb trivial ?_)
  rw [hn]
  have h0 := st_start (w := w) (M := []) (n := n) (args := args) (Nat.le_of_ble_eq_true hN) (fun b cs h => by cases h)
  refine h w _ w ⟨h0.size, rfl, BelowX.refl _ _, h0.env, fun j b cs T hj => ⟨hI b cs T (List.mem_of_getElem? hj), .inr (mem_nums.2 ⟨cs, T, List.mem_of_getElem? hj⟩)⟩, hnd, fun j b cs hj => ?_, ⟨fun D hD => (by cases hD), fun b es c own hb => ?_⟩⟩
  · obtain ⟨h1, h2⟩ := hM b cs (List.mem_of_getElem? hj)
    exact ⟨h1, h1.lt, h2⟩
  · simp only [cxG, List.mem_map, Prod.mk.injEq] at hb
    obtain ⟨⟨b', es', c'⟩, hm, rfl, rfl, rfl, rfl⟩ := hb
    exact ⟨hmp _ _ _ hm, fun h => by cases h⟩

theorem ret_postG {σ : Type} {n : Nat} {mp' : List MapE} {fn : Func} {val : σ → Value} {out blks : σ → Blks} {ok : σ → Prop} {v : Value} (hs : St ⟨n, [], none, nums I, mp'⟩ w0 l O A a w) (hr : (results fn a.tmps).run P w = .ok v w)
    (s : σ) (hv : v = val s) (hok : ok s) (hout : nums (out s) = nums I) (hsub : ∀ x ∈ out s ++ blks s, x ∈ O) (hnd : (nums (out s ++ blks s)).Nodup) : bodyPost P fn (postG w0 I val out blks ok) .ret a w := by
  refine ⟨by rw [hs.noDef]; rfl, v, hr, v, rfl, hs.bel, s, hv, hok, hout, fun b cs T hm => (hs.ws.own b cs T (hsub _ (List.mem_append_left _ hm))).1, fun b cs T hm => ?_, ?_⟩
  · obtain ⟨h1, h2⟩ := hs.ws.own b cs T (hsub _ (List.mem_append_right _ hm))
    refine ⟨h1, h2.resolve_right (fun hb => ?_)⟩
    have hb' : b ∈ nums (out s) := by rw [hout]; exact hb
    simp only [nums, List.map_append, List.nodup_append] at hnd
    exact hnd.2.2 b hb' b (List.mem_map.2 ⟨_, hm, rfl⟩) rfl
  · simp only [nums, List.map_append, List.nodup_append] at hnd
    exact hnd.2.1

theorem opx_call {σ : Type} {f : Nat} {xs : Array Operand} {ts : Array TypeId} {x : Operand} {vs : List Value} {first cap : Array Value} {M : Args} {mp : List (Nat × Array MapEntry × Nat)} {val : σ → Value} {out blks : σ → Blks} {ok : σ → Prop}
    (ho : o.op = .call { callee := .value x, args := xs, argTypes := ts }) (hf : ev l x = some (.func (.func f) first cap)) (hx : evAll l xs.toList = some vs) (hc : callable P f)
    (hF : CnG P f (first.toList ++ (vs ++ cap.toList)) M mp I val out blks ok) (hM : covers keep A M) (hmp : ∀ b es c, (b, es, c) ∈ mp → ∃ own, (b, es, c, own) ∈ N.maps) :
    OpX P N w0 l I keep A o (fun v B => ∃ s, v = val s ∧ ok s ∧ B = out s ++ blks s) := by
  intro F a w hs K Q hK
  have hargs : xs.map a.eval = vs.toArray := by
    have := evAll_map hs hx
    apply Array.ext'
    simpa using this
  have hrun : (execOp a.eval o).run P w = .ok (.enter f (first.toList ++ (vs ++ cap.toList)).toArray) w := by
    have happ : (first.toList ++ (vs ++ cap.toList)).toArray = first ++ (vs.toArray ++ cap) := by apply Array.ext'; simp
    rw [happ]
    simp only [execOp, ho, resolve, Sem.run_bind, hs.eval hf, Deferred.ofValue, hargs, Sem.run_pure, Result.andThen_ok, invoke]
    have := run_callee (P := P) (f := f) (args := first ++ (vs.toArray ++ cap)) (w := w) hc
    rw [Array.append_assoc]
    exact this
  refine opIn_of (fun c h => by rw [ho] at h; cases h) ?_
  rw [hrun]
  have hws := hs.ws
  have hnd := hws.nodup
  simp only [nums, List.map_append, List.nodup_append] at hnd
  obtain ⟨hFn, ⟨hIn, hKn, hIK⟩, hFIK⟩ := hnd
  have hIown : ∀ k, k ∈ nums I → w0.heap.size ≤ k ∨ k ∈ N.wr := fun k hk => by
    obtain ⟨cs, T, hm⟩ := mem_nums.1 hk
    exact (hws.own k cs T (List.mem_append_right _ (List.mem_append_left _ hm))).2
  have hnI : ∀ b cs T, (b, cs, T) ∈ F ∨ (b, cs, T) ∈ keep → b ∉ nums I := fun b cs T hm hb => by
    rcases hm with hm | hm
    · exact hFIK b (List.mem_map.2 ⟨_, hm, rfl⟩) b (List.mem_append_left _ hb) rfl
    · exact hIK b hb b (List.mem_map.2 ⟨_, hm, rfl⟩) rfl
  refine (hF w (fun b cs hb => ?_) (fun b cs T hm => (hws.own b cs T (List.mem_append_right _ (List.mem_append_left _ hm))).1) hIn (fun b es c hb => ?_)).mono ?_
  · rcases hM b cs hb with ⟨T, hm⟩ | hm
    · exact ⟨⟨T, _, (hws.own b cs T (List.mem_append_right _ (List.mem_append_right _ hm))).1⟩, hnI b cs T (.inr hm)⟩
    · obtain ⟨h1, h2, h3⟩ := hws.arg b cs hm
      refine ⟨h1, fun hbI => ?_⟩
      rcases hIown b hbI with h4 | h4
      · omega
      · exact h3 h4
  · obtain ⟨own, hm⟩ := hmp b es c hb
    exact (hs.more.mapped b es c own hm).1
  rintro e w' ⟨v, rfl, hbel, s, hv, hok, hout, ho', hB, hBn⟩
  have hs0 : w0.heap.size ≤ w.heap.size := hs.bel.size
  refine hK v (out s ++ blks s) w' ⟨s, hv, hok, rfl⟩ (WS.st ⟨⟨hbel.os.trans hs.bel.os, hbel.tape.trans hs.bel.tape, hbel.output.trans hs.bel.output, Nat.le_trans hs0 hbel.size, fun k hk hS => ?_⟩, ?_, ?_, ?_⟩ hs.size hs.noDef hs.env ?_)
  · refine (hbel.block k (by omega) (fun hb => ?_)).trans (hs.bel.block k hk hS)
    rcases hIown k hb with h4 | h4
    · omega
    · exact hS h4
  · intro b cs T hm
    simp only [List.mem_append] at hm
    rcases hm with hm | (hm | hm) | hm
    · obtain ⟨h1, h2⟩ := hws.own b cs T (List.mem_append_left _ hm)
      refine ⟨?_, h2⟩
      unfold holds
      rw [hbel.block b h1.lt (hnI b cs T (.inl hm))]
      exact h1
    · exact ⟨ho' b cs T hm, hIown b (by rw [← hout]; exact mem_nums.2 ⟨cs, T, hm⟩)⟩
    · exact ⟨(hB b cs T hm).1, .inl (Nat.le_trans hs0 (hB b cs T hm).2)⟩
    · obtain ⟨h1, h2⟩ := hws.own b cs T (List.mem_append_right _ (List.mem_append_right _ hm))
      refine ⟨?_, h2⟩
      unfold holds
      rw [hbel.block b h1.lt (hnI b cs T (.inr hm))]
      exact h1
  · have hold : ∀ k, k ∈ nums F ∨ k ∈ nums I ∨ k ∈ nums keep → k < w.heap.size := fun k hk => by
      have : k ∈ nums (F ++ (I ++ keep)) := by simp only [nums, List.map_append, List.mem_append] at hk ⊢; exact hk
      obtain ⟨cs, T, hm⟩ := mem_nums.1 this
      exact (hws.own k cs T hm).1.lt
    have hnew : ∀ k, k ∈ nums (blks s) → w.heap.size ≤ k := fun k hk => by
      obtain ⟨cs, T, hm⟩ := mem_nums.1 hk
      exact (hB k cs T hm).2
    have hout' : List.map (fun x => x.1) (out s) = List.map (fun x => x.1) I := hout
    simp only [nums, List.map_append, List.nodup_append, hout', List.mem_append]
    refine ⟨hFn, ⟨⟨hIn, hBn, ?_⟩, hKn, ?_⟩, ?_⟩
    · rintro x hx y hy rfl
      have := hold x (.inr (.inl hx)); have := hnew x hy; omega
    · rintro x (hx | hx) y hy rfl
      · exact hIK x hx x hy rfl
      · have := hold x (.inr (.inr hy)); have := hnew x hx; omega
    · rintro x hx y ((hy | hy) | hy) rfl
      · exact hFIK x hx x (List.mem_append_left _ hy) rfl
      · have := hold x (.inl hx); have := hnew x hy; omega
      · exact hFIK x hx x (List.mem_append_right _ hy) rfl
  · intro b cs hm
    obtain ⟨⟨T, fr, h1⟩, h2, h3⟩ := hws.arg b cs hm
    refine ⟨⟨T, fr, (hbel.block b (lt_of_get h1) (fun hb => ?_)).trans h1⟩, h2, h3⟩
    rcases hIown b hb with h4 | h4
    · omega
    · exact h3 h4
  · refine hs.more.other (fun b o hb hne => (hbel.block b (lt_of_get hb) (fun hbI => ?_)).trans hb)
    obtain ⟨cs, T, hm⟩ := mem_nums.1 hbI
    have h1 := (hws.own b cs T (List.mem_append_right _ (List.mem_append_left _ hm))).1
    unfold holds at h1
    rw [h1] at hb
    simp only [Option.some.injEq] at hb
    exact hne _ _ _ hb.symm

theorem op_makeFunc0 {f : Nat} {x : Operand} {v : Value} (ho : o.op = .makeFunc (.func f) #[x] #[]) (hx : ev l x = some v) : OpV P N w0 l O A o (pv (.func (.func f) #[v] #[])) :=
  opv_run fun a w hs => by simp [execOp, ho, hs.eval hx, Instr.makeFunc]
end
end Go.Sx
end

section
namespace Go.Sx
open Go.RowKit
set_option linter.unusedVariables false
set_option linter.unusedSimpArgs false
section
variable {P : Program} {N : Cx} {w0 : World} {l : Env} {O F I R c keep : Blks} {A : Args} {a : Act} {w w' : World} {o : Oper} {ops : Array Oper} {Q : Exit → Act → World → Prop} {is : List Nat} {i d : Nat}

/-- Where a slice begins that is cut off at its front. -/
def cutA (p : Option Addr) (c i size : Nat) : Option Addr := if c = i then p else p.map (·.add (i * size))
theorem cutA_at {b c i size : Nat} (h : i < c) : cutA (some ⟨b, 0, none⟩) c i size = some ⟨b, i * size, none⟩ := by
  unfold cutA; rw [if_neg (by omega)]; simp [add_lit]
theorem op_sliceLo {T e n c i size : Nat} {p : Option Addr} {x lo : Operand} {q : Int} (ho : o.op = .slice T x (some lo) none none) (hx : ev l x = some (.slice p n c)) (hlo : ev l lo = some (.int .i64 q)) (hT : P.underlying T = some (.slice e)) (hs : sizeB P e = some size)
    (hq : q = (i : Int)) (hi : i ≤ n) : OpV P N w0 l O A o (pv (.slice (cutA p c i size) (n - i) (c - i))) :=
  opv_run fun a w hs' => by
    subst hq
    have h1 : (0 : Int) ≤ (i : Int) ∧ (i : Int) ≤ (n : Int) := by omega
    simp [execOp, ho, hs'.eval hx, hs'.eval hlo, Instr.sliceAt, Instr.slice, run_underlying hT, Instr.sliceBounds, Instr.sliceBound, asIntOf, h1, run_sizeOf hs, hi, cutA]
theorem op_sliceHi {T e n c i size : Nat} {p : Option Addr} {x hi : Operand} {q : Int} (ho : o.op = .slice T x none (some hi) none) (hx : ev l x = some (.slice p n c)) (hhi : ev l hi = some (.int .i64 q)) (hT : P.underlying T = some (.slice e)) (hs : sizeB P e = some size)
    (hq : q = (i : Int)) (hi : i ≤ c) : OpV P N w0 l O A o (pv (.slice p i c)) :=
  opv_run fun a w hs' => by
    subst hq
    have h1 : (0 : Int) ≤ (i : Int) ∧ (i : Int) ≤ (c : Int) := by omega
    have h2 : (p.map fun x => x.add 0) = p := by cases p <;> simp [Addr.add]
    simp [execOp, ho, hs'.eval hx, hs'.eval hhi, Instr.sliceAt, Instr.slice, run_underlying hT, Instr.sliceBounds, Instr.sliceBound, asIntOf, h1, run_sizeOf hs, hi, h2]

theorem op_eqlNil {T T' e n c : Nat} {p : Option Addr} {x y : Operand} (ho : o.op = .binOp .eql T x y T') (hx : ev l x = some (.slice p n c)) (hy : ev l y = some (.slice none 0 0)) (hT : P.underlying T = some (.slice e)) : OpV P N w0 l O A o (pv (.bool p.isNone)) :=
  opv_run fun a w hs => by
    have h := run_equal_slice_nil (P := P) w T e p n c hT
    simp [execOp, ho, hs.eval hx, hs.eval hy, eqGuard, binOp, h]

/-- A loop in which a map is written too. -/
theorem okc_loopM {c : Code} {γ : Type} (l0 : Env) (hl0 : SubE l0 l) (js : List Nat) (is : List Nat) (hn : (is ++ js).Nodup) (O0 : Blks) (hO0 : pickB O js = O0)
    (lf : γ → Env) (Of : γ → Blks) (mf : γ → List MapE) (good : γ → Prop) (μ : γ → Nat) (g0 : γ) (h0 : good g0) (hE : SubE (lf g0) l) (hO : pickB O is = Of g0) (hm0 : N.maps = mf g0)
    (round : ∀ g, good g → OkC P { N with maps := mf g } w0 c (Exit.then (fun a w => ∃ g', good g' ∧ μ g' < μ g ∧ St { N with maps := mf g' } w0 (lf g' ++ l0) (Of g' ++ O0) A a w) Q) (lf g ++ l0) (Of g ++ O0) A) :
    OkC P N w0 (.loop c) Q l O A := by
  intro a w hs
  subst hO0
  refine wp_loopG (I := fun g a w => good g ∧ St { N with maps := mf g } w0 (lf g ++ l0) (Of g ++ pickB O js) A a w) μ g0 ⟨h0, ?_⟩ ?_
  · have h1 : St N w0 l (pickB O (is ++ js)) A a w := ⟨hs.size, hs.noDef, hs.bel, hs.env, fun j b cs T hj => by
      obtain ⟨i, _, hi⟩ := mem_pickB (is ++ js) (List.mem_of_getElem? hj)
      exact hs.own i b cs T hi, nodup_pickB hs.nodup (is ++ js) hn, hs.arg, hs.more⟩
    rw [pickB_app, hO] at h1
    exact ⟨h1.size, h1.noDef, h1.bel, fun t v hv => by
      rcases get_app_of hv with h2 | h2
      · exact h1.env t v (hE.get t v h2)
      · exact h1.env t v (hl0.get t v h2), h1.own, h1.nodup, h1.arg, ⟨h1.more.marked, by rw [← hm0]; exact h1.more.mapped⟩⟩
  · rintro g a w ⟨hg, hst⟩
    refine wpIn_mono (round g hg a w hst) ?_
    intro e a' w' he
    cases e with
    | normal => obtain ⟨g', h1, h2, h3⟩ := he; exact ⟨g', h2, h1, h3⟩
    | _ => exact he
theorem nodup_pickG {FE G : Blks} (hn : (nums (FE ++ G)).Nodup) (is : List Nat) (hi : is.Nodup) : (nums (pickB FE is ++ G)).Nodup := by
  simp only [nums, List.map_append, List.nodup_append] at hn ⊢
  refine ⟨nodup_pickB hn.1 is hi, hn.2.1, ?_⟩
  intro x hx y hy
  obtain ⟨z, hz, rfl⟩ := List.mem_map.1 hx
  obtain ⟨j, _, hj⟩ := mem_pickB is hz
  exact hn.2.2 _ (List.mem_map.2 ⟨z, List.mem_of_getElem? hj, rfl⟩) y hy
theorem St.pickG {FE G O' : Blks} {l' : Env} (h : St N w0 l (FE ++ G) A a w) (hE : SubE l' l) (is : List Nat) (hn : is.Nodup) (hO : pickB FE is = O') : St N w0 l' (O' ++ G) A a w := by
  subst hO
  refine h.perm hE (fun x hx => ?_) (nodup_pickG h.nodup is hn)
  rcases List.mem_append.1 hx with hx | hx
  · obtain ⟨j, _, hj⟩ := mem_pickB is hx
    exact List.mem_append_left _ (List.mem_of_getElem? hj)
  · exact List.mem_append_right _ hx
/-- A loop behind whose told blocks groups lie, one of which may change. -/
theorem okc_loopH {c : Code} {γ : Type} (l0 : Env) (hl0 : SubE l0 l) (js : List Nat) (is : List Nat) (hn : (is ++ js).Nodup) (E G0 : Blks) (E0 : Blks) (hE0 : pickB E js = E0)
    (lf : γ → Env) (Of Gf : γ → Blks) (good : γ → Prop) (μ : γ → Nat) (g0 : γ) (h0 : good g0) (hE : SubE (lf g0) l) (hO : O = E ++ (G0 ++ Gf g0)) (hOf : pickB E is = Of g0)
    (round : ∀ g, good g → OkC P N w0 c (Exit.then (fun a w => ∃ g', good g' ∧ μ g' < μ g ∧ St N w0 (lf g' ++ l0) (Of g' ++ (E0 ++ (G0 ++ Gf g'))) A a w) Q) (lf g ++ l0) (Of g ++ (E0 ++ (G0 ++ Gf g))) A) :
    OkC P N w0 (.loop c) Q l O A := by
  refine okc_loop (fun g => lf g ++ l0) (fun g => Of g ++ (E0 ++ (G0 ++ Gf g))) good μ g0 h0 (fun a w hs => ?_) round
  subst hE0
  subst hO
  have h1 : St N w0 l (pickB E (is ++ js) ++ (G0 ++ Gf g0)) A a w := by
    refine ⟨hs.size, hs.noDef, hs.bel, hs.env, fun j b cs T hj => ?_, nodup_pickG hs.nodup (is ++ js) hn, hs.arg, hs.more⟩
    rcases List.mem_append.1 (List.mem_of_getElem? hj) with hm | hm
    · obtain ⟨i, _, hi⟩ := mem_pickB (is ++ js) hm
      exact hs.ws.own b cs T (List.mem_append_left _ (List.mem_of_getElem? hi))
    · exact hs.ws.own b cs T (List.mem_append_right _ hm)
  rw [pickB_app, hOf, List.append_assoc] at h1
  exact ⟨h1.size, h1.noDef, h1.bel, fun t v hv => by
    rcases get_app_of hv with h2 | h2
    · exact h1.env t v (hE.get t v h2)
    · exact h1.env t v (hl0.get t v h2), h1.own, h1.nodup, h1.arg, h1.more⟩
/-- n elements of zeros. -/
def zerosL (zs : List Value) : Nat → List Value
  | 0 => []
  | n + 1 => zs ++ zerosL zs n
theorem zerosL_len (zs : List Value) : ∀ n, (zerosL zs n).length = n * zs.length
  | 0 => by simp [zerosL]
  | n + 1 => by simp [zerosL, zerosL_len zs n, Nat.succ_mul]; omega
theorem zerosL_flat {zs : List Value} (h : flat zs = true) : ∀ n, flat (zerosL zs n) = true
  | 0 => rfl
  | n + 1 => by have := zerosL_flat h n; unfold flat at *; simp [zerosL, h, this]
theorem zeroCells_eq (z : Array Value) (hz : 0 < z.size) (n : Nat) : (Builtin.zeroCells z n).toList = zerosL z.toList n := by
  have key : ∀ n (j : Nat), j < n * z.size → (zerosL z.toList n)[j]? = some z[j % z.size]! := by
    intro n
    induction n with
    | zero => intro j hj; omega
    | succ n ih =>
      intro j hj
      rw [Nat.succ_mul] at hj
      simp only [zerosL]
      rcases Nat.lt_or_ge j z.size with h | h
      · rw [List.getElem?_append_left (by simpa using h), Nat.mod_eq_of_lt h]
        simp [h]
      · rw [List.getElem?_append_right (by simpa using h), Array.length_toList, ih (j - z.size) (by omega)]
        congr 2
        conv => rhs; rw [show j = (j - z.size) + z.size by omega]
        rw [Nat.add_mod_right]
  apply List.ext_getElem?
  intro j
  rcases Nat.lt_or_ge j (n * z.size) with h | h
  · rw [key n j h]
    simp [Builtin.zeroCells, h]
  · rw [List.getElem?_eq_none (by simp [Builtin.zeroCells]; omega), List.getElem?_eq_none (by rw [zerosL_len]; simpa using h)]

theorem run_storeCells {w : World} {b off : Nat} {T : TypeId} {cs vs : List Value} (hg : holds w b cs T) (hfit : off + vs.length ≤ cs.length) (h1 : flat vs = true) :
    (storeCells ⟨b, off, none⟩ vs).run P w = .ok () (w.setRow b (setL cs off vs).toArray) := by
  have hst := run_storeCells_at P b off T vs 0 cs.toArray w hg (by simp; omega) (by simpa [flat] using h1)
  rw [Nat.add_zero] at hst
  rw [setL_eq vs off cs hfit]
  simpa using hst

theorem okl_clear {T e n cc b off size j : Nat} {x : Operand} {cs zs : List Value} {T' : TypeId} (ho : ops[i]? = some o) (hg : wantsB ops l o = some true) (hd : o.dst = none) (hop : o.op = .call { callee := .builtin .clear, args := #[x], argTypes := #[T] })
    (hx : ev l x = some (.slice (some ⟨b, off, none⟩) (n + 1) cc)) (hT : P.underlying T = some (.slice e)) (hz : zeroB P e = some zs) (hsz : sizeB P e = some size) (hzl : zs.length = size) (hpos : 0 < size) (hfl : flat zs = true)
    (hj : O[j]? = some (b, cs, T')) (hfit : off + (n + 1) * size ≤ cs.length) (rest : OkL P N w0 ops Q is l (O.set j (b, setL cs off (zerosL zs (n + 1)), T')) A) : OkL P N w0 ops Q (i :: is) l O A := by
  intro a w hs
  simp only [wpOpsIn, ho, wanted_of hs hg, if_true]
  obtain ⟨inf, z, hi, hzz, hisz, hzc⟩ := info_of_siz hsz hz
  have hzs : z.cells.size = size := by rw [← Array.length_toList, hzc, hzl]
  have hcells := zeroCells_eq z.cells (by omega) (n + 1)
  rw [hzc] at hcells
  have hst := run_storeCells (P := P) (off := off) (vs := zerosL zs (n + 1)) (hs.own j b cs T' hj).1 (by rw [zerosL_len, hzl]; exact hfit) (zerosL_flat hfl _)
  have hzv : (zeroValue e).run P w = .ok z w := by simp [zeroValue, typeInfo, hi, hzz]
  have hrun : (execOp a.eval o).run P w = .ok (.value (.tuple #[])) (w.setRow b (setL cs off (zerosL zs (n + 1))).toArray) := by
    simp [execOp, hop, resolve, hs.eval hx, invoke, builtin, Builtin.clear_, run_underlying hT, hzv, hcells, hst]
  refine opIn_of (fun c h => by rw [hop] at h; cases h) ?_
  rw [hrun, hd]
  exact rest _ _ (hs.setRow j b cs _ T' hj)
/-- .. of nothing. -/
theorem okl_clear0 {T e cc : Nat} {x : Operand} {p : Option Addr} (ho : ops[i]? = some o) (hg : wantsB ops l o = some true) (hd : o.dst = none) (hop : o.op = .call { callee := .builtin .clear, args := #[x], argTypes := #[T] })
    (hx : ev l x = some (.slice p 0 cc)) (hT : P.underlying T = some (.slice e)) (rest : OkL P N w0 ops Q is l O A) : OkL P N w0 ops Q (i :: is) l O A := by
  intro a w hs
  simp only [wpOpsIn, ho, wanted_of hs hg, if_true]
  have hrun : (execOp a.eval o).run P w = .ok (.value (.tuple #[])) w := by
    cases p <;> simp [execOp, hop, resolve, hs.eval hx, invoke, builtin, Builtin.clear_, run_underlying hT]
  refine opIn_of (fun c h => by rw [hop] at h; cases h) ?_
  rw [hrun, hd]
  exact rest _ _ hs

/-! ### A call of a function that was handed in, or of a closure: nothing is written -/
theorem okl_callG {f : Nat} {xs : Array Operand} {ts : Array TypeId} {x : Operand} {vs : List Value} {first cap : Array Value} {M : Args} {mp : List (Nat × Array MapEntry × Nat)} {r : Value} (ho : ops[i]? = some o) (hg : wantsB ops l o = some true) (hd : o.dst = some d) (hN : Nat.blt d N.n = true)
    (hop : o.op = .call { callee := .value x, args := xs, argTypes := ts }) (hf : ev l x = some (.func (.func f) first cap)) (hx : evAll l xs.toList = some vs) (hc : callable P f)
    (hF : CnG P f (first.toList ++ (vs ++ cap.toList)) M mp [] (fun _ : Unit => r) (fun _ => []) (fun _ => []) (fun _ => True)) (hM : covers O A M) (hmp : ∀ b es c, (b, es, c) ∈ mp → ∃ own, (b, es, c, own) ∈ N.maps)
    (rest : OkL P N w0 ops Q is ((d, r) :: l) O A) : OkL P N w0 ops Q (i :: is) l O A :=
  okl_x (c := []) (keep := O) [] ho hg hd hN (opx_call hop hf hx hc hF hM hmp) (by simp) (by
    rintro v B ⟨_, rfl, _, rfl⟩
    simpa using rest)
theorem okl_callGb {f : Nat} {xs : Array Operand} {ts : Array TypeId} {x : Operand} {vs : List Value} {first cap : Array Value} {M : Args} {mp : List (Nat × Array MapEntry × Nat)} {r : Bool} (ho : ops[i]? = some o) (hg : wantsB ops l o = some true) (hd : o.dst = some d) (hN : Nat.blt d N.n = true)
    (hop : o.op = .call { callee := .value x, args := xs, argTypes := ts }) (hf : ev l x = some (.func (.func f) first cap)) (hx : evAll l xs.toList = some vs) (hc : callable P f)
    (hF : CnG P f (first.toList ++ (vs ++ cap.toList)) M mp [] (fun _ : Unit => .bool r) (fun _ => []) (fun _ => []) (fun _ => True)) (hM : covers O A M) (hmp : ∀ b es c, (b, es, c) ∈ mp → ∃ own, (b, es, c, own) ∈ N.maps)
    (ht : r = true → OkL P N w0 ops Q is ((d, .bool true) :: l) O A) (hff : r = false → OkL P N w0 ops Q is ((d, .bool false) :: l) O A) : OkL P N w0 ops Q (i :: is) l O A := by
  cases r with
  | true => exact okl_callG ho hg hd hN hop hf hx hc hF hM hmp (ht rfl)
  | false => exact okl_callG ho hg hd hN hop hf hx hc hF hM hmp (hff rfl)
/-! ### Contracts of functions that take blocks of their caller's and hand others back -/
def CnF {σ : Type} (P : Program) (f : Nat) (args : List Value) (M : Args) (mp : List (Nat × Array MapEntry × Nat)) (I : Blks) (val : σ → Value) (fin : σ → Blks) (ok : σ → Prop) : Prop :=
  ∀ w, (∀ b cs, (b, cs) ∈ M → reads w b cs ∧ b ∉ nums I) → (∀ b cs T, (b, cs, T) ∈ I → holds w b cs T) → (nums I).Nodup → (∀ b es c, (b, es, c) ∈ mp → w.heap[b]? = some (.map es c)) →
    Calls P f args.toArray w fun e w' => ∃ v, e = .returned v ∧ BelowX (nums I) w w' ∧ ∃ s, v = val s ∧ ok s ∧
      (∀ b cs T, (b, cs, T) ∈ fin s → holds w' b cs T ∧ (w.heap.size ≤ b ∨ b ∈ nums I)) ∧ (nums (fin s)).Nodup
theorem CnF.mono {σ : Type} {f : Nat} {args : List Value} {M M' : Args} {mp : List (Nat × Array MapEntry × Nat)} {val : σ → Value} {fin : σ → Blks} {ok : σ → Prop} (h : CnF P f args M mp I val fin ok) (hM : ∀ x ∈ M, x ∈ M') : CnF P f args M' mp I val fin ok :=
  fun w h1 h2 h3 h4 => h w (fun b cs hb => h1 b cs (hM _ hb)) h2 h3 h4
/-- It takes nothing: it is a plain contract. -/
theorem CnF.plain {σ : Type} {f : Nat} {args : List Value} {M : Args} {val : σ → Value} {fin : σ → Blks} {ok : σ → Prop} (h : CnF P f args M [] [] val fin ok) : Cn P f args M val fin ok := by
  intro w hM
  refine (h w (fun b cs hb => ⟨hM b cs hb, by simp [nums]⟩) (fun b cs T h => (by cases h)) (by simp [nums]) (fun b es c h => (by cases h))).mono ?_
  rintro e w' ⟨v, rfl, hb, s, hv, hok, hB, hn⟩
  exact ⟨v, rfl, hb.below rfl, s, hv, hok, fun b cs T hm => ⟨(hB b cs T hm).1, (hB b cs T hm).2.resolve_right (by simp [nums])⟩, hn⟩
def postF {σ : Type} (w0 : World) (I : Blks) (val : σ → Value) (fin : σ → Blks) (ok : σ → Prop) (e : Ending) (w' : World) : Prop :=
  ∃ v, e = .returned v ∧ BelowX (nums I) w0 w' ∧ ∃ s, v = val s ∧ ok s ∧ (∀ b cs T, (b, cs, T) ∈ fin s → holds w' b cs T ∧ (w0.heap.size ≤ b ∨ b ∈ nums I)) ∧ (nums (fin s)).Nodup
theorem fn_introF {σ : Type} {f : Nat} {fn : Func} {c : Code} {args : List Value} {M : Args} {mp : List (Nat × Array MapEntry × Nat)} {val : σ → Value} {fin : σ → Blks} {ok : σ → Prop}
    {n : Nat} (hf : P.funcs[f]? = some fn) (hb : fn.body = some c) (hn : fn.ntmps = n) (hN : Nat.ble args.length n = true)
    (h : ∀ w0, OkC P (cxG n I mp) w0 c (bodyPost P fn (postF w0 I val fin ok)) (envOf args 0) I M) : CnF P f args M mp I val fin ok := by
  intro w hM hI hnd hmp
  refine callsIn_wide.1 (callsIn_of_wp (F := Fence.wide) (n := 0) hf hb trivial ?_)
  rw [hn]
  have h0 := st_start (w := w) (M := []) (n := n) (args := args) (Nat.le_of_ble_eq_true hN) (fun b cs h => by cases h)
  refine h w _ w ⟨h0.size, rfl, BelowX.refl _ _, h0.env, fun j b cs T hj => ⟨hI b cs T (List.mem_of_getElem? hj), .inr (mem_nums.2 ⟨cs, T, List.mem_of_getElem? hj⟩)⟩, hnd, fun j b cs hj => ?_, ⟨fun D hD => (by cases hD), fun b es c own hb => ?_⟩⟩
  · obtain ⟨h1, h2⟩ := hM b cs (List.mem_of_getElem? hj)
    exact ⟨h1, h1.lt, h2⟩
  · simp only [cxG, List.mem_map, Prod.mk.injEq] at hb
    obtain ⟨⟨b', es', c'⟩, hm, rfl, rfl, rfl, rfl⟩ := hb
    exact ⟨hmp _ _ _ hm, fun h => by cases h⟩
theorem ret_postF {σ : Type} {n : Nat} {mp' : List MapE} {fn : Func} {val : σ → Value} {fin : σ → Blks} {ok : σ → Prop} {v : Value} (hs : St ⟨n, [], none, nums I, mp'⟩ w0 l O A a w) (hr : (results fn a.tmps).run P w = .ok v w)
    (s : σ) (hv : v = val s) (hok : ok s) (hsub : (fin s).Sublist O) : bodyPost P fn (postF w0 I val fin ok) .ret a w := by
  refine ⟨by rw [hs.noDef]; rfl, v, hr, v, rfl, hs.bel, s, hv, hok, fun b cs T hm => hs.ws.own b cs T (hsub.subset hm), List.Nodup.sublist (hsub.map _) hs.nodup⟩
theorem opx_callF {σ : Type} {f : Nat} {xs : Array Operand} {ts : Array TypeId} {x : Operand} {vs : List Value} {first cap : Array Value} {M : Args} {mp : List (Nat × Array MapEntry × Nat)} {val : σ → Value} {fin : σ → Blks} {ok : σ → Prop}
    (ho : o.op = .call { callee := .value x, args := xs, argTypes := ts }) (hf : ev l x = some (.func (.func f) first cap)) (hx : evAll l xs.toList = some vs) (hc : callable P f)
    (hF : CnF P f (first.toList ++ (vs ++ cap.toList)) M mp I val fin ok) (hM : covers keep A M) (hmp : ∀ b es c, (b, es, c) ∈ mp → ∃ own, (b, es, c, own) ∈ N.maps) :
    OpX P N w0 l I keep A o (fun v B => ∃ s, v = val s ∧ ok s ∧ B = fin s) := by
  intro F a w hs K Q hK
  have hargs : xs.map a.eval = vs.toArray := by
    have := evAll_map hs hx
    apply Array.ext'
    simpa using this
  have hrun : (execOp a.eval o).run P w = .ok (.enter f (first.toList ++ (vs ++ cap.toList)).toArray) w := by
    have happ : (first.toList ++ (vs ++ cap.toList)).toArray = first ++ (vs.toArray ++ cap) := by apply Array.ext'; simp
    rw [happ]
    simp only [execOp, ho, resolve, Sem.run_bind, hs.eval hf, Deferred.ofValue, hargs, Sem.run_pure, Result.andThen_ok, invoke]
    have := run_callee (P := P) (f := f) (args := first ++ (vs.toArray ++ cap)) (w := w) hc
    rw [Array.append_assoc]
    exact this
  refine opIn_of (fun c h => by rw [ho] at h; cases h) ?_
  rw [hrun]
  have hws := hs.ws
  have hnd := hws.nodup
  simp only [nums, List.map_append, List.nodup_append] at hnd
  obtain ⟨hFn, ⟨hIn, hKn, hIK⟩, hFIK⟩ := hnd
  have hIown : ∀ k, k ∈ nums I → w0.heap.size ≤ k ∨ k ∈ N.wr := fun k hk => by
    obtain ⟨cs, T, hm⟩ := mem_nums.1 hk
    exact (hws.own k cs T (List.mem_append_right _ (List.mem_append_left _ hm))).2
  have hnI : ∀ b cs T, (b, cs, T) ∈ F ∨ (b, cs, T) ∈ keep → b ∉ nums I := fun b cs T hm hb => by
    rcases hm with hm | hm
    · exact hFIK b (List.mem_map.2 ⟨_, hm, rfl⟩) b (List.mem_append_left _ hb) rfl
    · exact hIK b hb b (List.mem_map.2 ⟨_, hm, rfl⟩) rfl
  refine (hF w (fun b cs hb => ?_) (fun b cs T hm => (hws.own b cs T (List.mem_append_right _ (List.mem_append_left _ hm))).1) hIn (fun b es c hb => ?_)).mono ?_
  · rcases hM b cs hb with ⟨T, hm⟩ | hm
    · exact ⟨⟨T, _, (hws.own b cs T (List.mem_append_right _ (List.mem_append_right _ hm))).1⟩, hnI b cs T (.inr hm)⟩
    · obtain ⟨h1, h2, h3⟩ := hws.arg b cs hm
      refine ⟨h1, fun hbI => ?_⟩
      rcases hIown b hbI with h4 | h4
      · omega
      · exact h3 h4
  · obtain ⟨own, hm⟩ := hmp b es c hb
    exact (hs.more.mapped b es c own hm).1
  rintro e w' ⟨v, rfl, hbel, s, hv, hok, hB, hBn⟩
  have hs0 : w0.heap.size ≤ w.heap.size := hs.bel.size
  refine hK v (fin s) w' ⟨s, hv, hok, rfl⟩ (WS.st ⟨⟨hbel.os.trans hs.bel.os, hbel.tape.trans hs.bel.tape, hbel.output.trans hs.bel.output, Nat.le_trans hs0 hbel.size, fun k hk hS => ?_⟩, ?_, ?_, ?_⟩ hs.size hs.noDef hs.env ?_)
  · refine (hbel.block k (by omega) (fun hb => ?_)).trans (hs.bel.block k hk hS)
    rcases hIown k hb with h4 | h4
    · omega
    · exact hS h4
  · intro b cs T hm
    simp only [List.mem_append] at hm
    rcases hm with hm | hm | hm
    · obtain ⟨h1, h2⟩ := hws.own b cs T (List.mem_append_left _ hm)
      refine ⟨?_, h2⟩
      unfold holds
      rw [hbel.block b h1.lt (hnI b cs T (.inl hm))]
      exact h1
    · refine ⟨(hB b cs T hm).1, ?_⟩
      rcases (hB b cs T hm).2 with h4 | h4
      · exact .inl (Nat.le_trans hs0 h4)
      · exact hIown b h4
    · obtain ⟨h1, h2⟩ := hws.own b cs T (List.mem_append_right _ (List.mem_append_right _ hm))
      refine ⟨?_, h2⟩
      unfold holds
      rw [hbel.block b h1.lt (hnI b cs T (.inr hm))]
      exact h1
  · have hold : ∀ k, k ∈ nums F ∨ k ∈ nums keep → k < w.heap.size := fun k hk => by
      have : k ∈ nums (F ++ (I ++ keep)) := by simp only [nums, List.map_append, List.mem_append] at hk ⊢; rcases hk with hk | hk; exact .inl hk; exact .inr (.inr hk)
      obtain ⟨cs, T, hm⟩ := mem_nums.1 this
      exact (hws.own k cs T hm).1.lt
    have hfin : ∀ k, k ∈ nums (fin s) → w.heap.size ≤ k ∨ k ∈ nums I := fun k hk => by
      obtain ⟨cs, T, hm⟩ := mem_nums.1 hk
      exact (hB k cs T hm).2
    simp only [nums, List.map_append, List.nodup_append, List.mem_append]
    refine ⟨hFn, ⟨hBn, hKn, ?_⟩, ?_⟩
    · rintro x hx y hy rfl
      rcases hfin x hx with h4 | h4
      · have := hold x (.inr hy); omega
      · exact hIK x h4 x hy rfl
    · rintro x hx y (hy | hy) rfl
      · rcases hfin x hy with h4 | h4
        · have := hold x (.inl hx); omega
        · exact hFIK x hx x (List.mem_append_left _ h4) rfl
      · exact hFIK x hx x (List.mem_append_right _ hy) rfl
  · intro b cs hm
    obtain ⟨⟨T, fr, h1⟩, h2, h3⟩ := hws.arg b cs hm
    refine ⟨⟨T, fr, (hbel.block b (lt_of_get h1) (fun hb => ?_)).trans h1⟩, h2, h3⟩
    rcases hIown b hb with h4 | h4
    · omega
    · exact h3 h4
  · refine hs.more.other (fun b o hb hne => (hbel.block b (lt_of_get hb) (fun hbI => ?_)).trans hb)
    obtain ⟨cs, T, hm⟩ := mem_nums.1 hbI
    have h1 := (hws.own b cs T (List.mem_append_right _ (List.mem_append_left _ hm))).1
    unfold holds at h1
    rw [h1] at hb
    simp only [Option.some.injEq] at hb
    exact hne _ _ _ hb.symm
theorem op_makeFuncN {f : Nat} {xs : Array Operand} {vs : List Value} (ho : o.op = .makeFunc (.func f) #[] xs) (hx : evAll l xs.toList = some vs) : OpV P N w0 l O A o (pv (.func (.func f) #[] vs.toArray)) :=
  opv_run fun a w hs => by
    have hargs : xs.map a.eval = vs.toArray := by
      have := evAll_map hs hx
      apply Array.ext'
      simpa using this
    simp [execOp, ho, Instr.makeFunc, hargs]
theorem Sl.shrink {B : Blks} {e : TypeId} {size n c : Nat} {p : Option Addr} {xs : List Value} (h : Sl B e size p (n + 1) c xs) : Sl B e size p n c (xs.take (n * size)) := by
  obtain ⟨h0, h1 | ⟨g, cs, h1, h2, h3, h4, h5, h6⟩⟩ := h
  · omega
  · have hm : n * size ≤ (n + 1) * size := Nat.mul_le_mul_right size (by omega)
    refine ⟨by rw [List.length_take, h0]; omega, .inr ⟨g, cs, h1, h2, by omega, h4, h5, ?_⟩⟩
    rw [← h6, List.take_take, Nat.min_eq_left hm]
end
end Go.Sx
end

section
namespace Go.Proofs.Ytdpnadknaacinaa
open Go.Sx Go.Proofs.Ytdpnadknaacinaa.Ty
set_option linter.unusedVariables false
set_option linter.unusedSimpArgs false
set_option maxHeartbeats 2000000


theorem lns_nil {M : Args} {L : List Ln} (h : LnsIn M none L) : L = [] := by
  obtain ⟨b, off, cs, j, h⟩ := h
  cases L with
  | nil => rfl
  | cons x L => have := (h (by simp)).1; cases this
theorem rds_nil {M : Args} {L : List Rd} (h : RdsIn M none L) : L = [] := by
  obtain ⟨b, off, cs, j, h⟩ := h
  cases L with
  | nil => rfl
  | cons x L => have := (h (by simp)).1; cases this

theorem cloneL_fn (M : Args) (p : Option Addr) (L : List Ln) (c : Nat) (h : LnsIn M p L) (hl : L.length ≤ 1000) : Cn Try.prog 120 [.slice p L.length c] M (fun g : SlG => .slice g.p L.length g.c) (fun g => g.B) (fun g => Sl g.B 76 5 g.p L.length g.c (lnsC L)) := by
  refine fn_intro (N := 8) Try.func120 rfl rfl rfl fun w0 => ?_
  refine okc_seq ?_
  refine okc_region ?_
  refine s_assign rfl rfl rfl rfl rfl rfl ?_
  refine okl_nil ?_
  change OkC Try.prog _ _ _ _ _ _ _
  refine okc_weak (l' := [(0, _), (2, _)]) ⟨rfl, rfl, trivial⟩ ?_
  refine okc_seq ?_
  refine okc_seq ?_
  refine okc_region ?_
  refine s_move rfl rfl rfl rfl rfl rfl ?_
  refine s_b rfl rfl rfl rfl (op_eqlNil rfl rfl rfl (sl_un (sl_of rfl))) (fun h1 => ?_) (fun h1 => ?_)
  · have hp : p = none := by simpa using h1
    subst hp
    have hL := lns_nil h
    subst hL
    refine okl_nil ?_
    change OkC Try.prog _ _ _ _ _ _ _
    refine okc_weak (l' := [(0, _), (2, _), (4, _)]) ⟨rfl, rfl, rfl, trivial⟩ ?_
    refine okc_cond_t rfl ?_
    refine okc_seq ?_
    refine okc_region ?_
    refine s_assign rfl rfl rfl rfl rfl rfl ?_
    refine okl_nil ?_
    change OkC Try.prog _ _ _ _ _ _ _
    refine okc_weak (l' := [(0, _), (2, _), (4, _)]) ⟨rfl, rfl, rfl, trivial⟩ ?_
    refine okc_ret fun a w hs => ?_
    exact ret_postS hs (run_results1 hs rfl (rv_tmp rfl)) SlG.nil rfl (Sl.nil 76 5) (List.nil_sublist _)
  · refine okl_nil ?_
    change OkC Try.prog _ _ _ _ _ _ _
    refine okc_weak (l' := [(0, _), (2, _), (4, _)]) ⟨rfl, rfl, rfl, trivial⟩ ?_
    refine okc_cond_f rfl ?_
    refine okc_skip ?_
    change OkC Try.prog _ _ _ _ _ _ _
    refine okc_weak (l' := [(0, _), (2, _), (4, _)]) ⟨rfl, rfl, rfl, trivial⟩ ?_
    refine okc_seq ?_
    refine okc_region ?_
    refine s_slice0 rfl rfl rfl rfl rfl rfl rfl (fun b2 => ?_)
    refine s_move rfl rfl rfl rfl rfl rfl ?_
    refine okl_xm0 [] [(b2, [], 76)] rfl rfl rfl rfl (k_append (Sl.lit (n := 0) (cs := []) rfl (by decide)) by76 rfl rfl rfl rfl rfl rfl rfl rfl (lns_lies h) (lnsC_len _) (lnsC_flat _) (by omega)) rfl (fun v B hv => ?_)
    obtain ⟨p2, c2, rfl, hsl2⟩ := hv
    refine s_assign rfl rfl rfl rfl rfl rfl ?_
    refine okl_nil ?_
    change OkC Try.prog _ _ _ _ _ _ _
    refine okc_weak (l' := [(0, _), (2, _), (4, _)]) ⟨rfl, rfl, rfl, trivial⟩ ?_
    refine okc_ret fun a w hs => ?_
    exact ret_postS hs (run_results1 hs rfl (rv_tmp rfl)) ⟨p2, c2, B⟩ (by rw [Nat.zero_add]) (by rw [Nat.zero_add] at hsl2; exact hsl2) (List.Sublist.refl _)
theorem cloneR_fn (M : Args) (p : Option Addr) (L : List Rd) (c : Nat) (h : RdsIn M p L) (hl : L.length ≤ 1000) : Cn Try.prog 121 [.slice p L.length c] M (fun g : SlG => .slice g.p L.length g.c) (fun g => g.B) (fun g => Sl g.B 69 5 g.p L.length g.c (rdsC L)) := by
  refine fn_intro (N := 8) Try.func121 rfl rfl rfl fun w0 => ?_
  refine okc_seq ?_
  refine okc_region ?_
  refine s_assign rfl rfl rfl rfl rfl rfl ?_
  refine okl_nil ?_
  change OkC Try.prog _ _ _ _ _ _ _
  refine okc_weak (l' := [(0, _), (2, _)]) ⟨rfl, rfl, trivial⟩ ?_
  refine okc_seq ?_
  refine okc_seq ?_
  refine okc_region ?_
  refine s_move rfl rfl rfl rfl rfl rfl ?_
  refine s_b rfl rfl rfl rfl (op_eqlNil rfl rfl rfl (sl_un (sl_of rfl))) (fun h3 => ?_) (fun h3 => ?_)
  · have hp : p = none := by simpa using h3
    subst hp
    have hL := rds_nil h
    subst hL
    refine okl_nil ?_
    change OkC Try.prog _ _ _ _ _ _ _
    refine okc_weak (l' := [(0, _), (2, _), (4, _)]) ⟨rfl, rfl, rfl, trivial⟩ ?_
    refine okc_cond_t rfl ?_
    refine okc_seq ?_
    refine okc_region ?_
    refine s_assign rfl rfl rfl rfl rfl rfl ?_
    refine okl_nil ?_
    change OkC Try.prog _ _ _ _ _ _ _
    refine okc_weak (l' := [(0, _), (2, _), (4, _)]) ⟨rfl, rfl, rfl, trivial⟩ ?_
    refine okc_ret fun a w hs => ?_
    exact ret_postS hs (run_results1 hs rfl (rv_tmp rfl)) SlG.nil rfl (Sl.nil 69 5) (List.nil_sublist _)
  · refine okl_nil ?_
    change OkC Try.prog _ _ _ _ _ _ _
    refine okc_weak (l' := [(0, _), (2, _), (4, _)]) ⟨rfl, rfl, rfl, trivial⟩ ?_
    refine okc_cond_f rfl ?_
    refine okc_skip ?_
    change OkC Try.prog _ _ _ _ _ _ _
    refine okc_weak (l' := [(0, _), (2, _), (4, _)]) ⟨rfl, rfl, rfl, trivial⟩ ?_
    refine okc_seq ?_
    refine okc_region ?_
    refine s_slice0 rfl rfl rfl rfl rfl rfl rfl (fun b4 => ?_)
    refine s_move rfl rfl rfl rfl rfl rfl ?_
    refine okl_xm0 [] [(b4, [], 69)] rfl rfl rfl rfl (k_append (Sl.lit (n := 0) (cs := []) rfl (by decide)) by69 rfl rfl rfl rfl rfl rfl rfl rfl (rds_lies h) (rdsC_len _) (rdsC_flat _) (by omega)) rfl (fun v B hv => ?_)
    obtain ⟨p2, c2, rfl, hsl2⟩ := hv
    refine s_assign rfl rfl rfl rfl rfl rfl ?_
    refine okl_nil ?_
    change OkC Try.prog _ _ _ _ _ _ _
    refine okc_weak (l' := [(0, _), (2, _), (4, _)]) ⟨rfl, rfl, rfl, trivial⟩ ?_
    refine okc_ret fun a w hs => ?_
    exact ret_postS hs (run_results1 hs rfl (rv_tmp rfl)) ⟨p2, c2, B⟩ (by rw [Nat.zero_add]) (by rw [Nat.zero_add] at hsl2; exact hsl2) (List.Sublist.refl _)
theorem copied_fn (s : Sp) (M : Args) (hin : s.In M) (hgr : s.book.length ≤ 30 ∧ s.reads.length ≤ 30) : Cn Try.prog 97 [spV s] M (fun g : Rn2 => spV (twS s g)) (fun g => g.B1 ++ g.B2) (TwOk s) := by
  refine fn_intro (N := 12) Try.func97 rfl rfl rfl fun w0 => ?_
  refine okc_seq ?_
  refine okc_region ?_
  refine s_boxA rfl rfl rfl rfl rfl rfl (fun b5 => ?_)
  refine s_alloc rfl rfl rfl rfl rfl rfl (fun b6 => ?_)
  refine okl_nil ?_
  change OkC Try.prog _ _ _ _ _ _ _
  refine okc_weak (l' := [(0, _), (1, _), (2, _)]) ⟨rfl, rfl, rfl, trivial⟩ ?_
  refine okc_seq ?_
  refine okc_region ?_
  refine s_field rfl rfl rfl rfl rfl rfl rfl rfl ?_
  refine s_load1 1 rfl rfl rfl rfl rfl rfl rfl rfl rfl ?_
  refine okl_rE rfl rfl rfl rfl (op_call rfl rfl rfl c120 (cloneL_fn M s.bp s.book s.bc hin.book (by omega)) covers_all) (fun ga hga => ?_)
  refine s_field rfl rfl rfl rfl rfl rfl rfl rfl ?_
  refine k_store 1 rfl rfl rfl rfl rfl rfl rfl rfl rfl rfl rfl rfl ?_
  refine okl_nil ?_
  change OkC Try.prog _ _ _ _ _ _ _
  refine okc_weak (l' := [(0, _), (1, _), (2, _)]) ⟨rfl, rfl, rfl, trivial⟩ ?_
  refine okc_seq ?_
  refine okc_region ?_
  refine s_field rfl rfl rfl rfl rfl rfl rfl rfl ?_
  refine s_load1 1 rfl rfl rfl rfl rfl rfl rfl rfl rfl ?_
  refine okl_rE rfl rfl rfl rfl (op_call rfl rfl rfl c121 (cloneR_fn M s.rp s.reads s.rc hin.reads (by omega)) covers_all) (fun gb hgb => ?_)
  refine s_field rfl rfl rfl rfl rfl rfl rfl rfl ?_
  refine k_store 1 rfl rfl rfl rfl rfl rfl rfl rfl rfl rfl rfl rfl ?_
  refine okl_nil ?_
  change OkC Try.prog _ _ _ _ _ _ _
  refine okc_weak (l' := [(0, _), (1, _), (2, _)]) ⟨rfl, rfl, rfl, trivial⟩ ?_
  refine okc_seq ?_
  refine okc_region ?_
  refine s_loadW 1 rfl rfl rfl rfl rfl rfl rfl rfl rfl rfl ?_
  refine k_storeW 0 rfl rfl rfl rfl rfl rfl rfl rfl rfl rfl rfl rfl ?_
  refine okl_nil ?_
  change OkC Try.prog _ _ _ _ _ _ _
  refine okc_weak (l' := [(0, _), (1, _), (2, _)]) ⟨rfl, rfl, rfl, trivial⟩ ?_
  refine okc_ret fun a w hs => ?_
  exact ret_postS hs (run_results1 hs rfl (k_ragg 0 rfl rfl rfl rfl rfl)) ⟨ga.p, ga.c, ga.B, gb.p, gb.c, gb.B⟩ rfl ⟨hga, hgb⟩ (by simp)
end Go.Proofs.Ytdpnadknaacinaa
end
