/-
  Springs compared: alike.
  Conditions: none.
-/
import Derived.Test.YtdpnadknaacinaaC24
namespace Go.Proofs.Ytdpnadknaacinaa
open Go.Sx Go.Proofs.Ytdpnadknaacinaa.Ty
set_option linter.unusedVariables false
set_option maxHeartbeats 2000000

theorem same_fn (s : Sp) (M : Args) (g : Rn2) (hin : s.In M) (hin2 : (twS s g).In M) : Cn Try.prog 29 [spV (twS s g), spV s] M (fun _ : Unit => .bool true) (fun _ => []) (fun _ => True) := by
  have hbn := hin.bn
  have hrn := hin.rn
  obtain ⟨bB, oB, cB, jB, hB⟩ := hin.book
  obtain ⟨bR, oR, cR, jR, hR⟩ := hin.reads
  obtain ⟨bP, oP, cP, jP, hP⟩ := hin2.book
  obtain ⟨bQ, oQ, cQ, jQ, hQ⟩ := hin2.reads
  refine fn_intro (N := 94) Try.func29 rfl rfl rfl fun w0 => ?_
  refine okc_seq ?_
  refine okc_region ?_
  refine s_boxA rfl rfl rfl rfl rfl rfl (fun b1 => ?_)
  refine s_boxA rfl rfl rfl rfl rfl rfl (fun b2 => ?_)
  refine s_assign rfl rfl rfl rfl rfl rfl ?_
  refine okl_nil ?_
  change OkC Try.prog _ _ _ _ _ _ _
  refine okc_weak (l' := [(0, _), (1, _), (2, _), (3, _), (4, _)]) ⟨rfl, rfl, rfl, rfl, rfl, trivial⟩ ?_
  refine okc_seq ?_
  refine okc_seq ?_
  refine okc_region ?_
  refine s_field rfl rfl rfl rfl rfl rfl rfl rfl ?_
  refine s_load1 1 rfl rfl rfl rfl rfl rfl rfl rfl rfl ?_
  refine s_field rfl rfl rfl rfl rfl rfl rfl rfl ?_
  refine s_load1 0 rfl rfl rfl rfl rfl rfl rfl rfl rfl ?_
  refine s_cmpS rfl rfl rfl rfl rfl rfl rfl rfl (fun h3 => ?_) (fun h3 => ?_)
  · exact absurd h3 (by simp [twS]) --closed
  · refine s_move rfl rfl rfl rfl rfl rfl ?_
    refine s_field rfl rfl rfl rfl rfl rfl rfl rfl ?_
    refine s_load1 1 rfl rfl rfl rfl rfl rfl rfl rfl rfl ?_
    refine s_field rfl rfl rfl rfl rfl rfl rfl rfl ?_
    refine s_load1 0 rfl rfl rfl rfl rfl rfl rfl rfl rfl ?_
    refine s_cmpS rfl rfl rfl rfl rfl rfl rfl rfl (fun h4 => ?_) (fun h4 => ?_)
    · exact absurd h4 (by simp [twS]) --closed
    · refine s_pick_f rfl rfl rfl rfl rfl rfl rfl ?_
      refine s_move rfl rfl rfl rfl rfl rfl ?_
      refine s_field rfl rfl rfl rfl rfl rfl rfl rfl ?_
      refine s_load1 1 rfl rfl rfl rfl rfl rfl rfl rfl rfl ?_
      refine s_field rfl rfl rfl rfl rfl rfl rfl rfl ?_
      refine s_load1 0 rfl rfl rfl rfl rfl rfl rfl rfl rfl ?_
      refine s_cmpS rfl rfl rfl rfl rfl rfl rfl rfl (fun h5 => ?_) (fun h5 => ?_)
      · exact absurd h5 (by simp [twS]) --closed
      · refine s_pick_f rfl rfl rfl rfl rfl rfl rfl ?_
        refine s_move rfl rfl rfl rfl rfl rfl ?_
        refine s_field rfl rfl rfl rfl rfl rfl rfl rfl ?_
        refine s_loadP2 1 rfl rfl rfl rfl rfl rfl rfl rfl rfl rfl rfl ?_
        refine s_field rfl rfl rfl rfl rfl rfl rfl rfl ?_
        refine s_loadP2 0 rfl rfl rfl rfl rfl rfl rfl rfl rfl rfl rfl ?_
        refine s_b rfl rfl rfl rfl (op_neqA rfl rfl rfl g23 (eq23 9998 _ _ _ _)) (fun h6 => ?_) (fun h6 => ?_)
        · exact absurd h6 (by simp [twS]) --closed
        · refine s_pick_f rfl rfl rfl rfl rfl rfl rfl ?_
          refine s_move rfl rfl rfl rfl rfl rfl ?_
          refine s_field rfl rfl rfl rfl rfl rfl rfl rfl ?_
          refine s_loadP2 1 rfl rfl rfl rfl rfl rfl rfl rfl rfl rfl rfl ?_
          refine s_field rfl rfl rfl rfl rfl rfl rfl rfl ?_
          refine s_loadP2 0 rfl rfl rfl rfl rfl rfl rfl rfl rfl rfl rfl ?_
          refine s_b rfl rfl rfl rfl (op_neqA rfl rfl rfl g23 (eq23 9998 _ _ _ _)) (fun h7 => ?_) (fun h7 => ?_)
          · exact absurd h7 (by simp [twS]) --closed
          · refine s_pick_f rfl rfl rfl rfl rfl rfl rfl ?_
            refine s_move rfl rfl rfl rfl rfl rfl ?_
            refine s_field rfl rfl rfl rfl rfl rfl rfl rfl ?_
            refine s_load1 1 rfl rfl rfl rfl rfl rfl rfl rfl rfl ?_
            refine s_len rfl rfl rfl rfl rfl rfl rfl ?_
            refine s_field rfl rfl rfl rfl rfl rfl rfl rfl ?_
            refine s_load1 0 rfl rfl rfl rfl rfl rfl rfl rfl rfl ?_
            refine s_len rfl rfl rfl rfl rfl rfl rfl ?_
            refine s_cmpS rfl rfl rfl rfl rfl rfl rfl rfl (fun h8 => ?_) (fun h8 => ?_)
            · exact absurd h8 (by simp [twS]) --closed
            · refine s_pick_f rfl rfl rfl rfl rfl rfl rfl ?_
              refine s_move rfl rfl rfl rfl rfl rfl ?_
              refine s_field rfl rfl rfl rfl rfl rfl rfl rfl ?_
              refine s_load1 1 rfl rfl rfl rfl rfl rfl rfl rfl rfl ?_
              refine s_len rfl rfl rfl rfl rfl rfl rfl ?_
              refine s_field rfl rfl rfl rfl rfl rfl rfl rfl ?_
              refine s_load1 0 rfl rfl rfl rfl rfl rfl rfl rfl rfl ?_
              refine s_len rfl rfl rfl rfl rfl rfl rfl ?_
              refine s_cmpS rfl rfl rfl rfl rfl rfl rfl rfl (fun h9 => ?_) (fun h9 => ?_)
              · exact absurd h9 (by simp [twS]) --closed
              · refine s_pick_f rfl rfl rfl rfl rfl rfl rfl ?_
                refine okl_nil ?_
                change OkC Try.prog _ _ _ _ _ _ _
                refine okc_weak (l' := [(0, _), (1, _), (2, _), (3, _), (4, _), (57, _)]) ⟨rfl, rfl, rfl, rfl, rfl, rfl, trivial⟩ ?_
                refine okc_cond_f rfl ?_
                refine okc_skip ?_
                change OkC Try.prog _ _ _ _ _ _ _
                refine okc_weak (l' := [(0, _), (1, _), (2, _), (3, _), (4, _), (57, _)]) ⟨rfl, rfl, rfl, rfl, rfl, rfl, trivial⟩ ?_
                refine okc_seq ?_
                refine okc_seq ?_
                refine okc_region ?_
                refine s_assign rfl rfl rfl rfl rfl rfl ?_
                refine okl_nil ?_
                change OkC Try.prog _ _ _ _ _ _ _
                refine okc_weak (l' := [(0, _), (1, _), (2, _), (3, _), (4, _), (5, _), (57, _)]) ⟨rfl, rfl, rfl, rfl, rfl, rfl, rfl, trivial⟩ ?_
                refine okc_block ?_
                refine okc_loop (γ := Nat) (fun k => [(2, .pointer (some ⟨b1, 0, none⟩)), (3, .pointer (some ⟨b2, 0, none⟩)), (5, .int .i64 k)]) (fun k => [(b2, [.int .i64 s.weeks, .int .i64 s.most, .int .i64 s.fall, .int .i64 s.slo, .int .i64 s.shi, .int .i64 s.wlo, .int .i64 s.whi, .slice s.bp s.book.length s.bc, .slice s.rp s.reads.length s.rc], 27), (b1, [.int .i64 s.weeks, .int .i64 s.most, .int .i64 s.fall, .int .i64 s.slo, .int .i64 s.shi, .int .i64 s.wlo, .int .i64 s.whi, .slice g.p1 s.book.length g.c1, .slice g.p2 s.reads.length g.c2], 27)]) (fun k => k ≤ s.book.length) (fun k => s.book.length - k) 0 (Nat.zero_le _) (fun a w hs => by exact hs.weak ⟨rfl, rfl, rfl, trivial⟩ [0, 1] (by simp) (by rfl)) ?_
                rintro k hk
                refine okc_seq ?_
                refine okc_seq ?_
                refine okc_region ?_
                refine s_move rfl rfl rfl rfl rfl rfl ?_
                refine s_field rfl rfl rfl rfl rfl rfl rfl rfl ?_
                refine s_load1 1 rfl rfl rfl rfl rfl rfl rfl rfl rfl ?_
                refine s_len rfl rfl rfl rfl rfl rfl rfl ?_
                refine s_cmpS rfl rfl rfl rfl rfl rfl rfl rfl (fun h10 => ?_) (fun h10 => ?_)
                · have hlt : k < s.book.length := by simpa using h10
                  obtain ⟨x, hx⟩ : ∃ x, s.book[k]? = some x := ⟨s.book[k], by simp [hlt]⟩
                  obtain ⟨hpP, hjP, hatP⟩ := hP (by intro e; have e2 : s.book = [] := e; simp [e2] at hx)
                  obtain ⟨hpB, hjB, hatB⟩ := hB (by intro e; simp [e] at hx)
                  have hcx := hatP k x hx
                  have hcy := hatB k x hx
                  refine okl_nil ?_
                  change OkC Try.prog _ _ _ _ _ _ _
                  refine okc_weak (l' := [(2, _), (3, _), (5, _), (62, _)]) ⟨rfl, rfl, rfl, rfl, trivial⟩ ?_
                  refine okc_cond_t rfl ?_
                  refine okc_skip ?_
                  change OkC Try.prog _ _ _ _ _ _ _
                  refine okc_weak (l' := [(2, _), (3, _), (5, _), (62, _)]) ⟨rfl, rfl, rfl, rfl, trivial⟩ ?_
                  refine okc_seq ?_
                  refine okc_block ?_
                  refine okc_seq ?_
                  refine dr_start [65, 66, 67, 68, 69, 70, 71, 72, 73, 74, 75] ?_
                  refine d_field [] rfl rfl rfl rfl rfl (fun ν => rfl) rfl (fun ν => rfl) rfl rfl ?_
                  refine d_load1 1 [0] rfl rfl rfl rfl rfl (fun ν => rfl) rfl rfl (fun ν => rfl) (fun ν => rfl) rfl ?_
                  refine d_move [] rfl rfl rfl rfl rfl (fun ν => rfl) rfl (fun ν => rfl) ?_
                  refine d_indexP k hpP [1, 2] rfl rfl rfl rfl rfl (fun ν => rfl) rfl (fun ν => rfl) (fun ν => rfl) rfl rfl rfl (by omega) rfl ?_
                  refine d_loadAP jP [3] rfl rfl rfl rfl rfl (fun ν => rfl) rfl rfl (fun ν => rfl) hjP rfl (by assumption) rfl rfl ?_
                  refine d_field [] rfl rfl rfl rfl rfl (fun ν => rfl) rfl (fun ν => rfl) rfl rfl ?_
                  refine d_load1 0 [5] rfl rfl rfl rfl rfl (fun ν => rfl) rfl rfl (fun ν => rfl) (fun ν => rfl) rfl ?_
                  refine d_move [] rfl rfl rfl rfl rfl (fun ν => rfl) rfl (fun ν => rfl) ?_
                  refine d_indexP k hpB [6, 7] rfl rfl rfl rfl rfl (fun ν => rfl) rfl (fun ν => rfl) (fun ν => rfl) rfl rfl rfl (by omega) rfl ?_
                  refine d_loadAP jB [8] rfl rfl rfl rfl rfl (fun ν => rfl) rfl rfl (fun ν => rfl) hjB rfl (by assumption) rfl rfl ?_
                  refine d_b [4, 9] rfl rfl rfl rfl rfl (fun ν => rfl) (fun ν => op_neqA rfl rfl rfl g76 (eq76 9997 _ _ _ _ _ _ _ _ _ _ )) (fun h12 => ?_) (fun h12 => ?_)
                  · exact absurd h12 (by simp [twS]) --closed
                  · refine dr_end [65, 66, 67, 68, 69, 70, 71, 72, 73, 74, 75] [10] 11 rfl rfl rfl rfl rfl rfl rfl rfl rfl (fun nu11 => ?_)
                    refine okl_nil ?_
                    change OkC Try.prog _ _ _ _ _ _ _
                    refine okc_weak (l' := [(2, _), (3, _), (5, _), (62, _), (75, _)]) ⟨rfl, rfl, rfl, rfl, rfl, trivial⟩ ?_
                    refine okc_cond_f rfl ?_
                    refine okc_skip ?_
                    change OkC Try.prog _ _ _ _ _ _ _
                    refine okc_weak (l' := [(2, _), (3, _), (5, _), (62, _), (75, _)]) ⟨rfl, rfl, rfl, rfl, rfl, trivial⟩ ?_
                    refine okc_region ?_
                    refine s_move rfl rfl rfl rfl rfl rfl ?_
                    refine s_add rfl rfl rfl rfl rfl rfl rfl (by omega) ?_
                    refine s_assign rfl rfl rfl rfl rfl rfl ?_
                    refine okl_nil ?_
                    exact fun a w hs => ⟨k + 1, by omega, by omega, hs.weak ⟨rfl, rfl, rfl, trivial⟩ [0, 1] (by simp) (by rfl)⟩
                · have hge : ¬ k < s.book.length := by simpa using h10
                  refine okl_nil ?_
                  change OkC Try.prog _ _ _ _ _ _ _
                  refine okc_weak (l' := [(2, _), (3, _), (5, _), (62, _)]) ⟨rfl, rfl, rfl, rfl, trivial⟩ ?_
                  refine okc_cond_f rfl ?_
                  refine okc_exit ?_
                  change OkC Try.prog _ _ _ _ _ _ _
                  refine okc_weak (l' := [(2, _), (3, _), (5, _), (62, _)]) ⟨rfl, rfl, rfl, rfl, trivial⟩ ?_
                  refine okc_seq ?_
                  refine okc_seq ?_
                  refine okc_region ?_
                  refine s_assign rfl rfl rfl rfl rfl rfl ?_
                  refine okl_nil ?_
                  change OkC Try.prog _ _ _ _ _ _ _
                  refine okc_weak (l' := [(2, _), (3, _), (5, _), (6, _), (62, _)]) ⟨rfl, rfl, rfl, rfl, rfl, trivial⟩ ?_
                  refine okc_block ?_
                  refine okc_loop (γ := Nat) (fun k => [(2, .pointer (some ⟨b1, 0, none⟩)), (3, .pointer (some ⟨b2, 0, none⟩)), (6, .int .i64 k)]) (fun k => [(b2, [.int .i64 s.weeks, .int .i64 s.most, .int .i64 s.fall, .int .i64 s.slo, .int .i64 s.shi, .int .i64 s.wlo, .int .i64 s.whi, .slice s.bp s.book.length s.bc, .slice s.rp s.reads.length s.rc], 27), (b1, [.int .i64 s.weeks, .int .i64 s.most, .int .i64 s.fall, .int .i64 s.slo, .int .i64 s.shi, .int .i64 s.wlo, .int .i64 s.whi, .slice g.p1 s.book.length g.c1, .slice g.p2 s.reads.length g.c2], 27)]) (fun k => k ≤ s.reads.length) (fun k => s.reads.length - k) 0 (Nat.zero_le _) (fun a w hs => by exact hs.weak ⟨rfl, rfl, rfl, trivial⟩ [0, 1] (by simp) (by rfl)) ?_
                  rintro k hk
                  refine okc_seq ?_
                  refine okc_seq ?_
                  refine okc_region ?_
                  refine s_move rfl rfl rfl rfl rfl rfl ?_
                  refine s_field rfl rfl rfl rfl rfl rfl rfl rfl ?_
                  refine s_load1 1 rfl rfl rfl rfl rfl rfl rfl rfl rfl ?_
                  refine s_len rfl rfl rfl rfl rfl rfl rfl ?_
                  refine s_cmpS rfl rfl rfl rfl rfl rfl rfl rfl (fun h13 => ?_) (fun h13 => ?_)
                  · have hlt : k < s.reads.length := by simpa using h13
                    obtain ⟨x, hx⟩ : ∃ x, s.reads[k]? = some x := ⟨s.reads[k], by simp [hlt]⟩
                    obtain ⟨hpQ, hjQ, hatQ⟩ := hQ (by intro e; have e2 : s.reads = [] := e; simp [e2] at hx)
                    obtain ⟨hpR, hjR, hatR⟩ := hR (by intro e; simp [e] at hx)
                    have hcx := hatQ k x hx
                    have hcy := hatR k x hx
                    refine okl_nil ?_
                    change OkC Try.prog _ _ _ _ _ _ _
                    refine okc_weak (l' := [(2, _), (3, _), (6, _), (80, _)]) ⟨rfl, rfl, rfl, rfl, trivial⟩ ?_
                    refine okc_cond_t rfl ?_
                    refine okc_skip ?_
                    change OkC Try.prog _ _ _ _ _ _ _
                    refine okc_weak (l' := [(2, _), (3, _), (6, _), (80, _)]) ⟨rfl, rfl, rfl, rfl, trivial⟩ ?_
                    refine okc_seq ?_
                    refine okc_block ?_
                    refine okc_seq ?_
                    refine dr_start [83, 84, 85, 86, 87, 88, 89, 90, 91, 92, 93] ?_
                    refine d_field [] rfl rfl rfl rfl rfl (fun ν => rfl) rfl (fun ν => rfl) rfl rfl ?_
                    refine d_load1 1 [0] rfl rfl rfl rfl rfl (fun ν => rfl) rfl rfl (fun ν => rfl) (fun ν => rfl) rfl ?_
                    refine d_move [] rfl rfl rfl rfl rfl (fun ν => rfl) rfl (fun ν => rfl) ?_
                    refine d_indexP k hpQ [1, 2] rfl rfl rfl rfl rfl (fun ν => rfl) rfl (fun ν => rfl) (fun ν => rfl) rfl rfl rfl (by omega) rfl ?_
                    refine d_loadAP jQ [3] rfl rfl rfl rfl rfl (fun ν => rfl) rfl rfl (fun ν => rfl) hjQ rfl (by assumption) rfl rfl ?_
                    refine d_field [] rfl rfl rfl rfl rfl (fun ν => rfl) rfl (fun ν => rfl) rfl rfl ?_
                    refine d_load1 0 [5] rfl rfl rfl rfl rfl (fun ν => rfl) rfl rfl (fun ν => rfl) (fun ν => rfl) rfl ?_
                    refine d_move [] rfl rfl rfl rfl rfl (fun ν => rfl) rfl (fun ν => rfl) ?_
                    refine d_indexP k hpR [6, 7] rfl rfl rfl rfl rfl (fun ν => rfl) rfl (fun ν => rfl) (fun ν => rfl) rfl rfl rfl (by omega) rfl ?_
                    refine d_loadAP jR [8] rfl rfl rfl rfl rfl (fun ν => rfl) rfl rfl (fun ν => rfl) hjR rfl (by assumption) rfl rfl ?_
                    refine d_b [4, 9] rfl rfl rfl rfl rfl (fun ν => rfl) (fun ν => op_neqA rfl rfl rfl g69 (eq69 9997 _ _ _ _ _ _ _ _ _ _ )) (fun h15 => ?_) (fun h15 => ?_)
                    · exact absurd h15 (by simp [twS]) --closed
                    · refine dr_end [83, 84, 85, 86, 87, 88, 89, 90, 91, 92, 93] [10] 11 rfl rfl rfl rfl rfl rfl rfl rfl rfl (fun nu14 => ?_)
                      refine okl_nil ?_
                      change OkC Try.prog _ _ _ _ _ _ _
                      refine okc_weak (l' := [(2, _), (3, _), (6, _), (80, _), (93, _)]) ⟨rfl, rfl, rfl, rfl, rfl, trivial⟩ ?_
                      refine okc_cond_f rfl ?_
                      refine okc_skip ?_
                      change OkC Try.prog _ _ _ _ _ _ _
                      refine okc_weak (l' := [(2, _), (3, _), (6, _), (80, _), (93, _)]) ⟨rfl, rfl, rfl, rfl, rfl, trivial⟩ ?_
                      refine okc_region ?_
                      refine s_move rfl rfl rfl rfl rfl rfl ?_
                      refine s_add rfl rfl rfl rfl rfl rfl rfl (by omega) ?_
                      refine s_assign rfl rfl rfl rfl rfl rfl ?_
                      refine okl_nil ?_
                      exact fun a w hs => ⟨k + 1, by omega, by omega, hs.weak ⟨rfl, rfl, rfl, trivial⟩ [0, 1] (by simp) (by rfl)⟩
                  · have hge : ¬ k < s.reads.length := by simpa using h13
                    refine okl_nil ?_
                    change OkC Try.prog _ _ _ _ _ _ _
                    refine okc_weak (l' := [(2, _), (3, _), (6, _), (80, _)]) ⟨rfl, rfl, rfl, rfl, trivial⟩ ?_
                    refine okc_cond_f rfl ?_
                    refine okc_exit ?_
                    change OkC Try.prog _ _ _ _ _ _ _
                    refine okc_weak (l' := [(2, _), (3, _), (6, _), (80, _)]) ⟨rfl, rfl, rfl, rfl, trivial⟩ ?_
                    refine okc_seq ?_
                    refine okc_region ?_
                    refine s_assign rfl rfl rfl rfl rfl rfl ?_
                    refine okl_nil ?_
                    change OkC Try.prog _ _ _ _ _ _ _
                    refine okc_weak (l' := [(2, _), (3, _), (4, _), (6, _), (80, _)]) ⟨rfl, rfl, rfl, rfl, rfl, trivial⟩ ?_
                    refine okc_ret fun a w hs => ?_
                    exact ret_v hs (run_results1 hs rfl (rv_tmp rfl)) (rfl)

end Go.Proofs.Ytdpnadknaacinaa
