/-
  The reference: valid springs.
  Conditions: none.
-/
import Derived.Test.YtdpnadknaacinaaC16
namespace Go.Proofs.Ytdpnadknaacinaa
open Go.Sx Go.Proofs.Ytdpnadknaacinaa.Ty
set_option linter.unusedVariables false
set_option maxHeartbeats 2000000


theorem rds_step {weeks bef : Int} {x : Rd} {L : List Rd} (h : bef < x.number ∧ readB weeks x = true) : rdsB weeks bef (x :: L) = rdsB weeks x.number L := by simp [rdsB, h.1, h.2]
theorem read_num {weeks : Int} {x : Rd} (h : readB weeks x = true) : 1 ≤ x.number := by simp only [readB, inS, Bool.and_eq_true, decide_eq_true_eq] at h; omega

theorem rSpring_fn (s : Sp) (M : Args) (hin : s.In M) : Cn Try.prog 74 [spV s] M (fun _ : Unit => .bool (validB s)) (fun _ => []) (fun _ => True) := by
  obtain ⟨bB, oB, cB, jB, hB⟩ := hin.book
  have hbn := hin.bn
  obtain ⟨bR, oR, cR, jR, hR⟩ := hin.reads
  have hrn := hin.rn
  refine fn_intro (N := 104) Try.func74 rfl rfl rfl fun w0 => ?_
  refine okc_seq ?_
  refine okc_region ?_
  refine s_boxA rfl rfl rfl rfl rfl rfl (fun b1 => ?_)
  refine s_assign rfl rfl rfl rfl rfl rfl ?_
  refine okl_nil ?_
  change OkC Try.prog _ _ _ _ _ _ _
  refine okc_weak (l' := [(0, _), (1, _), (2, _)]) ⟨rfl, rfl, rfl, trivial⟩ ?_
  refine okc_seq ?_
  refine okc_seq ?_
  refine okc_region ?_
  refine s_field rfl rfl rfl rfl rfl rfl rfl rfl ?_
  refine s_load1 0 rfl rfl rfl rfl rfl rfl rfl rfl rfl ?_
  refine s_callb rfl rfl rfl rfl rfl rfl rfl c87 (rwithin_fn _ _ _) covers_nil (fun h2 => ?_) (fun h2 => ?_)
  · refine s_not rfl rfl rfl rfl rfl rfl ?_
    refine s_move rfl rfl rfl rfl rfl rfl ?_
    refine s_field rfl rfl rfl rfl rfl rfl rfl rfl ?_
    refine s_load1 0 rfl rfl rfl rfl rfl rfl rfl rfl rfl ?_
    refine s_callb rfl rfl rfl rfl rfl rfl rfl c87 (rwithin_fn _ _ _) covers_nil (fun h3 => ?_) (fun h3 => ?_)
    · refine s_not rfl rfl rfl rfl rfl rfl ?_
      refine s_pick_f rfl rfl rfl rfl rfl rfl rfl ?_
      refine s_move rfl rfl rfl rfl rfl rfl ?_
      refine s_field rfl rfl rfl rfl rfl rfl rfl rfl ?_
      refine s_load1 0 rfl rfl rfl rfl rfl rfl rfl rfl rfl ?_
      refine s_callb rfl rfl rfl rfl rfl rfl rfl c87 (rwithin_fn _ _ _) covers_nil (fun h4 => ?_) (fun h4 => ?_)
      · refine s_not rfl rfl rfl rfl rfl rfl ?_
        refine s_pick_f rfl rfl rfl rfl rfl rfl rfl ?_
        refine s_move rfl rfl rfl rfl rfl rfl ?_
        refine s_field rfl rfl rfl rfl rfl rfl rfl rfl ?_
        refine s_loadP2 0 rfl rfl rfl rfl rfl rfl rfl rfl rfl rfl rfl ?_
        refine s_callb rfl rfl rfl rfl rfl rfl rfl c106 (spanned_fn _ _ _ _) covers_nil (fun h5 => ?_) (fun h5 => ?_)
        · refine s_not rfl rfl rfl rfl rfl rfl ?_
          refine s_pick_f rfl rfl rfl rfl rfl rfl rfl ?_
          refine s_move rfl rfl rfl rfl rfl rfl ?_
          refine s_field rfl rfl rfl rfl rfl rfl rfl rfl ?_
          refine s_loadP2 0 rfl rfl rfl rfl rfl rfl rfl rfl rfl rfl rfl ?_
          refine s_callb rfl rfl rfl rfl rfl rfl rfl c106 (spanned_fn _ _ _ _) covers_nil (fun h6 => ?_) (fun h6 => ?_)
          · refine s_not rfl rfl rfl rfl rfl rfl ?_
            refine s_pick_f rfl rfl rfl rfl rfl rfl rfl ?_
            refine s_move rfl rfl rfl rfl rfl rfl ?_
            refine s_field rfl rfl rfl rfl rfl rfl rfl rfl ?_
            refine s_load1 0 rfl rfl rfl rfl rfl rfl rfl rfl rfl ?_
            refine s_len rfl rfl rfl rfl rfl rfl rfl ?_
            refine s_cmpS rfl rfl rfl rfl rfl rfl rfl rfl (fun h7 => ?_) (fun h7 => ?_)
            · refine s_pick_f rfl rfl rfl rfl rfl rfl rfl ?_
              refine s_move rfl rfl rfl rfl rfl rfl ?_
              refine okl_skip rfl rfl rfl rfl ?_
              refine okl_skip rfl rfl rfl rfl ?_
              refine okl_skip rfl rfl rfl rfl ?_
              refine okl_skip rfl rfl rfl rfl ?_
              refine s_pick_t rfl rfl rfl rfl rfl rfl rfl ?_
              refine okl_nil ?_
              change OkC Try.prog _ _ _ _ _ _ _
              refine okc_weak (l' := [(0, _), (1, _), (2, _), (46, _)]) ⟨rfl, rfl, rfl, rfl, trivial⟩ ?_
              refine okc_cond_t rfl ?_
              refine okc_seq ?_
              refine okc_region ?_
              refine s_assign rfl rfl rfl rfl rfl rfl ?_
              refine okl_nil ?_
              change OkC Try.prog _ _ _ _ _ _ _
              refine okc_weak (l' := [(0, _), (1, _), (2, _), (46, _)]) ⟨rfl, rfl, rfl, rfl, trivial⟩ ?_
              refine okc_ret fun a w hs => ?_
              exact ret_v hs (run_results1 hs rfl (rv_tmp rfl)) (by clear hs; refine congrArg Value.bool ?_; first | (rw [validB, hfr, hbk, hrds]; rfl) | (rw [validB, readsB, hrd, drop_at hx, hbad]; simp; done) | (rw [validB, bookB, all_false hx hlb]; simp; done) | (clear hB hR; simp_all [validB, frameB, bookB, readsB, inS]; done) | (clear hB hR; simp_all [validB, frameB, bookB, readsB, inS]; omega))
            · have hle8 : s.book.length ≤ 8 := by have hq := h7; simp at hq; omega
              refine s_pick_f rfl rfl rfl rfl rfl rfl rfl ?_
              refine s_move rfl rfl rfl rfl rfl rfl ?_
              refine s_field rfl rfl rfl rfl rfl rfl rfl rfl ?_
              refine s_load1 0 rfl rfl rfl rfl rfl rfl rfl rfl rfl ?_
              refine s_len rfl rfl rfl rfl rfl rfl rfl ?_
              refine s_cmpS rfl rfl rfl rfl rfl rfl rfl rfl (fun h8 => ?_) (fun h8 => ?_)
              · refine s_pick_f rfl rfl rfl rfl rfl rfl rfl ?_
                refine okl_nil ?_
                change OkC Try.prog _ _ _ _ _ _ _
                refine okc_weak (l' := [(0, _), (1, _), (2, _), (46, _)]) ⟨rfl, rfl, rfl, rfl, trivial⟩ ?_
                refine okc_cond_t rfl ?_
                refine okc_seq ?_
                refine okc_region ?_
                refine s_assign rfl rfl rfl rfl rfl rfl ?_
                refine okl_nil ?_
                change OkC Try.prog _ _ _ _ _ _ _
                refine okc_weak (l' := [(0, _), (1, _), (2, _), (46, _)]) ⟨rfl, rfl, rfl, rfl, trivial⟩ ?_
                refine okc_ret fun a w hs => ?_
                exact ret_v hs (run_results1 hs rfl (rv_tmp rfl)) (by clear hs; refine congrArg Value.bool ?_; first | (rw [validB, hfr, hbk, hrds]; rfl) | (rw [validB, readsB, hrd, drop_at hx, hbad]; simp; done) | (rw [validB, bookB, all_false hx hlb]; simp; done) | (clear hB hR; simp_all [validB, frameB, bookB, readsB, inS]; done) | (clear hB hR; simp_all [validB, frameB, bookB, readsB, inS]; omega))
              · have hfr : frameB s = true := by simp_all [frameB, inS]
                have hw := frame_weeks hfr
                obtain ⟨h1, h2⟩ := hw
                have hle12 : s.reads.length ≤ 12 := by have hq := h8; simp at hq; omega
                refine s_pick_f rfl rfl rfl rfl rfl rfl rfl ?_
                refine okl_nil ?_
                change OkC Try.prog _ _ _ _ _ _ _
                refine okc_weak (l' := [(0, _), (1, _), (2, _), (46, _)]) ⟨rfl, rfl, rfl, rfl, trivial⟩ ?_
                refine okc_cond_f rfl ?_
                refine okc_skip ?_
                change OkC Try.prog _ _ _ _ _ _ _
                refine okc_weak (l' := [(0, _), (1, _), (2, _), (46, _)]) ⟨rfl, rfl, rfl, rfl, trivial⟩ ?_
                refine okc_seq ?_
                refine okc_seq ?_
                refine okc_region ?_
                refine s_field rfl rfl rfl rfl rfl rfl rfl rfl ?_
                refine s_load1 0 rfl rfl rfl rfl rfl rfl rfl rfl rfl ?_
                refine s_len rfl rfl rfl rfl rfl rfl rfl ?_
                refine s_move rfl rfl rfl rfl rfl rfl ?_
                refine okl_nil ?_
                change OkC Try.prog _ _ _ _ _ _ _
                refine okc_weak (l' := [(0, _), (1, _), (2, _), (46, _), (48, _), (49, _), (50, _)]) ⟨rfl, rfl, rfl, rfl, rfl, rfl, rfl, trivial⟩ ?_
                refine okc_block ?_
                refine okc_loop (γ := Nat) (fun k => [(1, .pointer (some ⟨b1, 0, none⟩)), (48, .slice s.bp s.book.length s.bc), (49, .int .i64 s.book.length), (50, .int .i64 k)]) (fun _ => [(b1, [.int .i64 s.weeks, .int .i64 s.most, .int .i64 s.fall, .int .i64 s.slo, .int .i64 s.shi, .int .i64 s.wlo, .int .i64 s.whi, .slice s.bp s.book.length s.bc, .slice s.rp s.reads.length s.rc], 27)]) (fun k => k ≤ s.book.length ∧ (s.book.take k).all (lineB s.weeks) = true) (fun k => s.book.length - k) 0 ⟨Nat.zero_le _, rfl⟩ (fun a w hs => hs.weak ⟨rfl, rfl, rfl, rfl, trivial⟩ [0] (by simp) rfl) ?_
                rintro k ⟨hk, hall⟩
                refine okc_seq ?_
                refine okc_region ?_
                refine s_cmpS rfl rfl rfl rfl rfl rfl rfl rfl (fun h9 => ?_) (fun h9 => ?_)
                · have hlt : k < s.book.length := by simpa using h9
                  obtain ⟨x, hx⟩ : ∃ x, s.book[k]? = some x := ⟨s.book[k], by simp [hlt]⟩
                  obtain ⟨hpB, hjB, hatB⟩ := hB (by intro e; simp [e] at hlt)
                  have hcell := hatB k x hx
                  refine okl_nil ?_
                  change OkC Try.prog _ _ _ _ _ _ _
                  refine okc_weak (l' := [(1, _), (48, _), (49, _), (50, _), (51, _)]) ⟨rfl, rfl, rfl, rfl, rfl, trivial⟩ ?_
                  refine okc_seq ?_
                  refine okc_cond_t rfl ?_
                  refine okc_skip ?_
                  change OkC Try.prog _ _ _ _ _ _ _
                  refine okc_weak (l' := [(1, _), (48, _), (49, _), (50, _), (51, _)]) ⟨rfl, rfl, rfl, rfl, rfl, trivial⟩ ?_
                  refine okc_seq ?_
                  refine okc_block ?_
                  refine okc_seq ?_
                  refine okc_region ?_
                  refine s_indexP k hpB rfl rfl rfl rfl rfl rfl rfl rfl rfl rfl (by omega) rfl ?_
                  refine s_loadAP jB rfl rfl rfl rfl rfl rfl rfl hjB rfl (by assumption) rfl ?_
                  refine s_alloc rfl rfl rfl rfl rfl rfl (fun b10 => ?_)
                  refine k_storeW 0 rfl rfl rfl rfl rfl rfl rfl rfl rfl rfl rfl rfl ?_
                  try dsimp only [List.set_cons_zero, List.set_cons_succ, setL]
                  refine okl_nil ?_
                  change OkC Try.prog _ _ _ _ _ _ _
                  refine okc_weak (l' := [(1, _), (4, _), (48, _), (49, _), (50, _), (51, _)]) ⟨rfl, rfl, rfl, rfl, rfl, rfl, trivial⟩ ?_
                  refine okc_seq ?_
                  refine okc_region ?_
                  refine s_field rfl rfl rfl rfl rfl rfl rfl rfl ?_
                  refine s_loadP2 0 rfl rfl rfl rfl rfl rfl rfl rfl rfl rfl rfl ?_
                  refine s_callb rfl rfl rfl rfl rfl rfl rfl c106 (spanned_fn _ _ _ _) covers_nil (fun h11 => ?_) (fun h11 => ?_)
                  · have ha1 : isSpanB x.rlo x.rhi 0 20 = true := h11
                    refine s_not rfl rfl rfl rfl rfl rfl ?_
                    refine s_move rfl rfl rfl rfl rfl rfl ?_
                    refine s_field rfl rfl rfl rfl rfl rfl rfl rfl ?_
                    refine s_load1 0 rfl rfl rfl rfl rfl rfl rfl rfl rfl ?_
                    refine s_field rfl rfl rfl rfl rfl rfl rfl rfl ?_
                    refine s_load1 1 rfl rfl rfl rfl rfl rfl rfl rfl rfl ?_
                    refine s_sub rfl rfl rfl rfl rfl rfl rfl (by omega) ?_
                    refine s_callb rfl rfl rfl rfl rfl rfl rfl c87 (rwithin_fn _ _ _) covers_nil (fun h12 => ?_) (fun h12 => ?_)
                    · have ha2 : isWeekB s.weeks x.week = true := h12
                      refine s_not rfl rfl rfl rfl rfl rfl ?_
                      refine s_pick_f rfl rfl rfl rfl rfl rfl rfl ?_
                      refine s_move rfl rfl rfl rfl rfl rfl ?_
                      refine s_field rfl rfl rfl rfl rfl rfl rfl rfl ?_
                      refine s_loadP2 0 rfl rfl rfl rfl rfl rfl rfl rfl rfl rfl rfl ?_
                      refine s_callb rfl rfl rfl rfl rfl rfl rfl c106 (spanned_fn _ _ _ _) covers_nil (fun h13 => ?_) (fun h13 => ?_)
                      · have hlb : lineB s.weeks x = true := by rw [lineB, ha1, ha2, h13]; rfl
                        refine s_not rfl rfl rfl rfl rfl rfl ?_
                        refine s_pick_f rfl rfl rfl rfl rfl rfl rfl ?_
                        refine okl_nil ?_
                        change OkC Try.prog _ _ _ _ _ _ _
                        refine okc_weak (l' := [(1, _), (4, _), (48, _), (49, _), (50, _), (51, _), (72, _)]) ⟨rfl, rfl, rfl, rfl, rfl, rfl, rfl, trivial⟩ ?_
                        refine okc_cond_f rfl ?_
                        refine okc_skip ?_
                        change OkC Try.prog _ _ _ _ _ _ _
                        refine okc_weak (l' := [(1, _), (4, _), (48, _), (49, _), (50, _), (51, _), (72, _)]) ⟨rfl, rfl, rfl, rfl, rfl, rfl, rfl, trivial⟩ ?_
                        refine okc_region ?_
                        refine s_add rfl rfl rfl rfl rfl rfl rfl (by omega) ?_
                        refine s_move rfl rfl rfl rfl rfl rfl ?_
                        refine okl_nil ?_
                        exact fun a w hs => ⟨k + 1, ⟨by omega, by rw [all_snoc _ hx, hall, hlb]; rfl⟩, by omega, hs.weak ⟨rfl, rfl, rfl, rfl, trivial⟩ [1] (by simp) rfl⟩
                      · have hlb : lineB s.weeks x = false := by rw [lineB, h13]; simp
                        refine s_not rfl rfl rfl rfl rfl rfl ?_
                        refine s_pick_f rfl rfl rfl rfl rfl rfl rfl ?_
                        refine okl_nil ?_
                        change OkC Try.prog _ _ _ _ _ _ _
                        refine okc_weak (l' := [(1, _), (4, _), (48, _), (49, _), (50, _), (51, _), (72, _)]) ⟨rfl, rfl, rfl, rfl, rfl, rfl, rfl, trivial⟩ ?_
                        refine okc_cond_t rfl ?_
                        refine okc_seq ?_
                        refine okc_region ?_
                        refine s_assign rfl rfl rfl rfl rfl rfl ?_
                        refine okl_nil ?_
                        change OkC Try.prog _ _ _ _ _ _ _
                        refine okc_weak (l' := [(1, _), (2, _), (4, _), (48, _), (49, _), (50, _), (51, _), (72, _)]) ⟨rfl, rfl, rfl, rfl, rfl, rfl, rfl, rfl, trivial⟩ ?_
                        refine okc_ret fun a w hs => ?_
                        exact ret_v hs (run_results1 hs rfl (rv_tmp rfl)) (by clear hs; refine congrArg Value.bool ?_; first | (rw [validB, hfr, hbk, hrds]; rfl) | (rw [validB, readsB, hrd, drop_at hx, hbad]; simp; done) | (rw [validB, bookB, all_false hx hlb]; simp; done) | (clear hB hR; simp_all [validB, frameB, bookB, readsB, inS]; done) | (clear hB hR; simp_all [validB, frameB, bookB, readsB, inS]; omega))
                    · have hlb : lineB s.weeks x = false := by rw [lineB, show isWeekB s.weeks x.week = false from h12]; simp
                      refine s_not rfl rfl rfl rfl rfl rfl ?_
                      refine s_pick_f rfl rfl rfl rfl rfl rfl rfl ?_
                      refine s_move rfl rfl rfl rfl rfl rfl ?_
                      refine okl_skip rfl rfl rfl rfl ?_
                      refine okl_skip rfl rfl rfl rfl ?_
                      refine okl_skip rfl rfl rfl rfl ?_
                      refine okl_skip rfl rfl rfl rfl ?_
                      refine s_pick_t rfl rfl rfl rfl rfl rfl rfl ?_
                      refine okl_nil ?_
                      change OkC Try.prog _ _ _ _ _ _ _
                      refine okc_weak (l' := [(1, _), (4, _), (48, _), (49, _), (50, _), (51, _), (72, _)]) ⟨rfl, rfl, rfl, rfl, rfl, rfl, rfl, trivial⟩ ?_
                      refine okc_cond_t rfl ?_
                      refine okc_seq ?_
                      refine okc_region ?_
                      refine s_assign rfl rfl rfl rfl rfl rfl ?_
                      refine okl_nil ?_
                      change OkC Try.prog _ _ _ _ _ _ _
                      refine okc_weak (l' := [(1, _), (2, _), (4, _), (48, _), (49, _), (50, _), (51, _), (72, _)]) ⟨rfl, rfl, rfl, rfl, rfl, rfl, rfl, rfl, trivial⟩ ?_
                      refine okc_ret fun a w hs => ?_
                      exact ret_v hs (run_results1 hs rfl (rv_tmp rfl)) (by clear hs; refine congrArg Value.bool ?_; first | (rw [validB, hfr, hbk, hrds]; rfl) | (rw [validB, readsB, hrd, drop_at hx, hbad]; simp; done) | (rw [validB, bookB, all_false hx hlb]; simp; done) | (clear hB hR; simp_all [validB, frameB, bookB, readsB, inS]; done) | (clear hB hR; simp_all [validB, frameB, bookB, readsB, inS]; omega))
                  · have hlb : lineB s.weeks x = false := by rw [lineB, h11]; rfl
                    refine s_not rfl rfl rfl rfl rfl rfl ?_
                    refine s_move rfl rfl rfl rfl rfl rfl ?_
                    refine okl_skip rfl rfl rfl rfl ?_
                    refine okl_skip rfl rfl rfl rfl ?_
                    refine okl_skip rfl rfl rfl rfl ?_
                    refine okl_skip rfl rfl rfl rfl ?_
                    refine okl_skip rfl rfl rfl rfl ?_
                    refine okl_skip rfl rfl rfl rfl ?_
                    refine okl_skip rfl rfl rfl rfl ?_
                    refine s_pick_t rfl rfl rfl rfl rfl rfl rfl ?_
                    refine s_move rfl rfl rfl rfl rfl rfl ?_
                    refine okl_skip rfl rfl rfl rfl ?_
                    refine okl_skip rfl rfl rfl rfl ?_
                    refine okl_skip rfl rfl rfl rfl ?_
                    refine okl_skip rfl rfl rfl rfl ?_
                    refine s_pick_t rfl rfl rfl rfl rfl rfl rfl ?_
                    refine okl_nil ?_
                    change OkC Try.prog _ _ _ _ _ _ _
                    refine okc_weak (l' := [(1, _), (4, _), (48, _), (49, _), (50, _), (51, _), (72, _)]) ⟨rfl, rfl, rfl, rfl, rfl, rfl, rfl, trivial⟩ ?_
                    refine okc_cond_t rfl ?_
                    refine okc_seq ?_
                    refine okc_region ?_
                    refine s_assign rfl rfl rfl rfl rfl rfl ?_
                    refine okl_nil ?_
                    change OkC Try.prog _ _ _ _ _ _ _
                    refine okc_weak (l' := [(1, _), (2, _), (4, _), (48, _), (49, _), (50, _), (51, _), (72, _)]) ⟨rfl, rfl, rfl, rfl, rfl, rfl, rfl, rfl, trivial⟩ ?_
                    refine okc_ret fun a w hs => ?_
                    exact ret_v hs (run_results1 hs rfl (rv_tmp rfl)) (by clear hs; refine congrArg Value.bool ?_; first | (rw [validB, hfr, hbk, hrds]; rfl) | (rw [validB, readsB, hrd, drop_at hx, hbad]; simp; done) | (rw [validB, bookB, all_false hx hlb]; simp; done) | (clear hB hR; simp_all [validB, frameB, bookB, readsB, inS]; done) | (clear hB hR; simp_all [validB, frameB, bookB, readsB, inS]; omega))
                · have hge : ¬ k < s.book.length := by simpa using h9
                  have hbk : bookB s.weeks s.book = true := by rw [bookB, all_end hge hall]; simpa using hle8
                  clear hall
                  refine okl_nil ?_
                  change OkC Try.prog _ _ _ _ _ _ _
                  refine okc_weak (l' := [(1, _), (48, _), (49, _), (50, _), (51, _)]) ⟨rfl, rfl, rfl, rfl, rfl, trivial⟩ ?_
                  refine okc_seq ?_
                  refine okc_cond_f rfl ?_
                  refine okc_exit ?_
                  change OkC Try.prog _ _ _ _ _ _ _
                  refine okc_weak (l' := [(1, _), (48, _), (49, _), (50, _), (51, _)]) ⟨rfl, rfl, rfl, rfl, rfl, trivial⟩ ?_
                  refine okc_seq ?_
                  refine okc_seq ?_
                  refine okc_region ?_
                  refine s_field rfl rfl rfl rfl rfl rfl rfl rfl ?_
                  refine s_load1 0 rfl rfl rfl rfl rfl rfl rfl rfl rfl ?_
                  refine s_len rfl rfl rfl rfl rfl rfl rfl ?_
                  refine s_move rfl rfl rfl rfl rfl rfl ?_
                  refine okl_nil ?_
                  change OkC Try.prog _ _ _ _ _ _ _
                  refine okc_weak (l' := [(1, _), (48, _), (49, _), (50, _), (51, _), (75, _), (76, _), (77, _)]) ⟨rfl, rfl, rfl, rfl, rfl, rfl, rfl, rfl, trivial⟩ ?_
                  refine okc_block ?_
                  refine okc_loop (γ := Nat × Int) (fun g => [(1, .pointer (some ⟨b1, 0, none⟩)), (75, .slice s.rp s.reads.length s.rc), (76, .int .i64 s.reads.length), (77, .int .i64 g.1)]) (fun _ => [(b1, [.int .i64 s.weeks, .int .i64 s.most, .int .i64 s.fall, .int .i64 s.slo, .int .i64 s.shi, .int .i64 s.wlo, .int .i64 s.whi, .slice s.bp s.book.length s.bc, .slice s.rp s.reads.length s.rc], 27)]) (fun g => g.1 ≤ s.reads.length ∧ rdsB s.weeks 0 s.reads = rdsB s.weeks g.2 (s.reads.drop g.1) ∧ (g.1 = 0 → g.2 = 0) ∧ ∀ y, 0 < g.1 → s.reads[g.1 - 1]? = some y → g.2 = y.number) (fun g => s.reads.length - g.1) (0, 0) ⟨Nat.zero_le _, rfl, fun _ => rfl, fun y h => absurd h (Nat.lt_irrefl 0)⟩ (fun a w hs => hs.weak ⟨rfl, rfl, rfl, rfl, trivial⟩ [0] (by simp) rfl) ?_
                  rintro ⟨k, bef⟩ ⟨hk, hrd, hb0, hby⟩
                  dsimp only at hk hrd hb0 hby ⊢
                  refine okc_seq ?_
                  refine okc_region ?_
                  refine s_cmpS rfl rfl rfl rfl rfl rfl rfl rfl (fun h14 => ?_) (fun h14 => ?_)
                  · have hlt : k < s.reads.length := by simpa using h14
                    obtain ⟨x, hx⟩ : ∃ x, s.reads[k]? = some x := ⟨s.reads[k], by simp [hlt]⟩
                    obtain ⟨hpR, hjR, hatR⟩ := hR (by intro e; simp [e] at hlt)
                    have hcell := hatR k x hx
                    refine okl_nil ?_
                    change OkC Try.prog _ _ _ _ _ _ _
                    refine okc_weak (l' := [(1, _), (75, _), (76, _), (77, _), (78, _)]) ⟨rfl, rfl, rfl, rfl, rfl, trivial⟩ ?_
                    refine okc_seq ?_
                    refine okc_cond_t rfl ?_
                    refine okc_skip ?_
                    change OkC Try.prog _ _ _ _ _ _ _
                    refine okc_weak (l' := [(1, _), (75, _), (76, _), (77, _), (78, _)]) ⟨rfl, rfl, rfl, rfl, rfl, trivial⟩ ?_
                    refine okc_seq ?_
                    refine okc_block ?_
                    refine okc_seq ?_
                    refine okc_region ?_
                    refine s_move rfl rfl rfl rfl rfl rfl ?_
                    refine s_indexP k hpR rfl rfl rfl rfl rfl rfl rfl rfl rfl rfl (by omega) rfl ?_
                    refine s_loadAP jR rfl rfl rfl rfl rfl rfl rfl hjR rfl (by assumption) rfl ?_
                    refine s_alloc rfl rfl rfl rfl rfl rfl (fun b15 => ?_)
                    refine s_assign rfl rfl rfl rfl rfl rfl ?_
                    refine k_storeW 0 rfl rfl rfl rfl rfl rfl rfl rfl rfl rfl rfl rfl ?_
                    try dsimp only [List.set_cons_zero, List.set_cons_succ, setL]
                    refine okl_nil ?_
                    change OkC Try.prog _ _ _ _ _ _ _
                    refine okc_weak (l' := [(1, _), (5, _), (6, _), (75, _), (76, _), (77, _), (78, _)]) ⟨rfl, rfl, rfl, rfl, rfl, rfl, rfl, trivial⟩ ?_
                    refine okc_seq ?_
                    refine dr_start [82, 83, 84, 85, 86, 87, 88, 89, 90, 91, 92, 93, 94, 95, 96, 97, 98, 99, 100, 101, 102] ?_
                    refine d_loadW 0 [] rfl rfl rfl rfl rfl (fun ν => rfl) rfl rfl (fun ν => rfl) (fun ν => rfl) rfl rfl ?_
                    refine d_field [] rfl rfl rfl rfl rfl (fun ν => rfl) rfl (fun ν => rfl) rfl rfl ?_
                    refine d_load1 1 [1] rfl rfl rfl rfl rfl (fun ν => rfl) rfl rfl (fun ν => rfl) (fun ν => rfl) rfl ?_
                    refine d_callb [0, 2] rfl rfl rfl rfl rfl (fun ν => rfl) rfl (fun ν => rfl) (fun ν => rfl) c68 (fun ν => rReading_fn _ _ (by assumption) (by assumption)) (fun ν => covers_nil) (fun h16 => ?_) (fun h16 => ?_)
                    · have hrb : readB s.weeks x = true := h16
                      refine d_not [3] rfl rfl rfl rfl rfl (fun ν => rfl) rfl (fun ν => rfl) ?_
                      refine d_move [4] rfl rfl rfl rfl rfl (fun ν => rfl) rfl (fun ν => rfl) ?_
                      refine d_move [5] rfl rfl rfl rfl rfl (fun ν => rfl) rfl (fun ν => rfl) ?_
                      refine d_cmpS [6, 5] rfl rfl rfl rfl rfl (fun ν => rfl) rfl (fun ν => rfl) (fun ν => rfl) rfl (fun h17 => ?_) (fun h17 => ?_)
                      · have hk0 : 0 < k := by have hq := h17; simp at hq; omega
                        obtain ⟨y, hy⟩ : ∃ y, s.reads[k - 1]? = some y := ⟨s.reads[k - 1], by simp⟩
                        have hcy := hatR (k - 1) y hy
                        have hc2 : cR[oR + (k - 1) * 5 + 0]? = some (.int .i64 y.number) := sub_at hcy 0 (by omega)
                        have hbef := hby y hk0 hy
                        refine d_move [7, 5] rfl rfl rfl rfl rfl (fun ν => rfl) rfl (fun ν => rfl) ?_
                        refine d_field [8] rfl rfl rfl rfl rfl (fun ν => rfl) rfl (fun ν => rfl) rfl rfl ?_
                        refine d_load1 1 [9, 8] rfl rfl rfl rfl rfl (fun ν => rfl) rfl rfl (fun ν => rfl) (fun ν => rfl) rfl ?_
                        refine d_move [8] rfl rfl rfl rfl rfl (fun ν => rfl) rfl (fun ν => rfl) ?_
                        refine d_sub [11, 8] rfl rfl rfl rfl rfl (fun ν => rfl) rfl (fun ν => rfl) (fun ν => rfl) (by omega) ?_
                        refine d_indexP (k - 1) hpR [10, 12, 8] rfl rfl rfl rfl rfl (fun ν => rfl) rfl (fun ν => rfl) (fun ν => rfl) rfl rfl (by omega) (by omega) rfl ?_
                        refine d_field [13, 8] rfl rfl rfl rfl rfl (fun ν => rfl) rfl (fun ν => rfl) rfl rfl ?_
                        refine d_loadA1 jR [14, 8] rfl rfl rfl rfl rfl (fun ν => rfl) rfl rfl (fun ν => rfl) hjR (by assumption) ?_
                        refine d_field [8] rfl rfl rfl rfl rfl (fun ν => rfl) rfl (fun ν => rfl) rfl rfl ?_
                        refine d_load1 0 [16, 8] rfl rfl rfl rfl rfl (fun ν => rfl) rfl rfl (fun ν => rfl) (fun ν => rfl) rfl ?_
                        refine d_cmpS [15, 17, 8] rfl rfl rfl rfl rfl (fun ν => rfl) rfl (fun ν => rfl) (fun ν => rfl) rfl (fun h18 => ?_) (fun h18 => ?_)
                        · have hbad : rdsB s.weeks bef (x :: s.reads.drop (k + 1)) = false := by have hq := h18; simp at hq; simp [rdsB, hbef]; try (intro hh; omega)
                          refine d_pick_t [8, 18, 5] rfl rfl rfl rfl rfl (fun ν => rfl) rfl (fun ν => rfl) (fun ν => rfl) ?_
                          refine d_pick_f [5, 19] rfl rfl rfl rfl rfl (fun ν => rfl) rfl (fun ν => rfl) (fun ν => rfl) ?_
                          refine dr_end [82, 83, 84, 85, 86, 87, 88, 89, 90, 91, 92, 93, 94, 95, 96, 97, 98, 99, 100, 101, 102] [20] 21 rfl rfl rfl rfl rfl rfl rfl rfl rfl (fun ν => ?_)
                          refine okl_nil ?_
                          change OkC Try.prog _ _ _ _ _ _ _
                          refine okc_weak (l' := [(1, _), (5, _), (6, _), (75, _), (76, _), (77, _), (78, _), (102, _)]) ⟨rfl, rfl, rfl, rfl, rfl, rfl, rfl, rfl, trivial⟩ ?_
                          refine okc_cond_t rfl ?_
                          refine okc_seq ?_
                          refine okc_region ?_
                          refine s_assign rfl rfl rfl rfl rfl rfl ?_
                          refine okl_nil ?_
                          change OkC Try.prog _ _ _ _ _ _ _
                          refine okc_weak (l' := [(1, _), (2, _), (5, _), (6, _), (75, _), (76, _), (77, _), (78, _), (102, _)]) ⟨rfl, rfl, rfl, rfl, rfl, rfl, rfl, rfl, rfl, trivial⟩ ?_
                          refine okc_ret fun a w hs => ?_
                          exact ret_v hs (run_results1 hs rfl (rv_tmp rfl)) (by clear hs; refine congrArg Value.bool ?_; first | (rw [validB, hfr, hbk, hrds]; rfl) | (rw [validB, readsB, hrd, drop_at hx, hbad]; simp; done) | (rw [validB, bookB, all_false hx hlb]; simp; done) | (clear hB hR; simp_all [validB, frameB, bookB, readsB, inS]; done) | (clear hB hR; simp_all [validB, frameB, bookB, readsB, inS]; omega))
                        · have hgood : bef < x.number ∧ readB s.weeks x = true := ⟨by have hq := h18; simp at hq; omega, hrb⟩
                          refine d_pick_t [8, 18, 5] rfl rfl rfl rfl rfl (fun ν => rfl) rfl (fun ν => rfl) (fun ν => rfl) ?_
                          refine d_pick_f [5, 19] rfl rfl rfl rfl rfl (fun ν => rfl) rfl (fun ν => rfl) (fun ν => rfl) ?_
                          refine dr_end [82, 83, 84, 85, 86, 87, 88, 89, 90, 91, 92, 93, 94, 95, 96, 97, 98, 99, 100, 101, 102] [20] 21 rfl rfl rfl rfl rfl rfl rfl rfl rfl (fun ν => ?_)
                          refine okl_nil ?_
                          change OkC Try.prog _ _ _ _ _ _ _
                          refine okc_weak (l' := [(1, _), (5, _), (6, _), (75, _), (76, _), (77, _), (78, _), (102, _)]) ⟨rfl, rfl, rfl, rfl, rfl, rfl, rfl, rfl, trivial⟩ ?_
                          refine okc_cond_f rfl ?_
                          refine okc_skip ?_
                          change OkC Try.prog _ _ _ _ _ _ _
                          refine okc_weak (l' := [(1, _), (5, _), (6, _), (75, _), (76, _), (77, _), (78, _), (102, _)]) ⟨rfl, rfl, rfl, rfl, rfl, rfl, rfl, rfl, trivial⟩ ?_
                          refine okc_region ?_
                          refine s_add rfl rfl rfl rfl rfl rfl rfl (by omega) ?_
                          refine s_move rfl rfl rfl rfl rfl rfl ?_
                          refine okl_nil ?_
                          exact fun a w hs => ⟨(k + 1, x.number), ⟨by show k + 1 ≤ _; omega, by rw [hrd, drop_at hx]; exact rds_step hgood, fun h => absurd h (Nat.succ_ne_zero k), fun y _ h => by simp only [Nat.add_sub_cancel] at h; rw [hx] at h; cases h; rfl⟩, by simp; omega, hs.weak ⟨rfl, rfl, rfl, rfl, trivial⟩ [1] (by simp) rfl⟩
                      · have hk0 : k = 0 := by have hq := h17; simp at hq; omega
                        have hbef := hb0 hk0
                        have hgood : bef < x.number ∧ readB s.weeks x = true := ⟨by have := read_num hrb; omega, hrb⟩
                        refine d_move [7, 5] rfl rfl rfl rfl rfl (fun ν => rfl) rfl (fun ν => rfl) ?_
                        refine d_skip [8] rfl rfl rfl rfl rfl (fun ν => rfl) ?_
                        refine d_skip [9, 8] rfl rfl rfl rfl rfl (fun ν => rfl) ?_
                        refine d_skip [8] rfl rfl rfl rfl rfl (fun ν => rfl) ?_
                        refine d_skip [11, 8] rfl rfl rfl rfl rfl (fun ν => rfl) ?_
                        refine d_skip [10, 12, 8] rfl rfl rfl rfl rfl (fun ν => rfl) ?_
                        refine d_skip [13, 8] rfl rfl rfl rfl rfl (fun ν => rfl) ?_
                        refine d_skip [14, 8] rfl rfl rfl rfl rfl (fun ν => rfl) ?_
                        refine d_skip [8] rfl rfl rfl rfl rfl (fun ν => rfl) ?_
                        refine d_skip [16, 8] rfl rfl rfl rfl rfl (fun ν => rfl) ?_
                        refine d_skip [15, 17, 8] rfl rfl rfl rfl rfl (fun ν => rfl) ?_
                        refine d_pick_f [8, 18, 5] rfl rfl rfl rfl rfl (fun ν => rfl) rfl (fun ν => rfl) (fun ν => rfl) ?_
                        refine d_pick_f [5, 19] rfl rfl rfl rfl rfl (fun ν => rfl) rfl (fun ν => rfl) (fun ν => rfl) ?_
                        refine dr_end [82, 83, 84, 85, 86, 87, 88, 89, 90, 91, 92, 93, 94, 95, 96, 97, 98, 99, 100, 101, 102] [20] 21 rfl rfl rfl rfl rfl rfl rfl rfl rfl (fun ν => ?_)
                        refine okl_nil ?_
                        change OkC Try.prog _ _ _ _ _ _ _
                        refine okc_weak (l' := [(1, _), (5, _), (6, _), (75, _), (76, _), (77, _), (78, _), (102, _)]) ⟨rfl, rfl, rfl, rfl, rfl, rfl, rfl, rfl, trivial⟩ ?_
                        refine okc_cond_f rfl ?_
                        refine okc_skip ?_
                        change OkC Try.prog _ _ _ _ _ _ _
                        refine okc_weak (l' := [(1, _), (5, _), (6, _), (75, _), (76, _), (77, _), (78, _), (102, _)]) ⟨rfl, rfl, rfl, rfl, rfl, rfl, rfl, rfl, trivial⟩ ?_
                        refine okc_region ?_
                        refine s_add rfl rfl rfl rfl rfl rfl rfl (by omega) ?_
                        refine s_move rfl rfl rfl rfl rfl rfl ?_
                        refine okl_nil ?_
                        exact fun a w hs => ⟨(k + 1, x.number), ⟨by show k + 1 ≤ _; omega, by rw [hrd, drop_at hx]; exact rds_step hgood, fun h => absurd h (Nat.succ_ne_zero k), fun y _ h => by simp only [Nat.add_sub_cancel] at h; rw [hx] at h; cases h; rfl⟩, by simp; omega, hs.weak ⟨rfl, rfl, rfl, rfl, trivial⟩ [1] (by simp) rfl⟩
                    · have hrb : readB s.weeks x = false := h16
                      have hbad : rdsB s.weeks bef (x :: s.reads.drop (k + 1)) = false := by simp [rdsB, hrb]
                      refine d_not [3] rfl rfl rfl rfl rfl (fun ν => rfl) rfl (fun ν => rfl) ?_
                      refine d_move [4] rfl rfl rfl rfl rfl (fun ν => rfl) rfl (fun ν => rfl) ?_
                      refine d_skip [5] rfl rfl rfl rfl rfl (fun ν => rfl) ?_
                      refine d_skip [6, 5] rfl rfl rfl rfl rfl (fun ν => rfl) ?_
                      refine d_skip [7, 5] rfl rfl rfl rfl rfl (fun ν => rfl) ?_
                      refine d_skip [8] rfl rfl rfl rfl rfl (fun ν => rfl) ?_
                      refine d_skip [9, 8] rfl rfl rfl rfl rfl (fun ν => rfl) ?_
                      refine d_skip [8] rfl rfl rfl rfl rfl (fun ν => rfl) ?_
                      refine d_skip [11, 8] rfl rfl rfl rfl rfl (fun ν => rfl) ?_
                      refine d_skip [10, 12, 8] rfl rfl rfl rfl rfl (fun ν => rfl) ?_
                      refine d_skip [13, 8] rfl rfl rfl rfl rfl (fun ν => rfl) ?_
                      refine d_skip [14, 8] rfl rfl rfl rfl rfl (fun ν => rfl) ?_
                      refine d_skip [8] rfl rfl rfl rfl rfl (fun ν => rfl) ?_
                      refine d_skip [16, 8] rfl rfl rfl rfl rfl (fun ν => rfl) ?_
                      refine d_skip [15, 17, 8] rfl rfl rfl rfl rfl (fun ν => rfl) ?_
                      refine d_skip [8, 18, 5] rfl rfl rfl rfl rfl (fun ν => rfl) ?_
                      refine d_pick_t [5, 19] rfl rfl rfl rfl rfl (fun ν => rfl) rfl (fun ν => rfl) (fun ν => rfl) ?_
                      refine dr_end [82, 83, 84, 85, 86, 87, 88, 89, 90, 91, 92, 93, 94, 95, 96, 97, 98, 99, 100, 101, 102] [20] 21 rfl rfl rfl rfl rfl rfl rfl rfl rfl (fun ν => ?_)
                      refine okl_nil ?_
                      change OkC Try.prog _ _ _ _ _ _ _
                      refine okc_weak (l' := [(1, _), (5, _), (6, _), (75, _), (76, _), (77, _), (78, _), (102, _)]) ⟨rfl, rfl, rfl, rfl, rfl, rfl, rfl, rfl, trivial⟩ ?_
                      refine okc_cond_t rfl ?_
                      refine okc_seq ?_
                      refine okc_region ?_
                      refine s_assign rfl rfl rfl rfl rfl rfl ?_
                      refine okl_nil ?_
                      change OkC Try.prog _ _ _ _ _ _ _
                      refine okc_weak (l' := [(1, _), (2, _), (5, _), (6, _), (75, _), (76, _), (77, _), (78, _), (102, _)]) ⟨rfl, rfl, rfl, rfl, rfl, rfl, rfl, rfl, rfl, trivial⟩ ?_
                      refine okc_ret fun a w hs => ?_
                      exact ret_v hs (run_results1 hs rfl (rv_tmp rfl)) (by clear hs; refine congrArg Value.bool ?_; first | (rw [validB, hfr, hbk, hrds]; rfl) | (rw [validB, readsB, hrd, drop_at hx, hbad]; simp; done) | (rw [validB, bookB, all_false hx hlb]; simp; done) | (clear hB hR; simp_all [validB, frameB, bookB, readsB, inS]; done) | (clear hB hR; simp_all [validB, frameB, bookB, readsB, inS]; omega))
                  · have hge : ¬ k < s.reads.length := by simpa using h14
                    have hrds : readsB s.weeks s.reads = true := by rw [readsB, hrd, List.drop_of_length_le (by omega)]; simpa [rdsB] using hle12
                    refine okl_nil ?_
                    change OkC Try.prog _ _ _ _ _ _ _
                    refine okc_weak (l' := [(1, _), (75, _), (76, _), (77, _), (78, _)]) ⟨rfl, rfl, rfl, rfl, rfl, trivial⟩ ?_
                    refine okc_seq ?_
                    refine okc_cond_f rfl ?_
                    refine okc_exit ?_
                    change OkC Try.prog _ _ _ _ _ _ _
                    refine okc_weak (l' := [(1, _), (75, _), (76, _), (77, _), (78, _)]) ⟨rfl, rfl, rfl, rfl, rfl, trivial⟩ ?_
                    refine okc_seq ?_
                    refine okc_region ?_
                    refine s_assign rfl rfl rfl rfl rfl rfl ?_
                    refine okl_nil ?_
                    change OkC Try.prog _ _ _ _ _ _ _
                    refine okc_weak (l' := [(1, _), (2, _), (75, _), (76, _), (77, _), (78, _)]) ⟨rfl, rfl, rfl, rfl, rfl, rfl, trivial⟩ ?_
                    refine okc_ret fun a w hs => ?_
                    exact ret_v hs (run_results1 hs rfl (rv_tmp rfl)) (by clear hs; refine congrArg Value.bool ?_; first | (rw [validB, hfr, hbk, hrds]; rfl) | (rw [validB, readsB, hrd, drop_at hx, hbad]; simp; done) | (rw [validB, bookB, all_false hx hlb]; simp; done) | (clear hB hR; simp_all [validB, frameB, bookB, readsB, inS]; done) | (clear hB hR; simp_all [validB, frameB, bookB, readsB, inS]; omega))
          · refine s_not rfl rfl rfl rfl rfl rfl ?_
            refine s_pick_f rfl rfl rfl rfl rfl rfl rfl ?_
            refine s_move rfl rfl rfl rfl rfl rfl ?_
            refine okl_skip rfl rfl rfl rfl ?_
            refine okl_skip rfl rfl rfl rfl ?_
            refine okl_skip rfl rfl rfl rfl ?_
            refine okl_skip rfl rfl rfl rfl ?_
            refine s_pick_t rfl rfl rfl rfl rfl rfl rfl ?_
            refine s_move rfl rfl rfl rfl rfl rfl ?_
            refine okl_skip rfl rfl rfl rfl ?_
            refine okl_skip rfl rfl rfl rfl ?_
            refine okl_skip rfl rfl rfl rfl ?_
            refine okl_skip rfl rfl rfl rfl ?_
            refine s_pick_t rfl rfl rfl rfl rfl rfl rfl ?_
            refine okl_nil ?_
            change OkC Try.prog _ _ _ _ _ _ _
            refine okc_weak (l' := [(0, _), (1, _), (2, _), (46, _)]) ⟨rfl, rfl, rfl, rfl, trivial⟩ ?_
            refine okc_cond_t rfl ?_
            refine okc_seq ?_
            refine okc_region ?_
            refine s_assign rfl rfl rfl rfl rfl rfl ?_
            refine okl_nil ?_
            change OkC Try.prog _ _ _ _ _ _ _
            refine okc_weak (l' := [(0, _), (1, _), (2, _), (46, _)]) ⟨rfl, rfl, rfl, rfl, trivial⟩ ?_
            refine okc_ret fun a w hs => ?_
            exact ret_v hs (run_results1 hs rfl (rv_tmp rfl)) (by clear hs; refine congrArg Value.bool ?_; first | (rw [validB, hfr, hbk, hrds]; rfl) | (rw [validB, readsB, hrd, drop_at hx, hbad]; simp; done) | (rw [validB, bookB, all_false hx hlb]; simp; done) | (clear hB hR; simp_all [validB, frameB, bookB, readsB, inS]; done) | (clear hB hR; simp_all [validB, frameB, bookB, readsB, inS]; omega))
        · refine s_not rfl rfl rfl rfl rfl rfl ?_
          refine s_pick_f rfl rfl rfl rfl rfl rfl rfl ?_
          refine s_move rfl rfl rfl rfl rfl rfl ?_
          refine okl_skip rfl rfl rfl rfl ?_
          refine okl_skip rfl rfl rfl rfl ?_
          refine okl_skip rfl rfl rfl rfl ?_
          refine okl_skip rfl rfl rfl rfl ?_
          refine s_pick_t rfl rfl rfl rfl rfl rfl rfl ?_
          refine s_move rfl rfl rfl rfl rfl rfl ?_
          refine okl_skip rfl rfl rfl rfl ?_
          refine okl_skip rfl rfl rfl rfl ?_
          refine okl_skip rfl rfl rfl rfl ?_
          refine okl_skip rfl rfl rfl rfl ?_
          refine s_pick_t rfl rfl rfl rfl rfl rfl rfl ?_
          refine s_move rfl rfl rfl rfl rfl rfl ?_
          refine okl_skip rfl rfl rfl rfl ?_
          refine okl_skip rfl rfl rfl rfl ?_
          refine okl_skip rfl rfl rfl rfl ?_
          refine okl_skip rfl rfl rfl rfl ?_
          refine s_pick_t rfl rfl rfl rfl rfl rfl rfl ?_
          refine okl_nil ?_
          change OkC Try.prog _ _ _ _ _ _ _
          refine okc_weak (l' := [(0, _), (1, _), (2, _), (46, _)]) ⟨rfl, rfl, rfl, rfl, trivial⟩ ?_
          refine okc_cond_t rfl ?_
          refine okc_seq ?_
          refine okc_region ?_
          refine s_assign rfl rfl rfl rfl rfl rfl ?_
          refine okl_nil ?_
          change OkC Try.prog _ _ _ _ _ _ _
          refine okc_weak (l' := [(0, _), (1, _), (2, _), (46, _)]) ⟨rfl, rfl, rfl, rfl, trivial⟩ ?_
          refine okc_ret fun a w hs => ?_
          exact ret_v hs (run_results1 hs rfl (rv_tmp rfl)) (by clear hs; refine congrArg Value.bool ?_; first | (rw [validB, hfr, hbk, hrds]; rfl) | (rw [validB, readsB, hrd, drop_at hx, hbad]; simp; done) | (rw [validB, bookB, all_false hx hlb]; simp; done) | (clear hB hR; simp_all [validB, frameB, bookB, readsB, inS]; done) | (clear hB hR; simp_all [validB, frameB, bookB, readsB, inS]; omega))
      · refine s_not rfl rfl rfl rfl rfl rfl ?_
        refine s_pick_f rfl rfl rfl rfl rfl rfl rfl ?_
        refine s_move rfl rfl rfl rfl rfl rfl ?_
        refine okl_skip rfl rfl rfl rfl ?_
        refine okl_skip rfl rfl rfl rfl ?_
        refine okl_skip rfl rfl rfl rfl ?_
        refine okl_skip rfl rfl rfl rfl ?_
        refine s_pick_t rfl rfl rfl rfl rfl rfl rfl ?_
        refine s_move rfl rfl rfl rfl rfl rfl ?_
        refine okl_skip rfl rfl rfl rfl ?_
        refine okl_skip rfl rfl rfl rfl ?_
        refine okl_skip rfl rfl rfl rfl ?_
        refine okl_skip rfl rfl rfl rfl ?_
        refine s_pick_t rfl rfl rfl rfl rfl rfl rfl ?_
        refine s_move rfl rfl rfl rfl rfl rfl ?_
        refine okl_skip rfl rfl rfl rfl ?_
        refine okl_skip rfl rfl rfl rfl ?_
        refine okl_skip rfl rfl rfl rfl ?_
        refine okl_skip rfl rfl rfl rfl ?_
        refine s_pick_t rfl rfl rfl rfl rfl rfl rfl ?_
        refine s_move rfl rfl rfl rfl rfl rfl ?_
        refine okl_skip rfl rfl rfl rfl ?_
        refine okl_skip rfl rfl rfl rfl ?_
        refine okl_skip rfl rfl rfl rfl ?_
        refine okl_skip rfl rfl rfl rfl ?_
        refine s_pick_t rfl rfl rfl rfl rfl rfl rfl ?_
        refine okl_nil ?_
        change OkC Try.prog _ _ _ _ _ _ _
        refine okc_weak (l' := [(0, _), (1, _), (2, _), (46, _)]) ⟨rfl, rfl, rfl, rfl, trivial⟩ ?_
        refine okc_cond_t rfl ?_
        refine okc_seq ?_
        refine okc_region ?_
        refine s_assign rfl rfl rfl rfl rfl rfl ?_
        refine okl_nil ?_
        change OkC Try.prog _ _ _ _ _ _ _
        refine okc_weak (l' := [(0, _), (1, _), (2, _), (46, _)]) ⟨rfl, rfl, rfl, rfl, trivial⟩ ?_
        refine okc_ret fun a w hs => ?_
        exact ret_v hs (run_results1 hs rfl (rv_tmp rfl)) (by clear hs; refine congrArg Value.bool ?_; first | (rw [validB, hfr, hbk, hrds]; rfl) | (rw [validB, readsB, hrd, drop_at hx, hbad]; simp; done) | (rw [validB, bookB, all_false hx hlb]; simp; done) | (clear hB hR; simp_all [validB, frameB, bookB, readsB, inS]; done) | (clear hB hR; simp_all [validB, frameB, bookB, readsB, inS]; omega))
    · refine s_not rfl rfl rfl rfl rfl rfl ?_
      refine s_pick_f rfl rfl rfl rfl rfl rfl rfl ?_
      refine s_move rfl rfl rfl rfl rfl rfl ?_
      refine okl_skip rfl rfl rfl rfl ?_
      refine okl_skip rfl rfl rfl rfl ?_
      refine okl_skip rfl rfl rfl rfl ?_
      refine okl_skip rfl rfl rfl rfl ?_
      refine s_pick_t rfl rfl rfl rfl rfl rfl rfl ?_
      refine s_move rfl rfl rfl rfl rfl rfl ?_
      refine okl_skip rfl rfl rfl rfl ?_
      refine okl_skip rfl rfl rfl rfl ?_
      refine okl_skip rfl rfl rfl rfl ?_
      refine okl_skip rfl rfl rfl rfl ?_
      refine s_pick_t rfl rfl rfl rfl rfl rfl rfl ?_
      refine s_move rfl rfl rfl rfl rfl rfl ?_
      refine okl_skip rfl rfl rfl rfl ?_
      refine okl_skip rfl rfl rfl rfl ?_
      refine okl_skip rfl rfl rfl rfl ?_
      refine okl_skip rfl rfl rfl rfl ?_
      refine s_pick_t rfl rfl rfl rfl rfl rfl rfl ?_
      refine s_move rfl rfl rfl rfl rfl rfl ?_
      refine okl_skip rfl rfl rfl rfl ?_
      refine okl_skip rfl rfl rfl rfl ?_
      refine okl_skip rfl rfl rfl rfl ?_
      refine okl_skip rfl rfl rfl rfl ?_
      refine s_pick_t rfl rfl rfl rfl rfl rfl rfl ?_
      refine s_move rfl rfl rfl rfl rfl rfl ?_
      refine okl_skip rfl rfl rfl rfl ?_
      refine okl_skip rfl rfl rfl rfl ?_
      refine okl_skip rfl rfl rfl rfl ?_
      refine okl_skip rfl rfl rfl rfl ?_
      refine s_pick_t rfl rfl rfl rfl rfl rfl rfl ?_
      refine okl_nil ?_
      change OkC Try.prog _ _ _ _ _ _ _
      refine okc_weak (l' := [(0, _), (1, _), (2, _), (46, _)]) ⟨rfl, rfl, rfl, rfl, trivial⟩ ?_
      refine okc_cond_t rfl ?_
      refine okc_seq ?_
      refine okc_region ?_
      refine s_assign rfl rfl rfl rfl rfl rfl ?_
      refine okl_nil ?_
      change OkC Try.prog _ _ _ _ _ _ _
      refine okc_weak (l' := [(0, _), (1, _), (2, _), (46, _)]) ⟨rfl, rfl, rfl, rfl, trivial⟩ ?_
      refine okc_ret fun a w hs => ?_
      exact ret_v hs (run_results1 hs rfl (rv_tmp rfl)) (by clear hs; refine congrArg Value.bool ?_; first | (rw [validB, hfr, hbk, hrds]; rfl) | (rw [validB, readsB, hrd, drop_at hx, hbad]; simp; done) | (rw [validB, bookB, all_false hx hlb]; simp; done) | (clear hB hR; simp_all [validB, frameB, bookB, readsB, inS]; done) | (clear hB hR; simp_all [validB, frameB, bookB, readsB, inS]; omega))
  · refine s_not rfl rfl rfl rfl rfl rfl ?_
    refine s_move rfl rfl rfl rfl rfl rfl ?_
    refine okl_skip rfl rfl rfl rfl ?_
    refine okl_skip rfl rfl rfl rfl ?_
    refine okl_skip rfl rfl rfl rfl ?_
    refine okl_skip rfl rfl rfl rfl ?_
    refine s_pick_t rfl rfl rfl rfl rfl rfl rfl ?_
    refine s_move rfl rfl rfl rfl rfl rfl ?_
    refine okl_skip rfl rfl rfl rfl ?_
    refine okl_skip rfl rfl rfl rfl ?_
    refine okl_skip rfl rfl rfl rfl ?_
    refine okl_skip rfl rfl rfl rfl ?_
    refine s_pick_t rfl rfl rfl rfl rfl rfl rfl ?_
    refine s_move rfl rfl rfl rfl rfl rfl ?_
    refine okl_skip rfl rfl rfl rfl ?_
    refine okl_skip rfl rfl rfl rfl ?_
    refine okl_skip rfl rfl rfl rfl ?_
    refine okl_skip rfl rfl rfl rfl ?_
    refine s_pick_t rfl rfl rfl rfl rfl rfl rfl ?_
    refine s_move rfl rfl rfl rfl rfl rfl ?_
    refine okl_skip rfl rfl rfl rfl ?_
    refine okl_skip rfl rfl rfl rfl ?_
    refine okl_skip rfl rfl rfl rfl ?_
    refine okl_skip rfl rfl rfl rfl ?_
    refine s_pick_t rfl rfl rfl rfl rfl rfl rfl ?_
    refine s_move rfl rfl rfl rfl rfl rfl ?_
    refine okl_skip rfl rfl rfl rfl ?_
    refine okl_skip rfl rfl rfl rfl ?_
    refine okl_skip rfl rfl rfl rfl ?_
    refine okl_skip rfl rfl rfl rfl ?_
    refine s_pick_t rfl rfl rfl rfl rfl rfl rfl ?_
    refine s_move rfl rfl rfl rfl rfl rfl ?_
    refine okl_skip rfl rfl rfl rfl ?_
    refine okl_skip rfl rfl rfl rfl ?_
    refine okl_skip rfl rfl rfl rfl ?_
    refine okl_skip rfl rfl rfl rfl ?_
    refine s_pick_t rfl rfl rfl rfl rfl rfl rfl ?_
    refine okl_nil ?_
    change OkC Try.prog _ _ _ _ _ _ _
    refine okc_weak (l' := [(0, _), (1, _), (2, _), (46, _)]) ⟨rfl, rfl, rfl, rfl, trivial⟩ ?_
    refine okc_cond_t rfl ?_
    refine okc_seq ?_
    refine okc_region ?_
    refine s_assign rfl rfl rfl rfl rfl rfl ?_
    refine okl_nil ?_
    change OkC Try.prog _ _ _ _ _ _ _
    refine okc_weak (l' := [(0, _), (1, _), (2, _), (46, _)]) ⟨rfl, rfl, rfl, rfl, trivial⟩ ?_
    refine okc_ret fun a w hs => ?_
    exact ret_v hs (run_results1 hs rfl (rv_tmp rfl)) (by clear hs; refine congrArg Value.bool ?_; first | (rw [validB, hfr, hbk, hrds]; rfl) | (rw [validB, readsB, hrd, drop_at hx, hbad]; simp; done) | (rw [validB, bookB, all_false hx hlb]; simp; done) | (clear hB hR; simp_all [validB, frameB, bookB, readsB, inS]; done) | (clear hB hR; simp_all [validB, frameB, bookB, readsB, inS]; omega))

end Go.Proofs.Ytdpnadknaacinaa
