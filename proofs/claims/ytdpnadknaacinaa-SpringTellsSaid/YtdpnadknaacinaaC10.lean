/-
  How each call begins.
  Conditions: none.
-/
import Derived.Test.YtdpnadknaacinaaC9
import Derived.Test.YtdpnadknaacinaaKx
namespace Go.Proofs.Ytdpnadknaacinaa
open Go.Sx Go.Proofs.Ytdpnadknaacinaa.Ty
set_option linter.unusedVariables false
set_option maxHeartbeats 2000000


abbrev zC : List Value := [.int .i64 0, .int .i64 0, .int .i64 0, .int .i64 0, .int .i64 0, .int .i64 0, .int .i64 0, .slice none 0 0, .slice none 0 0]
abbrev zV : Value := .agg zC.toArray
abbrev qC : List Value := [.func (.func 126) #[] #[], .int .i64 10, .func (.func 128) #[] #[], .int .i64 11, .func (.func 130) #[] #[], .int .i64 14, .func (.func 132) #[] #[], .int .i64 12, .func (.func 134) #[] #[], .int .i64 8]
def errN : Nat → Int
  | 0 => 10
  | 1 => 11
  | 2 => 14
  | 3 => 12
  | _ => 8
def fnum : Nat → Nat
  | 0 => 126
  | 1 => 128
  | 2 => 130
  | 3 => 132
  | _ => 134
def askN (s : Sp) (q : Ask) : List Int → Int
  | [] => 0
  | m :: ms => if askB s q m.toNat then askN s q ms else errN m.toNat
def beginS (s : Sp) (q : Ask) (more : List Int) : Int := if validB s then askN s q more else 10
structure MoreIn (M : Args) (p : Option Addr) (L : List Int) : Prop where
  rng : ∀ m ∈ L, 1 ≤ m ∧ m ≤ 4
  len : L.length ≤ 1000
  at' : L ≠ [] → ∃ (b j : Nat), p = some ⟨b, 0, none⟩ ∧ M[j]? = some (b, ints L)
theorem askN_drop {s : Sp} {q : Ask} {L : List Int} {k : Nat} {m : Int} (h : L[k]? = some m) : askN s q (L.drop k) = if askB s q m.toNat then askN s q (L.drop (k + 1)) else errN m.toNat := by
  rw [drop_at h]; rfl
theorem ask_any (s : Sp) (M : Args) (hin : s.In M) (q : Ask) (hs0 : OkS s) : ∀ m : Nat, m ≤ 4 → Cn Try.prog (fnum m) [spV s, askV q] M (fun _ : Unit => .bool (askB s q m)) (fun _ => []) (fun _ => True)
  | 0, _ => ask0_fn s M hin q
  | 1, _ => ask1_fn s M hin q hs0
  | 2, _ => ask2_fn s M hin q
  | 3, _ => ask3_fn s M hin q hs0
  | 4, _ => ask4_fn s M hin q hs0
  | m + 5, h => absurd h (by omega)
theorem c_any : ∀ m : Nat, m ≤ 4 → callable Try.prog (fnum m)
  | 0, _ => c126
  | 1, _ => c128
  | 2, _ => c130
  | 3, _ => c132
  | 4, _ => c134
  | m + 5, h => absurd h (by omega)
theorem q_fn : ∀ m : Nat, m ≤ 4 → ∀ n, n = m * 2 → qC[n]? = some (.func (.func (fnum m)) #[] #[])
  | 0, _, _, rfl => rfl
  | 1, _, _, rfl => rfl
  | 2, _, _, rfl => rfl
  | 3, _, _, rfl => rfl
  | 4, _, _, rfl => rfl
  | m + 5, h, _, _ => absurd h (by omega)
theorem q_err : ∀ m : Nat, m ≤ 4 → ∀ n, n = m * 2 + 1 → qC[n]? = some (.int .i64 (errN m))
  | 0, _, _, rfl => rfl
  | 1, _, _, rfl => rfl
  | 2, _, _, rfl => rfl
  | 3, _, _, rfl => rfl
  | 4, _, _, rfl => rfl
  | m + 5, h, _, _ => absurd h (by omega)
theorem errN_ne : ∀ m : Nat, errN m ≠ 0
  | 0 => by decide
  | 1 => by decide
  | 2 => by decide
  | 3 => by decide
  | m + 4 => by simp [errN]

theorem begin_fn (s : Sp) (M : Args) (hin : s.In M) (q : Ask) (mp : Option Addr) (mc : Nat) (more : List Int) (hmore : MoreIn M mp more) : Cn Try.prog 72 [spV s, askV q, .slice mp more.length mc] M (fun _ : Unit => .tuple #[if beginS s q more = 0 then spV s else zV, .int .i64 (beginS s q more)]) (fun _ => []) (fun _ => True) := by
  have hml := hmore.len
  refine fn_intro (N := 48) Try.func72 rfl rfl rfl fun w0 => ?_
  refine okc_seq ?_
  refine okc_region ?_
  refine s_boxA rfl rfl rfl rfl rfl rfl (fun b1 => ?_)
  refine s_boxA rfl rfl rfl rfl rfl rfl (fun b2 => ?_)
  refine s_alloc rfl rfl rfl rfl rfl rfl (fun b3 => ?_)
  refine s_assign rfl rfl rfl rfl rfl rfl ?_
  refine okl_nil ?_
  change OkC Try.prog _ _ _ _ _ _ _
  refine okc_weak (l' := [(0, _), (1, _), (2, _), (3, _), (4, _), (6, _), (7, _)]) ⟨rfl, rfl, rfl, rfl, rfl, rfl, rfl, trivial⟩ ?_
  refine okc_seq ?_
  refine okc_region ?_
  refine s_loadW 2 rfl rfl rfl rfl rfl rfl rfl rfl rfl rfl ?_
  refine s_build rfl rfl rfl rfl rfl rfl rfl rfl rfl ?_
  refine s_alloc rfl rfl rfl rfl rfl rfl (fun b4 => ?_)
  refine k_storeW 0 rfl rfl rfl rfl rfl rfl rfl rfl rfl rfl rfl rfl ?_
  refine okl_nil ?_
  change OkC Try.prog _ _ _ _ _ _ _
  refine okc_weak (l' := [(0, _), (1, _), (2, _), (3, _), (4, _), (6, _), (7, _), (8, _)]) ⟨rfl, rfl, rfl, rfl, rfl, rfl, rfl, rfl, trivial⟩ ?_
  refine okc_seq ?_
  refine okc_region ?_
  refine s_callv rfl rfl rfl rfl rfl rfl rfl c109 (questions_fn) covers_nil ?_
  refine s_alloc rfl rfl rfl rfl rfl rfl (fun b5 => ?_)
  refine k_storeW 0 rfl rfl rfl rfl rfl rfl rfl rfl rfl rfl rfl rfl ?_
  refine okl_nil ?_
  change OkC Try.prog _ _ _ _ _ _ _
  refine okc_weak (l' := [(0, _), (1, _), (2, _), (3, _), (4, _), (6, _), (7, _), (8, _), (9, _)]) ⟨rfl, rfl, rfl, rfl, rfl, rfl, rfl, rfl, rfl, trivial⟩ ?_
  refine okc_seq ?_
  refine okc_seq ?_
  refine okc_region ?_
  refine s_indexA 0 rfl rfl rfl rfl rfl rfl rfl rfl rfl rfl (by omega) rfl ?_
  refine s_loadP2 0 rfl rfl rfl rfl rfl rfl rfl rfl rfl rfl rfl ?_
  refine s_alloc rfl rfl rfl rfl rfl rfl (fun b6 => ?_)
  refine k_storeW 0 rfl rfl rfl rfl rfl rfl rfl rfl rfl rfl rfl rfl ?_
  refine okl_nil ?_
  change OkC Try.prog _ _ _ _ _ _ _
  refine okc_weak (l' := [(0, _), (1, _), (2, _), (3, _), (4, _), (6, _), (7, _), (8, _), (9, _), (10, _)]) ⟨rfl, rfl, rfl, rfl, rfl, rfl, rfl, rfl, rfl, rfl, trivial⟩ ?_
  refine okc_seq ?_
  refine okc_region ?_
  refine s_field rfl rfl rfl rfl rfl rfl rfl rfl ?_
  refine s_load1 0 rfl rfl rfl rfl rfl rfl rfl rfl rfl ?_
  refine s_loadW 2 rfl rfl rfl rfl rfl rfl rfl rfl rfl rfl ?_
  refine s_loadW 4 rfl rfl rfl rfl rfl rfl rfl rfl rfl rfl ?_
  refine s_callb rfl rfl rfl rfl rfl rfl rfl c126 (ask0_fn s M hin q) covers_all (fun h7 => ?_) (fun h7 => ?_)
  · have hv : validB s = true := by simpa [askB] using h7
    have hs0 := ok_of_valid hv
    refine s_not rfl rfl rfl rfl rfl rfl ?_
    refine okl_nil ?_
    change OkC Try.prog _ _ _ _ _ _ _
    refine okc_weak (l' := [(0, _), (1, _), (2, _), (3, _), (4, _), (6, _), (7, _), (8, _), (9, _), (10, _), (24, _)]) ⟨rfl, rfl, rfl, rfl, rfl, rfl, rfl, rfl, rfl, rfl, rfl, trivial⟩ ?_
    refine okc_cond_f rfl ?_
    refine okc_skip ?_
    change OkC Try.prog _ _ _ _ _ _ _
    refine okc_weak (l' := [(0, _), (1, _), (2, _), (3, _), (4, _), (6, _), (7, _), (8, _), (9, _), (10, _), (24, _)]) ⟨rfl, rfl, rfl, rfl, rfl, rfl, rfl, rfl, rfl, rfl, rfl, trivial⟩ ?_
    refine okc_seq ?_
    refine okc_seq ?_
    refine okc_region ?_
    refine s_move rfl rfl rfl rfl rfl rfl ?_
    refine s_len rfl rfl rfl rfl rfl rfl rfl ?_
    refine s_move rfl rfl rfl rfl rfl rfl ?_
    refine okl_nil ?_
    change OkC Try.prog _ _ _ _ _ _ _
    refine okc_weak (l' := [(0, _), (1, _), (2, _), (3, _), (4, _), (6, _), (7, _), (8, _), (9, _), (10, _), (24, _), (28, _), (29, _), (30, _)]) ⟨rfl, rfl, rfl, rfl, rfl, rfl, rfl, rfl, rfl, rfl, rfl, rfl, rfl, rfl, trivial⟩ ?_
    refine okc_block ?_
    refine okc_loop (γ := Nat) (fun k => [(4, .pointer (some ⟨b2, 0, none⟩)), (6, .pointer (some ⟨b3, 0, none⟩)), (8, .pointer (some ⟨b4, 0, none⟩)), (9, .pointer (some ⟨b5, 0, none⟩)), (28, .slice mp more.length mc), (29, .int .i64 more.length), (30, .int .i64 k)]) (fun _ => [(b5, qC, 163), (b4, [.int .i64 s.weeks, .int .i64 s.most, .int .i64 s.fall, .int .i64 s.slo, .int .i64 s.shi, .int .i64 s.wlo, .int .i64 s.whi, .slice s.bp s.book.length s.bc, .slice s.rp s.reads.length s.rc], 114), (b3, zC, 114), (b2, [.int .i64 q.week, .int .i64 q.bucket, .int .i64 q.x.number, .int .i64 q.x.week, .int .i64 q.x.bucket, .int .i64 q.x.lo, .int .i64 q.x.hi], 118)]) (fun k => k ≤ more.length ∧ askN s q more = askN s q (more.drop k)) (fun k => more.length - k) 0 ⟨Nat.zero_le _, rfl⟩ (fun a w hs => hs.weak ⟨rfl, rfl, rfl, rfl, rfl, rfl, rfl, trivial⟩ [1, 2, 3, 4] (by simp) (by rfl)) ?_
    rintro k ⟨hk, hall⟩
    refine okc_seq ?_
    refine okc_region ?_
    refine s_cmpS rfl rfl rfl rfl rfl rfl rfl rfl (fun h8 => ?_) (fun h8 => ?_)
    · have hlt : k < more.length := by simpa using h8
      obtain ⟨m, hx⟩ : ∃ m, more[k]? = some m := ⟨more[k], by simp [hlt]⟩
      obtain ⟨bQ, jQ, hpQ, hjQ⟩ := hmore.at' (by intro e; simp [e] at hlt)
      have hcell : (ints more)[0 + k * 1]? = some (.int .i64 m) := ints_at hx _ (by omega)
      have hm14 := hmore.rng m (List.mem_of_getElem? hx)
      have hm4 : m.toNat ≤ 4 := by omega
      have cQ := c_any m.toNat hm4
      have hask := ask_any s M hin q hs0 m.toNat hm4
      have g1 := q_fn m.toNat hm4 (0 + m.toNat * 2) (by omega)
      have g2 := q_err m.toNat hm4 (0 + m.toNat * 2 + 1) (by omega)
      refine okl_nil ?_
      change OkC Try.prog _ _ _ _ _ _ _
      refine okc_weak (l' := [(4, _), (6, _), (8, _), (9, _), (28, _), (29, _), (30, _), (31, _)]) ⟨rfl, rfl, rfl, rfl, rfl, rfl, rfl, rfl, trivial⟩ ?_
      refine okc_seq ?_
      refine okc_cond_t rfl ?_
      refine okc_skip ?_
      change OkC Try.prog _ _ _ _ _ _ _
      refine okc_weak (l' := [(4, _), (6, _), (8, _), (9, _), (28, _), (29, _), (30, _), (31, _)]) ⟨rfl, rfl, rfl, rfl, rfl, rfl, rfl, rfl, trivial⟩ ?_
      refine okc_seq ?_
      refine okc_block ?_
      refine okc_seq ?_
      refine okc_region ?_
      refine s_indexP k hpQ rfl rfl rfl rfl rfl rfl rfl rfl rfl rfl (by omega) rfl ?_
      refine s_loadA1 jQ rfl rfl rfl rfl rfl rfl rfl hjQ (by assumption) ?_
      refine s_assign rfl rfl rfl rfl rfl rfl ?_
      refine okl_nil ?_
      change OkC Try.prog _ _ _ _ _ _ _
      refine okc_weak (l' := [(4, _), (6, _), (8, _), (9, _), (12, _), (28, _), (29, _), (30, _), (31, _)]) ⟨rfl, rfl, rfl, rfl, rfl, rfl, rfl, rfl, rfl, trivial⟩ ?_
      refine okc_seq ?_
      refine okc_region ?_
      refine s_move rfl rfl rfl rfl rfl rfl ?_
      refine s_indexA m.toNat rfl rfl rfl rfl rfl rfl rfl rfl rfl (by first | rfl | omega) (by omega) rfl ?_
      refine s_loadP2 0 rfl rfl rfl rfl rfl rfl rfl rfl rfl (by assumption) (by assumption) ?_
      refine s_alloc rfl rfl rfl rfl rfl rfl (fun b9 => ?_)
      refine k_storeW 0 rfl rfl rfl rfl rfl rfl rfl rfl rfl rfl rfl rfl ?_
      refine okl_nil ?_
      change OkC Try.prog _ _ _ _ _ _ _
      refine okc_weak (l' := [(4, _), (6, _), (8, _), (9, _), (12, _), (13, _), (28, _), (29, _), (30, _), (31, _)]) ⟨rfl, rfl, rfl, rfl, rfl, rfl, rfl, rfl, rfl, rfl, trivial⟩ ?_
      refine okc_seq ?_
      refine okc_region ?_
      refine s_field rfl rfl rfl rfl rfl rfl rfl rfl ?_
      refine s_load1 0 rfl rfl rfl rfl rfl rfl rfl rfl rfl ?_
      refine s_loadW 2 rfl rfl rfl rfl rfl rfl rfl rfl rfl rfl ?_
      refine s_loadW 4 rfl rfl rfl rfl rfl rfl rfl rfl rfl rfl ?_
      refine s_callb rfl rfl rfl rfl rfl rfl rfl cQ (hask) covers_all (fun h10 => ?_) (fun h10 => ?_)
      · have hyes : askB s q m.toNat = true := by simpa using h10
        refine s_not rfl rfl rfl rfl rfl rfl ?_
        refine okl_nil ?_
        change OkC Try.prog _ _ _ _ _ _ _
        refine okc_weak (l' := [(4, _), (6, _), (8, _), (9, _), (12, _), (13, _), (28, _), (29, _), (30, _), (31, _), (42, _)]) ⟨rfl, rfl, rfl, rfl, rfl, rfl, rfl, rfl, rfl, rfl, rfl, trivial⟩ ?_
        refine okc_cond_f rfl ?_
        refine okc_skip ?_
        change OkC Try.prog _ _ _ _ _ _ _
        refine okc_weak (l' := [(4, _), (6, _), (8, _), (9, _), (12, _), (13, _), (28, _), (29, _), (30, _), (31, _), (42, _)]) ⟨rfl, rfl, rfl, rfl, rfl, rfl, rfl, rfl, rfl, rfl, rfl, trivial⟩ ?_
        refine okc_region ?_
        refine s_add rfl rfl rfl rfl rfl rfl rfl (by omega) ?_
        refine s_move rfl rfl rfl rfl rfl rfl ?_
        refine okl_nil ?_
        exact fun a w hs => ⟨k + 1, ⟨by omega, by rw [hall, askN_drop hx, if_pos hyes]⟩, by omega, hs.weak ⟨rfl, rfl, rfl, rfl, rfl, rfl, rfl, trivial⟩ [1, 2, 3, 4] (by simp) (by rfl)⟩
      · have hno : askB s q m.toNat = false := by simpa using h10
        have hfin : askN s q more = errN m.toNat := by rw [hall, askN_drop hx, if_neg (by simp [hno])]
        refine s_not rfl rfl rfl rfl rfl rfl ?_
        refine okl_nil ?_
        change OkC Try.prog _ _ _ _ _ _ _
        refine okc_weak (l' := [(4, _), (6, _), (8, _), (9, _), (12, _), (13, _), (28, _), (29, _), (30, _), (31, _), (42, _)]) ⟨rfl, rfl, rfl, rfl, rfl, rfl, rfl, rfl, rfl, rfl, rfl, trivial⟩ ?_
        refine okc_cond_t rfl ?_
        refine okc_seq ?_
        refine dd_start [43, 44, 45, 7, 9999] ⟨3, 3, b3, zC, zC, 114⟩ ?_
        refine x_build [] rfl rfl rfl rfl rfl rfl (fun ν => rfl) rfl (fun ν => rfl) rfl rfl rfl ?_
        refine x_field [] rfl rfl rfl rfl rfl rfl (fun ν => rfl) rfl (fun ν => rfl) rfl rfl ?_
        refine x_load1 0 [1] rfl rfl rfl rfl rfl rfl (fun ν => rfl) rfl rfl (fun ν => rfl) (fun ν => rfl) rfl (fun ν => rfl) rfl ?_
        refine x_store [0] 9999 rfl rfl rfl rfl rfl (fun ν => rfl) rfl (fun ν => rfl) (fun ν => rfl) rfl rfl rfl (Nat.le_of_ble_eq_true rfl) rfl rfl rfl ?_
        refine x_end [43, 44, 45, 7, 9999] [2] 4 rfl rfl rfl rfl rfl rfl rfl rfl rfl rfl rfl (fun ν => ?_)
        refine s_assign rfl rfl rfl rfl rfl rfl ?_
        refine okl_nil ?_
        change OkC Try.prog _ _ _ _ _ _ _
        refine okc_weak (l' := [(4, _), (6, _), (7, _), (8, _), (9, _), (12, _), (13, _), (28, _), (29, _), (30, _), (31, _), (42, _)]) ⟨rfl, rfl, rfl, rfl, rfl, rfl, rfl, rfl, rfl, rfl, rfl, rfl, trivial⟩ ?_
        refine okc_ret fun a w hs => ?_
        exact ret_v hs (run_results2 hs rfl (k_ragg 3 rfl rfl rfl rfl rfl) (rv_tmp rfl)) (by clear hs; first | (simp [beginS, hv]; done) | (simp [beginS, hv, hfin, errN_ne]; done) | (simp [beginS, hv, hfin]))
    · have hge : ¬ k < more.length := by simpa using h8
      have hfin : askN s q more = 0 := by rw [hall, List.drop_of_length_le (by omega)]; rfl
      refine okl_nil ?_
      change OkC Try.prog _ _ _ _ _ _ _
      refine okc_weak (l' := [(4, _), (6, _), (8, _), (9, _), (28, _), (29, _), (30, _), (31, _)]) ⟨rfl, rfl, rfl, rfl, rfl, rfl, rfl, rfl, trivial⟩ ?_
      refine okc_seq ?_
      refine okc_cond_f rfl ?_
      refine okc_exit ?_
      change OkC Try.prog _ _ _ _ _ _ _
      refine okc_weak (l' := [(4, _), (6, _), (8, _), (9, _), (28, _), (29, _), (30, _), (31, _)]) ⟨rfl, rfl, rfl, rfl, rfl, rfl, rfl, rfl, trivial⟩ ?_
      refine okc_seq ?_
      refine okc_region ?_
      refine s_loadW 1 rfl rfl rfl rfl rfl rfl rfl rfl rfl rfl ?_
      refine k_storeW 2 rfl rfl rfl rfl rfl rfl rfl rfl rfl rfl rfl rfl ?_
      refine s_assign rfl rfl rfl rfl rfl rfl ?_
      refine okl_nil ?_
      change OkC Try.prog _ _ _ _ _ _ _
      refine okc_weak (l' := [(4, _), (6, _), (7, _), (8, _), (9, _), (28, _), (29, _), (30, _), (31, _)]) ⟨rfl, rfl, rfl, rfl, rfl, rfl, rfl, rfl, rfl, trivial⟩ ?_
      refine okc_ret fun a w hs => ?_
      exact ret_v hs (run_results2 hs rfl (k_ragg 2 rfl rfl rfl rfl rfl) (rv_tmp rfl)) (by clear hs; first | (simp [beginS, hv]; done) | (simp [beginS, hv, hfin, errN_ne]; done) | (simp [beginS, hv, hfin]))
  · have hv : validB s = false := by simpa [askB] using h7
    refine s_not rfl rfl rfl rfl rfl rfl ?_
    refine okl_nil ?_
    change OkC Try.prog _ _ _ _ _ _ _
    refine okc_weak (l' := [(0, _), (1, _), (2, _), (3, _), (4, _), (6, _), (7, _), (8, _), (9, _), (10, _), (24, _)]) ⟨rfl, rfl, rfl, rfl, rfl, rfl, rfl, rfl, rfl, rfl, rfl, trivial⟩ ?_
    refine okc_cond_t rfl ?_
    refine okc_seq ?_
    refine dd_start [25, 26, 27, 7, 9999] ⟨3, 3, b3, zC, zC, 114⟩ ?_
    refine x_build [] rfl rfl rfl rfl rfl rfl (fun ν => rfl) rfl (fun ν => rfl) rfl rfl rfl ?_
    refine x_field [] rfl rfl rfl rfl rfl rfl (fun ν => rfl) rfl (fun ν => rfl) rfl rfl ?_
    refine x_load1 0 [1] rfl rfl rfl rfl rfl rfl (fun ν => rfl) rfl rfl (fun ν => rfl) (fun ν => rfl) rfl (fun ν => rfl) rfl ?_
    refine x_store [0] 9999 rfl rfl rfl rfl rfl (fun ν => rfl) rfl (fun ν => rfl) (fun ν => rfl) rfl rfl rfl (Nat.le_of_ble_eq_true rfl) rfl rfl rfl ?_
    refine x_end [25, 26, 27, 7, 9999] [2] 4 rfl rfl rfl rfl rfl rfl rfl rfl rfl rfl rfl (fun ν => ?_)
    refine s_assign rfl rfl rfl rfl rfl rfl ?_
    refine okl_nil ?_
    change OkC Try.prog _ _ _ _ _ _ _
    refine okc_weak (l' := [(0, _), (1, _), (2, _), (3, _), (4, _), (6, _), (7, _), (8, _), (9, _), (10, _), (24, _)]) ⟨rfl, rfl, rfl, rfl, rfl, rfl, rfl, rfl, rfl, rfl, rfl, trivial⟩ ?_
    refine okc_ret fun a w hs => ?_
    exact ret_v hs (run_results2 hs rfl (k_ragg 3 rfl rfl rfl rfl rfl) (rv_tmp rfl)) (by clear hs; first | (simp [beginS, hv]; done) | (simp [beginS, hv, hfin, errN_ne]; done) | (simp [beginS, hv, hfin]))

end Go.Proofs.Ytdpnadknaacinaa
