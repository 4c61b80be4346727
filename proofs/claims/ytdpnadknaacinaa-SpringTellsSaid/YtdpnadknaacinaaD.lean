/-
  The data of layer 1, and what springs are made of.
  Conditions: none.
-/
import Derived.Test.YtdpnadknaacinaaC1
namespace Go.Proofs.Ytdpnadknaacinaa
open Go.Sx Go.Proofs.Ytdpnadknaacinaa.Ty
set_option linter.unusedVariables false
set_option maxHeartbeats 2000000


/-- A line of the book, a reading, a spring: as data; the slices as they came in. -/
structure Ln where
  rlo : Int
  rhi : Int
  week : Int
  glo : Int
  ghi : Int
structure Rd where
  number : Int
  week : Int
  bucket : Int
  lo : Int
  hi : Int
structure Sp where
  weeks : Int
  most : Int
  fall : Int
  slo : Int
  shi : Int
  wlo : Int
  whi : Int
  bp : Option Addr
  bc : Nat
  rp : Option Addr
  rc : Nat
  book : List Ln
  reads : List Rd

abbrev lnV (x : Ln) : Value := .agg #[.int .i64 x.rlo, .int .i64 x.rhi, .int .i64 x.week, .int .i64 x.glo, .int .i64 x.ghi]
abbrev rdV (x : Rd) : Value := .agg #[.int .i64 x.number, .int .i64 x.week, .int .i64 x.bucket, .int .i64 x.lo, .int .i64 x.hi]
abbrev spV (s : Sp) : Value := .agg #[.int .i64 s.weeks, .int .i64 s.most, .int .i64 s.fall, .int .i64 s.slo, .int .i64 s.shi, .int .i64 s.wlo, .int .i64 s.whi, .slice s.bp s.book.length s.bc, .slice s.rp s.reads.length s.rc]

abbrev lnL (x : Ln) : List Value := [.int .i64 x.rlo, .int .i64 x.rhi, .int .i64 x.week, .int .i64 x.glo, .int .i64 x.ghi]
abbrev rdL (x : Rd) : List Value := [.int .i64 x.number, .int .i64 x.week, .int .i64 x.bucket, .int .i64 x.lo, .int .i64 x.hi]

/-- The slice p reads as these lines, these readings, out of the blocks M. -/
def LnsIn (M : Args) (p : Option Addr) (L : List Ln) : Prop := ∃ (b off : Nat) (cs : List Value) (j : Nat), L ≠ [] → p = some ⟨b, off, none⟩ ∧ M[j]? = some (b, cs) ∧ ∀ (k : Nat) (x : Ln), L[k]? = some x → sub cs (off + k * 5) 5 = lnL x
def RdsIn (M : Args) (p : Option Addr) (L : List Rd) : Prop := ∃ (b off : Nat) (cs : List Value) (j : Nat), L ≠ [] → p = some ⟨b, off, none⟩ ∧ M[j]? = some (b, cs) ∧ ∀ (k : Nat) (x : Rd), L[k]? = some x → sub cs (off + k * 5) 5 = rdL x

theorem sub_at {cs vs : List Value} {off n : Nat} (h : sub cs off n = vs) (j : Nat) (hj : j < n) : cs[off + j]? = vs[j]? := by
  rw [← h]; unfold sub; simp [hj]

structure Sp.In (M : Args) (s : Sp) : Prop where
  book : LnsIn M s.bp s.book
  reads : RdsIn M s.rp s.reads
  bn : s.book.length ≤ 1000000000000
  rn : s.reads.length ≤ 1000000000000

theorem covers_all {O : Blks} {A : Args} : covers O A A := fun _ _ h => .inr h

def isSpanB (a b lo hi : Int) : Bool := decide (a ≤ b) && (inS lo hi a && inS lo hi b)
def isWeekB (weeks k : Int) : Bool := inS 0 (weeks - 1) k
def frameB (s : Sp) : Bool := inS 1 10 s.weeks && (inS 0 100 s.most && inS 0 100 s.fall) && isSpanB s.slo s.shi 1 600 && isSpanB s.wlo s.whi 0 20
def lineB (weeks : Int) (x : Ln) : Bool := isSpanB x.rlo x.rhi 0 20 && isWeekB weeks x.week && isSpanB x.glo x.ghi 0 100
def readB (weeks : Int) (x : Rd) : Bool := inS 1 9999 x.number && isWeekB weeks x.week && inS 1 40 x.bucket && isSpanB x.lo x.hi 0 99 && decide (1 ≤ x.hi)

end Go.Proofs.Ytdpnadknaacinaa
