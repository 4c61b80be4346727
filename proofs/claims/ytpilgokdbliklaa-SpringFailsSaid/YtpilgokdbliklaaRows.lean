/-
  No cell of these rows narrows 'for every input' (looked for: loops, veiled, ifaces, maps, wideKeys, modest, calm, conditions, laid).
  DERIVED. THE GIVEN ROWS OF THIS SEAT. 9 by the template 'for every input the law returns true; each argument reads behind the call as it read before'; 0 by the template 'total and deterministic' (their statements: YtpilgokdbliklaaTotals.lean).
  GIVEN WITH THE SEED: the statements are not yours to turn. If you find one false, say at which input.
  Laid BY PROGRAM, IN A SANDBOX (cutbox-rows.mjs): the forced cells as the released guide's own fill.sh prints them over the translation f6c17e7decc6c4ae… (all of the seat's roots in one cut). By AI agents, Wed Nov 11 2026. No macro, syntax, notation, axiom, sorry.
-/
import Derived.Test.YtpilgokdbliklaaChecked
import GoSem.Claim
import GoSem.ClaimJoined
import GoSem.ClaimMapViews
import Derived.JoinedTies
import Derived.KernelRfl
namespace Go.Proofs.Ytpilgokdbliklaa
/- THE CELL 'sum', in the pinned program and in every row, IS THE sha256 OF THE DUMP (.gsa) THAT YtpilgokdbliklaaProg.lean LOADS. Nothing in Lean hashes anything: it is a label: what it is worth is what the hold of that sum in a sandbox is worth. -/
noncomputable def Try.pinned : Pinned := { name := "ytpilgokdbliklaa", sum := "f6c17e7decc6c4aec714258b5540ed62c0444a504245d73d6b44a1e2a0e323f8", checked := Try.checked }
namespace Rows
def none {H : Type} : Left H := { results := [], args := [] }

/-- 'aguadorlaw01.SpringFails': WHATEVER THE INPUT: true; the input reads as it did. -/
def springFailsSpec : ChangeSpec := { name := "springFails", fn := fun _ => fun
  | [d1, d2, d3, d4] => { results := [.lit (.bool true)], args := [d1, d2, d3, d4] }
  | _ => none }
def springFailsRow : OpenClaim := { program := "ytpilgokdbliklaa", sum := "f6c17e7decc6c4aec714258b5540ed62c0444a504245d73d6b44a1e2a0e323f8", func := "aguador/aguadorlaw01.SpringFails", spec := "springFails", unfollowed := true, recurses := true, apart := false }
def SpringFailsSaid : Prop := springFailsRow.holds Try.pinned (OpenSpec.ofChange springFailsSpec)

/-- ITS FALSE NEIGHBOUR: 'it returns false'. Refute it at one input. -/
def springFailsWrong : ChangeSpec := { name := "springFails", fn := fun _ => fun
  | [d1, d2, d3, d4] => { results := [.lit (.bool false)], args := [d1, d2, d3, d4] }
  | _ => none }
def SpringFailsWrongFalsely : Prop := springFailsRow.holds Try.pinned (OpenSpec.ofChange springFailsWrong)

/-- 'aguadorlaw01.SpringTruth': WHATEVER THE INPUT: true; the input reads as it did. -/
def springTruthSpec : ChangeSpec := { name := "springTruth", fn := fun _ => fun
  | [d1, d2, d3, d4] => { results := [.lit (.bool true)], args := [d1, d2, d3, d4] }
  | _ => none }
def springTruthRow : OpenClaim := { program := "ytpilgokdbliklaa", sum := "f6c17e7decc6c4aec714258b5540ed62c0444a504245d73d6b44a1e2a0e323f8", func := "aguador/aguadorlaw01.SpringTruth", spec := "springTruth", unfollowed := true, recurses := true, apart := false }
def SpringTruthSaid : Prop := springTruthRow.holds Try.pinned (OpenSpec.ofChange springTruthSpec)

/-- ITS FALSE NEIGHBOUR: 'it returns false'. Refute it at one input. -/
def springTruthWrong : ChangeSpec := { name := "springTruth", fn := fun _ => fun
  | [d1, d2, d3, d4] => { results := [.lit (.bool false)], args := [d1, d2, d3, d4] }
  | _ => none }
def SpringTruthWrongFalsely : Prop := springTruthRow.holds Try.pinned (OpenSpec.ofChange springTruthWrong)

/-- 'aguadorlaw01.SpringEnds': WHATEVER THE INPUT: true; the input reads as it did. -/
def springEndsSpec : ChangeSpec := { name := "springEnds", fn := fun _ => fun
  | [d1, d2] => { results := [.lit (.bool true)], args := [d1, d2] }
  | _ => none }
def springEndsRow : OpenClaim := { program := "ytpilgokdbliklaa", sum := "f6c17e7decc6c4aec714258b5540ed62c0444a504245d73d6b44a1e2a0e323f8", func := "aguador/aguadorlaw01.SpringEnds", spec := "springEnds", unfollowed := true, recurses := true, apart := false }
def SpringEndsSaid : Prop := springEndsRow.holds Try.pinned (OpenSpec.ofChange springEndsSpec)

/-- ITS FALSE NEIGHBOUR: 'it returns false'. Refute it at one input. -/
def springEndsWrong : ChangeSpec := { name := "springEnds", fn := fun _ => fun
  | [d1, d2] => { results := [.lit (.bool false)], args := [d1, d2] }
  | _ => none }
def SpringEndsWrongFalsely : Prop := springEndsRow.holds Try.pinned (OpenSpec.ofChange springEndsWrong)

/-- 'aguadorlaw01.SpringMore': WHATEVER THE INPUT: true; the input reads as it did. -/
def springMoreSpec : ChangeSpec := { name := "springMore", fn := fun _ => fun
  | [d1, d2, d3, d4, d5] => { results := [.lit (.bool true)], args := [d1, d2, d3, d4, d5] }
  | _ => none }
def springMoreRow : OpenClaim := { program := "ytpilgokdbliklaa", sum := "f6c17e7decc6c4aec714258b5540ed62c0444a504245d73d6b44a1e2a0e323f8", func := "aguador/aguadorlaw01.SpringMore", spec := "springMore", inPlace := ["slices.overlaps[aguador/api.Reading]"], unfollowed := true, recurses := true, apart := false }
def SpringMoreSaid : Prop := springMoreRow.holds Try.pinned (OpenSpec.ofChange springMoreSpec)

/-- ITS FALSE NEIGHBOUR: 'it returns false'. Refute it at one input. -/
def springMoreWrong : ChangeSpec := { name := "springMore", fn := fun _ => fun
  | [d1, d2, d3, d4, d5] => { results := [.lit (.bool false)], args := [d1, d2, d3, d4, d5] }
  | _ => none }
def SpringMoreWrongFalsely : Prop := springMoreRow.holds Try.pinned (OpenSpec.ofChange springMoreWrong)

/-- 'aguadorlaw01.SpringWeeks': WHATEVER THE INPUT: true; the input reads as it did. -/
def springWeeksSpec : ChangeSpec := { name := "springWeeks", fn := fun _ => fun
  | [d1, d2] => { results := [.lit (.bool true)], args := [d1, d2] }
  | _ => none }
def springWeeksRow : OpenClaim := { program := "ytpilgokdbliklaa", sum := "f6c17e7decc6c4aec714258b5540ed62c0444a504245d73d6b44a1e2a0e323f8", func := "aguador/aguadorlaw01.SpringWeeks", spec := "springWeeks", unfollowed := true, recurses := true, apart := false }
def SpringWeeksSaid : Prop := springWeeksRow.holds Try.pinned (OpenSpec.ofChange springWeeksSpec)

/-- ITS FALSE NEIGHBOUR: 'it returns false'. Refute it at one input. -/
def springWeeksWrong : ChangeSpec := { name := "springWeeks", fn := fun _ => fun
  | [d1, d2] => { results := [.lit (.bool false)], args := [d1, d2] }
  | _ => none }
def SpringWeeksWrongFalsely : Prop := springWeeksRow.holds Try.pinned (OpenSpec.ofChange springWeeksWrong)

/-- 'aguadorlaw01.SpringWrong': WHATEVER THE INPUT: true; the input reads as it did. -/
def springWrongSpec : ChangeSpec := { name := "springWrong", fn := fun _ => fun
  | [d1, d2] => { results := [.lit (.bool true)], args := [d1, d2] }
  | _ => none }
def springWrongRow : OpenClaim := { program := "ytpilgokdbliklaa", sum := "f6c17e7decc6c4aec714258b5540ed62c0444a504245d73d6b44a1e2a0e323f8", func := "aguador/aguadorlaw01.SpringWrong", spec := "springWrong", unfollowed := true, recurses := true, apart := false }
def SpringWrongSaid : Prop := springWrongRow.holds Try.pinned (OpenSpec.ofChange springWrongSpec)

/-- ITS FALSE NEIGHBOUR: 'it returns false'. Refute it at one input. -/
def springWrongWrong : ChangeSpec := { name := "springWrong", fn := fun _ => fun
  | [d1, d2] => { results := [.lit (.bool false)], args := [d1, d2] }
  | _ => none }
def SpringWrongWrongFalsely : Prop := springWrongRow.holds Try.pinned (OpenSpec.ofChange springWrongWrong)

/-- 'aguadorlaw01.SpringFill': WHATEVER THE INPUT: true; the input reads as it did. -/
def springFillSpec : ChangeSpec := { name := "springFill", fn := fun _ => fun
  | [d1, d2, d3, d4] => { results := [.lit (.bool true)], args := [d1, d2, d3, d4] }
  | _ => none }
def springFillRow : OpenClaim := { program := "ytpilgokdbliklaa", sum := "f6c17e7decc6c4aec714258b5540ed62c0444a504245d73d6b44a1e2a0e323f8", func := "aguador/aguadorlaw01.SpringFill", spec := "springFill", unfollowed := true, recurses := true, apart := false }
def SpringFillSaid : Prop := springFillRow.holds Try.pinned (OpenSpec.ofChange springFillSpec)

/-- ITS FALSE NEIGHBOUR: 'it returns false'. Refute it at one input. -/
def springFillWrong : ChangeSpec := { name := "springFill", fn := fun _ => fun
  | [d1, d2, d3, d4] => { results := [.lit (.bool false)], args := [d1, d2, d3, d4] }
  | _ => none }
def SpringFillWrongFalsely : Prop := springFillRow.holds Try.pinned (OpenSpec.ofChange springFillWrong)

/-- 'aguadorlaw01.SpringLook': WHATEVER THE INPUT: true; the input reads as it did. -/
def springLookSpec : ChangeSpec := { name := "springLook", fn := fun _ => fun
  | [d1, d2] => { results := [.lit (.bool true)], args := [d1, d2] }
  | _ => none }
def springLookRow : OpenClaim := { program := "ytpilgokdbliklaa", sum := "f6c17e7decc6c4aec714258b5540ed62c0444a504245d73d6b44a1e2a0e323f8", func := "aguador/aguadorlaw01.SpringLook", spec := "springLook", unfollowed := true, recurses := true, apart := false }
def SpringLookSaid : Prop := springLookRow.holds Try.pinned (OpenSpec.ofChange springLookSpec)

/-- ITS FALSE NEIGHBOUR: 'it returns false'. Refute it at one input. -/
def springLookWrong : ChangeSpec := { name := "springLook", fn := fun _ => fun
  | [d1, d2] => { results := [.lit (.bool false)], args := [d1, d2] }
  | _ => none }
def SpringLookWrongFalsely : Prop := springLookRow.holds Try.pinned (OpenSpec.ofChange springLookWrong)

/-- 'aguadorlaw01.SpringRests': WHATEVER THE INPUT: true; the input reads as it did. -/
def springRestsSpec : ChangeSpec := { name := "springRests", fn := fun _ => fun
  | [d1, d2, d3] => { results := [.lit (.bool true)], args := [d1, d2, d3] }
  | _ => none }
def springRestsRow : OpenClaim := { program := "ytpilgokdbliklaa", sum := "f6c17e7decc6c4aec714258b5540ed62c0444a504245d73d6b44a1e2a0e323f8", func := "aguador/aguadorlaw01.SpringRests", spec := "springRests", inPlace := ["slices.overlaps[aguador/api.Reading]"], unfollowed := true, recurses := true, apart := false }
def SpringRestsSaid : Prop := springRestsRow.holds Try.pinned (OpenSpec.ofChange springRestsSpec)

/-- ITS FALSE NEIGHBOUR: 'it returns false'. Refute it at one input. -/
def springRestsWrong : ChangeSpec := { name := "springRests", fn := fun _ => fun
  | [d1, d2, d3] => { results := [.lit (.bool false)], args := [d1, d2, d3] }
  | _ => none }
def SpringRestsWrongFalsely : Prop := springRestsRow.holds Try.pinned (OpenSpec.ofChange springRestsWrong)

/- THE SECOND FORM. 'bulk': how many values and letters a reading holds, each counted each time it is reached (what is shared counts as often as it is met; a slice's spare places count too). A statement '..UptoSaid' is the law's where the arguments, and the package variables that the reading takes, are together of bulk at most 1048576: NARROWER than '..Said'. Prove '..Said' where nothing that the law and all that it calls make is longer than what came in: it says more and counts as full. Else prove '..UptoSaid'. A law counts once. -/
mutual
def uptoBulk {H : Type} : DataW H → Nat
  | .lit (.string bytes) => bytes.length + 1
  | .lit _ => 1
  | .nil => 1
  | .ptr d => uptoBulk d + 1
  | .slice elems spare => uptoBulkAll elems + uptoBulkAll spare + 1
  | .agg parts => uptoBulkAll parts + 1
  | .iface _ d => uptoBulk d + 1
  | .map entries => uptoBulkEntries entries + 1
  | .held _ => 1
def uptoBulkAll {H : Type} : List (DataW H) → Nat
  | [] => 0
  | d :: r => uptoBulk d + uptoBulkAll r
def uptoBulkEntries {H : Type} : List (Lit × DataW H) → Nat
  | [] => 0
  | x :: r => uptoBulkEntry x + uptoBulkEntries r
def uptoBulkEntry {H : Type} : Lit × DataW H → Nat
  | (.string bytes, d) => bytes.length + uptoBulk d + 1
  | (_, d) => uptoBulk d + 1
 end
def uptoSmall : (H : Type) → List (DataW H) → Bool := fun _ ds => decide (uptoBulkAll ds ≤ 1048576)
def OpenSpec.upto (s : _root_.Go.ChangeSpec) : _root_.Go.OpenSpec := { _root_.Go.OpenSpec.ofChange s with cond := some uptoSmall }

/-- 'aguadorlaw01.SpringFails', WHERE WHAT IT READS IS OF BULK AT MOST 1048576: true; the input reads as it did. -/
def springFailsUptoRow : OpenClaim := { program := "ytpilgokdbliklaa", sum := "f6c17e7decc6c4aec714258b5540ed62c0444a504245d73d6b44a1e2a0e323f8", func := "aguador/aguadorlaw01.SpringFails", spec := "springFails", unfollowed := true, recurses := true, apart := false, narrowed := true }
def SpringFailsUptoSaid : Prop := springFailsUptoRow.holds Try.pinned (OpenSpec.upto springFailsSpec)

/-- 'aguadorlaw01.SpringTruth', WHERE WHAT IT READS IS OF BULK AT MOST 1048576: true; the input reads as it did. -/
def springTruthUptoRow : OpenClaim := { program := "ytpilgokdbliklaa", sum := "f6c17e7decc6c4aec714258b5540ed62c0444a504245d73d6b44a1e2a0e323f8", func := "aguador/aguadorlaw01.SpringTruth", spec := "springTruth", unfollowed := true, recurses := true, apart := false, narrowed := true }
def SpringTruthUptoSaid : Prop := springTruthUptoRow.holds Try.pinned (OpenSpec.upto springTruthSpec)

/-- 'aguadorlaw01.SpringEnds', WHERE WHAT IT READS IS OF BULK AT MOST 1048576: true; the input reads as it did. -/
def springEndsUptoRow : OpenClaim := { program := "ytpilgokdbliklaa", sum := "f6c17e7decc6c4aec714258b5540ed62c0444a504245d73d6b44a1e2a0e323f8", func := "aguador/aguadorlaw01.SpringEnds", spec := "springEnds", unfollowed := true, recurses := true, apart := false, narrowed := true }
def SpringEndsUptoSaid : Prop := springEndsUptoRow.holds Try.pinned (OpenSpec.upto springEndsSpec)

/-- 'aguadorlaw01.SpringMore', WHERE WHAT IT READS IS OF BULK AT MOST 1048576: true; the input reads as it did. -/
def springMoreUptoRow : OpenClaim := { program := "ytpilgokdbliklaa", sum := "f6c17e7decc6c4aec714258b5540ed62c0444a504245d73d6b44a1e2a0e323f8", func := "aguador/aguadorlaw01.SpringMore", spec := "springMore", inPlace := ["slices.overlaps[aguador/api.Reading]"], unfollowed := true, recurses := true, apart := false, narrowed := true }
def SpringMoreUptoSaid : Prop := springMoreUptoRow.holds Try.pinned (OpenSpec.upto springMoreSpec)

/-- 'aguadorlaw01.SpringWeeks', WHERE WHAT IT READS IS OF BULK AT MOST 1048576: true; the input reads as it did. -/
def springWeeksUptoRow : OpenClaim := { program := "ytpilgokdbliklaa", sum := "f6c17e7decc6c4aec714258b5540ed62c0444a504245d73d6b44a1e2a0e323f8", func := "aguador/aguadorlaw01.SpringWeeks", spec := "springWeeks", unfollowed := true, recurses := true, apart := false, narrowed := true }
def SpringWeeksUptoSaid : Prop := springWeeksUptoRow.holds Try.pinned (OpenSpec.upto springWeeksSpec)

/-- 'aguadorlaw01.SpringWrong', WHERE WHAT IT READS IS OF BULK AT MOST 1048576: true; the input reads as it did. -/
def springWrongUptoRow : OpenClaim := { program := "ytpilgokdbliklaa", sum := "f6c17e7decc6c4aec714258b5540ed62c0444a504245d73d6b44a1e2a0e323f8", func := "aguador/aguadorlaw01.SpringWrong", spec := "springWrong", unfollowed := true, recurses := true, apart := false, narrowed := true }
def SpringWrongUptoSaid : Prop := springWrongUptoRow.holds Try.pinned (OpenSpec.upto springWrongSpec)

/-- 'aguadorlaw01.SpringFill', WHERE WHAT IT READS IS OF BULK AT MOST 1048576: true; the input reads as it did. -/
def springFillUptoRow : OpenClaim := { program := "ytpilgokdbliklaa", sum := "f6c17e7decc6c4aec714258b5540ed62c0444a504245d73d6b44a1e2a0e323f8", func := "aguador/aguadorlaw01.SpringFill", spec := "springFill", unfollowed := true, recurses := true, apart := false, narrowed := true }
def SpringFillUptoSaid : Prop := springFillUptoRow.holds Try.pinned (OpenSpec.upto springFillSpec)

/-- 'aguadorlaw01.SpringLook', WHERE WHAT IT READS IS OF BULK AT MOST 1048576: true; the input reads as it did. -/
def springLookUptoRow : OpenClaim := { program := "ytpilgokdbliklaa", sum := "f6c17e7decc6c4aec714258b5540ed62c0444a504245d73d6b44a1e2a0e323f8", func := "aguador/aguadorlaw01.SpringLook", spec := "springLook", unfollowed := true, recurses := true, apart := false, narrowed := true }
def SpringLookUptoSaid : Prop := springLookUptoRow.holds Try.pinned (OpenSpec.upto springLookSpec)

/-- 'aguadorlaw01.SpringRests', WHERE WHAT IT READS IS OF BULK AT MOST 1048576: true; the input reads as it did. -/
def springRestsUptoRow : OpenClaim := { program := "ytpilgokdbliklaa", sum := "f6c17e7decc6c4aec714258b5540ed62c0444a504245d73d6b44a1e2a0e323f8", func := "aguador/aguadorlaw01.SpringRests", spec := "springRests", inPlace := ["slices.overlaps[aguador/api.Reading]"], unfollowed := true, recurses := true, apart := false, narrowed := true }
def SpringRestsUptoSaid : Prop := springRestsUptoRow.holds Try.pinned (OpenSpec.upto springRestsSpec)

end Rows
end Go.Proofs.Ytpilgokdbliklaa
