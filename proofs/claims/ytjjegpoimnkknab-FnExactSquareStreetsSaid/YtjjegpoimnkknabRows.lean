/-
  No cell of these rows narrows 'for every input' (looked for: loops, veiled, ifaces, maps, wideKeys, modest, calm, conditions, laid).
  DERIVED. THE GIVEN ROWS OF THIS SEAT. 7 by the template 'for every input the law returns true; each argument reads behind the call as it read before'; 0 by the template 'total and deterministic' (their statements: YtjjegpoimnkknabTotals.lean).
  GIVEN WITH THE SEED: the statements are not yours to turn. If you find one false, say at which input.
  Laid BY PROGRAM, IN A SANDBOX (cutbox-rows.mjs): the forced cells as the released guide's own fill.sh prints them over the translation 086bf0e84054cdea… (all of the seat's roots in one cut). By AI agents, Wed Nov 11 2026. No macro, syntax, notation, axiom, sorry.
-/
import Derived.Test.YtjjegpoimnkknabChecked
import GoSem.Claim
import GoSem.ClaimJoined
import GoSem.ClaimMapViews
import Derived.JoinedTies
import Derived.KernelRfl
namespace Go.Proofs.Ytjjegpoimnkknab
/- THE CELL 'sum', in the pinned program and in every row, IS THE sha256 OF THE DUMP (.gsa) THAT YtjjegpoimnkknabProg.lean LOADS. Nothing in Lean hashes anything: it is a label: what it is worth is what the hold of that sum in a sandbox is worth. -/
noncomputable def Try.pinned : Pinned := { name := "ytjjegpoimnkknab", sum := "086bf0e84054cdea3aa2f11465267d6d4b33028db3d690217b34443db900f0e1", checked := Try.checked }
namespace Rows
def none {H : Type} : Left H := { results := [], args := [] }

/-- 'laws.FnExactLastForSum': WHATEVER THE INPUT: true; the input reads as it did. -/
def fnExactLastForSumSpec : ChangeSpec := { name := "fnExactLastForSum", fn := fun _ => fun
  | [d1, d2] => { results := [.lit (.bool true)], args := [d1, d2] }
  | _ => none }
def fnExactLastForSumRow : OpenClaim := { program := "ytjjegpoimnkknab", sum := "086bf0e84054cdea3aa2f11465267d6d4b33028db3d690217b34443db900f0e1", func := "loop.example/g01395/laws.FnExactLastForSum", spec := "fnExactLastForSum", unfollowed := true, recurses := true, apart := false }
def FnExactLastForSumSaid : Prop := fnExactLastForSumRow.holds Try.pinned (OpenSpec.ofChange fnExactLastForSumSpec)

/-- ITS FALSE NEIGHBOUR: 'it returns false'. Refute it at one input. -/
def fnExactLastForSumWrong : ChangeSpec := { name := "fnExactLastForSum", fn := fun _ => fun
  | [d1, d2] => { results := [.lit (.bool false)], args := [d1, d2] }
  | _ => none }
def FnExactLastForSumWrongFalsely : Prop := fnExactLastForSumRow.holds Try.pinned (OpenSpec.ofChange fnExactLastForSumWrong)

/-- 'laws.FnExactOppositeOdd': WHATEVER THE INPUT: true; the input reads as it did. -/
def fnExactOppositeOddSpec : ChangeSpec := { name := "fnExactOppositeOdd", fn := fun _ => fun
  | [d] => { results := [.lit (.bool true)], args := [d] }
  | _ => none }
def fnExactOppositeOddRow : OpenClaim := { program := "ytjjegpoimnkknab", sum := "086bf0e84054cdea3aa2f11465267d6d4b33028db3d690217b34443db900f0e1", func := "loop.example/g01395/laws.FnExactOppositeOdd", spec := "fnExactOppositeOdd", apart := false }
def FnExactOppositeOddSaid : Prop := fnExactOppositeOddRow.holds Try.pinned (OpenSpec.ofChange fnExactOppositeOddSpec)

/-- ITS FALSE NEIGHBOUR: 'it returns false'. Refute it at one input. -/
def fnExactOppositeOddWrong : ChangeSpec := { name := "fnExactOppositeOdd", fn := fun _ => fun
  | [d] => { results := [.lit (.bool false)], args := [d] }
  | _ => none }
def FnExactOppositeOddWrongFalsely : Prop := fnExactOppositeOddRow.holds Try.pinned (OpenSpec.ofChange fnExactOppositeOddWrong)

/-- 'laws.FnExactOppositeAround': WHATEVER THE INPUT: true; the input reads as it did. -/
def fnExactOppositeAroundSpec : ChangeSpec := { name := "fnExactOppositeAround", fn := fun _ => fun
  | [d1, d2] => { results := [.lit (.bool true)], args := [d1, d2] }
  | _ => none }
def fnExactOppositeAroundRow : OpenClaim := { program := "ytjjegpoimnkknab", sum := "086bf0e84054cdea3aa2f11465267d6d4b33028db3d690217b34443db900f0e1", func := "loop.example/g01395/laws.FnExactOppositeAround", spec := "fnExactOppositeAround", apart := false }
def FnExactOppositeAroundSaid : Prop := fnExactOppositeAroundRow.holds Try.pinned (OpenSpec.ofChange fnExactOppositeAroundSpec)

/-- ITS FALSE NEIGHBOUR: 'it returns false'. Refute it at one input. -/
def fnExactOppositeAroundWrong : ChangeSpec := { name := "fnExactOppositeAround", fn := fun _ => fun
  | [d1, d2] => { results := [.lit (.bool false)], args := [d1, d2] }
  | _ => none }
def FnExactOppositeAroundWrongFalsely : Prop := fnExactOppositeAroundRow.holds Try.pinned (OpenSpec.ofChange fnExactOppositeAroundWrong)

/-- 'laws.FnExactNeighbourSums': WHATEVER THE INPUT: true; the input reads as it did. -/
def fnExactNeighbourSumsSpec : ChangeSpec := { name := "fnExactNeighbourSums", fn := fun _ => fun
  | [d1, d2] => { results := [.lit (.bool true)], args := [d1, d2] }
  | _ => none }
def fnExactNeighbourSumsRow : OpenClaim := { program := "ytjjegpoimnkknab", sum := "086bf0e84054cdea3aa2f11465267d6d4b33028db3d690217b34443db900f0e1", func := "loop.example/g01395/laws.FnExactNeighbourSums", spec := "fnExactNeighbourSums", apart := false }
def FnExactNeighbourSumsSaid : Prop := fnExactNeighbourSumsRow.holds Try.pinned (OpenSpec.ofChange fnExactNeighbourSumsSpec)

/-- ITS FALSE NEIGHBOUR: 'it returns false'. Refute it at one input. -/
def fnExactNeighbourSumsWrong : ChangeSpec := { name := "fnExactNeighbourSums", fn := fun _ => fun
  | [d1, d2] => { results := [.lit (.bool false)], args := [d1, d2] }
  | _ => none }
def FnExactNeighbourSumsWrongFalsely : Prop := fnExactNeighbourSumsRow.holds Try.pinned (OpenSpec.ofChange fnExactNeighbourSumsWrong)

/-- 'laws.FnExactDoubleSum': WHATEVER THE INPUT: true; the input reads as it did. -/
def fnExactDoubleSumSpec : ChangeSpec := { name := "fnExactDoubleSum", fn := fun _ => fun
  | [d1, d2] => { results := [.lit (.bool true)], args := [d1, d2] }
  | _ => none }
def fnExactDoubleSumRow : OpenClaim := { program := "ytjjegpoimnkknab", sum := "086bf0e84054cdea3aa2f11465267d6d4b33028db3d690217b34443db900f0e1", func := "loop.example/g01395/laws.FnExactDoubleSum", spec := "fnExactDoubleSum", unfollowed := true, recurses := true, apart := false }
def FnExactDoubleSumSaid : Prop := fnExactDoubleSumRow.holds Try.pinned (OpenSpec.ofChange fnExactDoubleSumSpec)

/-- ITS FALSE NEIGHBOUR: 'it returns false'. Refute it at one input. -/
def fnExactDoubleSumWrong : ChangeSpec := { name := "fnExactDoubleSum", fn := fun _ => fun
  | [d1, d2] => { results := [.lit (.bool false)], args := [d1, d2] }
  | _ => none }
def FnExactDoubleSumWrongFalsely : Prop := fnExactDoubleSumRow.holds Try.pinned (OpenSpec.ofChange fnExactDoubleSumWrong)

/-- 'laws.FnExactSquareStreets': WHATEVER THE INPUT: true; the input reads as it did. -/
def fnExactSquareStreetsSpec : ChangeSpec := { name := "fnExactSquareStreets", fn := fun _ => fun
  | [d] => { results := [.lit (.bool true)], args := [d] }
  | _ => none }
def fnExactSquareStreetsRow : OpenClaim := { program := "ytjjegpoimnkknab", sum := "086bf0e84054cdea3aa2f11465267d6d4b33028db3d690217b34443db900f0e1", func := "loop.example/g01395/laws.FnExactSquareStreets", spec := "fnExactSquareStreets", apart := false }
def FnExactSquareStreetsSaid : Prop := fnExactSquareStreetsRow.holds Try.pinned (OpenSpec.ofChange fnExactSquareStreetsSpec)

/-- ITS FALSE NEIGHBOUR: 'it returns false'. Refute it at one input. -/
def fnExactSquareStreetsWrong : ChangeSpec := { name := "fnExactSquareStreets", fn := fun _ => fun
  | [d] => { results := [.lit (.bool false)], args := [d] }
  | _ => none }
def FnExactSquareStreetsWrongFalsely : Prop := fnExactSquareStreetsRow.holds Try.pinned (OpenSpec.ofChange fnExactSquareStreetsWrong)

/-- 'laws.FnExactMiddleHouse': WHATEVER THE INPUT: true; the input reads as it did. -/
def fnExactMiddleHouseSpec : ChangeSpec := { name := "fnExactMiddleHouse", fn := fun _ => fun
  | [d1, d2] => { results := [.lit (.bool true)], args := [d1, d2] }
  | _ => none }
def fnExactMiddleHouseRow : OpenClaim := { program := "ytjjegpoimnkknab", sum := "086bf0e84054cdea3aa2f11465267d6d4b33028db3d690217b34443db900f0e1", func := "loop.example/g01395/laws.FnExactMiddleHouse", spec := "fnExactMiddleHouse", apart := false }
def FnExactMiddleHouseSaid : Prop := fnExactMiddleHouseRow.holds Try.pinned (OpenSpec.ofChange fnExactMiddleHouseSpec)

/-- ITS FALSE NEIGHBOUR: 'it returns false'. Refute it at one input. -/
def fnExactMiddleHouseWrong : ChangeSpec := { name := "fnExactMiddleHouse", fn := fun _ => fun
  | [d1, d2] => { results := [.lit (.bool false)], args := [d1, d2] }
  | _ => none }
def FnExactMiddleHouseWrongFalsely : Prop := fnExactMiddleHouseRow.holds Try.pinned (OpenSpec.ofChange fnExactMiddleHouseWrong)

/- THE SECOND FORM. 'bulk': how many values and letters a reading holds, each counted each time it is reached (what is shared counts as often as it is met; a slice's spare places count too). A statement '..UptoSaid' is the law's where the arguments, and the package variables that the reading takes, are together of bulk at most 1048576: NARROWER than '..Said'. Prove '..Said' where nothing that the law and all that it calls make is longer than what came in: it says more and counts as full. Else prove '..UptoSaid'. A law counts once. -/
mutual
def uptoBulk {H : Type} : DataW H → Nat
  | .lit (.string bytes) => bytes.length + 1
  | .lit _ => 1
  | .nil => 1
  | .ptr d => uptoBulk d + 1
  | .slice elems spare => uptoBulkAll elems + uptoBulkAll spare + 1
  | .agg parts => uptoBulkAll parts + 1
  | .iface _ d => uptoBulk d + 1
  | .map entries => uptoBulkEntries entries + 1
  | .held _ => 1
def uptoBulkAll {H : Type} : List (DataW H) → Nat
  | [] => 0
  | d :: r => uptoBulk d + uptoBulkAll r
def uptoBulkEntries {H : Type} : List (Lit × DataW H) → Nat
  | [] => 0
  | x :: r => uptoBulkEntry x + uptoBulkEntries r
def uptoBulkEntry {H : Type} : Lit × DataW H → Nat
  | (.string bytes, d) => bytes.length + uptoBulk d + 1
  | (_, d) => uptoBulk d + 1
 end
def uptoSmall : (H : Type) → List (DataW H) → Bool := fun _ ds => decide (uptoBulkAll ds ≤ 1048576)
def OpenSpec.upto (s : _root_.Go.ChangeSpec) : _root_.Go.OpenSpec := { _root_.Go.OpenSpec.ofChange s with cond := some uptoSmall }

/-- 'laws.FnExactLastForSum', WHERE WHAT IT READS IS OF BULK AT MOST 1048576: true; the input reads as it did. -/
def fnExactLastForSumUptoRow : OpenClaim := { program := "ytjjegpoimnkknab", sum := "086bf0e84054cdea3aa2f11465267d6d4b33028db3d690217b34443db900f0e1", func := "loop.example/g01395/laws.FnExactLastForSum", spec := "fnExactLastForSum", unfollowed := true, recurses := true, apart := false, narrowed := true }
def FnExactLastForSumUptoSaid : Prop := fnExactLastForSumUptoRow.holds Try.pinned (OpenSpec.upto fnExactLastForSumSpec)

/-- 'laws.FnExactOppositeOdd', WHERE WHAT IT READS IS OF BULK AT MOST 1048576: true; the input reads as it did. -/
def fnExactOppositeOddUptoRow : OpenClaim := { program := "ytjjegpoimnkknab", sum := "086bf0e84054cdea3aa2f11465267d6d4b33028db3d690217b34443db900f0e1", func := "loop.example/g01395/laws.FnExactOppositeOdd", spec := "fnExactOppositeOdd", apart := false, narrowed := true }
def FnExactOppositeOddUptoSaid : Prop := fnExactOppositeOddUptoRow.holds Try.pinned (OpenSpec.upto fnExactOppositeOddSpec)

/-- 'laws.FnExactOppositeAround', WHERE WHAT IT READS IS OF BULK AT MOST 1048576: true; the input reads as it did. -/
def fnExactOppositeAroundUptoRow : OpenClaim := { program := "ytjjegpoimnkknab", sum := "086bf0e84054cdea3aa2f11465267d6d4b33028db3d690217b34443db900f0e1", func := "loop.example/g01395/laws.FnExactOppositeAround", spec := "fnExactOppositeAround", apart := false, narrowed := true }
def FnExactOppositeAroundUptoSaid : Prop := fnExactOppositeAroundUptoRow.holds Try.pinned (OpenSpec.upto fnExactOppositeAroundSpec)

/-- 'laws.FnExactNeighbourSums', WHERE WHAT IT READS IS OF BULK AT MOST 1048576: true; the input reads as it did. -/
def fnExactNeighbourSumsUptoRow : OpenClaim := { program := "ytjjegpoimnkknab", sum := "086bf0e84054cdea3aa2f11465267d6d4b33028db3d690217b34443db900f0e1", func := "loop.example/g01395/laws.FnExactNeighbourSums", spec := "fnExactNeighbourSums", apart := false, narrowed := true }
def FnExactNeighbourSumsUptoSaid : Prop := fnExactNeighbourSumsUptoRow.holds Try.pinned (OpenSpec.upto fnExactNeighbourSumsSpec)

/-- 'laws.FnExactDoubleSum', WHERE WHAT IT READS IS OF BULK AT MOST 1048576: true; the input reads as it did. -/
def fnExactDoubleSumUptoRow : OpenClaim := { program := "ytjjegpoimnkknab", sum := "086bf0e84054cdea3aa2f11465267d6d4b33028db3d690217b34443db900f0e1", func := "loop.example/g01395/laws.FnExactDoubleSum", spec := "fnExactDoubleSum", unfollowed := true, recurses := true, apart := false, narrowed := true }
def FnExactDoubleSumUptoSaid : Prop := fnExactDoubleSumUptoRow.holds Try.pinned (OpenSpec.upto fnExactDoubleSumSpec)

/-- 'laws.FnExactSquareStreets', WHERE WHAT IT READS IS OF BULK AT MOST 1048576: true; the input reads as it did. -/
def fnExactSquareStreetsUptoRow : OpenClaim := { program := "ytjjegpoimnkknab", sum := "086bf0e84054cdea3aa2f11465267d6d4b33028db3d690217b34443db900f0e1", func := "loop.example/g01395/laws.FnExactSquareStreets", spec := "fnExactSquareStreets", apart := false, narrowed := true }
def FnExactSquareStreetsUptoSaid : Prop := fnExactSquareStreetsUptoRow.holds Try.pinned (OpenSpec.upto fnExactSquareStreetsSpec)

/-- 'laws.FnExactMiddleHouse', WHERE WHAT IT READS IS OF BULK AT MOST 1048576: true; the input reads as it did. -/
def fnExactMiddleHouseUptoRow : OpenClaim := { program := "ytjjegpoimnkknab", sum := "086bf0e84054cdea3aa2f11465267d6d4b33028db3d690217b34443db900f0e1", func := "loop.example/g01395/laws.FnExactMiddleHouse", spec := "fnExactMiddleHouse", apart := false, narrowed := true }
def FnExactMiddleHouseUptoSaid : Prop := fnExactMiddleHouseUptoRow.holds Try.pinned (OpenSpec.upto fnExactMiddleHouseSpec)

end Rows
end Go.Proofs.Ytjjegpoimnkknab
