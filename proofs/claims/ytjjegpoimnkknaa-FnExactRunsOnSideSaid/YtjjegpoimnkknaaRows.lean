/-
  No cell of these rows narrows 'for every input' (looked for: loops, veiled, ifaces, maps, wideKeys, modest, calm, conditions, laid).
  DERIVED. THE GIVEN ROWS OF THIS SEAT. 12 by the template 'for every input the law returns true; each argument reads behind the call as it read before'; 0 by the template 'total and deterministic' (their statements: YtjjegpoimnkknaaTotals.lean).
  GIVEN WITH THE SEED: the statements are not yours to turn. If you find one false, say at which input.
  Laid BY PROGRAM, IN A SANDBOX (cutbox-rows.mjs): the forced cells as the released guide's own fill.sh prints them over the translation fd9b4bee941d9dd9… (all of the seat's roots in one cut). By AI agents, Wed Nov 11 2026. No macro, syntax, notation, axiom, sorry.
-/
import Derived.Test.YtjjegpoimnkknaaChecked
import GoSem.Claim
import GoSem.ClaimJoined
import GoSem.ClaimMapViews
import Derived.JoinedTies
import Derived.KernelRfl
namespace Go.Proofs.Ytjjegpoimnkknaa
/- THE CELL 'sum', in the pinned program and in every row, IS THE sha256 OF THE DUMP (.gsa) THAT YtjjegpoimnkknaaProg.lean LOADS. Nothing in Lean hashes anything: it is a label: what it is worth is what the hold of that sum in a sandbox is worth. -/
noncomputable def Try.pinned : Pinned := { name := "ytjjegpoimnkknaa", sum := "fd9b4bee941d9dd95923529b41cf26dc42a654fb04a5538d461469d6057ad34c", checked := Try.checked }
namespace Rows
def none {H : Type} : Left H := { results := [], args := [] }

/-- 'laws.FnExactBalancedHouse': WHATEVER THE INPUT: true; the input reads as it did. -/
def fnExactBalancedHouseSpec : ChangeSpec := { name := "fnExactBalancedHouse", fn := fun _ => fun
  | [d1, d2] => { results := [.lit (.bool true)], args := [d1, d2] }
  | _ => none }
def fnExactBalancedHouseRow : OpenClaim := { program := "ytjjegpoimnkknaa", sum := "fd9b4bee941d9dd95923529b41cf26dc42a654fb04a5538d461469d6057ad34c", func := "loop.example/g01395/laws.FnExactBalancedHouse", spec := "fnExactBalancedHouse", unfollowed := true, recurses := true, apart := false }
def FnExactBalancedHouseSaid : Prop := fnExactBalancedHouseRow.holds Try.pinned (OpenSpec.ofChange fnExactBalancedHouseSpec)

/-- ITS FALSE NEIGHBOUR: 'it returns false'. Refute it at one input. -/
def fnExactBalancedHouseWrong : ChangeSpec := { name := "fnExactBalancedHouse", fn := fun _ => fun
  | [d1, d2] => { results := [.lit (.bool false)], args := [d1, d2] }
  | _ => none }
def FnExactBalancedHouseWrongFalsely : Prop := fnExactBalancedHouseRow.holds Try.pinned (OpenSpec.ofChange fnExactBalancedHouseWrong)

/-- 'laws.FnExactBalancedStreets': WHATEVER THE INPUT: true; the input reads as it did. -/
def fnExactBalancedStreetsSpec : ChangeSpec := { name := "fnExactBalancedStreets", fn := fun _ => fun
  | [d] => { results := [.lit (.bool true)], args := [d] }
  | _ => none }
def fnExactBalancedStreetsRow : OpenClaim := { program := "ytjjegpoimnkknaa", sum := "fd9b4bee941d9dd95923529b41cf26dc42a654fb04a5538d461469d6057ad34c", func := "loop.example/g01395/laws.FnExactBalancedStreets", spec := "fnExactBalancedStreets", apart := false }
def FnExactBalancedStreetsSaid : Prop := fnExactBalancedStreetsRow.holds Try.pinned (OpenSpec.ofChange fnExactBalancedStreetsSpec)

/-- ITS FALSE NEIGHBOUR: 'it returns false'. Refute it at one input. -/
def fnExactBalancedStreetsWrong : ChangeSpec := { name := "fnExactBalancedStreets", fn := fun _ => fun
  | [d] => { results := [.lit (.bool false)], args := [d] }
  | _ => none }
def FnExactBalancedStreetsWrongFalsely : Prop := fnExactBalancedStreetsRow.holds Try.pinned (OpenSpec.ofChange fnExactBalancedStreetsWrong)

/-- 'laws.FnExactBalancedOdd': WHATEVER THE INPUT: true; the input reads as it did. -/
def fnExactBalancedOddSpec : ChangeSpec := { name := "fnExactBalancedOdd", fn := fun _ => fun
  | [d] => { results := [.lit (.bool true)], args := [d] }
  | _ => none }
def fnExactBalancedOddRow : OpenClaim := { program := "ytjjegpoimnkknaa", sum := "fd9b4bee941d9dd95923529b41cf26dc42a654fb04a5538d461469d6057ad34c", func := "loop.example/g01395/laws.FnExactBalancedOdd", spec := "fnExactBalancedOdd", apart := false }
def FnExactBalancedOddSaid : Prop := fnExactBalancedOddRow.holds Try.pinned (OpenSpec.ofChange fnExactBalancedOddSpec)

/-- ITS FALSE NEIGHBOUR: 'it returns false'. Refute it at one input. -/
def fnExactBalancedOddWrong : ChangeSpec := { name := "fnExactBalancedOdd", fn := fun _ => fun
  | [d] => { results := [.lit (.bool false)], args := [d] }
  | _ => none }
def FnExactBalancedOddWrongFalsely : Prop := fnExactBalancedOddRow.holds Try.pinned (OpenSpec.ofChange fnExactBalancedOddWrong)

/-- 'laws.FnExactSumLeft': WHATEVER THE INPUT: true; the input reads as it did. -/
def fnExactSumLeftSpec : ChangeSpec := { name := "fnExactSumLeft", fn := fun _ => fun
  | [d1, d2, d3] => { results := [.lit (.bool true)], args := [d1, d2, d3] }
  | _ => none }
def fnExactSumLeftRow : OpenClaim := { program := "ytjjegpoimnkknaa", sum := "fd9b4bee941d9dd95923529b41cf26dc42a654fb04a5538d461469d6057ad34c", func := "loop.example/g01395/laws.FnExactSumLeft", spec := "fnExactSumLeft", unfollowed := true, recurses := true, apart := false }
def FnExactSumLeftSaid : Prop := fnExactSumLeftRow.holds Try.pinned (OpenSpec.ofChange fnExactSumLeftSpec)

/-- ITS FALSE NEIGHBOUR: 'it returns false'. Refute it at one input. -/
def fnExactSumLeftWrong : ChangeSpec := { name := "fnExactSumLeft", fn := fun _ => fun
  | [d1, d2, d3] => { results := [.lit (.bool false)], args := [d1, d2, d3] }
  | _ => none }
def FnExactSumLeftWrongFalsely : Prop := fnExactSumLeftRow.holds Try.pinned (OpenSpec.ofChange fnExactSumLeftWrong)

/-- 'laws.FnExactSumRight': WHATEVER THE INPUT: true; the input reads as it did. -/
def fnExactSumRightSpec : ChangeSpec := { name := "fnExactSumRight", fn := fun _ => fun
  | [d1, d2, d3] => { results := [.lit (.bool true)], args := [d1, d2, d3] }
  | _ => none }
def fnExactSumRightRow : OpenClaim := { program := "ytjjegpoimnkknaa", sum := "fd9b4bee941d9dd95923529b41cf26dc42a654fb04a5538d461469d6057ad34c", func := "loop.example/g01395/laws.FnExactSumRight", spec := "fnExactSumRight", unfollowed := true, recurses := true, apart := false }
def FnExactSumRightSaid : Prop := fnExactSumRightRow.holds Try.pinned (OpenSpec.ofChange fnExactSumRightSpec)

/-- ITS FALSE NEIGHBOUR: 'it returns false'. Refute it at one input. -/
def fnExactSumRightWrong : ChangeSpec := { name := "fnExactSumRight", fn := fun _ => fun
  | [d1, d2, d3] => { results := [.lit (.bool false)], args := [d1, d2, d3] }
  | _ => none }
def FnExactSumRightWrongFalsely : Prop := fnExactSumRightRow.holds Try.pinned (OpenSpec.ofChange fnExactSumRightWrong)

/-- 'laws.FnExactSumOfHouses': WHATEVER THE INPUT: true; the input reads as it did. -/
def fnExactSumOfHousesSpec : ChangeSpec := { name := "fnExactSumOfHouses", fn := fun _ => fun
  | [d1, d2, d3] => { results := [.lit (.bool true)], args := [d1, d2, d3] }
  | _ => none }
def fnExactSumOfHousesRow : OpenClaim := { program := "ytjjegpoimnkknaa", sum := "fd9b4bee941d9dd95923529b41cf26dc42a654fb04a5538d461469d6057ad34c", func := "loop.example/g01395/laws.FnExactSumOfHouses", spec := "fnExactSumOfHouses", unfollowed := true, recurses := true, apart := false }
def FnExactSumOfHousesSaid : Prop := fnExactSumOfHousesRow.holds Try.pinned (OpenSpec.ofChange fnExactSumOfHousesSpec)

/-- ITS FALSE NEIGHBOUR: 'it returns false'. Refute it at one input. -/
def fnExactSumOfHousesWrong : ChangeSpec := { name := "fnExactSumOfHouses", fn := fun _ => fun
  | [d1, d2, d3] => { results := [.lit (.bool false)], args := [d1, d2, d3] }
  | _ => none }
def FnExactSumOfHousesWrongFalsely : Prop := fnExactSumOfHousesRow.holds Try.pinned (OpenSpec.ofChange fnExactSumOfHousesWrong)

/-- 'laws.FnExactRunsWithSum': WHATEVER THE INPUT: true; the input reads as it did. -/
def fnExactRunsWithSumSpec : ChangeSpec := { name := "fnExactRunsWithSum", fn := fun _ => fun
  | [d] => { results := [.lit (.bool true)], args := [d] }
  | _ => none }
def fnExactRunsWithSumRow : OpenClaim := { program := "ytjjegpoimnkknaa", sum := "fd9b4bee941d9dd95923529b41cf26dc42a654fb04a5538d461469d6057ad34c", func := "loop.example/g01395/laws.FnExactRunsWithSum", spec := "fnExactRunsWithSum", unfollowed := true, recurses := true, apart := false }
def FnExactRunsWithSumSaid : Prop := fnExactRunsWithSumRow.holds Try.pinned (OpenSpec.ofChange fnExactRunsWithSumSpec)

/-- ITS FALSE NEIGHBOUR: 'it returns false'. Refute it at one input. -/
def fnExactRunsWithSumWrong : ChangeSpec := { name := "fnExactRunsWithSum", fn := fun _ => fun
  | [d] => { results := [.lit (.bool false)], args := [d] }
  | _ => none }
def FnExactRunsWithSumWrongFalsely : Prop := fnExactRunsWithSumRow.holds Try.pinned (OpenSpec.ofChange fnExactRunsWithSumWrong)

/-- 'laws.FnExactCountRuns': WHATEVER THE INPUT: true; the input reads as it did. -/
def fnExactCountRunsSpec : ChangeSpec := { name := "fnExactCountRuns", fn := fun _ => fun
  | [d] => { results := [.lit (.bool true)], args := [d] }
  | _ => none }
def fnExactCountRunsRow : OpenClaim := { program := "ytjjegpoimnkknaa", sum := "fd9b4bee941d9dd95923529b41cf26dc42a654fb04a5538d461469d6057ad34c", func := "loop.example/g01395/laws.FnExactCountRuns", spec := "fnExactCountRuns", unfollowed := true, recurses := true, apart := false }
def FnExactCountRunsSaid : Prop := fnExactCountRunsRow.holds Try.pinned (OpenSpec.ofChange fnExactCountRunsSpec)

/-- ITS FALSE NEIGHBOUR: 'it returns false'. Refute it at one input. -/
def fnExactCountRunsWrong : ChangeSpec := { name := "fnExactCountRuns", fn := fun _ => fun
  | [d] => { results := [.lit (.bool false)], args := [d] }
  | _ => none }
def FnExactCountRunsWrongFalsely : Prop := fnExactCountRunsRow.holds Try.pinned (OpenSpec.ofChange fnExactCountRunsWrong)

/-- 'laws.FnExactLongestRun': WHATEVER THE INPUT: true; the input reads as it did. -/
def fnExactLongestRunSpec : ChangeSpec := { name := "fnExactLongestRun", fn := fun _ => fun
  | [d] => { results := [.lit (.bool true)], args := [d] }
  | _ => none }
def fnExactLongestRunRow : OpenClaim := { program := "ytjjegpoimnkknaa", sum := "fd9b4bee941d9dd95923529b41cf26dc42a654fb04a5538d461469d6057ad34c", func := "loop.example/g01395/laws.FnExactLongestRun", spec := "fnExactLongestRun", unfollowed := true, recurses := true, apart := false }
def FnExactLongestRunSaid : Prop := fnExactLongestRunRow.holds Try.pinned (OpenSpec.ofChange fnExactLongestRunSpec)

/-- ITS FALSE NEIGHBOUR: 'it returns false'. Refute it at one input. -/
def fnExactLongestRunWrong : ChangeSpec := { name := "fnExactLongestRun", fn := fun _ => fun
  | [d] => { results := [.lit (.bool false)], args := [d] }
  | _ => none }
def FnExactLongestRunWrongFalsely : Prop := fnExactLongestRunRow.holds Try.pinned (OpenSpec.ofChange fnExactLongestRunWrong)

/-- 'laws.FnExactRunsOnSide': WHATEVER THE INPUT: true; the input reads as it did. -/
def fnExactRunsOnSideSpec : ChangeSpec := { name := "fnExactRunsOnSide", fn := fun _ => fun
  | [d] => { results := [.lit (.bool true)], args := [d] }
  | _ => none }
def fnExactRunsOnSideRow : OpenClaim := { program := "ytjjegpoimnkknaa", sum := "fd9b4bee941d9dd95923529b41cf26dc42a654fb04a5538d461469d6057ad34c", func := "loop.example/g01395/laws.FnExactRunsOnSide", spec := "fnExactRunsOnSide", unfollowed := true, recurses := true, apart := false }
def FnExactRunsOnSideSaid : Prop := fnExactRunsOnSideRow.holds Try.pinned (OpenSpec.ofChange fnExactRunsOnSideSpec)

/-- ITS FALSE NEIGHBOUR: 'it returns false'. Refute it at one input. -/
def fnExactRunsOnSideWrong : ChangeSpec := { name := "fnExactRunsOnSide", fn := fun _ => fun
  | [d] => { results := [.lit (.bool false)], args := [d] }
  | _ => none }
def FnExactRunsOnSideWrongFalsely : Prop := fnExactRunsOnSideRow.holds Try.pinned (OpenSpec.ofChange fnExactRunsOnSideWrong)

/-- 'laws.FnExactMissingHouse': WHATEVER THE INPUT: true; the input reads as it did. -/
def fnExactMissingHouseSpec : ChangeSpec := { name := "fnExactMissingHouse", fn := fun _ => fun
  | [d] => { results := [.lit (.bool true)], args := [d] }
  | _ => none }
def fnExactMissingHouseRow : OpenClaim := { program := "ytjjegpoimnkknaa", sum := "fd9b4bee941d9dd95923529b41cf26dc42a654fb04a5538d461469d6057ad34c", func := "loop.example/g01395/laws.FnExactMissingHouse", spec := "fnExactMissingHouse", unfollowed := true, recurses := true, apart := false }
def FnExactMissingHouseSaid : Prop := fnExactMissingHouseRow.holds Try.pinned (OpenSpec.ofChange fnExactMissingHouseSpec)

/-- ITS FALSE NEIGHBOUR: 'it returns false'. Refute it at one input. -/
def fnExactMissingHouseWrong : ChangeSpec := { name := "fnExactMissingHouse", fn := fun _ => fun
  | [d] => { results := [.lit (.bool false)], args := [d] }
  | _ => none }
def FnExactMissingHouseWrongFalsely : Prop := fnExactMissingHouseRow.holds Try.pinned (OpenSpec.ofChange fnExactMissingHouseWrong)

/-- 'laws.FnExactStreetOfSum': WHATEVER THE INPUT: true; the input reads as it did. -/
def fnExactStreetOfSumSpec : ChangeSpec := { name := "fnExactStreetOfSum", fn := fun _ => fun
  | [d] => { results := [.lit (.bool true)], args := [d] }
  | _ => none }
def fnExactStreetOfSumRow : OpenClaim := { program := "ytjjegpoimnkknaa", sum := "fd9b4bee941d9dd95923529b41cf26dc42a654fb04a5538d461469d6057ad34c", func := "loop.example/g01395/laws.FnExactStreetOfSum", spec := "fnExactStreetOfSum", unfollowed := true, recurses := true, apart := false }
def FnExactStreetOfSumSaid : Prop := fnExactStreetOfSumRow.holds Try.pinned (OpenSpec.ofChange fnExactStreetOfSumSpec)

/-- ITS FALSE NEIGHBOUR: 'it returns false'. Refute it at one input. -/
def fnExactStreetOfSumWrong : ChangeSpec := { name := "fnExactStreetOfSum", fn := fun _ => fun
  | [d] => { results := [.lit (.bool false)], args := [d] }
  | _ => none }
def FnExactStreetOfSumWrongFalsely : Prop := fnExactStreetOfSumRow.holds Try.pinned (OpenSpec.ofChange fnExactStreetOfSumWrong)

/- THE SECOND FORM. 'bulk': how many values and letters a reading holds, each counted each time it is reached (what is shared counts as often as it is met; a slice's spare places count too). A statement '..UptoSaid' is the law's where the arguments, and the package variables that the reading takes, are together of bulk at most 1048576: NARROWER than '..Said'. Prove '..Said' where nothing that the law and all that it calls make is longer than what came in: it says more and counts as full. Else prove '..UptoSaid'. A law counts once. -/
mutual
def uptoBulk {H : Type} : DataW H → Nat
  | .lit (.string bytes) => bytes.length + 1
  | .lit _ => 1
  | .nil => 1
  | .ptr d => uptoBulk d + 1
  | .slice elems spare => uptoBulkAll elems + uptoBulkAll spare + 1
  | .agg parts => uptoBulkAll parts + 1
  | .iface _ d => uptoBulk d + 1
  | .map entries => uptoBulkEntries entries + 1
  | .held _ => 1
def uptoBulkAll {H : Type} : List (DataW H) → Nat
  | [] => 0
  | d :: r => uptoBulk d + uptoBulkAll r
def uptoBulkEntries {H : Type} : List (Lit × DataW H) → Nat
  | [] => 0
  | x :: r => uptoBulkEntry x + uptoBulkEntries r
def uptoBulkEntry {H : Type} : Lit × DataW H → Nat
  | (.string bytes, d) => bytes.length + uptoBulk d + 1
  | (_, d) => uptoBulk d + 1
 end
def uptoSmall : (H : Type) → List (DataW H) → Bool := fun _ ds => decide (uptoBulkAll ds ≤ 1048576)
def OpenSpec.upto (s : _root_.Go.ChangeSpec) : _root_.Go.OpenSpec := { _root_.Go.OpenSpec.ofChange s with cond := some uptoSmall }

/-- 'laws.FnExactBalancedHouse', WHERE WHAT IT READS IS OF BULK AT MOST 1048576: true; the input reads as it did. -/
def fnExactBalancedHouseUptoRow : OpenClaim := { program := "ytjjegpoimnkknaa", sum := "fd9b4bee941d9dd95923529b41cf26dc42a654fb04a5538d461469d6057ad34c", func := "loop.example/g01395/laws.FnExactBalancedHouse", spec := "fnExactBalancedHouse", unfollowed := true, recurses := true, apart := false, narrowed := true }
def FnExactBalancedHouseUptoSaid : Prop := fnExactBalancedHouseUptoRow.holds Try.pinned (OpenSpec.upto fnExactBalancedHouseSpec)

/-- 'laws.FnExactBalancedStreets', WHERE WHAT IT READS IS OF BULK AT MOST 1048576: true; the input reads as it did. -/
def fnExactBalancedStreetsUptoRow : OpenClaim := { program := "ytjjegpoimnkknaa", sum := "fd9b4bee941d9dd95923529b41cf26dc42a654fb04a5538d461469d6057ad34c", func := "loop.example/g01395/laws.FnExactBalancedStreets", spec := "fnExactBalancedStreets", apart := false, narrowed := true }
def FnExactBalancedStreetsUptoSaid : Prop := fnExactBalancedStreetsUptoRow.holds Try.pinned (OpenSpec.upto fnExactBalancedStreetsSpec)

/-- 'laws.FnExactBalancedOdd', WHERE WHAT IT READS IS OF BULK AT MOST 1048576: true; the input reads as it did. -/
def fnExactBalancedOddUptoRow : OpenClaim := { program := "ytjjegpoimnkknaa", sum := "fd9b4bee941d9dd95923529b41cf26dc42a654fb04a5538d461469d6057ad34c", func := "loop.example/g01395/laws.FnExactBalancedOdd", spec := "fnExactBalancedOdd", apart := false, narrowed := true }
def FnExactBalancedOddUptoSaid : Prop := fnExactBalancedOddUptoRow.holds Try.pinned (OpenSpec.upto fnExactBalancedOddSpec)

/-- 'laws.FnExactSumLeft', WHERE WHAT IT READS IS OF BULK AT MOST 1048576: true; the input reads as it did. -/
def fnExactSumLeftUptoRow : OpenClaim := { program := "ytjjegpoimnkknaa", sum := "fd9b4bee941d9dd95923529b41cf26dc42a654fb04a5538d461469d6057ad34c", func := "loop.example/g01395/laws.FnExactSumLeft", spec := "fnExactSumLeft", unfollowed := true, recurses := true, apart := false, narrowed := true }
def FnExactSumLeftUptoSaid : Prop := fnExactSumLeftUptoRow.holds Try.pinned (OpenSpec.upto fnExactSumLeftSpec)

/-- 'laws.FnExactSumRight', WHERE WHAT IT READS IS OF BULK AT MOST 1048576: true; the input reads as it did. -/
def fnExactSumRightUptoRow : OpenClaim := { program := "ytjjegpoimnkknaa", sum := "fd9b4bee941d9dd95923529b41cf26dc42a654fb04a5538d461469d6057ad34c", func := "loop.example/g01395/laws.FnExactSumRight", spec := "fnExactSumRight", unfollowed := true, recurses := true, apart := false, narrowed := true }
def FnExactSumRightUptoSaid : Prop := fnExactSumRightUptoRow.holds Try.pinned (OpenSpec.upto fnExactSumRightSpec)

/-- 'laws.FnExactSumOfHouses', WHERE WHAT IT READS IS OF BULK AT MOST 1048576: true; the input reads as it did. -/
def fnExactSumOfHousesUptoRow : OpenClaim := { program := "ytjjegpoimnkknaa", sum := "fd9b4bee941d9dd95923529b41cf26dc42a654fb04a5538d461469d6057ad34c", func := "loop.example/g01395/laws.FnExactSumOfHouses", spec := "fnExactSumOfHouses", unfollowed := true, recurses := true, apart := false, narrowed := true }
def FnExactSumOfHousesUptoSaid : Prop := fnExactSumOfHousesUptoRow.holds Try.pinned (OpenSpec.upto fnExactSumOfHousesSpec)

/-- 'laws.FnExactRunsWithSum', WHERE WHAT IT READS IS OF BULK AT MOST 1048576: true; the input reads as it did. -/
def fnExactRunsWithSumUptoRow : OpenClaim := { program := "ytjjegpoimnkknaa", sum := "fd9b4bee941d9dd95923529b41cf26dc42a654fb04a5538d461469d6057ad34c", func := "loop.example/g01395/laws.FnExactRunsWithSum", spec := "fnExactRunsWithSum", unfollowed := true, recurses := true, apart := false, narrowed := true }
def FnExactRunsWithSumUptoSaid : Prop := fnExactRunsWithSumUptoRow.holds Try.pinned (OpenSpec.upto fnExactRunsWithSumSpec)

/-- 'laws.FnExactCountRuns', WHERE WHAT IT READS IS OF BULK AT MOST 1048576: true; the input reads as it did. -/
def fnExactCountRunsUptoRow : OpenClaim := { program := "ytjjegpoimnkknaa", sum := "fd9b4bee941d9dd95923529b41cf26dc42a654fb04a5538d461469d6057ad34c", func := "loop.example/g01395/laws.FnExactCountRuns", spec := "fnExactCountRuns", unfollowed := true, recurses := true, apart := false, narrowed := true }
def FnExactCountRunsUptoSaid : Prop := fnExactCountRunsUptoRow.holds Try.pinned (OpenSpec.upto fnExactCountRunsSpec)

/-- 'laws.FnExactLongestRun', WHERE WHAT IT READS IS OF BULK AT MOST 1048576: true; the input reads as it did. -/
def fnExactLongestRunUptoRow : OpenClaim := { program := "ytjjegpoimnkknaa", sum := "fd9b4bee941d9dd95923529b41cf26dc42a654fb04a5538d461469d6057ad34c", func := "loop.example/g01395/laws.FnExactLongestRun", spec := "fnExactLongestRun", unfollowed := true, recurses := true, apart := false, narrowed := true }
def FnExactLongestRunUptoSaid : Prop := fnExactLongestRunUptoRow.holds Try.pinned (OpenSpec.upto fnExactLongestRunSpec)

/-- 'laws.FnExactRunsOnSide', WHERE WHAT IT READS IS OF BULK AT MOST 1048576: true; the input reads as it did. -/
def fnExactRunsOnSideUptoRow : OpenClaim := { program := "ytjjegpoimnkknaa", sum := "fd9b4bee941d9dd95923529b41cf26dc42a654fb04a5538d461469d6057ad34c", func := "loop.example/g01395/laws.FnExactRunsOnSide", spec := "fnExactRunsOnSide", unfollowed := true, recurses := true, apart := false, narrowed := true }
def FnExactRunsOnSideUptoSaid : Prop := fnExactRunsOnSideUptoRow.holds Try.pinned (OpenSpec.upto fnExactRunsOnSideSpec)

/-- 'laws.FnExactMissingHouse', WHERE WHAT IT READS IS OF BULK AT MOST 1048576: true; the input reads as it did. -/
def fnExactMissingHouseUptoRow : OpenClaim := { program := "ytjjegpoimnkknaa", sum := "fd9b4bee941d9dd95923529b41cf26dc42a654fb04a5538d461469d6057ad34c", func := "loop.example/g01395/laws.FnExactMissingHouse", spec := "fnExactMissingHouse", unfollowed := true, recurses := true, apart := false, narrowed := true }
def FnExactMissingHouseUptoSaid : Prop := fnExactMissingHouseUptoRow.holds Try.pinned (OpenSpec.upto fnExactMissingHouseSpec)

/-- 'laws.FnExactStreetOfSum', WHERE WHAT IT READS IS OF BULK AT MOST 1048576: true; the input reads as it did. -/
def fnExactStreetOfSumUptoRow : OpenClaim := { program := "ytjjegpoimnkknaa", sum := "fd9b4bee941d9dd95923529b41cf26dc42a654fb04a5538d461469d6057ad34c", func := "loop.example/g01395/laws.FnExactStreetOfSum", spec := "fnExactStreetOfSum", unfollowed := true, recurses := true, apart := false, narrowed := true }
def FnExactStreetOfSumUptoSaid : Prop := fnExactStreetOfSumUptoRow.holds Try.pinned (OpenSpec.upto fnExactStreetOfSumSpec)

end Rows
end Go.Proofs.Ytjjegpoimnkknaa
