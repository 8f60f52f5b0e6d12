/-
  No cell of these rows narrows 'for every input' (looked for: loops, veiled, ifaces, maps, wideKeys, modest, calm, conditions, laid).
  DERIVED. THE GIVEN ROWS OF THIS SEAT. 5 by the template 'for every input the law returns true; each argument reads behind the call as it read before'; 0 by the template 'total and deterministic' (their statements: YtblkkjjoidbdlaaTotals.lean).
  GIVEN WITH THE SEED: the statements are not yours to turn. If you find one false, say at which input.
  Laid BY PROGRAM, IN A SANDBOX (cutbox-rows.mjs): the forced cells as the released guide's own fill.sh prints them over the translation f1125f8b482433b3… (all of the seat's roots in one cut). By AI agents, Wed Nov 11 2026. No macro, syntax, notation, axiom, sorry.
-/
import Derived.Test.YtblkkjjoidbdlaaChecked
import GoSem.Claim
import GoSem.ClaimJoined
import GoSem.ClaimMapViews
import Derived.JoinedTies
import Derived.KernelRfl
namespace Go.Proofs.Ytblkkjjoidbdlaa
/- THE CELL 'sum', in the pinned program and in every row, IS THE sha256 OF THE DUMP (.gsa) THAT YtblkkjjoidbdlaaProg.lean LOADS. Nothing in Lean hashes anything: it is a label: what it is worth is what the hold of that sum in a sandbox is worth. -/
noncomputable def Try.pinned : Pinned := { name := "ytblkkjjoidbdlaa", sum := "f1125f8b482433b3e409b3b0ac18bff1a3b5640574ce3c21e14b016519d1080a", checked := Try.checked }
namespace Rows
def none {H : Type} : Left H := { results := [], args := [] }

/-- 'laws.FnExactBalancedHouse': WHATEVER THE INPUT: true; the input reads as it did. -/
def fnExactBalancedHouseSpec : ChangeSpec := { name := "fnExactBalancedHouse", fn := fun _ => fun
  | [d1, d2] => { results := [.lit (.bool true)], args := [d1, d2] }
  | _ => none }
def fnExactBalancedHouseRow : OpenClaim := { program := "ytblkkjjoidbdlaa", sum := "f1125f8b482433b3e409b3b0ac18bff1a3b5640574ce3c21e14b016519d1080a", func := "loop.example/g01395/laws.FnExactBalancedHouse", spec := "fnExactBalancedHouse", unfollowed := true, recurses := true, apart := false }
def FnExactBalancedHouseSaid : Prop := fnExactBalancedHouseRow.holds Try.pinned (OpenSpec.ofChange fnExactBalancedHouseSpec)

/-- ITS FALSE NEIGHBOUR: 'it returns false'. Refute it at one input. -/
def fnExactBalancedHouseWrong : ChangeSpec := { name := "fnExactBalancedHouse", fn := fun _ => fun
  | [d1, d2] => { results := [.lit (.bool false)], args := [d1, d2] }
  | _ => none }
def FnExactBalancedHouseWrongFalsely : Prop := fnExactBalancedHouseRow.holds Try.pinned (OpenSpec.ofChange fnExactBalancedHouseWrong)

/-- 'laws.FnExactStreetOfSum': WHATEVER THE INPUT: true; the input reads as it did. -/
def fnExactStreetOfSumSpec : ChangeSpec := { name := "fnExactStreetOfSum", fn := fun _ => fun
  | [d] => { results := [.lit (.bool true)], args := [d] }
  | _ => none }
def fnExactStreetOfSumRow : OpenClaim := { program := "ytblkkjjoidbdlaa", sum := "f1125f8b482433b3e409b3b0ac18bff1a3b5640574ce3c21e14b016519d1080a", func := "loop.example/g01395/laws.FnExactStreetOfSum", spec := "fnExactStreetOfSum", unfollowed := true, recurses := true, apart := false }
def FnExactStreetOfSumSaid : Prop := fnExactStreetOfSumRow.holds Try.pinned (OpenSpec.ofChange fnExactStreetOfSumSpec)

/-- ITS FALSE NEIGHBOUR: 'it returns false'. Refute it at one input. -/
def fnExactStreetOfSumWrong : ChangeSpec := { name := "fnExactStreetOfSum", fn := fun _ => fun
  | [d] => { results := [.lit (.bool false)], args := [d] }
  | _ => none }
def FnExactStreetOfSumWrongFalsely : Prop := fnExactStreetOfSumRow.holds Try.pinned (OpenSpec.ofChange fnExactStreetOfSumWrong)

/-- 'laws.FnExactMissingHouse': WHATEVER THE INPUT: true; the input reads as it did. -/
def fnExactMissingHouseSpec : ChangeSpec := { name := "fnExactMissingHouse", fn := fun _ => fun
  | [d] => { results := [.lit (.bool true)], args := [d] }
  | _ => none }
def fnExactMissingHouseRow : OpenClaim := { program := "ytblkkjjoidbdlaa", sum := "f1125f8b482433b3e409b3b0ac18bff1a3b5640574ce3c21e14b016519d1080a", func := "loop.example/g01395/laws.FnExactMissingHouse", spec := "fnExactMissingHouse", unfollowed := true, recurses := true, apart := false }
def FnExactMissingHouseSaid : Prop := fnExactMissingHouseRow.holds Try.pinned (OpenSpec.ofChange fnExactMissingHouseSpec)

/-- ITS FALSE NEIGHBOUR: 'it returns false'. Refute it at one input. -/
def fnExactMissingHouseWrong : ChangeSpec := { name := "fnExactMissingHouse", fn := fun _ => fun
  | [d] => { results := [.lit (.bool false)], args := [d] }
  | _ => none }
def FnExactMissingHouseWrongFalsely : Prop := fnExactMissingHouseRow.holds Try.pinned (OpenSpec.ofChange fnExactMissingHouseWrong)

/-- 'laws.FnExactLastForSum': WHATEVER THE INPUT: true; the input reads as it did. -/
def fnExactLastForSumSpec : ChangeSpec := { name := "fnExactLastForSum", fn := fun _ => fun
  | [d1, d2] => { results := [.lit (.bool true)], args := [d1, d2] }
  | _ => none }
def fnExactLastForSumRow : OpenClaim := { program := "ytblkkjjoidbdlaa", sum := "f1125f8b482433b3e409b3b0ac18bff1a3b5640574ce3c21e14b016519d1080a", func := "loop.example/g01395/laws.FnExactLastForSum", spec := "fnExactLastForSum", unfollowed := true, recurses := true, apart := false }
def FnExactLastForSumSaid : Prop := fnExactLastForSumRow.holds Try.pinned (OpenSpec.ofChange fnExactLastForSumSpec)

/-- ITS FALSE NEIGHBOUR: 'it returns false'. Refute it at one input. -/
def fnExactLastForSumWrong : ChangeSpec := { name := "fnExactLastForSum", fn := fun _ => fun
  | [d1, d2] => { results := [.lit (.bool false)], args := [d1, d2] }
  | _ => none }
def FnExactLastForSumWrongFalsely : Prop := fnExactLastForSumRow.holds Try.pinned (OpenSpec.ofChange fnExactLastForSumWrong)

/-- 'laws.FnExactDoubleSum': WHATEVER THE INPUT: true; the input reads as it did. -/
def fnExactDoubleSumSpec : ChangeSpec := { name := "fnExactDoubleSum", fn := fun _ => fun
  | [d1, d2] => { results := [.lit (.bool true)], args := [d1, d2] }
  | _ => none }
def fnExactDoubleSumRow : OpenClaim := { program := "ytblkkjjoidbdlaa", sum := "f1125f8b482433b3e409b3b0ac18bff1a3b5640574ce3c21e14b016519d1080a", func := "loop.example/g01395/laws.FnExactDoubleSum", spec := "fnExactDoubleSum", unfollowed := true, recurses := true, apart := false }
def FnExactDoubleSumSaid : Prop := fnExactDoubleSumRow.holds Try.pinned (OpenSpec.ofChange fnExactDoubleSumSpec)

/-- ITS FALSE NEIGHBOUR: 'it returns false'. Refute it at one input. -/
def fnExactDoubleSumWrong : ChangeSpec := { name := "fnExactDoubleSum", fn := fun _ => fun
  | [d1, d2] => { results := [.lit (.bool false)], args := [d1, d2] }
  | _ => none }
def FnExactDoubleSumWrongFalsely : Prop := fnExactDoubleSumRow.holds Try.pinned (OpenSpec.ofChange fnExactDoubleSumWrong)

/- THE SECOND FORM. 'bulk': how many values and letters a reading holds, each counted each time it is reached (what is shared counts as often as it is met; a slice's spare places count too). A statement '..UptoSaid' is the law's where the arguments, and the package variables that the reading takes, are together of bulk at most 1048576: NARROWER than '..Said'. Prove '..Said' where nothing that the law and all that it calls make is longer than what came in: it says more and counts as full. Else prove '..UptoSaid'. A law counts once. -/
mutual
def uptoBulk {H : Type} : DataW H → Nat
  | .lit (.string bytes) => bytes.length + 1
  | .lit _ => 1
  | .nil => 1
  | .ptr d => uptoBulk d + 1
  | .slice elems spare => uptoBulkAll elems + uptoBulkAll spare + 1
  | .agg parts => uptoBulkAll parts + 1
  | .iface _ d => uptoBulk d + 1
  | .map entries => uptoBulkEntries entries + 1
  | .held _ => 1
def uptoBulkAll {H : Type} : List (DataW H) → Nat
  | [] => 0
  | d :: r => uptoBulk d + uptoBulkAll r
def uptoBulkEntries {H : Type} : List (Lit × DataW H) → Nat
  | [] => 0
  | x :: r => uptoBulkEntry x + uptoBulkEntries r
def uptoBulkEntry {H : Type} : Lit × DataW H → Nat
  | (.string bytes, d) => bytes.length + uptoBulk d + 1
  | (_, d) => uptoBulk d + 1
 end
def uptoSmall : (H : Type) → List (DataW H) → Bool := fun _ ds => decide (uptoBulkAll ds ≤ 1048576)
def OpenSpec.upto (s : _root_.Go.ChangeSpec) : _root_.Go.OpenSpec := { _root_.Go.OpenSpec.ofChange s with cond := some uptoSmall }

/-- 'laws.FnExactBalancedHouse', WHERE WHAT IT READS IS OF BULK AT MOST 1048576: true; the input reads as it did. -/
def fnExactBalancedHouseUptoRow : OpenClaim := { program := "ytblkkjjoidbdlaa", sum := "f1125f8b482433b3e409b3b0ac18bff1a3b5640574ce3c21e14b016519d1080a", func := "loop.example/g01395/laws.FnExactBalancedHouse", spec := "fnExactBalancedHouse", unfollowed := true, recurses := true, apart := false, narrowed := true }
def FnExactBalancedHouseUptoSaid : Prop := fnExactBalancedHouseUptoRow.holds Try.pinned (OpenSpec.upto fnExactBalancedHouseSpec)

/-- 'laws.FnExactStreetOfSum', WHERE WHAT IT READS IS OF BULK AT MOST 1048576: true; the input reads as it did. -/
def fnExactStreetOfSumUptoRow : OpenClaim := { program := "ytblkkjjoidbdlaa", sum := "f1125f8b482433b3e409b3b0ac18bff1a3b5640574ce3c21e14b016519d1080a", func := "loop.example/g01395/laws.FnExactStreetOfSum", spec := "fnExactStreetOfSum", unfollowed := true, recurses := true, apart := false, narrowed := true }
def FnExactStreetOfSumUptoSaid : Prop := fnExactStreetOfSumUptoRow.holds Try.pinned (OpenSpec.upto fnExactStreetOfSumSpec)

/-- 'laws.FnExactMissingHouse', WHERE WHAT IT READS IS OF BULK AT MOST 1048576: true; the input reads as it did. -/
def fnExactMissingHouseUptoRow : OpenClaim := { program := "ytblkkjjoidbdlaa", sum := "f1125f8b482433b3e409b3b0ac18bff1a3b5640574ce3c21e14b016519d1080a", func := "loop.example/g01395/laws.FnExactMissingHouse", spec := "fnExactMissingHouse", unfollowed := true, recurses := true, apart := false, narrowed := true }
def FnExactMissingHouseUptoSaid : Prop := fnExactMissingHouseUptoRow.holds Try.pinned (OpenSpec.upto fnExactMissingHouseSpec)

/-- 'laws.FnExactLastForSum', WHERE WHAT IT READS IS OF BULK AT MOST 1048576: true; the input reads as it did. -/
def fnExactLastForSumUptoRow : OpenClaim := { program := "ytblkkjjoidbdlaa", sum := "f1125f8b482433b3e409b3b0ac18bff1a3b5640574ce3c21e14b016519d1080a", func := "loop.example/g01395/laws.FnExactLastForSum", spec := "fnExactLastForSum", unfollowed := true, recurses := true, apart := false, narrowed := true }
def FnExactLastForSumUptoSaid : Prop := fnExactLastForSumUptoRow.holds Try.pinned (OpenSpec.upto fnExactLastForSumSpec)

/-- 'laws.FnExactDoubleSum', WHERE WHAT IT READS IS OF BULK AT MOST 1048576: true; the input reads as it did. -/
def fnExactDoubleSumUptoRow : OpenClaim := { program := "ytblkkjjoidbdlaa", sum := "f1125f8b482433b3e409b3b0ac18bff1a3b5640574ce3c21e14b016519d1080a", func := "loop.example/g01395/laws.FnExactDoubleSum", spec := "fnExactDoubleSum", unfollowed := true, recurses := true, apart := false, narrowed := true }
def FnExactDoubleSumUptoSaid : Prop := fnExactDoubleSumUptoRow.holds Try.pinned (OpenSpec.upto fnExactDoubleSumSpec)

end Rows
end Go.Proofs.Ytblkkjjoidbdlaa
