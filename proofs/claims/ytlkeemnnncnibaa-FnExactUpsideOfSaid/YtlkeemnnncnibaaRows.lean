/-
  No cell of these rows narrows 'for every input' (looked for: loops, veiled, ifaces, maps, wideKeys, modest, calm, conditions, laid).
  DERIVED. THE GIVEN ROWS OF THIS SEAT. 10 by the template 'for every input the law returns true; each argument reads behind the call as it read before'; 0 by the template 'total and deterministic' (their statements: YtlkeemnnncnibaaTotals.lean).
  GIVEN WITH THE SEED: the statements are not yours to turn. If you find one false, say at which input.
  Laid BY PROGRAM, IN A SANDBOX (cutbox-rows.mjs): the forced cells as the released guide's own fill.sh prints them over the translation 7770a60285dc6eb1… (all of the seat's roots in one cut). By AI agents, Wed Nov 11 2026. No macro, syntax, notation, axiom, sorry.
-/
import Derived.Test.YtlkeemnnncnibaaChecked
import GoSem.Claim
import GoSem.ClaimJoined
import GoSem.ClaimMapViews
import Derived.JoinedTies
import Derived.KernelRfl
namespace Go.Proofs.Ytlkeemnnncnibaa
/- THE CELL 'sum', in the pinned program and in every row, IS THE sha256 OF THE DUMP (.gsa) THAT YtlkeemnnncnibaaProg.lean LOADS. Nothing in Lean hashes anything: it is a label: what it is worth is what the hold of that sum in a sandbox is worth. -/
noncomputable def Try.pinned : Pinned := { name := "ytlkeemnnncnibaa", sum := "7770a60285dc6eb193ba73ace9fc983353545167b4a523621a312dd6fc92d7c3", checked := Try.checked }
namespace Rows
def none {H : Type} : Left H := { results := [], args := [] }

/-- 'laws.FnExactIsReading': WHATEVER THE INPUT: true; the input reads as it did. -/
def fnExactIsReadingSpec : ChangeSpec := { name := "fnExactIsReading", fn := fun _ => fun
  | [d] => { results := [.lit (.bool true)], args := [d] }
  | _ => none }
def fnExactIsReadingRow : OpenClaim := { program := "ytlkeemnnncnibaa", sum := "7770a60285dc6eb193ba73ace9fc983353545167b4a523621a312dd6fc92d7c3", func := "loop.example/g01395/laws.FnExactIsReading", spec := "fnExactIsReading", apart := false }
def FnExactIsReadingSaid : Prop := fnExactIsReadingRow.holds Try.pinned (OpenSpec.ofChange fnExactIsReadingSpec)

/-- ITS FALSE NEIGHBOUR: 'it returns false'. Refute it at one input. -/
def fnExactIsReadingWrong : ChangeSpec := { name := "fnExactIsReading", fn := fun _ => fun
  | [d] => { results := [.lit (.bool false)], args := [d] }
  | _ => none }
def FnExactIsReadingWrongFalsely : Prop := fnExactIsReadingRow.holds Try.pinned (OpenSpec.ofChange fnExactIsReadingWrong)

/-- 'laws.FnExactMilesTo': WHATEVER THE INPUT: true; the input reads as it did. -/
def fnExactMilesToSpec : ChangeSpec := { name := "fnExactMilesTo", fn := fun _ => fun
  | [d1, d2] => { results := [.lit (.bool true)], args := [d1, d2] }
  | _ => none }
def fnExactMilesToRow : OpenClaim := { program := "ytlkeemnnncnibaa", sum := "7770a60285dc6eb193ba73ace9fc983353545167b4a523621a312dd6fc92d7c3", func := "loop.example/g01395/laws.FnExactMilesTo", spec := "fnExactMilesTo", inPlace := ["internal/abi.NoEscape", "internal/bytealg.MakeNoZero"], apart := false }
def FnExactMilesToSaid : Prop := fnExactMilesToRow.holds Try.pinned (OpenSpec.ofChange fnExactMilesToSpec)

/-- ITS FALSE NEIGHBOUR: 'it returns false'. Refute it at one input. -/
def fnExactMilesToWrong : ChangeSpec := { name := "fnExactMilesTo", fn := fun _ => fun
  | [d1, d2] => { results := [.lit (.bool false)], args := [d1, d2] }
  | _ => none }
def FnExactMilesToWrongFalsely : Prop := fnExactMilesToRow.holds Try.pinned (OpenSpec.ofChange fnExactMilesToWrong)

/-- 'laws.FnExactNextOfKind': WHATEVER THE INPUT: true; the input reads as it did. -/
def fnExactNextOfKindSpec : ChangeSpec := { name := "fnExactNextOfKind", fn := fun _ => fun
  | [d1, d2] => { results := [.lit (.bool true)], args := [d1, d2] }
  | _ => none }
def fnExactNextOfKindRow : OpenClaim := { program := "ytlkeemnnncnibaa", sum := "7770a60285dc6eb193ba73ace9fc983353545167b4a523621a312dd6fc92d7c3", func := "loop.example/g01395/laws.FnExactNextOfKind", spec := "fnExactNextOfKind", inPlace := ["internal/bytealg.IndexByteString", "internal/abi.NoEscape"], unfollowed := true, recurses := true, apart := false }
def FnExactNextOfKindSaid : Prop := fnExactNextOfKindRow.holds Try.pinned (OpenSpec.ofChange fnExactNextOfKindSpec)

/-- ITS FALSE NEIGHBOUR: 'it returns false'. Refute it at one input. -/
def fnExactNextOfKindWrong : ChangeSpec := { name := "fnExactNextOfKind", fn := fun _ => fun
  | [d1, d2] => { results := [.lit (.bool false)], args := [d1, d2] }
  | _ => none }
def FnExactNextOfKindWrongFalsely : Prop := fnExactNextOfKindRow.holds Try.pinned (OpenSpec.ofChange fnExactNextOfKindWrong)

/-- 'laws.FnExactMilesToKind': WHATEVER THE INPUT: true; the input reads as it did. -/
def fnExactMilesToKindSpec : ChangeSpec := { name := "fnExactMilesToKind", fn := fun _ => fun
  | [d1, d2] => { results := [.lit (.bool true)], args := [d1, d2] }
  | _ => none }
def fnExactMilesToKindRow : OpenClaim := { program := "ytlkeemnnncnibaa", sum := "7770a60285dc6eb193ba73ace9fc983353545167b4a523621a312dd6fc92d7c3", func := "loop.example/g01395/laws.FnExactMilesToKind", spec := "fnExactMilesToKind", inPlace := ["internal/bytealg.IndexByteString", "internal/abi.NoEscape", "internal/bytealg.MakeNoZero"], unfollowed := true, recurses := true, apart := false }
def FnExactMilesToKindSaid : Prop := fnExactMilesToKindRow.holds Try.pinned (OpenSpec.ofChange fnExactMilesToKindSpec)

/-- ITS FALSE NEIGHBOUR: 'it returns false'. Refute it at one input. -/
def fnExactMilesToKindWrong : ChangeSpec := { name := "fnExactMilesToKind", fn := fun _ => fun
  | [d1, d2] => { results := [.lit (.bool false)], args := [d1, d2] }
  | _ => none }
def FnExactMilesToKindWrongFalsely : Prop := fnExactMilesToKindRow.holds Try.pinned (OpenSpec.ofChange fnExactMilesToKindWrong)

/-- 'laws.FnExactCountOfKind': WHATEVER THE INPUT: true; the input reads as it did. -/
def fnExactCountOfKindSpec : ChangeSpec := { name := "fnExactCountOfKind", fn := fun _ => fun
  | [d1, d2] => { results := [.lit (.bool true)], args := [d1, d2] }
  | _ => none }
def fnExactCountOfKindRow : OpenClaim := { program := "ytlkeemnnncnibaa", sum := "7770a60285dc6eb193ba73ace9fc983353545167b4a523621a312dd6fc92d7c3", func := "loop.example/g01395/laws.FnExactCountOfKind", spec := "fnExactCountOfKind", inPlace := ["internal/bytealg.IndexByteString", "internal/abi.NoEscape"], unfollowed := true, recurses := true, apart := false }
def FnExactCountOfKindSaid : Prop := fnExactCountOfKindRow.holds Try.pinned (OpenSpec.ofChange fnExactCountOfKindSpec)

/-- ITS FALSE NEIGHBOUR: 'it returns false'. Refute it at one input. -/
def fnExactCountOfKindWrong : ChangeSpec := { name := "fnExactCountOfKind", fn := fun _ => fun
  | [d1, d2] => { results := [.lit (.bool false)], args := [d1, d2] }
  | _ => none }
def FnExactCountOfKindWrongFalsely : Prop := fnExactCountOfKindRow.holds Try.pinned (OpenSpec.ofChange fnExactCountOfKindWrong)

/-- 'laws.FnExactFirstOfKind': WHATEVER THE INPUT: true; the input reads as it did. -/
def fnExactFirstOfKindSpec : ChangeSpec := { name := "fnExactFirstOfKind", fn := fun _ => fun
  | [d1, d2] => { results := [.lit (.bool true)], args := [d1, d2] }
  | _ => none }
def fnExactFirstOfKindRow : OpenClaim := { program := "ytlkeemnnncnibaa", sum := "7770a60285dc6eb193ba73ace9fc983353545167b4a523621a312dd6fc92d7c3", func := "loop.example/g01395/laws.FnExactFirstOfKind", spec := "fnExactFirstOfKind", inPlace := ["internal/bytealg.IndexByteString", "internal/abi.NoEscape"], unfollowed := true, recurses := true, apart := false }
def FnExactFirstOfKindSaid : Prop := fnExactFirstOfKindRow.holds Try.pinned (OpenSpec.ofChange fnExactFirstOfKindSpec)

/-- ITS FALSE NEIGHBOUR: 'it returns false'. Refute it at one input. -/
def fnExactFirstOfKindWrong : ChangeSpec := { name := "fnExactFirstOfKind", fn := fun _ => fun
  | [d1, d2] => { results := [.lit (.bool false)], args := [d1, d2] }
  | _ => none }
def FnExactFirstOfKindWrongFalsely : Prop := fnExactFirstOfKindRow.holds Try.pinned (OpenSpec.ofChange fnExactFirstOfKindWrong)

/-- 'laws.FnExactLastOfKind': WHATEVER THE INPUT: true; the input reads as it did. -/
def fnExactLastOfKindSpec : ChangeSpec := { name := "fnExactLastOfKind", fn := fun _ => fun
  | [d1, d2] => { results := [.lit (.bool true)], args := [d1, d2] }
  | _ => none }
def fnExactLastOfKindRow : OpenClaim := { program := "ytlkeemnnncnibaa", sum := "7770a60285dc6eb193ba73ace9fc983353545167b4a523621a312dd6fc92d7c3", func := "loop.example/g01395/laws.FnExactLastOfKind", spec := "fnExactLastOfKind", inPlace := ["internal/bytealg.IndexByteString", "internal/abi.NoEscape"], unfollowed := true, recurses := true, apart := false }
def FnExactLastOfKindSaid : Prop := fnExactLastOfKindRow.holds Try.pinned (OpenSpec.ofChange fnExactLastOfKindSpec)

/-- ITS FALSE NEIGHBOUR: 'it returns false'. Refute it at one input. -/
def fnExactLastOfKindWrong : ChangeSpec := { name := "fnExactLastOfKind", fn := fun _ => fun
  | [d1, d2] => { results := [.lit (.bool false)], args := [d1, d2] }
  | _ => none }
def FnExactLastOfKindWrongFalsely : Prop := fnExactLastOfKindRow.holds Try.pinned (OpenSpec.ofChange fnExactLastOfKindWrong)

/-- 'laws.FnExactMirroredOfRank': WHATEVER THE INPUT: true; the input reads as it did. -/
def fnExactMirroredOfRankSpec : ChangeSpec := { name := "fnExactMirroredOfRank", fn := fun _ => fun
  | [d1, d2] => { results := [.lit (.bool true)], args := [d1, d2] }
  | _ => none }
def fnExactMirroredOfRankRow : OpenClaim := { program := "ytlkeemnnncnibaa", sum := "7770a60285dc6eb193ba73ace9fc983353545167b4a523621a312dd6fc92d7c3", func := "loop.example/g01395/laws.FnExactMirroredOfRank", spec := "fnExactMirroredOfRank", unfollowed := true, recurses := true, apart := false }
def FnExactMirroredOfRankSaid : Prop := fnExactMirroredOfRankRow.holds Try.pinned (OpenSpec.ofChange fnExactMirroredOfRankSpec)

/-- ITS FALSE NEIGHBOUR: 'it returns false'. Refute it at one input. -/
def fnExactMirroredOfRankWrong : ChangeSpec := { name := "fnExactMirroredOfRank", fn := fun _ => fun
  | [d1, d2] => { results := [.lit (.bool false)], args := [d1, d2] }
  | _ => none }
def FnExactMirroredOfRankWrongFalsely : Prop := fnExactMirroredOfRankRow.holds Try.pinned (OpenSpec.ofChange fnExactMirroredOfRankWrong)

/-- 'laws.FnExactRankOfMirrored': WHATEVER THE INPUT: true; the input reads as it did. -/
def fnExactRankOfMirroredSpec : ChangeSpec := { name := "fnExactRankOfMirrored", fn := fun _ => fun
  | [d] => { results := [.lit (.bool true)], args := [d] }
  | _ => none }
def fnExactRankOfMirroredRow : OpenClaim := { program := "ytlkeemnnncnibaa", sum := "7770a60285dc6eb193ba73ace9fc983353545167b4a523621a312dd6fc92d7c3", func := "loop.example/g01395/laws.FnExactRankOfMirrored", spec := "fnExactRankOfMirrored", unfollowed := true, recurses := true, apart := false }
def FnExactRankOfMirroredSaid : Prop := fnExactRankOfMirroredRow.holds Try.pinned (OpenSpec.ofChange fnExactRankOfMirroredSpec)

/-- ITS FALSE NEIGHBOUR: 'it returns false'. Refute it at one input. -/
def fnExactRankOfMirroredWrong : ChangeSpec := { name := "fnExactRankOfMirrored", fn := fun _ => fun
  | [d] => { results := [.lit (.bool false)], args := [d] }
  | _ => none }
def FnExactRankOfMirroredWrongFalsely : Prop := fnExactRankOfMirroredRow.holds Try.pinned (OpenSpec.ofChange fnExactRankOfMirroredWrong)

/-- 'laws.FnExactUpsideOf': WHATEVER THE INPUT: true; the input reads as it did. -/
def fnExactUpsideOfSpec : ChangeSpec := { name := "fnExactUpsideOf", fn := fun _ => fun
  | [d] => { results := [.lit (.bool true)], args := [d] }
  | _ => none }
def fnExactUpsideOfRow : OpenClaim := { program := "ytlkeemnnncnibaa", sum := "7770a60285dc6eb193ba73ace9fc983353545167b4a523621a312dd6fc92d7c3", func := "loop.example/g01395/laws.FnExactUpsideOf", spec := "fnExactUpsideOf", inPlace := ["internal/abi.NoEscape"], apart := false }
def FnExactUpsideOfSaid : Prop := fnExactUpsideOfRow.holds Try.pinned (OpenSpec.ofChange fnExactUpsideOfSpec)

/-- ITS FALSE NEIGHBOUR: 'it returns false'. Refute it at one input. -/
def fnExactUpsideOfWrong : ChangeSpec := { name := "fnExactUpsideOf", fn := fun _ => fun
  | [d] => { results := [.lit (.bool false)], args := [d] }
  | _ => none }
def FnExactUpsideOfWrongFalsely : Prop := fnExactUpsideOfRow.holds Try.pinned (OpenSpec.ofChange fnExactUpsideOfWrong)

/- THE SECOND FORM. 'bulk': how many values and letters a reading holds, each counted each time it is reached (what is shared counts as often as it is met; a slice's spare places count too). A statement '..UptoSaid' is the law's where the arguments, and the package variables that the reading takes, are together of bulk at most 1048576: NARROWER than '..Said'. Prove '..Said' where nothing that the law and all that it calls make is longer than what came in: it says more and counts as full. Else prove '..UptoSaid'. A law counts once. -/
mutual
def uptoBulk {H : Type} : DataW H → Nat
  | .lit (.string bytes) => bytes.length + 1
  | .lit _ => 1
  | .nil => 1
  | .ptr d => uptoBulk d + 1
  | .slice elems spare => uptoBulkAll elems + uptoBulkAll spare + 1
  | .agg parts => uptoBulkAll parts + 1
  | .iface _ d => uptoBulk d + 1
  | .map entries => uptoBulkEntries entries + 1
  | .held _ => 1
def uptoBulkAll {H : Type} : List (DataW H) → Nat
  | [] => 0
  | d :: r => uptoBulk d + uptoBulkAll r
def uptoBulkEntries {H : Type} : List (Lit × DataW H) → Nat
  | [] => 0
  | x :: r => uptoBulkEntry x + uptoBulkEntries r
def uptoBulkEntry {H : Type} : Lit × DataW H → Nat
  | (.string bytes, d) => bytes.length + uptoBulk d + 1
  | (_, d) => uptoBulk d + 1
 end
def uptoSmall : (H : Type) → List (DataW H) → Bool := fun _ ds => decide (uptoBulkAll ds ≤ 1048576)
def OpenSpec.upto (s : _root_.Go.ChangeSpec) : _root_.Go.OpenSpec := { _root_.Go.OpenSpec.ofChange s with cond := some uptoSmall }

/-- 'laws.FnExactIsReading', WHERE WHAT IT READS IS OF BULK AT MOST 1048576: true; the input reads as it did. -/
def fnExactIsReadingUptoRow : OpenClaim := { program := "ytlkeemnnncnibaa", sum := "7770a60285dc6eb193ba73ace9fc983353545167b4a523621a312dd6fc92d7c3", func := "loop.example/g01395/laws.FnExactIsReading", spec := "fnExactIsReading", apart := false, narrowed := true }
def FnExactIsReadingUptoSaid : Prop := fnExactIsReadingUptoRow.holds Try.pinned (OpenSpec.upto fnExactIsReadingSpec)

/-- 'laws.FnExactMilesTo', WHERE WHAT IT READS IS OF BULK AT MOST 1048576: true; the input reads as it did. -/
def fnExactMilesToUptoRow : OpenClaim := { program := "ytlkeemnnncnibaa", sum := "7770a60285dc6eb193ba73ace9fc983353545167b4a523621a312dd6fc92d7c3", func := "loop.example/g01395/laws.FnExactMilesTo", spec := "fnExactMilesTo", inPlace := ["internal/abi.NoEscape", "internal/bytealg.MakeNoZero"], apart := false, narrowed := true }
def FnExactMilesToUptoSaid : Prop := fnExactMilesToUptoRow.holds Try.pinned (OpenSpec.upto fnExactMilesToSpec)

/-- 'laws.FnExactNextOfKind', WHERE WHAT IT READS IS OF BULK AT MOST 1048576: true; the input reads as it did. -/
def fnExactNextOfKindUptoRow : OpenClaim := { program := "ytlkeemnnncnibaa", sum := "7770a60285dc6eb193ba73ace9fc983353545167b4a523621a312dd6fc92d7c3", func := "loop.example/g01395/laws.FnExactNextOfKind", spec := "fnExactNextOfKind", inPlace := ["internal/bytealg.IndexByteString", "internal/abi.NoEscape"], unfollowed := true, recurses := true, apart := false, narrowed := true }
def FnExactNextOfKindUptoSaid : Prop := fnExactNextOfKindUptoRow.holds Try.pinned (OpenSpec.upto fnExactNextOfKindSpec)

/-- 'laws.FnExactMilesToKind', WHERE WHAT IT READS IS OF BULK AT MOST 1048576: true; the input reads as it did. -/
def fnExactMilesToKindUptoRow : OpenClaim := { program := "ytlkeemnnncnibaa", sum := "7770a60285dc6eb193ba73ace9fc983353545167b4a523621a312dd6fc92d7c3", func := "loop.example/g01395/laws.FnExactMilesToKind", spec := "fnExactMilesToKind", inPlace := ["internal/bytealg.IndexByteString", "internal/abi.NoEscape", "internal/bytealg.MakeNoZero"], unfollowed := true, recurses := true, apart := false, narrowed := true }
def FnExactMilesToKindUptoSaid : Prop := fnExactMilesToKindUptoRow.holds Try.pinned (OpenSpec.upto fnExactMilesToKindSpec)

/-- 'laws.FnExactCountOfKind', WHERE WHAT IT READS IS OF BULK AT MOST 1048576: true; the input reads as it did. -/
def fnExactCountOfKindUptoRow : OpenClaim := { program := "ytlkeemnnncnibaa", sum := "7770a60285dc6eb193ba73ace9fc983353545167b4a523621a312dd6fc92d7c3", func := "loop.example/g01395/laws.FnExactCountOfKind", spec := "fnExactCountOfKind", inPlace := ["internal/bytealg.IndexByteString", "internal/abi.NoEscape"], unfollowed := true, recurses := true, apart := false, narrowed := true }
def FnExactCountOfKindUptoSaid : Prop := fnExactCountOfKindUptoRow.holds Try.pinned (OpenSpec.upto fnExactCountOfKindSpec)

/-- 'laws.FnExactFirstOfKind', WHERE WHAT IT READS IS OF BULK AT MOST 1048576: true; the input reads as it did. -/
def fnExactFirstOfKindUptoRow : OpenClaim := { program := "ytlkeemnnncnibaa", sum := "7770a60285dc6eb193ba73ace9fc983353545167b4a523621a312dd6fc92d7c3", func := "loop.example/g01395/laws.FnExactFirstOfKind", spec := "fnExactFirstOfKind", inPlace := ["internal/bytealg.IndexByteString", "internal/abi.NoEscape"], unfollowed := true, recurses := true, apart := false, narrowed := true }
def FnExactFirstOfKindUptoSaid : Prop := fnExactFirstOfKindUptoRow.holds Try.pinned (OpenSpec.upto fnExactFirstOfKindSpec)

/-- 'laws.FnExactLastOfKind', WHERE WHAT IT READS IS OF BULK AT MOST 1048576: true; the input reads as it did. -/
def fnExactLastOfKindUptoRow : OpenClaim := { program := "ytlkeemnnncnibaa", sum := "7770a60285dc6eb193ba73ace9fc983353545167b4a523621a312dd6fc92d7c3", func := "loop.example/g01395/laws.FnExactLastOfKind", spec := "fnExactLastOfKind", inPlace := ["internal/bytealg.IndexByteString", "internal/abi.NoEscape"], unfollowed := true, recurses := true, apart := false, narrowed := true }
def FnExactLastOfKindUptoSaid : Prop := fnExactLastOfKindUptoRow.holds Try.pinned (OpenSpec.upto fnExactLastOfKindSpec)

/-- 'laws.FnExactMirroredOfRank', WHERE WHAT IT READS IS OF BULK AT MOST 1048576: true; the input reads as it did. -/
def fnExactMirroredOfRankUptoRow : OpenClaim := { program := "ytlkeemnnncnibaa", sum := "7770a60285dc6eb193ba73ace9fc983353545167b4a523621a312dd6fc92d7c3", func := "loop.example/g01395/laws.FnExactMirroredOfRank", spec := "fnExactMirroredOfRank", unfollowed := true, recurses := true, apart := false, narrowed := true }
def FnExactMirroredOfRankUptoSaid : Prop := fnExactMirroredOfRankUptoRow.holds Try.pinned (OpenSpec.upto fnExactMirroredOfRankSpec)

/-- 'laws.FnExactRankOfMirrored', WHERE WHAT IT READS IS OF BULK AT MOST 1048576: true; the input reads as it did. -/
def fnExactRankOfMirroredUptoRow : OpenClaim := { program := "ytlkeemnnncnibaa", sum := "7770a60285dc6eb193ba73ace9fc983353545167b4a523621a312dd6fc92d7c3", func := "loop.example/g01395/laws.FnExactRankOfMirrored", spec := "fnExactRankOfMirrored", unfollowed := true, recurses := true, apart := false, narrowed := true }
def FnExactRankOfMirroredUptoSaid : Prop := fnExactRankOfMirroredUptoRow.holds Try.pinned (OpenSpec.upto fnExactRankOfMirroredSpec)

/-- 'laws.FnExactUpsideOf', WHERE WHAT IT READS IS OF BULK AT MOST 1048576: true; the input reads as it did. -/
def fnExactUpsideOfUptoRow : OpenClaim := { program := "ytlkeemnnncnibaa", sum := "7770a60285dc6eb193ba73ace9fc983353545167b4a523621a312dd6fc92d7c3", func := "loop.example/g01395/laws.FnExactUpsideOf", spec := "fnExactUpsideOf", inPlace := ["internal/abi.NoEscape"], apart := false, narrowed := true }
def FnExactUpsideOfUptoSaid : Prop := fnExactUpsideOfUptoRow.holds Try.pinned (OpenSpec.upto fnExactUpsideOfSpec)

end Rows
end Go.Proofs.Ytlkeemnnncnibaa
