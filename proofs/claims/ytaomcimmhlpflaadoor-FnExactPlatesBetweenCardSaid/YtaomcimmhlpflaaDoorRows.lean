/-
  NARROWER THAN 'FOR EVERY INPUT', by the rows' own cells (each row's printed sentence says how): FnExactBarSign: laid · FnExactCountPlates: laid · FnExactFirstPlate: laid · FnExactRankOfPlate: laid · FnExactPlateOfRank: laid · FnExactPlatesBetween: laid · FnExactCountBeginning: laid · FnExactCountSpoiled: laid.
  DERIVED. THE GIVEN ROWS OF THIS SEAT. 8 by the template 'for every input the law returns true; each argument reads behind the call as it read before'; 0 by the template 'total and deterministic' (their statements: YtaomcimmhlpflaaDoorTotals.lean).
  GIVEN WITH THE SEED: the statements are not yours to turn. If you find one false, say at which input.
  Laid BY PROGRAM, IN A SANDBOX (cutbox-rows.mjs): the forced cells as the released guide's own fill.sh prints them over the translation acd5cfa735e8c6b5… (all of the seat's roots in one cut). By AI agents, Wed Nov 11 2026. No macro, syntax, notation, axiom, sorry.
-/
import Derived.Test.YtaomcimmhlpflaaDoorChecked
import GoSem.PinnedTables
import GoSem.Claim
import GoSem.ClaimJoined
import GoSem.ClaimMapViews
import Derived.JoinedTies
import Derived.KernelRfl
namespace Go.Proofs.YtaomcimmhlpflaaDoor
/- THE CELL 'sum', in the pinned program and in every row, IS THE sha256 OF THE DUMP (.gsa) THAT YtaomcimmhlpflaaDoorProg.lean LOADS. Nothing in Lean hashes anything: it is a label: what it is worth is what the hold of that sum in a sandbox is worth. -/
noncomputable def Tryd.pinned : Pinned := { name := "ytaomcimmhlpflaadoor", sum := "acd5cfa735e8c6b530163a0c2a2e9dc71369920fb105be487e3935d01c7d07dd", checked := Tryd.checked }
namespace Rows
def none {H : Type} : Left H := { results := [], args := [] }

/- WHAT THE LISTED PACKAGE-LEVEL VARIABLES READ AS WHEN THE CALL BEGINS. Each datum BY PROGRAM (the guide's laid-datum.mjs) off the statement by which the dump's own 'gosem.cut.vars' lays the variable. In a bare row this is a premise. The card (YtaomcimmhlpflaaDoorCards.lean) ties it to the program's text. -/
def laid_unicode_utf8_acceptRanges {H : Type} : DataW H := .agg [.agg [.lit (.int .u8 128), .lit (.int .u8 191)], .agg [.lit (.int .u8 160), .lit (.int .u8 191)], .agg [.lit (.int .u8 128), .lit (.int .u8 159)], .agg [.lit (.int .u8 144), .lit (.int .u8 191)], .agg [.lit (.int .u8 128), .lit (.int .u8 143)], .agg [.lit (.int .u8 0), .lit (.int .u8 0)], .agg [.lit (.int .u8 0), .lit (.int .u8 0)], .agg [.lit (.int .u8 0), .lit (.int .u8 0)], .agg [.lit (.int .u8 0), .lit (.int .u8 0)], .agg [.lit (.int .u8 0), .lit (.int .u8 0)], .agg [.lit (.int .u8 0), .lit (.int .u8 0)], .agg [.lit (.int .u8 0), .lit (.int .u8 0)], .agg [.lit (.int .u8 0), .lit (.int .u8 0)], .agg [.lit (.int .u8 0), .lit (.int .u8 0)], .agg [.lit (.int .u8 0), .lit (.int .u8 0)], .agg [.lit (.int .u8 0), .lit (.int .u8 0)]]
/-- One of Go's own tables, pinned by name: the form's constant. -/
def laid_unicode_utf8_first : DataW Unit := Go.Pinned.utf8First

/-- 'laws.FnExactBarSign': WHATEVER THE INPUT: true; the input reads as it did. -/
def fnExactBarSignSpec : ChangeSpec := { name := "fnExactBarSign", fn := fun _ => fun
  | [d1, d2] => { results := [.lit (.bool true)], args := [d1, d2] }
  | _ => none }
def fnExactBarSignRow : OpenClaim := { program := "ytaomcimmhlpflaadoor", sum := "acd5cfa735e8c6b530163a0c2a2e9dc71369920fb105be487e3935d01c7d07dd", func := "loop.example/g01395/laws.FnExactBarSign", spec := "fnExactBarSign", inPlace := ["internal/bytealg.IndexByteString", "internal/bytealg.IndexString"], unfollowed := true, recurses := true, named := ["unicode/utf8.first", "unicode/utf8.acceptRanges", "internal/bytealg.MaxLen"], apart := false, laid := [("unicode/utf8.acceptRanges", laid_unicode_utf8_acceptRanges), ("unicode/utf8.first", laid_unicode_utf8_first)] }
def FnExactBarSignSaid : Prop := fnExactBarSignRow.holds Tryd.pinned (OpenSpec.ofChange fnExactBarSignSpec)

/-- ITS FALSE NEIGHBOUR: 'it returns false'. Refute it at one input. -/
def fnExactBarSignWrong : ChangeSpec := { name := "fnExactBarSign", fn := fun _ => fun
  | [d1, d2] => { results := [.lit (.bool false)], args := [d1, d2] }
  | _ => none }
def FnExactBarSignWrongFalsely : Prop := fnExactBarSignRow.holds Tryd.pinned (OpenSpec.ofChange fnExactBarSignWrong)

/-- 'laws.FnExactCountPlates': WHATEVER THE INPUT: true; the input reads as it did. -/
def fnExactCountPlatesSpec : ChangeSpec := { name := "fnExactCountPlates", fn := fun _ => fun
  | [d] => { results := [.lit (.bool true)], args := [d] }
  | _ => none }
def fnExactCountPlatesRow : OpenClaim := { program := "ytaomcimmhlpflaadoor", sum := "acd5cfa735e8c6b530163a0c2a2e9dc71369920fb105be487e3935d01c7d07dd", func := "loop.example/g01395/laws.FnExactCountPlates", spec := "fnExactCountPlates", inPlace := ["internal/bytealg.IndexByteString", "internal/bytealg.IndexString", "internal/abi.NoEscape"], unfollowed := true, recurses := true, named := ["unicode/utf8.first", "unicode/utf8.acceptRanges", "internal/bytealg.MaxLen"], apart := false, laid := [("unicode/utf8.acceptRanges", laid_unicode_utf8_acceptRanges), ("unicode/utf8.first", laid_unicode_utf8_first)] }
def FnExactCountPlatesSaid : Prop := fnExactCountPlatesRow.holds Tryd.pinned (OpenSpec.ofChange fnExactCountPlatesSpec)

/-- ITS FALSE NEIGHBOUR: 'it returns false'. Refute it at one input. -/
def fnExactCountPlatesWrong : ChangeSpec := { name := "fnExactCountPlates", fn := fun _ => fun
  | [d] => { results := [.lit (.bool false)], args := [d] }
  | _ => none }
def FnExactCountPlatesWrongFalsely : Prop := fnExactCountPlatesRow.holds Tryd.pinned (OpenSpec.ofChange fnExactCountPlatesWrong)

/-- 'laws.FnExactFirstPlate': WHATEVER THE INPUT: true; the input reads as it did. -/
def fnExactFirstPlateSpec : ChangeSpec := { name := "fnExactFirstPlate", fn := fun _ => fun
  | [d] => { results := [.lit (.bool true)], args := [d] }
  | _ => none }
def fnExactFirstPlateRow : OpenClaim := { program := "ytaomcimmhlpflaadoor", sum := "acd5cfa735e8c6b530163a0c2a2e9dc71369920fb105be487e3935d01c7d07dd", func := "loop.example/g01395/laws.FnExactFirstPlate", spec := "fnExactFirstPlate", inPlace := ["internal/bytealg.IndexByteString", "internal/bytealg.IndexString", "internal/abi.NoEscape"], unfollowed := true, recurses := true, named := ["unicode/utf8.first", "unicode/utf8.acceptRanges", "internal/bytealg.MaxLen"], apart := false, laid := [("unicode/utf8.acceptRanges", laid_unicode_utf8_acceptRanges), ("unicode/utf8.first", laid_unicode_utf8_first)] }
def FnExactFirstPlateSaid : Prop := fnExactFirstPlateRow.holds Tryd.pinned (OpenSpec.ofChange fnExactFirstPlateSpec)

/-- ITS FALSE NEIGHBOUR: 'it returns false'. Refute it at one input. -/
def fnExactFirstPlateWrong : ChangeSpec := { name := "fnExactFirstPlate", fn := fun _ => fun
  | [d] => { results := [.lit (.bool false)], args := [d] }
  | _ => none }
def FnExactFirstPlateWrongFalsely : Prop := fnExactFirstPlateRow.holds Tryd.pinned (OpenSpec.ofChange fnExactFirstPlateWrong)

/-- 'laws.FnExactRankOfPlate': WHATEVER THE INPUT: true; the input reads as it did. -/
def fnExactRankOfPlateSpec : ChangeSpec := { name := "fnExactRankOfPlate", fn := fun _ => fun
  | [d1, d2] => { results := [.lit (.bool true)], args := [d1, d2] }
  | _ => none }
def fnExactRankOfPlateRow : OpenClaim := { program := "ytaomcimmhlpflaadoor", sum := "acd5cfa735e8c6b530163a0c2a2e9dc71369920fb105be487e3935d01c7d07dd", func := "loop.example/g01395/laws.FnExactRankOfPlate", spec := "fnExactRankOfPlate", inPlace := ["internal/bytealg.IndexByteString", "internal/bytealg.IndexString", "internal/abi.NoEscape"], unfollowed := true, recurses := true, named := ["unicode/utf8.first", "unicode/utf8.acceptRanges", "internal/bytealg.MaxLen"], apart := false, laid := [("unicode/utf8.acceptRanges", laid_unicode_utf8_acceptRanges), ("unicode/utf8.first", laid_unicode_utf8_first)] }
def FnExactRankOfPlateSaid : Prop := fnExactRankOfPlateRow.holds Tryd.pinned (OpenSpec.ofChange fnExactRankOfPlateSpec)

/-- ITS FALSE NEIGHBOUR: 'it returns false'. Refute it at one input. -/
def fnExactRankOfPlateWrong : ChangeSpec := { name := "fnExactRankOfPlate", fn := fun _ => fun
  | [d1, d2] => { results := [.lit (.bool false)], args := [d1, d2] }
  | _ => none }
def FnExactRankOfPlateWrongFalsely : Prop := fnExactRankOfPlateRow.holds Tryd.pinned (OpenSpec.ofChange fnExactRankOfPlateWrong)

/-- 'laws.FnExactPlateOfRank': WHATEVER THE INPUT: true; the input reads as it did. -/
def fnExactPlateOfRankSpec : ChangeSpec := { name := "fnExactPlateOfRank", fn := fun _ => fun
  | [d1, d2] => { results := [.lit (.bool true)], args := [d1, d2] }
  | _ => none }
def fnExactPlateOfRankRow : OpenClaim := { program := "ytaomcimmhlpflaadoor", sum := "acd5cfa735e8c6b530163a0c2a2e9dc71369920fb105be487e3935d01c7d07dd", func := "loop.example/g01395/laws.FnExactPlateOfRank", spec := "fnExactPlateOfRank", inPlace := ["internal/bytealg.IndexByteString", "internal/bytealg.IndexString", "internal/abi.NoEscape"], unfollowed := true, recurses := true, named := ["unicode/utf8.first", "unicode/utf8.acceptRanges", "internal/bytealg.MaxLen"], apart := false, laid := [("unicode/utf8.acceptRanges", laid_unicode_utf8_acceptRanges), ("unicode/utf8.first", laid_unicode_utf8_first)] }
def FnExactPlateOfRankSaid : Prop := fnExactPlateOfRankRow.holds Tryd.pinned (OpenSpec.ofChange fnExactPlateOfRankSpec)

/-- ITS FALSE NEIGHBOUR: 'it returns false'. Refute it at one input. -/
def fnExactPlateOfRankWrong : ChangeSpec := { name := "fnExactPlateOfRank", fn := fun _ => fun
  | [d1, d2] => { results := [.lit (.bool false)], args := [d1, d2] }
  | _ => none }
def FnExactPlateOfRankWrongFalsely : Prop := fnExactPlateOfRankRow.holds Tryd.pinned (OpenSpec.ofChange fnExactPlateOfRankWrong)

/-- 'laws.FnExactPlatesBetween': WHATEVER THE INPUT: true; the input reads as it did. -/
def fnExactPlatesBetweenSpec : ChangeSpec := { name := "fnExactPlatesBetween", fn := fun _ => fun
  | [d1, d2, d3] => { results := [.lit (.bool true)], args := [d1, d2, d3] }
  | _ => none }
def fnExactPlatesBetweenRow : OpenClaim := { program := "ytaomcimmhlpflaadoor", sum := "acd5cfa735e8c6b530163a0c2a2e9dc71369920fb105be487e3935d01c7d07dd", func := "loop.example/g01395/laws.FnExactPlatesBetween", spec := "fnExactPlatesBetween", inPlace := ["internal/bytealg.IndexByteString", "internal/bytealg.IndexString", "internal/abi.NoEscape"], unfollowed := true, recurses := true, named := ["unicode/utf8.first", "unicode/utf8.acceptRanges", "internal/bytealg.MaxLen"], apart := false, laid := [("unicode/utf8.acceptRanges", laid_unicode_utf8_acceptRanges), ("unicode/utf8.first", laid_unicode_utf8_first)] }
def FnExactPlatesBetweenSaid : Prop := fnExactPlatesBetweenRow.holds Tryd.pinned (OpenSpec.ofChange fnExactPlatesBetweenSpec)

/-- ITS FALSE NEIGHBOUR: 'it returns false'. Refute it at one input. -/
def fnExactPlatesBetweenWrong : ChangeSpec := { name := "fnExactPlatesBetween", fn := fun _ => fun
  | [d1, d2, d3] => { results := [.lit (.bool false)], args := [d1, d2, d3] }
  | _ => none }
def FnExactPlatesBetweenWrongFalsely : Prop := fnExactPlatesBetweenRow.holds Tryd.pinned (OpenSpec.ofChange fnExactPlatesBetweenWrong)

/-- 'laws.FnExactCountBeginning': WHATEVER THE INPUT: true; the input reads as it did. -/
def fnExactCountBeginningSpec : ChangeSpec := { name := "fnExactCountBeginning", fn := fun _ => fun
  | [d1, d2] => { results := [.lit (.bool true)], args := [d1, d2] }
  | _ => none }
def fnExactCountBeginningRow : OpenClaim := { program := "ytaomcimmhlpflaadoor", sum := "acd5cfa735e8c6b530163a0c2a2e9dc71369920fb105be487e3935d01c7d07dd", func := "loop.example/g01395/laws.FnExactCountBeginning", spec := "fnExactCountBeginning", inPlace := ["internal/bytealg.IndexByteString", "internal/bytealg.IndexString", "internal/abi.NoEscape"], unfollowed := true, recurses := true, named := ["unicode/utf8.first", "unicode/utf8.acceptRanges", "internal/bytealg.MaxLen"], apart := false, laid := [("unicode/utf8.acceptRanges", laid_unicode_utf8_acceptRanges), ("unicode/utf8.first", laid_unicode_utf8_first)] }
def FnExactCountBeginningSaid : Prop := fnExactCountBeginningRow.holds Tryd.pinned (OpenSpec.ofChange fnExactCountBeginningSpec)

/-- ITS FALSE NEIGHBOUR: 'it returns false'. Refute it at one input. -/
def fnExactCountBeginningWrong : ChangeSpec := { name := "fnExactCountBeginning", fn := fun _ => fun
  | [d1, d2] => { results := [.lit (.bool false)], args := [d1, d2] }
  | _ => none }
def FnExactCountBeginningWrongFalsely : Prop := fnExactCountBeginningRow.holds Tryd.pinned (OpenSpec.ofChange fnExactCountBeginningWrong)

/-- 'laws.FnExactCountSpoiled': WHATEVER THE INPUT: true; the input reads as it did. -/
def fnExactCountSpoiledSpec : ChangeSpec := { name := "fnExactCountSpoiled", fn := fun _ => fun
  | [d] => { results := [.lit (.bool true)], args := [d] }
  | _ => none }
def fnExactCountSpoiledRow : OpenClaim := { program := "ytaomcimmhlpflaadoor", sum := "acd5cfa735e8c6b530163a0c2a2e9dc71369920fb105be487e3935d01c7d07dd", func := "loop.example/g01395/laws.FnExactCountSpoiled", spec := "fnExactCountSpoiled", inPlace := ["internal/bytealg.IndexByteString", "internal/bytealg.IndexString", "internal/abi.NoEscape"], unfollowed := true, recurses := true, named := ["unicode/utf8.first", "unicode/utf8.acceptRanges", "internal/bytealg.MaxLen"], apart := false, laid := [("unicode/utf8.acceptRanges", laid_unicode_utf8_acceptRanges), ("unicode/utf8.first", laid_unicode_utf8_first)] }
def FnExactCountSpoiledSaid : Prop := fnExactCountSpoiledRow.holds Tryd.pinned (OpenSpec.ofChange fnExactCountSpoiledSpec)

/-- ITS FALSE NEIGHBOUR: 'it returns false'. Refute it at one input. -/
def fnExactCountSpoiledWrong : ChangeSpec := { name := "fnExactCountSpoiled", fn := fun _ => fun
  | [d] => { results := [.lit (.bool false)], args := [d] }
  | _ => none }
def FnExactCountSpoiledWrongFalsely : Prop := fnExactCountSpoiledRow.holds Tryd.pinned (OpenSpec.ofChange fnExactCountSpoiledWrong)

/- THE SECOND FORM. 'bulk': how many values and letters a reading holds, each counted each time it is reached (what is shared counts as often as it is met; a slice's spare places count too). A statement '..UptoSaid' is the law's where the arguments, and the package variables that the reading takes, are together of bulk at most 1048576: NARROWER than '..Said'. Prove '..Said' where nothing that the law and all that it calls make is longer than what came in: it says more and counts as full. Else prove '..UptoSaid'. A law counts once. -/
mutual
def uptoBulk {H : Type} : DataW H → Nat
  | .lit (.string bytes) => bytes.length + 1
  | .lit _ => 1
  | .nil => 1
  | .ptr d => uptoBulk d + 1
  | .slice elems spare => uptoBulkAll elems + uptoBulkAll spare + 1
  | .agg parts => uptoBulkAll parts + 1
  | .iface _ d => uptoBulk d + 1
  | .map entries => uptoBulkEntries entries + 1
  | .held _ => 1
def uptoBulkAll {H : Type} : List (DataW H) → Nat
  | [] => 0
  | d :: r => uptoBulk d + uptoBulkAll r
def uptoBulkEntries {H : Type} : List (Lit × DataW H) → Nat
  | [] => 0
  | x :: r => uptoBulkEntry x + uptoBulkEntries r
def uptoBulkEntry {H : Type} : Lit × DataW H → Nat
  | (.string bytes, d) => bytes.length + uptoBulk d + 1
  | (_, d) => uptoBulk d + 1
 end
def uptoSmall : (H : Type) → List (DataW H) → Bool := fun _ ds => decide (uptoBulkAll ds ≤ 1048576)
def OpenSpec.upto (s : _root_.Go.ChangeSpec) : _root_.Go.OpenSpec := { _root_.Go.OpenSpec.ofChange s with cond := some uptoSmall }

/-- 'laws.FnExactBarSign', WHERE WHAT IT READS IS OF BULK AT MOST 1048576: true; the input reads as it did. -/
def fnExactBarSignUptoRow : OpenClaim := { program := "ytaomcimmhlpflaadoor", sum := "acd5cfa735e8c6b530163a0c2a2e9dc71369920fb105be487e3935d01c7d07dd", func := "loop.example/g01395/laws.FnExactBarSign", spec := "fnExactBarSign", inPlace := ["internal/bytealg.IndexByteString", "internal/bytealg.IndexString"], unfollowed := true, recurses := true, named := ["unicode/utf8.first", "unicode/utf8.acceptRanges", "internal/bytealg.MaxLen"], apart := false, laid := [("unicode/utf8.acceptRanges", laid_unicode_utf8_acceptRanges), ("unicode/utf8.first", laid_unicode_utf8_first)], narrowed := true }
def FnExactBarSignUptoSaid : Prop := fnExactBarSignUptoRow.holds Tryd.pinned (OpenSpec.upto fnExactBarSignSpec)

/-- 'laws.FnExactCountPlates', WHERE WHAT IT READS IS OF BULK AT MOST 1048576: true; the input reads as it did. -/
def fnExactCountPlatesUptoRow : OpenClaim := { program := "ytaomcimmhlpflaadoor", sum := "acd5cfa735e8c6b530163a0c2a2e9dc71369920fb105be487e3935d01c7d07dd", func := "loop.example/g01395/laws.FnExactCountPlates", spec := "fnExactCountPlates", inPlace := ["internal/bytealg.IndexByteString", "internal/bytealg.IndexString", "internal/abi.NoEscape"], unfollowed := true, recurses := true, named := ["unicode/utf8.first", "unicode/utf8.acceptRanges", "internal/bytealg.MaxLen"], apart := false, laid := [("unicode/utf8.acceptRanges", laid_unicode_utf8_acceptRanges), ("unicode/utf8.first", laid_unicode_utf8_first)], narrowed := true }
def FnExactCountPlatesUptoSaid : Prop := fnExactCountPlatesUptoRow.holds Tryd.pinned (OpenSpec.upto fnExactCountPlatesSpec)

/-- 'laws.FnExactFirstPlate', WHERE WHAT IT READS IS OF BULK AT MOST 1048576: true; the input reads as it did. -/
def fnExactFirstPlateUptoRow : OpenClaim := { program := "ytaomcimmhlpflaadoor", sum := "acd5cfa735e8c6b530163a0c2a2e9dc71369920fb105be487e3935d01c7d07dd", func := "loop.example/g01395/laws.FnExactFirstPlate", spec := "fnExactFirstPlate", inPlace := ["internal/bytealg.IndexByteString", "internal/bytealg.IndexString", "internal/abi.NoEscape"], unfollowed := true, recurses := true, named := ["unicode/utf8.first", "unicode/utf8.acceptRanges", "internal/bytealg.MaxLen"], apart := false, laid := [("unicode/utf8.acceptRanges", laid_unicode_utf8_acceptRanges), ("unicode/utf8.first", laid_unicode_utf8_first)], narrowed := true }
def FnExactFirstPlateUptoSaid : Prop := fnExactFirstPlateUptoRow.holds Tryd.pinned (OpenSpec.upto fnExactFirstPlateSpec)

/-- 'laws.FnExactRankOfPlate', WHERE WHAT IT READS IS OF BULK AT MOST 1048576: true; the input reads as it did. -/
def fnExactRankOfPlateUptoRow : OpenClaim := { program := "ytaomcimmhlpflaadoor", sum := "acd5cfa735e8c6b530163a0c2a2e9dc71369920fb105be487e3935d01c7d07dd", func := "loop.example/g01395/laws.FnExactRankOfPlate", spec := "fnExactRankOfPlate", inPlace := ["internal/bytealg.IndexByteString", "internal/bytealg.IndexString", "internal/abi.NoEscape"], unfollowed := true, recurses := true, named := ["unicode/utf8.first", "unicode/utf8.acceptRanges", "internal/bytealg.MaxLen"], apart := false, laid := [("unicode/utf8.acceptRanges", laid_unicode_utf8_acceptRanges), ("unicode/utf8.first", laid_unicode_utf8_first)], narrowed := true }
def FnExactRankOfPlateUptoSaid : Prop := fnExactRankOfPlateUptoRow.holds Tryd.pinned (OpenSpec.upto fnExactRankOfPlateSpec)

/-- 'laws.FnExactPlateOfRank', WHERE WHAT IT READS IS OF BULK AT MOST 1048576: true; the input reads as it did. -/
def fnExactPlateOfRankUptoRow : OpenClaim := { program := "ytaomcimmhlpflaadoor", sum := "acd5cfa735e8c6b530163a0c2a2e9dc71369920fb105be487e3935d01c7d07dd", func := "loop.example/g01395/laws.FnExactPlateOfRank", spec := "fnExactPlateOfRank", inPlace := ["internal/bytealg.IndexByteString", "internal/bytealg.IndexString", "internal/abi.NoEscape"], unfollowed := true, recurses := true, named := ["unicode/utf8.first", "unicode/utf8.acceptRanges", "internal/bytealg.MaxLen"], apart := false, laid := [("unicode/utf8.acceptRanges", laid_unicode_utf8_acceptRanges), ("unicode/utf8.first", laid_unicode_utf8_first)], narrowed := true }
def FnExactPlateOfRankUptoSaid : Prop := fnExactPlateOfRankUptoRow.holds Tryd.pinned (OpenSpec.upto fnExactPlateOfRankSpec)

/-- 'laws.FnExactPlatesBetween', WHERE WHAT IT READS IS OF BULK AT MOST 1048576: true; the input reads as it did. -/
def fnExactPlatesBetweenUptoRow : OpenClaim := { program := "ytaomcimmhlpflaadoor", sum := "acd5cfa735e8c6b530163a0c2a2e9dc71369920fb105be487e3935d01c7d07dd", func := "loop.example/g01395/laws.FnExactPlatesBetween", spec := "fnExactPlatesBetween", inPlace := ["internal/bytealg.IndexByteString", "internal/bytealg.IndexString", "internal/abi.NoEscape"], unfollowed := true, recurses := true, named := ["unicode/utf8.first", "unicode/utf8.acceptRanges", "internal/bytealg.MaxLen"], apart := false, laid := [("unicode/utf8.acceptRanges", laid_unicode_utf8_acceptRanges), ("unicode/utf8.first", laid_unicode_utf8_first)], narrowed := true }
def FnExactPlatesBetweenUptoSaid : Prop := fnExactPlatesBetweenUptoRow.holds Tryd.pinned (OpenSpec.upto fnExactPlatesBetweenSpec)

/-- 'laws.FnExactCountBeginning', WHERE WHAT IT READS IS OF BULK AT MOST 1048576: true; the input reads as it did. -/
def fnExactCountBeginningUptoRow : OpenClaim := { program := "ytaomcimmhlpflaadoor", sum := "acd5cfa735e8c6b530163a0c2a2e9dc71369920fb105be487e3935d01c7d07dd", func := "loop.example/g01395/laws.FnExactCountBeginning", spec := "fnExactCountBeginning", inPlace := ["internal/bytealg.IndexByteString", "internal/bytealg.IndexString", "internal/abi.NoEscape"], unfollowed := true, recurses := true, named := ["unicode/utf8.first", "unicode/utf8.acceptRanges", "internal/bytealg.MaxLen"], apart := false, laid := [("unicode/utf8.acceptRanges", laid_unicode_utf8_acceptRanges), ("unicode/utf8.first", laid_unicode_utf8_first)], narrowed := true }
def FnExactCountBeginningUptoSaid : Prop := fnExactCountBeginningUptoRow.holds Tryd.pinned (OpenSpec.upto fnExactCountBeginningSpec)

/-- 'laws.FnExactCountSpoiled', WHERE WHAT IT READS IS OF BULK AT MOST 1048576: true; the input reads as it did. -/
def fnExactCountSpoiledUptoRow : OpenClaim := { program := "ytaomcimmhlpflaadoor", sum := "acd5cfa735e8c6b530163a0c2a2e9dc71369920fb105be487e3935d01c7d07dd", func := "loop.example/g01395/laws.FnExactCountSpoiled", spec := "fnExactCountSpoiled", inPlace := ["internal/bytealg.IndexByteString", "internal/bytealg.IndexString", "internal/abi.NoEscape"], unfollowed := true, recurses := true, named := ["unicode/utf8.first", "unicode/utf8.acceptRanges", "internal/bytealg.MaxLen"], apart := false, laid := [("unicode/utf8.acceptRanges", laid_unicode_utf8_acceptRanges), ("unicode/utf8.first", laid_unicode_utf8_first)], narrowed := true }
def FnExactCountSpoiledUptoSaid : Prop := fnExactCountSpoiledUptoRow.holds Tryd.pinned (OpenSpec.upto fnExactCountSpoiledSpec)

end Rows
end Go.Proofs.YtaomcimmhlpflaaDoor
