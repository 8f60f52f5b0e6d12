/-
  No cell of these rows narrows 'for every input' (looked for: loops, veiled, ifaces, maps, wideKeys, modest, calm, conditions, laid).
  DERIVED. THE GIVEN ROWS OF THIS SEAT. 8 by the template 'for every input the law returns true; each argument reads behind the call as it read before'; 0 by the template 'total and deterministic' (their statements: YtlkeemnnncnibabTotals.lean).
  GIVEN WITH THE SEED: the statements are not yours to turn. If you find one false, say at which input.
  Laid BY PROGRAM, IN A SANDBOX (cutbox-rows.mjs): the forced cells as the released guide's own fill.sh prints them over the translation ae35299eb58e4f51… (all of the seat's roots in one cut). By AI agents, Wed Nov 11 2026. No macro, syntax, notation, axiom, sorry.
-/
import Derived.Test.YtlkeemnnncnibabChecked
import GoSem.Claim
import GoSem.ClaimJoined
import GoSem.ClaimMapViews
import Derived.JoinedTies
import Derived.KernelRfl
namespace Go.Proofs.Ytlkeemnnncnibab
/- THE CELL 'sum', in the pinned program and in every row, IS THE sha256 OF THE DUMP (.gsa) THAT YtlkeemnnncnibabProg.lean LOADS. Nothing in Lean hashes anything: it is a label: what it is worth is what the hold of that sum in a sandbox is worth. -/
noncomputable def Try.pinned : Pinned := { name := "ytlkeemnnncnibab", sum := "ae35299eb58e4f517801380e9100e7489f6f53cf9dd5551f5ac60448a4352d91", checked := Try.checked }
namespace Rows
def none {H : Type} : Left H := { results := [], args := [] }

/-- 'laws.FnExactDifferentDigits': WHATEVER THE INPUT: true; the input reads as it did. -/
def fnExactDifferentDigitsSpec : ChangeSpec := { name := "fnExactDifferentDigits", fn := fun _ => fun
  | [d] => { results := [.lit (.bool true)], args := [d] }
  | _ => none }
def fnExactDifferentDigitsRow : OpenClaim := { program := "ytlkeemnnncnibab", sum := "ae35299eb58e4f517801380e9100e7489f6f53cf9dd5551f5ac60448a4352d91", func := "loop.example/g01395/laws.FnExactDifferentDigits", spec := "fnExactDifferentDigits", inPlace := ["internal/bytealg.IndexByteString"], apart := false }
def FnExactDifferentDigitsSaid : Prop := fnExactDifferentDigitsRow.holds Try.pinned (OpenSpec.ofChange fnExactDifferentDigitsSpec)

/-- ITS FALSE NEIGHBOUR: 'it returns false'. Refute it at one input. -/
def fnExactDifferentDigitsWrong : ChangeSpec := { name := "fnExactDifferentDigits", fn := fun _ => fun
  | [d] => { results := [.lit (.bool false)], args := [d] }
  | _ => none }
def FnExactDifferentDigitsWrongFalsely : Prop := fnExactDifferentDigitsRow.holds Try.pinned (OpenSpec.ofChange fnExactDifferentDigitsWrong)

/-- 'laws.FnExactMilesToDigits': WHATEVER THE INPUT: true; the input reads as it did. -/
def fnExactMilesToDigitsSpec : ChangeSpec := { name := "fnExactMilesToDigits", fn := fun _ => fun
  | [d1, d2] => { results := [.lit (.bool true)], args := [d1, d2] }
  | _ => none }
def fnExactMilesToDigitsRow : OpenClaim := { program := "ytlkeemnnncnibab", sum := "ae35299eb58e4f517801380e9100e7489f6f53cf9dd5551f5ac60448a4352d91", func := "loop.example/g01395/laws.FnExactMilesToDigits", spec := "fnExactMilesToDigits", inPlace := ["internal/bytealg.IndexByteString", "internal/abi.NoEscape", "internal/bytealg.MakeNoZero"], unfollowed := true, recurses := true, apart := false }
def FnExactMilesToDigitsSaid : Prop := fnExactMilesToDigitsRow.holds Try.pinned (OpenSpec.ofChange fnExactMilesToDigitsSpec)

/-- ITS FALSE NEIGHBOUR: 'it returns false'. Refute it at one input. -/
def fnExactMilesToDigitsWrong : ChangeSpec := { name := "fnExactMilesToDigits", fn := fun _ => fun
  | [d1, d2] => { results := [.lit (.bool false)], args := [d1, d2] }
  | _ => none }
def FnExactMilesToDigitsWrongFalsely : Prop := fnExactMilesToDigitsRow.holds Try.pinned (OpenSpec.ofChange fnExactMilesToDigitsWrong)

/-- 'laws.FnExactGreatestGapMirrored': WHATEVER THE INPUT: true; the input reads as it did. -/
def fnExactGreatestGapMirroredSpec : ChangeSpec := { name := "fnExactGreatestGapMirrored", fn := fun _ => fun
  | [d] => { results := [.lit (.bool true)], args := [d] }
  | _ => none }
def fnExactGreatestGapMirroredRow : OpenClaim := { program := "ytlkeemnnncnibab", sum := "ae35299eb58e4f517801380e9100e7489f6f53cf9dd5551f5ac60448a4352d91", func := "loop.example/g01395/laws.FnExactGreatestGapMirrored", spec := "fnExactGreatestGapMirrored", inPlace := ["internal/abi.NoEscape", "internal/bytealg.MakeNoZero"], unfollowed := true, recurses := true, apart := false }
def FnExactGreatestGapMirroredSaid : Prop := fnExactGreatestGapMirroredRow.holds Try.pinned (OpenSpec.ofChange fnExactGreatestGapMirroredSpec)

/-- ITS FALSE NEIGHBOUR: 'it returns false'. Refute it at one input. -/
def fnExactGreatestGapMirroredWrong : ChangeSpec := { name := "fnExactGreatestGapMirrored", fn := fun _ => fun
  | [d] => { results := [.lit (.bool false)], args := [d] }
  | _ => none }
def FnExactGreatestGapMirroredWrongFalsely : Prop := fnExactGreatestGapMirroredRow.holds Try.pinned (OpenSpec.ofChange fnExactGreatestGapMirroredWrong)

/-- 'laws.FnExactTurnReading': WHATEVER THE INPUT: true; the input reads as it did. -/
def fnExactTurnReadingSpec : ChangeSpec := { name := "fnExactTurnReading", fn := fun _ => fun
  | [d] => { results := [.lit (.bool true)], args := [d] }
  | _ => none }
def fnExactTurnReadingRow : OpenClaim := { program := "ytlkeemnnncnibab", sum := "ae35299eb58e4f517801380e9100e7489f6f53cf9dd5551f5ac60448a4352d91", func := "loop.example/g01395/laws.FnExactTurnReading", spec := "fnExactTurnReading", inPlace := ["internal/abi.NoEscape"], apart := false }
def FnExactTurnReadingSaid : Prop := fnExactTurnReadingRow.holds Try.pinned (OpenSpec.ofChange fnExactTurnReadingSpec)

/-- ITS FALSE NEIGHBOUR: 'it returns false'. Refute it at one input. -/
def fnExactTurnReadingWrong : ChangeSpec := { name := "fnExactTurnReading", fn := fun _ => fun
  | [d] => { results := [.lit (.bool false)], args := [d] }
  | _ => none }
def FnExactTurnReadingWrongFalsely : Prop := fnExactTurnReadingRow.holds Try.pinned (OpenSpec.ofChange fnExactTurnReadingWrong)

/-- 'laws.FnExactNumberOfTicket': WHATEVER THE INPUT: true; the input reads as it did. -/
def fnExactNumberOfTicketSpec : ChangeSpec := { name := "fnExactNumberOfTicket", fn := fun _ => fun
  | [d] => { results := [.lit (.bool true)], args := [d] }
  | _ => none }
def fnExactNumberOfTicketRow : OpenClaim := { program := "ytlkeemnnncnibab", sum := "ae35299eb58e4f517801380e9100e7489f6f53cf9dd5551f5ac60448a4352d91", func := "loop.example/g01395/laws.FnExactNumberOfTicket", spec := "fnExactNumberOfTicket", unfollowed := true, recurses := true, apart := false }
def FnExactNumberOfTicketSaid : Prop := fnExactNumberOfTicketRow.holds Try.pinned (OpenSpec.ofChange fnExactNumberOfTicketSpec)

/-- ITS FALSE NEIGHBOUR: 'it returns false'. Refute it at one input. -/
def fnExactNumberOfTicketWrong : ChangeSpec := { name := "fnExactNumberOfTicket", fn := fun _ => fun
  | [d] => { results := [.lit (.bool false)], args := [d] }
  | _ => none }
def FnExactNumberOfTicketWrongFalsely : Prop := fnExactNumberOfTicketRow.holds Try.pinned (OpenSpec.ofChange fnExactNumberOfTicketWrong)

/-- 'laws.FnExactTurnTicket': WHATEVER THE INPUT: true; the input reads as it did. -/
def fnExactTurnTicketSpec : ChangeSpec := { name := "fnExactTurnTicket", fn := fun _ => fun
  | [d] => { results := [.lit (.bool true)], args := [d] }
  | _ => none }
def fnExactTurnTicketRow : OpenClaim := { program := "ytlkeemnnncnibab", sum := "ae35299eb58e4f517801380e9100e7489f6f53cf9dd5551f5ac60448a4352d91", func := "loop.example/g01395/laws.FnExactTurnTicket", spec := "fnExactTurnTicket", inPlace := ["internal/abi.NoEscape"], unfollowed := true, recurses := true, apart := false }
def FnExactTurnTicketSaid : Prop := fnExactTurnTicketRow.holds Try.pinned (OpenSpec.ofChange fnExactTurnTicketSpec)

/-- ITS FALSE NEIGHBOUR: 'it returns false'. Refute it at one input. -/
def fnExactTurnTicketWrong : ChangeSpec := { name := "fnExactTurnTicket", fn := fun _ => fun
  | [d] => { results := [.lit (.bool false)], args := [d] }
  | _ => none }
def FnExactTurnTicketWrongFalsely : Prop := fnExactTurnTicketRow.holds Try.pinned (OpenSpec.ofChange fnExactTurnTicketWrong)

/-- 'laws.FnExactNinesTicket': WHATEVER THE INPUT: true; the input reads as it did. -/
def fnExactNinesTicketSpec : ChangeSpec := { name := "fnExactNinesTicket", fn := fun _ => fun
  | [d] => { results := [.lit (.bool true)], args := [d] }
  | _ => none }
def fnExactNinesTicketRow : OpenClaim := { program := "ytlkeemnnncnibab", sum := "ae35299eb58e4f517801380e9100e7489f6f53cf9dd5551f5ac60448a4352d91", func := "loop.example/g01395/laws.FnExactNinesTicket", spec := "fnExactNinesTicket", inPlace := ["internal/abi.NoEscape"], unfollowed := true, recurses := true, apart := false }
def FnExactNinesTicketSaid : Prop := fnExactNinesTicketRow.holds Try.pinned (OpenSpec.ofChange fnExactNinesTicketSpec)

/-- ITS FALSE NEIGHBOUR: 'it returns false'. Refute it at one input. -/
def fnExactNinesTicketWrong : ChangeSpec := { name := "fnExactNinesTicket", fn := fun _ => fun
  | [d] => { results := [.lit (.bool false)], args := [d] }
  | _ => none }
def FnExactNinesTicketWrongFalsely : Prop := fnExactNinesTicketRow.holds Try.pinned (OpenSpec.ofChange fnExactNinesTicketWrong)

/-- 'laws.FnExactGapsAround': WHATEVER THE INPUT: true; the input reads as it did. -/
def fnExactGapsAroundSpec : ChangeSpec := { name := "fnExactGapsAround", fn := fun _ => fun
  | [d] => { results := [.lit (.bool true)], args := [d] }
  | _ => none }
def fnExactGapsAroundRow : OpenClaim := { program := "ytlkeemnnncnibab", sum := "ae35299eb58e4f517801380e9100e7489f6f53cf9dd5551f5ac60448a4352d91", func := "loop.example/g01395/laws.FnExactGapsAround", spec := "fnExactGapsAround", inPlace := ["internal/abi.NoEscape"], unfollowed := true, recurses := true, apart := false }
def FnExactGapsAroundSaid : Prop := fnExactGapsAroundRow.holds Try.pinned (OpenSpec.ofChange fnExactGapsAroundSpec)

/-- ITS FALSE NEIGHBOUR: 'it returns false'. Refute it at one input. -/
def fnExactGapsAroundWrong : ChangeSpec := { name := "fnExactGapsAround", fn := fun _ => fun
  | [d] => { results := [.lit (.bool false)], args := [d] }
  | _ => none }
def FnExactGapsAroundWrongFalsely : Prop := fnExactGapsAroundRow.holds Try.pinned (OpenSpec.ofChange fnExactGapsAroundWrong)

/- THE SECOND FORM. 'bulk': how many values and letters a reading holds, each counted each time it is reached (what is shared counts as often as it is met; a slice's spare places count too). A statement '..UptoSaid' is the law's where the arguments, and the package variables that the reading takes, are together of bulk at most 1048576: NARROWER than '..Said'. Prove '..Said' where nothing that the law and all that it calls make is longer than what came in: it says more and counts as full. Else prove '..UptoSaid'. A law counts once. -/
mutual
def uptoBulk {H : Type} : DataW H → Nat
  | .lit (.string bytes) => bytes.length + 1
  | .lit _ => 1
  | .nil => 1
  | .ptr d => uptoBulk d + 1
  | .slice elems spare => uptoBulkAll elems + uptoBulkAll spare + 1
  | .agg parts => uptoBulkAll parts + 1
  | .iface _ d => uptoBulk d + 1
  | .map entries => uptoBulkEntries entries + 1
  | .held _ => 1
def uptoBulkAll {H : Type} : List (DataW H) → Nat
  | [] => 0
  | d :: r => uptoBulk d + uptoBulkAll r
def uptoBulkEntries {H : Type} : List (Lit × DataW H) → Nat
  | [] => 0
  | x :: r => uptoBulkEntry x + uptoBulkEntries r
def uptoBulkEntry {H : Type} : Lit × DataW H → Nat
  | (.string bytes, d) => bytes.length + uptoBulk d + 1
  | (_, d) => uptoBulk d + 1
 end
def uptoSmall : (H : Type) → List (DataW H) → Bool := fun _ ds => decide (uptoBulkAll ds ≤ 1048576)
def OpenSpec.upto (s : _root_.Go.ChangeSpec) : _root_.Go.OpenSpec := { _root_.Go.OpenSpec.ofChange s with cond := some uptoSmall }

/-- 'laws.FnExactDifferentDigits', WHERE WHAT IT READS IS OF BULK AT MOST 1048576: true; the input reads as it did. -/
def fnExactDifferentDigitsUptoRow : OpenClaim := { program := "ytlkeemnnncnibab", sum := "ae35299eb58e4f517801380e9100e7489f6f53cf9dd5551f5ac60448a4352d91", func := "loop.example/g01395/laws.FnExactDifferentDigits", spec := "fnExactDifferentDigits", inPlace := ["internal/bytealg.IndexByteString"], apart := false, narrowed := true }
def FnExactDifferentDigitsUptoSaid : Prop := fnExactDifferentDigitsUptoRow.holds Try.pinned (OpenSpec.upto fnExactDifferentDigitsSpec)

/-- 'laws.FnExactMilesToDigits', WHERE WHAT IT READS IS OF BULK AT MOST 1048576: true; the input reads as it did. -/
def fnExactMilesToDigitsUptoRow : OpenClaim := { program := "ytlkeemnnncnibab", sum := "ae35299eb58e4f517801380e9100e7489f6f53cf9dd5551f5ac60448a4352d91", func := "loop.example/g01395/laws.FnExactMilesToDigits", spec := "fnExactMilesToDigits", inPlace := ["internal/bytealg.IndexByteString", "internal/abi.NoEscape", "internal/bytealg.MakeNoZero"], unfollowed := true, recurses := true, apart := false, narrowed := true }
def FnExactMilesToDigitsUptoSaid : Prop := fnExactMilesToDigitsUptoRow.holds Try.pinned (OpenSpec.upto fnExactMilesToDigitsSpec)

/-- 'laws.FnExactGreatestGapMirrored', WHERE WHAT IT READS IS OF BULK AT MOST 1048576: true; the input reads as it did. -/
def fnExactGreatestGapMirroredUptoRow : OpenClaim := { program := "ytlkeemnnncnibab", sum := "ae35299eb58e4f517801380e9100e7489f6f53cf9dd5551f5ac60448a4352d91", func := "loop.example/g01395/laws.FnExactGreatestGapMirrored", spec := "fnExactGreatestGapMirrored", inPlace := ["internal/abi.NoEscape", "internal/bytealg.MakeNoZero"], unfollowed := true, recurses := true, apart := false, narrowed := true }
def FnExactGreatestGapMirroredUptoSaid : Prop := fnExactGreatestGapMirroredUptoRow.holds Try.pinned (OpenSpec.upto fnExactGreatestGapMirroredSpec)

/-- 'laws.FnExactTurnReading', WHERE WHAT IT READS IS OF BULK AT MOST 1048576: true; the input reads as it did. -/
def fnExactTurnReadingUptoRow : OpenClaim := { program := "ytlkeemnnncnibab", sum := "ae35299eb58e4f517801380e9100e7489f6f53cf9dd5551f5ac60448a4352d91", func := "loop.example/g01395/laws.FnExactTurnReading", spec := "fnExactTurnReading", inPlace := ["internal/abi.NoEscape"], apart := false, narrowed := true }
def FnExactTurnReadingUptoSaid : Prop := fnExactTurnReadingUptoRow.holds Try.pinned (OpenSpec.upto fnExactTurnReadingSpec)

/-- 'laws.FnExactNumberOfTicket', WHERE WHAT IT READS IS OF BULK AT MOST 1048576: true; the input reads as it did. -/
def fnExactNumberOfTicketUptoRow : OpenClaim := { program := "ytlkeemnnncnibab", sum := "ae35299eb58e4f517801380e9100e7489f6f53cf9dd5551f5ac60448a4352d91", func := "loop.example/g01395/laws.FnExactNumberOfTicket", spec := "fnExactNumberOfTicket", unfollowed := true, recurses := true, apart := false, narrowed := true }
def FnExactNumberOfTicketUptoSaid : Prop := fnExactNumberOfTicketUptoRow.holds Try.pinned (OpenSpec.upto fnExactNumberOfTicketSpec)

/-- 'laws.FnExactTurnTicket', WHERE WHAT IT READS IS OF BULK AT MOST 1048576: true; the input reads as it did. -/
def fnExactTurnTicketUptoRow : OpenClaim := { program := "ytlkeemnnncnibab", sum := "ae35299eb58e4f517801380e9100e7489f6f53cf9dd5551f5ac60448a4352d91", func := "loop.example/g01395/laws.FnExactTurnTicket", spec := "fnExactTurnTicket", inPlace := ["internal/abi.NoEscape"], unfollowed := true, recurses := true, apart := false, narrowed := true }
def FnExactTurnTicketUptoSaid : Prop := fnExactTurnTicketUptoRow.holds Try.pinned (OpenSpec.upto fnExactTurnTicketSpec)

/-- 'laws.FnExactNinesTicket', WHERE WHAT IT READS IS OF BULK AT MOST 1048576: true; the input reads as it did. -/
def fnExactNinesTicketUptoRow : OpenClaim := { program := "ytlkeemnnncnibab", sum := "ae35299eb58e4f517801380e9100e7489f6f53cf9dd5551f5ac60448a4352d91", func := "loop.example/g01395/laws.FnExactNinesTicket", spec := "fnExactNinesTicket", inPlace := ["internal/abi.NoEscape"], unfollowed := true, recurses := true, apart := false, narrowed := true }
def FnExactNinesTicketUptoSaid : Prop := fnExactNinesTicketUptoRow.holds Try.pinned (OpenSpec.upto fnExactNinesTicketSpec)

/-- 'laws.FnExactGapsAround', WHERE WHAT IT READS IS OF BULK AT MOST 1048576: true; the input reads as it did. -/
def fnExactGapsAroundUptoRow : OpenClaim := { program := "ytlkeemnnncnibab", sum := "ae35299eb58e4f517801380e9100e7489f6f53cf9dd5551f5ac60448a4352d91", func := "loop.example/g01395/laws.FnExactGapsAround", spec := "fnExactGapsAround", inPlace := ["internal/abi.NoEscape"], unfollowed := true, recurses := true, apart := false, narrowed := true }
def FnExactGapsAroundUptoSaid : Prop := fnExactGapsAroundUptoRow.holds Try.pinned (OpenSpec.upto fnExactGapsAroundSpec)

end Rows
end Go.Proofs.Ytlkeemnnncnibab
