/-
  No cell of these rows narrows 'for every input' (looked for: loops, veiled, ifaces, maps, wideKeys, modest, calm, conditions, laid).
  DERIVED. THE GIVEN ROWS OF THIS SEAT. 7 by the template 'for every input the law returns true; each argument reads behind the call as it read before'; 0 by the template 'total and deterministic' (their statements: YtdgdjgefjhkpbaaTotals.lean).
  GIVEN WITH THE SEED: the statements are not yours to turn. If you find one false, say at which input.
  Laid BY PROGRAM, IN A SANDBOX (cutbox-rows.mjs): the forced cells as the released guide's own fill.sh prints them over the translation 64f429687ad3a835… (all of the seat's roots in one cut). By AI agents, Wed Nov 11 2026. No macro, syntax, notation, axiom, sorry.
-/
import Derived.Test.YtdgdjgefjhkpbaaChecked
import GoSem.Claim
import GoSem.ClaimJoined
import GoSem.ClaimMapViews
import Derived.JoinedTies
import Derived.KernelRfl
namespace Go.Proofs.Ytdgdjgefjhkpbaa
/- THE CELL 'sum', in the pinned program and in every row, IS THE sha256 OF THE DUMP (.gsa) THAT YtdgdjgefjhkpbaaProg.lean LOADS. Nothing in Lean hashes anything: it is a label: what it is worth is what the hold of that sum in a sandbox is worth. -/
noncomputable def Try.pinned : Pinned := { name := "ytdgdjgefjhkpbaa", sum := "64f429687ad3a83594d53887907165ee4ceebdd8992064a3856d584448248339", checked := Try.checked }
namespace Rows
def none {H : Type} : Left H := { results := [], args := [] }

/-- 'laws.FnExactDigitsWritten': WHATEVER THE INPUT: true; the input reads as it did. -/
def fnExactDigitsWrittenSpec : ChangeSpec := { name := "fnExactDigitsWritten", fn := fun _ => fun
  | [d] => { results := [.lit (.bool true)], args := [d] }
  | _ => none }
def fnExactDigitsWrittenRow : OpenClaim := { program := "ytdgdjgefjhkpbaa", sum := "64f429687ad3a83594d53887907165ee4ceebdd8992064a3856d584448248339", func := "loop.example/g01395/laws.FnExactDigitsWritten", spec := "fnExactDigitsWritten", unfollowed := true, recurses := true, apart := false }
def FnExactDigitsWrittenSaid : Prop := fnExactDigitsWrittenRow.holds Try.pinned (OpenSpec.ofChange fnExactDigitsWrittenSpec)

/-- ITS FALSE NEIGHBOUR: 'it returns false'. Refute it at one input. -/
def fnExactDigitsWrittenWrong : ChangeSpec := { name := "fnExactDigitsWritten", fn := fun _ => fun
  | [d] => { results := [.lit (.bool false)], args := [d] }
  | _ => none }
def FnExactDigitsWrittenWrongFalsely : Prop := fnExactDigitsWrittenRow.holds Try.pinned (OpenSpec.ofChange fnExactDigitsWrittenWrong)

/-- 'laws.FnExactLastWritten': WHATEVER THE INPUT: true; the input reads as it did. -/
def fnExactLastWrittenSpec : ChangeSpec := { name := "fnExactLastWritten", fn := fun _ => fun
  | [d] => { results := [.lit (.bool true)], args := [d] }
  | _ => none }
def fnExactLastWrittenRow : OpenClaim := { program := "ytdgdjgefjhkpbaa", sum := "64f429687ad3a83594d53887907165ee4ceebdd8992064a3856d584448248339", func := "loop.example/g01395/laws.FnExactLastWritten", spec := "fnExactLastWritten", unfollowed := true, recurses := true, apart := false }
def FnExactLastWrittenSaid : Prop := fnExactLastWrittenRow.holds Try.pinned (OpenSpec.ofChange fnExactLastWrittenSpec)

/-- ITS FALSE NEIGHBOUR: 'it returns false'. Refute it at one input. -/
def fnExactLastWrittenWrong : ChangeSpec := { name := "fnExactLastWritten", fn := fun _ => fun
  | [d] => { results := [.lit (.bool false)], args := [d] }
  | _ => none }
def FnExactLastWrittenWrongFalsely : Prop := fnExactLastWrittenRow.holds Try.pinned (OpenSpec.ofChange fnExactLastWrittenWrong)

/-- 'laws.FnExactNumberAtPlace': WHATEVER THE INPUT: true; the input reads as it did. -/
def fnExactNumberAtPlaceSpec : ChangeSpec := { name := "fnExactNumberAtPlace", fn := fun _ => fun
  | [d] => { results := [.lit (.bool true)], args := [d] }
  | _ => none }
def fnExactNumberAtPlaceRow : OpenClaim := { program := "ytdgdjgefjhkpbaa", sum := "64f429687ad3a83594d53887907165ee4ceebdd8992064a3856d584448248339", func := "loop.example/g01395/laws.FnExactNumberAtPlace", spec := "fnExactNumberAtPlace", unfollowed := true, recurses := true, apart := false }
def FnExactNumberAtPlaceSaid : Prop := fnExactNumberAtPlaceRow.holds Try.pinned (OpenSpec.ofChange fnExactNumberAtPlaceSpec)

/-- ITS FALSE NEIGHBOUR: 'it returns false'. Refute it at one input. -/
def fnExactNumberAtPlaceWrong : ChangeSpec := { name := "fnExactNumberAtPlace", fn := fun _ => fun
  | [d] => { results := [.lit (.bool false)], args := [d] }
  | _ => none }
def FnExactNumberAtPlaceWrongFalsely : Prop := fnExactNumberAtPlaceRow.holds Try.pinned (OpenSpec.ofChange fnExactNumberAtPlaceWrong)

/-- 'laws.FnExactCountDigit': WHATEVER THE INPUT: true; the input reads as it did. -/
def fnExactCountDigitSpec : ChangeSpec := { name := "fnExactCountDigit", fn := fun _ => fun
  | [d1, d2] => { results := [.lit (.bool true)], args := [d1, d2] }
  | _ => none }
def fnExactCountDigitRow : OpenClaim := { program := "ytdgdjgefjhkpbaa", sum := "64f429687ad3a83594d53887907165ee4ceebdd8992064a3856d584448248339", func := "loop.example/g01395/laws.FnExactCountDigit", spec := "fnExactCountDigit", apart := false }
def FnExactCountDigitSaid : Prop := fnExactCountDigitRow.holds Try.pinned (OpenSpec.ofChange fnExactCountDigitSpec)

/-- ITS FALSE NEIGHBOUR: 'it returns false'. Refute it at one input. -/
def fnExactCountDigitWrong : ChangeSpec := { name := "fnExactCountDigit", fn := fun _ => fun
  | [d1, d2] => { results := [.lit (.bool false)], args := [d1, d2] }
  | _ => none }
def FnExactCountDigitWrongFalsely : Prop := fnExactCountDigitRow.holds Try.pinned (OpenSpec.ofChange fnExactCountDigitWrong)

/-- 'laws.FnExactDigitCounts': WHATEVER THE INPUT: true; the input reads as it did. -/
def fnExactDigitCountsSpec : ChangeSpec := { name := "fnExactDigitCounts", fn := fun _ => fun
  | [d] => { results := [.lit (.bool true)], args := [d] }
  | _ => none }
def fnExactDigitCountsRow : OpenClaim := { program := "ytdgdjgefjhkpbaa", sum := "64f429687ad3a83594d53887907165ee4ceebdd8992064a3856d584448248339", func := "loop.example/g01395/laws.FnExactDigitCounts", spec := "fnExactDigitCounts", apart := false }
def FnExactDigitCountsSaid : Prop := fnExactDigitCountsRow.holds Try.pinned (OpenSpec.ofChange fnExactDigitCountsSpec)

/-- ITS FALSE NEIGHBOUR: 'it returns false'. Refute it at one input. -/
def fnExactDigitCountsWrong : ChangeSpec := { name := "fnExactDigitCounts", fn := fun _ => fun
  | [d] => { results := [.lit (.bool false)], args := [d] }
  | _ => none }
def FnExactDigitCountsWrongFalsely : Prop := fnExactDigitCountsRow.holds Try.pinned (OpenSpec.ofChange fnExactDigitCountsWrong)

/-- 'laws.FnExactLeastForCount': WHATEVER THE INPUT: true; the input reads as it did. -/
def fnExactLeastForCountSpec : ChangeSpec := { name := "fnExactLeastForCount", fn := fun _ => fun
  | [d1, d2] => { results := [.lit (.bool true)], args := [d1, d2] }
  | _ => none }
def fnExactLeastForCountRow : OpenClaim := { program := "ytdgdjgefjhkpbaa", sum := "64f429687ad3a83594d53887907165ee4ceebdd8992064a3856d584448248339", func := "loop.example/g01395/laws.FnExactLeastForCount", spec := "fnExactLeastForCount", unfollowed := true, recurses := true, apart := false }
def FnExactLeastForCountSaid : Prop := fnExactLeastForCountRow.holds Try.pinned (OpenSpec.ofChange fnExactLeastForCountSpec)

/-- ITS FALSE NEIGHBOUR: 'it returns false'. Refute it at one input. -/
def fnExactLeastForCountWrong : ChangeSpec := { name := "fnExactLeastForCount", fn := fun _ => fun
  | [d1, d2] => { results := [.lit (.bool false)], args := [d1, d2] }
  | _ => none }
def FnExactLeastForCountWrongFalsely : Prop := fnExactLeastForCountRow.holds Try.pinned (OpenSpec.ofChange fnExactLeastForCountWrong)

/-- 'laws.FnExactSumOfDigitsUpTo': WHATEVER THE INPUT: true; the input reads as it did. -/
def fnExactSumOfDigitsUpToSpec : ChangeSpec := { name := "fnExactSumOfDigitsUpTo", fn := fun _ => fun
  | [d] => { results := [.lit (.bool true)], args := [d] }
  | _ => none }
def fnExactSumOfDigitsUpToRow : OpenClaim := { program := "ytdgdjgefjhkpbaa", sum := "64f429687ad3a83594d53887907165ee4ceebdd8992064a3856d584448248339", func := "loop.example/g01395/laws.FnExactSumOfDigitsUpTo", spec := "fnExactSumOfDigitsUpTo", unfollowed := true, recurses := true, apart := false }
def FnExactSumOfDigitsUpToSaid : Prop := fnExactSumOfDigitsUpToRow.holds Try.pinned (OpenSpec.ofChange fnExactSumOfDigitsUpToSpec)

/-- ITS FALSE NEIGHBOUR: 'it returns false'. Refute it at one input. -/
def fnExactSumOfDigitsUpToWrong : ChangeSpec := { name := "fnExactSumOfDigitsUpTo", fn := fun _ => fun
  | [d] => { results := [.lit (.bool false)], args := [d] }
  | _ => none }
def FnExactSumOfDigitsUpToWrongFalsely : Prop := fnExactSumOfDigitsUpToRow.holds Try.pinned (OpenSpec.ofChange fnExactSumOfDigitsUpToWrong)

/- THE SECOND FORM. 'bulk': how many values and letters a reading holds, each counted each time it is reached (what is shared counts as often as it is met; a slice's spare places count too). A statement '..UptoSaid' is the law's where the arguments, and the package variables that the reading takes, are together of bulk at most 1048576: NARROWER than '..Said'. Prove '..Said' where nothing that the law and all that it calls make is longer than what came in: it says more and counts as full. Else prove '..UptoSaid'. A law counts once. -/
mutual
def uptoBulk {H : Type} : DataW H → Nat
  | .lit (.string bytes) => bytes.length + 1
  | .lit _ => 1
  | .nil => 1
  | .ptr d => uptoBulk d + 1
  | .slice elems spare => uptoBulkAll elems + uptoBulkAll spare + 1
  | .agg parts => uptoBulkAll parts + 1
  | .iface _ d => uptoBulk d + 1
  | .map entries => uptoBulkEntries entries + 1
  | .held _ => 1
def uptoBulkAll {H : Type} : List (DataW H) → Nat
  | [] => 0
  | d :: r => uptoBulk d + uptoBulkAll r
def uptoBulkEntries {H : Type} : List (Lit × DataW H) → Nat
  | [] => 0
  | x :: r => uptoBulkEntry x + uptoBulkEntries r
def uptoBulkEntry {H : Type} : Lit × DataW H → Nat
  | (.string bytes, d) => bytes.length + uptoBulk d + 1
  | (_, d) => uptoBulk d + 1
 end
def uptoSmall : (H : Type) → List (DataW H) → Bool := fun _ ds => decide (uptoBulkAll ds ≤ 1048576)
def OpenSpec.upto (s : _root_.Go.ChangeSpec) : _root_.Go.OpenSpec := { _root_.Go.OpenSpec.ofChange s with cond := some uptoSmall }

/-- 'laws.FnExactDigitsWritten', WHERE WHAT IT READS IS OF BULK AT MOST 1048576: true; the input reads as it did. -/
def fnExactDigitsWrittenUptoRow : OpenClaim := { program := "ytdgdjgefjhkpbaa", sum := "64f429687ad3a83594d53887907165ee4ceebdd8992064a3856d584448248339", func := "loop.example/g01395/laws.FnExactDigitsWritten", spec := "fnExactDigitsWritten", unfollowed := true, recurses := true, apart := false, narrowed := true }
def FnExactDigitsWrittenUptoSaid : Prop := fnExactDigitsWrittenUptoRow.holds Try.pinned (OpenSpec.upto fnExactDigitsWrittenSpec)

/-- 'laws.FnExactLastWritten', WHERE WHAT IT READS IS OF BULK AT MOST 1048576: true; the input reads as it did. -/
def fnExactLastWrittenUptoRow : OpenClaim := { program := "ytdgdjgefjhkpbaa", sum := "64f429687ad3a83594d53887907165ee4ceebdd8992064a3856d584448248339", func := "loop.example/g01395/laws.FnExactLastWritten", spec := "fnExactLastWritten", unfollowed := true, recurses := true, apart := false, narrowed := true }
def FnExactLastWrittenUptoSaid : Prop := fnExactLastWrittenUptoRow.holds Try.pinned (OpenSpec.upto fnExactLastWrittenSpec)

/-- 'laws.FnExactNumberAtPlace', WHERE WHAT IT READS IS OF BULK AT MOST 1048576: true; the input reads as it did. -/
def fnExactNumberAtPlaceUptoRow : OpenClaim := { program := "ytdgdjgefjhkpbaa", sum := "64f429687ad3a83594d53887907165ee4ceebdd8992064a3856d584448248339", func := "loop.example/g01395/laws.FnExactNumberAtPlace", spec := "fnExactNumberAtPlace", unfollowed := true, recurses := true, apart := false, narrowed := true }
def FnExactNumberAtPlaceUptoSaid : Prop := fnExactNumberAtPlaceUptoRow.holds Try.pinned (OpenSpec.upto fnExactNumberAtPlaceSpec)

/-- 'laws.FnExactCountDigit', WHERE WHAT IT READS IS OF BULK AT MOST 1048576: true; the input reads as it did. -/
def fnExactCountDigitUptoRow : OpenClaim := { program := "ytdgdjgefjhkpbaa", sum := "64f429687ad3a83594d53887907165ee4ceebdd8992064a3856d584448248339", func := "loop.example/g01395/laws.FnExactCountDigit", spec := "fnExactCountDigit", apart := false, narrowed := true }
def FnExactCountDigitUptoSaid : Prop := fnExactCountDigitUptoRow.holds Try.pinned (OpenSpec.upto fnExactCountDigitSpec)

/-- 'laws.FnExactDigitCounts', WHERE WHAT IT READS IS OF BULK AT MOST 1048576: true; the input reads as it did. -/
def fnExactDigitCountsUptoRow : OpenClaim := { program := "ytdgdjgefjhkpbaa", sum := "64f429687ad3a83594d53887907165ee4ceebdd8992064a3856d584448248339", func := "loop.example/g01395/laws.FnExactDigitCounts", spec := "fnExactDigitCounts", apart := false, narrowed := true }
def FnExactDigitCountsUptoSaid : Prop := fnExactDigitCountsUptoRow.holds Try.pinned (OpenSpec.upto fnExactDigitCountsSpec)

/-- 'laws.FnExactLeastForCount', WHERE WHAT IT READS IS OF BULK AT MOST 1048576: true; the input reads as it did. -/
def fnExactLeastForCountUptoRow : OpenClaim := { program := "ytdgdjgefjhkpbaa", sum := "64f429687ad3a83594d53887907165ee4ceebdd8992064a3856d584448248339", func := "loop.example/g01395/laws.FnExactLeastForCount", spec := "fnExactLeastForCount", unfollowed := true, recurses := true, apart := false, narrowed := true }
def FnExactLeastForCountUptoSaid : Prop := fnExactLeastForCountUptoRow.holds Try.pinned (OpenSpec.upto fnExactLeastForCountSpec)

/-- 'laws.FnExactSumOfDigitsUpTo', WHERE WHAT IT READS IS OF BULK AT MOST 1048576: true; the input reads as it did. -/
def fnExactSumOfDigitsUpToUptoRow : OpenClaim := { program := "ytdgdjgefjhkpbaa", sum := "64f429687ad3a83594d53887907165ee4ceebdd8992064a3856d584448248339", func := "loop.example/g01395/laws.FnExactSumOfDigitsUpTo", spec := "fnExactSumOfDigitsUpTo", unfollowed := true, recurses := true, apart := false, narrowed := true }
def FnExactSumOfDigitsUpToUptoSaid : Prop := fnExactSumOfDigitsUpToUptoRow.holds Try.pinned (OpenSpec.upto fnExactSumOfDigitsUpToSpec)

end Rows
end Go.Proofs.Ytdgdjgefjhkpbaa
