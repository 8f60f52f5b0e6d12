/-
  No cell of these rows narrows 'for every input' (looked for: loops, veiled, ifaces, maps, wideKeys, modest, calm, conditions, laid).
  DERIVED. THE GIVEN ROWS OF THIS SEAT. 8 by the template 'for every input the law returns true; each argument reads behind the call as it read before'; 0 by the template 'total and deterministic' (their statements: YtapeohnjjmokkabTotals.lean).
  GIVEN WITH THE SEED: the statements are not yours to turn. If you find one false, say at which input.
  Laid BY PROGRAM, IN A SANDBOX (cutbox-rows.mjs): the forced cells as the released guide's own fill.sh prints them over the translation 35c235913df6d5b5… (all of the seat's roots in one cut). By AI agents, Wed Nov 11 2026. No macro, syntax, notation, axiom, sorry.
-/
import Derived.Test.YtapeohnjjmokkabChecked
import GoSem.Claim
import GoSem.ClaimJoined
import GoSem.ClaimMapViews
import Derived.JoinedTies
import Derived.KernelRfl
namespace Go.Proofs.Ytapeohnjjmokkab
/- THE CELL 'sum', in the pinned program and in every row, IS THE sha256 OF THE DUMP (.gsa) THAT YtapeohnjjmokkabProg.lean LOADS. Nothing in Lean hashes anything: it is a label: what it is worth is what the hold of that sum in a sandbox is worth. -/
noncomputable def Try.pinned : Pinned := { name := "ytapeohnjjmokkab", sum := "35c235913df6d5b56e8b4676fc053881c07a36ffcedcd16684a84007ac6265e6", checked := Try.checked }
namespace Rows
def none {H : Type} : Left H := { results := [], args := [] }

/-- 'laws.FnExactGapsAround': WHATEVER THE INPUT: true; the input reads as it did. -/
def fnExactGapsAroundSpec : ChangeSpec := { name := "fnExactGapsAround", fn := fun _ => fun
  | [d] => { results := [.lit (.bool true)], args := [d] }
  | _ => none }
def fnExactGapsAroundRow : OpenClaim := { program := "ytapeohnjjmokkab", sum := "35c235913df6d5b56e8b4676fc053881c07a36ffcedcd16684a84007ac6265e6", func := "loop.example/g01395/laws.FnExactGapsAround", spec := "fnExactGapsAround", inPlace := ["internal/abi.NoEscape"], unfollowed := true, recurses := true, apart := false }
def FnExactGapsAroundSaid : Prop := fnExactGapsAroundRow.holds Try.pinned (OpenSpec.ofChange fnExactGapsAroundSpec)

/-- ITS FALSE NEIGHBOUR: 'it returns false'. Refute it at one input. -/
def fnExactGapsAroundWrong : ChangeSpec := { name := "fnExactGapsAround", fn := fun _ => fun
  | [d] => { results := [.lit (.bool false)], args := [d] }
  | _ => none }
def FnExactGapsAroundWrongFalsely : Prop := fnExactGapsAroundRow.holds Try.pinned (OpenSpec.ofChange fnExactGapsAroundWrong)

/-- 'laws.FnExactCountLuckyBetween': WHATEVER THE INPUT: true; the input reads as it did. -/
def fnExactCountLuckyBetweenSpec : ChangeSpec := { name := "fnExactCountLuckyBetween", fn := fun _ => fun
  | [d1, d2] => { results := [.lit (.bool true)], args := [d1, d2] }
  | _ => none }
def fnExactCountLuckyBetweenRow : OpenClaim := { program := "ytapeohnjjmokkab", sum := "35c235913df6d5b56e8b4676fc053881c07a36ffcedcd16684a84007ac6265e6", func := "loop.example/g01395/laws.FnExactCountLuckyBetween", spec := "fnExactCountLuckyBetween", apart := false }
def FnExactCountLuckyBetweenSaid : Prop := fnExactCountLuckyBetweenRow.holds Try.pinned (OpenSpec.ofChange fnExactCountLuckyBetweenSpec)

/-- ITS FALSE NEIGHBOUR: 'it returns false'. Refute it at one input. -/
def fnExactCountLuckyBetweenWrong : ChangeSpec := { name := "fnExactCountLuckyBetween", fn := fun _ => fun
  | [d1, d2] => { results := [.lit (.bool false)], args := [d1, d2] }
  | _ => none }
def FnExactCountLuckyBetweenWrongFalsely : Prop := fnExactCountLuckyBetweenRow.holds Try.pinned (OpenSpec.ofChange fnExactCountLuckyBetweenWrong)

/-- 'laws.FnExactNumberOfTicket': WHATEVER THE INPUT: true; the input reads as it did. -/
def fnExactNumberOfTicketSpec : ChangeSpec := { name := "fnExactNumberOfTicket", fn := fun _ => fun
  | [d] => { results := [.lit (.bool true)], args := [d] }
  | _ => none }
def fnExactNumberOfTicketRow : OpenClaim := { program := "ytapeohnjjmokkab", sum := "35c235913df6d5b56e8b4676fc053881c07a36ffcedcd16684a84007ac6265e6", func := "loop.example/g01395/laws.FnExactNumberOfTicket", spec := "fnExactNumberOfTicket", unfollowed := true, recurses := true, apart := false }
def FnExactNumberOfTicketSaid : Prop := fnExactNumberOfTicketRow.holds Try.pinned (OpenSpec.ofChange fnExactNumberOfTicketSpec)

/-- ITS FALSE NEIGHBOUR: 'it returns false'. Refute it at one input. -/
def fnExactNumberOfTicketWrong : ChangeSpec := { name := "fnExactNumberOfTicket", fn := fun _ => fun
  | [d] => { results := [.lit (.bool false)], args := [d] }
  | _ => none }
def FnExactNumberOfTicketWrongFalsely : Prop := fnExactNumberOfTicketRow.holds Try.pinned (OpenSpec.ofChange fnExactNumberOfTicketWrong)

/-- 'laws.FnExactTurnTicket': WHATEVER THE INPUT: true; the input reads as it did. -/
def fnExactTurnTicketSpec : ChangeSpec := { name := "fnExactTurnTicket", fn := fun _ => fun
  | [d] => { results := [.lit (.bool true)], args := [d] }
  | _ => none }
def fnExactTurnTicketRow : OpenClaim := { program := "ytapeohnjjmokkab", sum := "35c235913df6d5b56e8b4676fc053881c07a36ffcedcd16684a84007ac6265e6", func := "loop.example/g01395/laws.FnExactTurnTicket", spec := "fnExactTurnTicket", inPlace := ["internal/abi.NoEscape"], unfollowed := true, recurses := true, apart := false }
def FnExactTurnTicketSaid : Prop := fnExactTurnTicketRow.holds Try.pinned (OpenSpec.ofChange fnExactTurnTicketSpec)

/-- ITS FALSE NEIGHBOUR: 'it returns false'. Refute it at one input. -/
def fnExactTurnTicketWrong : ChangeSpec := { name := "fnExactTurnTicket", fn := fun _ => fun
  | [d] => { results := [.lit (.bool false)], args := [d] }
  | _ => none }
def FnExactTurnTicketWrongFalsely : Prop := fnExactTurnTicketRow.holds Try.pinned (OpenSpec.ofChange fnExactTurnTicketWrong)

/-- 'laws.FnExactSwapHalves': WHATEVER THE INPUT: true; the input reads as it did. -/
def fnExactSwapHalvesSpec : ChangeSpec := { name := "fnExactSwapHalves", fn := fun _ => fun
  | [d] => { results := [.lit (.bool true)], args := [d] }
  | _ => none }
def fnExactSwapHalvesRow : OpenClaim := { program := "ytapeohnjjmokkab", sum := "35c235913df6d5b56e8b4676fc053881c07a36ffcedcd16684a84007ac6265e6", func := "loop.example/g01395/laws.FnExactSwapHalves", spec := "fnExactSwapHalves", unfollowed := true, recurses := true, apart := false }
def FnExactSwapHalvesSaid : Prop := fnExactSwapHalvesRow.holds Try.pinned (OpenSpec.ofChange fnExactSwapHalvesSpec)

/-- ITS FALSE NEIGHBOUR: 'it returns false'. Refute it at one input. -/
def fnExactSwapHalvesWrong : ChangeSpec := { name := "fnExactSwapHalves", fn := fun _ => fun
  | [d] => { results := [.lit (.bool false)], args := [d] }
  | _ => none }
def FnExactSwapHalvesWrongFalsely : Prop := fnExactSwapHalvesRow.holds Try.pinned (OpenSpec.ofChange fnExactSwapHalvesWrong)

/-- 'laws.FnExactNinesTicket': WHATEVER THE INPUT: true; the input reads as it did. -/
def fnExactNinesTicketSpec : ChangeSpec := { name := "fnExactNinesTicket", fn := fun _ => fun
  | [d] => { results := [.lit (.bool true)], args := [d] }
  | _ => none }
def fnExactNinesTicketRow : OpenClaim := { program := "ytapeohnjjmokkab", sum := "35c235913df6d5b56e8b4676fc053881c07a36ffcedcd16684a84007ac6265e6", func := "loop.example/g01395/laws.FnExactNinesTicket", spec := "fnExactNinesTicket", inPlace := ["internal/abi.NoEscape"], unfollowed := true, recurses := true, apart := false }
def FnExactNinesTicketSaid : Prop := fnExactNinesTicketRow.holds Try.pinned (OpenSpec.ofChange fnExactNinesTicketSpec)

/-- ITS FALSE NEIGHBOUR: 'it returns false'. Refute it at one input. -/
def fnExactNinesTicketWrong : ChangeSpec := { name := "fnExactNinesTicket", fn := fun _ => fun
  | [d] => { results := [.lit (.bool false)], args := [d] }
  | _ => none }
def FnExactNinesTicketWrongFalsely : Prop := fnExactNinesTicketRow.holds Try.pinned (OpenSpec.ofChange fnExactNinesTicketWrong)

/-- 'laws.FnExactSumsOfLucky': WHATEVER THE INPUT: true; the input reads as it did. -/
def fnExactSumsOfLuckySpec : ChangeSpec := { name := "fnExactSumsOfLucky", fn := fun _ => fun
  | [d] => { results := [.lit (.bool true)], args := [d] }
  | _ => none }
def fnExactSumsOfLuckyRow : OpenClaim := { program := "ytapeohnjjmokkab", sum := "35c235913df6d5b56e8b4676fc053881c07a36ffcedcd16684a84007ac6265e6", func := "loop.example/g01395/laws.FnExactSumsOfLucky", spec := "fnExactSumsOfLucky", apart := false }
def FnExactSumsOfLuckySaid : Prop := fnExactSumsOfLuckyRow.holds Try.pinned (OpenSpec.ofChange fnExactSumsOfLuckySpec)

/-- ITS FALSE NEIGHBOUR: 'it returns false'. Refute it at one input. -/
def fnExactSumsOfLuckyWrong : ChangeSpec := { name := "fnExactSumsOfLucky", fn := fun _ => fun
  | [d] => { results := [.lit (.bool false)], args := [d] }
  | _ => none }
def FnExactSumsOfLuckyWrongFalsely : Prop := fnExactSumsOfLuckyRow.holds Try.pinned (OpenSpec.ofChange fnExactSumsOfLuckyWrong)

/-- 'laws.FnExactLuckyDigits': WHATEVER THE INPUT: true; the input reads as it did. -/
def fnExactLuckyDigitsSpec : ChangeSpec := { name := "fnExactLuckyDigits", fn := fun _ => fun
  | [d] => { results := [.lit (.bool true)], args := [d] }
  | _ => none }
def fnExactLuckyDigitsRow : OpenClaim := { program := "ytapeohnjjmokkab", sum := "35c235913df6d5b56e8b4676fc053881c07a36ffcedcd16684a84007ac6265e6", func := "loop.example/g01395/laws.FnExactLuckyDigits", spec := "fnExactLuckyDigits", unfollowed := true, recurses := true, apart := false }
def FnExactLuckyDigitsSaid : Prop := fnExactLuckyDigitsRow.holds Try.pinned (OpenSpec.ofChange fnExactLuckyDigitsSpec)

/-- ITS FALSE NEIGHBOUR: 'it returns false'. Refute it at one input. -/
def fnExactLuckyDigitsWrong : ChangeSpec := { name := "fnExactLuckyDigits", fn := fun _ => fun
  | [d] => { results := [.lit (.bool false)], args := [d] }
  | _ => none }
def FnExactLuckyDigitsWrongFalsely : Prop := fnExactLuckyDigitsRow.holds Try.pinned (OpenSpec.ofChange fnExactLuckyDigitsWrong)

/- THE SECOND FORM. 'bulk': how many values and letters a reading holds, each counted each time it is reached (what is shared counts as often as it is met; a slice's spare places count too). A statement '..UptoSaid' is the law's where the arguments, and the package variables that the reading takes, are together of bulk at most 1048576: NARROWER than '..Said'. Prove '..Said' where nothing that the law and all that it calls make is longer than what came in: it says more and counts as full. Else prove '..UptoSaid'. A law counts once. -/
mutual
def uptoBulk {H : Type} : DataW H → Nat
  | .lit (.string bytes) => bytes.length + 1
  | .lit _ => 1
  | .nil => 1
  | .ptr d => uptoBulk d + 1
  | .slice elems spare => uptoBulkAll elems + uptoBulkAll spare + 1
  | .agg parts => uptoBulkAll parts + 1
  | .iface _ d => uptoBulk d + 1
  | .map entries => uptoBulkEntries entries + 1
  | .held _ => 1
def uptoBulkAll {H : Type} : List (DataW H) → Nat
  | [] => 0
  | d :: r => uptoBulk d + uptoBulkAll r
def uptoBulkEntries {H : Type} : List (Lit × DataW H) → Nat
  | [] => 0
  | x :: r => uptoBulkEntry x + uptoBulkEntries r
def uptoBulkEntry {H : Type} : Lit × DataW H → Nat
  | (.string bytes, d) => bytes.length + uptoBulk d + 1
  | (_, d) => uptoBulk d + 1
 end
def uptoSmall : (H : Type) → List (DataW H) → Bool := fun _ ds => decide (uptoBulkAll ds ≤ 1048576)
def OpenSpec.upto (s : _root_.Go.ChangeSpec) : _root_.Go.OpenSpec := { _root_.Go.OpenSpec.ofChange s with cond := some uptoSmall }

/-- 'laws.FnExactGapsAround', WHERE WHAT IT READS IS OF BULK AT MOST 1048576: true; the input reads as it did. -/
def fnExactGapsAroundUptoRow : OpenClaim := { program := "ytapeohnjjmokkab", sum := "35c235913df6d5b56e8b4676fc053881c07a36ffcedcd16684a84007ac6265e6", func := "loop.example/g01395/laws.FnExactGapsAround", spec := "fnExactGapsAround", inPlace := ["internal/abi.NoEscape"], unfollowed := true, recurses := true, apart := false, narrowed := true }
def FnExactGapsAroundUptoSaid : Prop := fnExactGapsAroundUptoRow.holds Try.pinned (OpenSpec.upto fnExactGapsAroundSpec)

/-- 'laws.FnExactCountLuckyBetween', WHERE WHAT IT READS IS OF BULK AT MOST 1048576: true; the input reads as it did. -/
def fnExactCountLuckyBetweenUptoRow : OpenClaim := { program := "ytapeohnjjmokkab", sum := "35c235913df6d5b56e8b4676fc053881c07a36ffcedcd16684a84007ac6265e6", func := "loop.example/g01395/laws.FnExactCountLuckyBetween", spec := "fnExactCountLuckyBetween", apart := false, narrowed := true }
def FnExactCountLuckyBetweenUptoSaid : Prop := fnExactCountLuckyBetweenUptoRow.holds Try.pinned (OpenSpec.upto fnExactCountLuckyBetweenSpec)

/-- 'laws.FnExactNumberOfTicket', WHERE WHAT IT READS IS OF BULK AT MOST 1048576: true; the input reads as it did. -/
def fnExactNumberOfTicketUptoRow : OpenClaim := { program := "ytapeohnjjmokkab", sum := "35c235913df6d5b56e8b4676fc053881c07a36ffcedcd16684a84007ac6265e6", func := "loop.example/g01395/laws.FnExactNumberOfTicket", spec := "fnExactNumberOfTicket", unfollowed := true, recurses := true, apart := false, narrowed := true }
def FnExactNumberOfTicketUptoSaid : Prop := fnExactNumberOfTicketUptoRow.holds Try.pinned (OpenSpec.upto fnExactNumberOfTicketSpec)

/-- 'laws.FnExactTurnTicket', WHERE WHAT IT READS IS OF BULK AT MOST 1048576: true; the input reads as it did. -/
def fnExactTurnTicketUptoRow : OpenClaim := { program := "ytapeohnjjmokkab", sum := "35c235913df6d5b56e8b4676fc053881c07a36ffcedcd16684a84007ac6265e6", func := "loop.example/g01395/laws.FnExactTurnTicket", spec := "fnExactTurnTicket", inPlace := ["internal/abi.NoEscape"], unfollowed := true, recurses := true, apart := false, narrowed := true }
def FnExactTurnTicketUptoSaid : Prop := fnExactTurnTicketUptoRow.holds Try.pinned (OpenSpec.upto fnExactTurnTicketSpec)

/-- 'laws.FnExactSwapHalves', WHERE WHAT IT READS IS OF BULK AT MOST 1048576: true; the input reads as it did. -/
def fnExactSwapHalvesUptoRow : OpenClaim := { program := "ytapeohnjjmokkab", sum := "35c235913df6d5b56e8b4676fc053881c07a36ffcedcd16684a84007ac6265e6", func := "loop.example/g01395/laws.FnExactSwapHalves", spec := "fnExactSwapHalves", unfollowed := true, recurses := true, apart := false, narrowed := true }
def FnExactSwapHalvesUptoSaid : Prop := fnExactSwapHalvesUptoRow.holds Try.pinned (OpenSpec.upto fnExactSwapHalvesSpec)

/-- 'laws.FnExactNinesTicket', WHERE WHAT IT READS IS OF BULK AT MOST 1048576: true; the input reads as it did. -/
def fnExactNinesTicketUptoRow : OpenClaim := { program := "ytapeohnjjmokkab", sum := "35c235913df6d5b56e8b4676fc053881c07a36ffcedcd16684a84007ac6265e6", func := "loop.example/g01395/laws.FnExactNinesTicket", spec := "fnExactNinesTicket", inPlace := ["internal/abi.NoEscape"], unfollowed := true, recurses := true, apart := false, narrowed := true }
def FnExactNinesTicketUptoSaid : Prop := fnExactNinesTicketUptoRow.holds Try.pinned (OpenSpec.upto fnExactNinesTicketSpec)

/-- 'laws.FnExactSumsOfLucky', WHERE WHAT IT READS IS OF BULK AT MOST 1048576: true; the input reads as it did. -/
def fnExactSumsOfLuckyUptoRow : OpenClaim := { program := "ytapeohnjjmokkab", sum := "35c235913df6d5b56e8b4676fc053881c07a36ffcedcd16684a84007ac6265e6", func := "loop.example/g01395/laws.FnExactSumsOfLucky", spec := "fnExactSumsOfLucky", apart := false, narrowed := true }
def FnExactSumsOfLuckyUptoSaid : Prop := fnExactSumsOfLuckyUptoRow.holds Try.pinned (OpenSpec.upto fnExactSumsOfLuckySpec)

/-- 'laws.FnExactLuckyDigits', WHERE WHAT IT READS IS OF BULK AT MOST 1048576: true; the input reads as it did. -/
def fnExactLuckyDigitsUptoRow : OpenClaim := { program := "ytapeohnjjmokkab", sum := "35c235913df6d5b56e8b4676fc053881c07a36ffcedcd16684a84007ac6265e6", func := "loop.example/g01395/laws.FnExactLuckyDigits", spec := "fnExactLuckyDigits", unfollowed := true, recurses := true, apart := false, narrowed := true }
def FnExactLuckyDigitsUptoSaid : Prop := fnExactLuckyDigitsUptoRow.holds Try.pinned (OpenSpec.upto fnExactLuckyDigitsSpec)

end Rows
end Go.Proofs.Ytapeohnjjmokkab
