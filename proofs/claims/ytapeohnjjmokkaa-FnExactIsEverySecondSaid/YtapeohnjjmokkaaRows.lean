/-
  No cell of these rows narrows 'for every input' (looked for: loops, veiled, ifaces, maps, wideKeys, modest, calm, conditions, laid).
  DERIVED. THE GIVEN ROWS OF THIS SEAT. 11 by the template 'for every input the law returns true; each argument reads behind the call as it read before'; 0 by the template 'total and deterministic' (their statements: YtapeohnjjmokkaaTotals.lean).
  GIVEN WITH THE SEED: the statements are not yours to turn. If you find one false, say at which input.
  Laid BY PROGRAM, IN A SANDBOX (cutbox-rows.mjs): the forced cells as the released guide's own fill.sh prints them over the translation de4b2b69fd19307e… (all of the seat's roots in one cut). By AI agents, Wed Nov 11 2026. No macro, syntax, notation, axiom, sorry.
-/
import Derived.Test.YtapeohnjjmokkaaChecked
import GoSem.Claim
import GoSem.ClaimJoined
import GoSem.ClaimMapViews
import Derived.JoinedTies
import Derived.KernelRfl
namespace Go.Proofs.Ytapeohnjjmokkaa
/- THE CELL 'sum', in the pinned program and in every row, IS THE sha256 OF THE DUMP (.gsa) THAT YtapeohnjjmokkaaProg.lean LOADS. Nothing in Lean hashes anything: it is a label: what it is worth is what the hold of that sum in a sandbox is worth. -/
noncomputable def Try.pinned : Pinned := { name := "ytapeohnjjmokkaa", sum := "de4b2b69fd19307e5eb2d5cdae66c392601660712d04c03eb9f13fc4934b2141", checked := Try.checked }
namespace Rows
def none {H : Type} : Left H := { results := [], args := [] }

/-- 'laws.FnExactIsTicket': WHATEVER THE INPUT: true; the input reads as it did. -/
def fnExactIsTicketSpec : ChangeSpec := { name := "fnExactIsTicket", fn := fun _ => fun
  | [d] => { results := [.lit (.bool true)], args := [d] }
  | _ => none }
def fnExactIsTicketRow : OpenClaim := { program := "ytapeohnjjmokkaa", sum := "de4b2b69fd19307e5eb2d5cdae66c392601660712d04c03eb9f13fc4934b2141", func := "loop.example/g01395/laws.FnExactIsTicket", spec := "fnExactIsTicket", apart := false }
def FnExactIsTicketSaid : Prop := fnExactIsTicketRow.holds Try.pinned (OpenSpec.ofChange fnExactIsTicketSpec)

/-- ITS FALSE NEIGHBOUR: 'it returns false'. Refute it at one input. -/
def fnExactIsTicketWrong : ChangeSpec := { name := "fnExactIsTicket", fn := fun _ => fun
  | [d] => { results := [.lit (.bool false)], args := [d] }
  | _ => none }
def FnExactIsTicketWrongFalsely : Prop := fnExactIsTicketRow.holds Try.pinned (OpenSpec.ofChange fnExactIsTicketWrong)

/-- 'laws.FnExactHalfSums': WHATEVER THE INPUT: true; the input reads as it did. -/
def fnExactHalfSumsSpec : ChangeSpec := { name := "fnExactHalfSums", fn := fun _ => fun
  | [d] => { results := [.lit (.bool true)], args := [d] }
  | _ => none }
def fnExactHalfSumsRow : OpenClaim := { program := "ytapeohnjjmokkaa", sum := "de4b2b69fd19307e5eb2d5cdae66c392601660712d04c03eb9f13fc4934b2141", func := "loop.example/g01395/laws.FnExactHalfSums", spec := "fnExactHalfSums", unfollowed := true, recurses := true, apart := false }
def FnExactHalfSumsSaid : Prop := fnExactHalfSumsRow.holds Try.pinned (OpenSpec.ofChange fnExactHalfSumsSpec)

/-- ITS FALSE NEIGHBOUR: 'it returns false'. Refute it at one input. -/
def fnExactHalfSumsWrong : ChangeSpec := { name := "fnExactHalfSums", fn := fun _ => fun
  | [d] => { results := [.lit (.bool false)], args := [d] }
  | _ => none }
def FnExactHalfSumsWrongFalsely : Prop := fnExactHalfSumsRow.holds Try.pinned (OpenSpec.ofChange fnExactHalfSumsWrong)

/-- 'laws.FnExactIsLucky': WHATEVER THE INPUT: true; the input reads as it did. -/
def fnExactIsLuckySpec : ChangeSpec := { name := "fnExactIsLucky", fn := fun _ => fun
  | [d] => { results := [.lit (.bool true)], args := [d] }
  | _ => none }
def fnExactIsLuckyRow : OpenClaim := { program := "ytapeohnjjmokkaa", sum := "de4b2b69fd19307e5eb2d5cdae66c392601660712d04c03eb9f13fc4934b2141", func := "loop.example/g01395/laws.FnExactIsLucky", spec := "fnExactIsLucky", unfollowed := true, recurses := true, apart := false }
def FnExactIsLuckySaid : Prop := fnExactIsLuckyRow.holds Try.pinned (OpenSpec.ofChange fnExactIsLuckySpec)

/-- ITS FALSE NEIGHBOUR: 'it returns false'. Refute it at one input. -/
def fnExactIsLuckyWrong : ChangeSpec := { name := "fnExactIsLucky", fn := fun _ => fun
  | [d] => { results := [.lit (.bool false)], args := [d] }
  | _ => none }
def FnExactIsLuckyWrongFalsely : Prop := fnExactIsLuckyRow.holds Try.pinned (OpenSpec.ofChange fnExactIsLuckyWrong)

/-- 'laws.FnExactIsEverySecond': WHATEVER THE INPUT: true; the input reads as it did. -/
def fnExactIsEverySecondSpec : ChangeSpec := { name := "fnExactIsEverySecond", fn := fun _ => fun
  | [d] => { results := [.lit (.bool true)], args := [d] }
  | _ => none }
def fnExactIsEverySecondRow : OpenClaim := { program := "ytapeohnjjmokkaa", sum := "de4b2b69fd19307e5eb2d5cdae66c392601660712d04c03eb9f13fc4934b2141", func := "loop.example/g01395/laws.FnExactIsEverySecond", spec := "fnExactIsEverySecond", inPlace := ["internal/abi.NoEscape"], unfollowed := true, recurses := true, apart := false }
def FnExactIsEverySecondSaid : Prop := fnExactIsEverySecondRow.holds Try.pinned (OpenSpec.ofChange fnExactIsEverySecondSpec)

/-- ITS FALSE NEIGHBOUR: 'it returns false'. Refute it at one input. -/
def fnExactIsEverySecondWrong : ChangeSpec := { name := "fnExactIsEverySecond", fn := fun _ => fun
  | [d] => { results := [.lit (.bool false)], args := [d] }
  | _ => none }
def FnExactIsEverySecondWrongFalsely : Prop := fnExactIsEverySecondRow.holds Try.pinned (OpenSpec.ofChange fnExactIsEverySecondWrong)

/-- 'laws.FnExactCountLucky': WHATEVER THE INPUT: true; the input reads as it did. -/
def fnExactCountLuckySpec : ChangeSpec := { name := "fnExactCountLucky", fn := fun _ => fun
  | [d] => { results := [.lit (.bool true)], args := [d] }
  | _ => none }
def fnExactCountLuckyRow : OpenClaim := { program := "ytapeohnjjmokkaa", sum := "de4b2b69fd19307e5eb2d5cdae66c392601660712d04c03eb9f13fc4934b2141", func := "loop.example/g01395/laws.FnExactCountLucky", spec := "fnExactCountLucky", apart := false }
def FnExactCountLuckySaid : Prop := fnExactCountLuckyRow.holds Try.pinned (OpenSpec.ofChange fnExactCountLuckySpec)

/-- ITS FALSE NEIGHBOUR: 'it returns false'. Refute it at one input. -/
def fnExactCountLuckyWrong : ChangeSpec := { name := "fnExactCountLucky", fn := fun _ => fun
  | [d] => { results := [.lit (.bool false)], args := [d] }
  | _ => none }
def FnExactCountLuckyWrongFalsely : Prop := fnExactCountLuckyRow.holds Try.pinned (OpenSpec.ofChange fnExactCountLuckyWrong)

/-- 'laws.FnExactCountLuckyOf': WHATEVER THE INPUT: true; the input reads as it did. -/
def fnExactCountLuckyOfSpec : ChangeSpec := { name := "fnExactCountLuckyOf", fn := fun _ => fun
  | [d1, d2] => { results := [.lit (.bool true)], args := [d1, d2] }
  | _ => none }
def fnExactCountLuckyOfRow : OpenClaim := { program := "ytapeohnjjmokkaa", sum := "de4b2b69fd19307e5eb2d5cdae66c392601660712d04c03eb9f13fc4934b2141", func := "loop.example/g01395/laws.FnExactCountLuckyOf", spec := "fnExactCountLuckyOf", apart := false }
def FnExactCountLuckyOfSaid : Prop := fnExactCountLuckyOfRow.holds Try.pinned (OpenSpec.ofChange fnExactCountLuckyOfSpec)

/-- ITS FALSE NEIGHBOUR: 'it returns false'. Refute it at one input. -/
def fnExactCountLuckyOfWrong : ChangeSpec := { name := "fnExactCountLuckyOf", fn := fun _ => fun
  | [d1, d2] => { results := [.lit (.bool false)], args := [d1, d2] }
  | _ => none }
def FnExactCountLuckyOfWrongFalsely : Prop := fnExactCountLuckyOfRow.holds Try.pinned (OpenSpec.ofChange fnExactCountLuckyOfWrong)

/-- 'laws.FnExactCountTickets': WHATEVER THE INPUT: true; the input reads as it did. -/
def fnExactCountTicketsSpec : ChangeSpec := { name := "fnExactCountTickets", fn := fun _ => fun
  | [d1, d2, d3] => { results := [.lit (.bool true)], args := [d1, d2, d3] }
  | _ => none }
def fnExactCountTicketsRow : OpenClaim := { program := "ytapeohnjjmokkaa", sum := "de4b2b69fd19307e5eb2d5cdae66c392601660712d04c03eb9f13fc4934b2141", func := "loop.example/g01395/laws.FnExactCountTickets", spec := "fnExactCountTickets", apart := false }
def FnExactCountTicketsSaid : Prop := fnExactCountTicketsRow.holds Try.pinned (OpenSpec.ofChange fnExactCountTicketsSpec)

/-- ITS FALSE NEIGHBOUR: 'it returns false'. Refute it at one input. -/
def fnExactCountTicketsWrong : ChangeSpec := { name := "fnExactCountTickets", fn := fun _ => fun
  | [d1, d2, d3] => { results := [.lit (.bool false)], args := [d1, d2, d3] }
  | _ => none }
def FnExactCountTicketsWrongFalsely : Prop := fnExactCountTicketsRow.holds Try.pinned (OpenSpec.ofChange fnExactCountTicketsWrong)

/-- 'laws.FnExactRankOfLucky': WHATEVER THE INPUT: true; the input reads as it did. -/
def fnExactRankOfLuckySpec : ChangeSpec := { name := "fnExactRankOfLucky", fn := fun _ => fun
  | [d] => { results := [.lit (.bool true)], args := [d] }
  | _ => none }
def fnExactRankOfLuckyRow : OpenClaim := { program := "ytapeohnjjmokkaa", sum := "de4b2b69fd19307e5eb2d5cdae66c392601660712d04c03eb9f13fc4934b2141", func := "loop.example/g01395/laws.FnExactRankOfLucky", spec := "fnExactRankOfLucky", apart := false }
def FnExactRankOfLuckySaid : Prop := fnExactRankOfLuckyRow.holds Try.pinned (OpenSpec.ofChange fnExactRankOfLuckySpec)

/-- ITS FALSE NEIGHBOUR: 'it returns false'. Refute it at one input. -/
def fnExactRankOfLuckyWrong : ChangeSpec := { name := "fnExactRankOfLucky", fn := fun _ => fun
  | [d] => { results := [.lit (.bool false)], args := [d] }
  | _ => none }
def FnExactRankOfLuckyWrongFalsely : Prop := fnExactRankOfLuckyRow.holds Try.pinned (OpenSpec.ofChange fnExactRankOfLuckyWrong)

/-- 'laws.FnExactLuckyOfRank': WHATEVER THE INPUT: true; the input reads as it did. -/
def fnExactLuckyOfRankSpec : ChangeSpec := { name := "fnExactLuckyOfRank", fn := fun _ => fun
  | [d1, d2] => { results := [.lit (.bool true)], args := [d1, d2] }
  | _ => none }
def fnExactLuckyOfRankRow : OpenClaim := { program := "ytapeohnjjmokkaa", sum := "de4b2b69fd19307e5eb2d5cdae66c392601660712d04c03eb9f13fc4934b2141", func := "loop.example/g01395/laws.FnExactLuckyOfRank", spec := "fnExactLuckyOfRank", inPlace := ["internal/abi.NoEscape"], recurses := true, apart := false }
def FnExactLuckyOfRankSaid : Prop := fnExactLuckyOfRankRow.holds Try.pinned (OpenSpec.ofChange fnExactLuckyOfRankSpec)

/-- ITS FALSE NEIGHBOUR: 'it returns false'. Refute it at one input. -/
def fnExactLuckyOfRankWrong : ChangeSpec := { name := "fnExactLuckyOfRank", fn := fun _ => fun
  | [d1, d2] => { results := [.lit (.bool false)], args := [d1, d2] }
  | _ => none }
def FnExactLuckyOfRankWrongFalsely : Prop := fnExactLuckyOfRankRow.holds Try.pinned (OpenSpec.ofChange fnExactLuckyOfRankWrong)

/-- 'laws.FnExactNextLucky': WHATEVER THE INPUT: true; the input reads as it did. -/
def fnExactNextLuckySpec : ChangeSpec := { name := "fnExactNextLucky", fn := fun _ => fun
  | [d] => { results := [.lit (.bool true)], args := [d] }
  | _ => none }
def fnExactNextLuckyRow : OpenClaim := { program := "ytapeohnjjmokkaa", sum := "de4b2b69fd19307e5eb2d5cdae66c392601660712d04c03eb9f13fc4934b2141", func := "loop.example/g01395/laws.FnExactNextLucky", spec := "fnExactNextLucky", inPlace := ["internal/abi.NoEscape"], recurses := true, apart := false }
def FnExactNextLuckySaid : Prop := fnExactNextLuckyRow.holds Try.pinned (OpenSpec.ofChange fnExactNextLuckySpec)

/-- ITS FALSE NEIGHBOUR: 'it returns false'. Refute it at one input. -/
def fnExactNextLuckyWrong : ChangeSpec := { name := "fnExactNextLucky", fn := fun _ => fun
  | [d] => { results := [.lit (.bool false)], args := [d] }
  | _ => none }
def FnExactNextLuckyWrongFalsely : Prop := fnExactNextLuckyRow.holds Try.pinned (OpenSpec.ofChange fnExactNextLuckyWrong)

/-- 'laws.FnExactLastLucky': WHATEVER THE INPUT: true; the input reads as it did. -/
def fnExactLastLuckySpec : ChangeSpec := { name := "fnExactLastLucky", fn := fun _ => fun
  | [d] => { results := [.lit (.bool true)], args := [d] }
  | _ => none }
def fnExactLastLuckyRow : OpenClaim := { program := "ytapeohnjjmokkaa", sum := "de4b2b69fd19307e5eb2d5cdae66c392601660712d04c03eb9f13fc4934b2141", func := "loop.example/g01395/laws.FnExactLastLucky", spec := "fnExactLastLucky", inPlace := ["internal/abi.NoEscape"], recurses := true, apart := false }
def FnExactLastLuckySaid : Prop := fnExactLastLuckyRow.holds Try.pinned (OpenSpec.ofChange fnExactLastLuckySpec)

/-- ITS FALSE NEIGHBOUR: 'it returns false'. Refute it at one input. -/
def fnExactLastLuckyWrong : ChangeSpec := { name := "fnExactLastLucky", fn := fun _ => fun
  | [d] => { results := [.lit (.bool false)], args := [d] }
  | _ => none }
def FnExactLastLuckyWrongFalsely : Prop := fnExactLastLuckyRow.holds Try.pinned (OpenSpec.ofChange fnExactLastLuckyWrong)

/- THE SECOND FORM. 'bulk': how many values and letters a reading holds, each counted each time it is reached (what is shared counts as often as it is met; a slice's spare places count too). A statement '..UptoSaid' is the law's where the arguments, and the package variables that the reading takes, are together of bulk at most 1048576: NARROWER than '..Said'. Prove '..Said' where nothing that the law and all that it calls make is longer than what came in: it says more and counts as full. Else prove '..UptoSaid'. A law counts once. -/
mutual
def uptoBulk {H : Type} : DataW H → Nat
  | .lit (.string bytes) => bytes.length + 1
  | .lit _ => 1
  | .nil => 1
  | .ptr d => uptoBulk d + 1
  | .slice elems spare => uptoBulkAll elems + uptoBulkAll spare + 1
  | .agg parts => uptoBulkAll parts + 1
  | .iface _ d => uptoBulk d + 1
  | .map entries => uptoBulkEntries entries + 1
  | .held _ => 1
def uptoBulkAll {H : Type} : List (DataW H) → Nat
  | [] => 0
  | d :: r => uptoBulk d + uptoBulkAll r
def uptoBulkEntries {H : Type} : List (Lit × DataW H) → Nat
  | [] => 0
  | x :: r => uptoBulkEntry x + uptoBulkEntries r
def uptoBulkEntry {H : Type} : Lit × DataW H → Nat
  | (.string bytes, d) => bytes.length + uptoBulk d + 1
  | (_, d) => uptoBulk d + 1
 end
def uptoSmall : (H : Type) → List (DataW H) → Bool := fun _ ds => decide (uptoBulkAll ds ≤ 1048576)
def OpenSpec.upto (s : _root_.Go.ChangeSpec) : _root_.Go.OpenSpec := { _root_.Go.OpenSpec.ofChange s with cond := some uptoSmall }

/-- 'laws.FnExactIsTicket', WHERE WHAT IT READS IS OF BULK AT MOST 1048576: true; the input reads as it did. -/
def fnExactIsTicketUptoRow : OpenClaim := { program := "ytapeohnjjmokkaa", sum := "de4b2b69fd19307e5eb2d5cdae66c392601660712d04c03eb9f13fc4934b2141", func := "loop.example/g01395/laws.FnExactIsTicket", spec := "fnExactIsTicket", apart := false, narrowed := true }
def FnExactIsTicketUptoSaid : Prop := fnExactIsTicketUptoRow.holds Try.pinned (OpenSpec.upto fnExactIsTicketSpec)

/-- 'laws.FnExactHalfSums', WHERE WHAT IT READS IS OF BULK AT MOST 1048576: true; the input reads as it did. -/
def fnExactHalfSumsUptoRow : OpenClaim := { program := "ytapeohnjjmokkaa", sum := "de4b2b69fd19307e5eb2d5cdae66c392601660712d04c03eb9f13fc4934b2141", func := "loop.example/g01395/laws.FnExactHalfSums", spec := "fnExactHalfSums", unfollowed := true, recurses := true, apart := false, narrowed := true }
def FnExactHalfSumsUptoSaid : Prop := fnExactHalfSumsUptoRow.holds Try.pinned (OpenSpec.upto fnExactHalfSumsSpec)

/-- 'laws.FnExactIsLucky', WHERE WHAT IT READS IS OF BULK AT MOST 1048576: true; the input reads as it did. -/
def fnExactIsLuckyUptoRow : OpenClaim := { program := "ytapeohnjjmokkaa", sum := "de4b2b69fd19307e5eb2d5cdae66c392601660712d04c03eb9f13fc4934b2141", func := "loop.example/g01395/laws.FnExactIsLucky", spec := "fnExactIsLucky", unfollowed := true, recurses := true, apart := false, narrowed := true }
def FnExactIsLuckyUptoSaid : Prop := fnExactIsLuckyUptoRow.holds Try.pinned (OpenSpec.upto fnExactIsLuckySpec)

/-- 'laws.FnExactIsEverySecond', WHERE WHAT IT READS IS OF BULK AT MOST 1048576: true; the input reads as it did. -/
def fnExactIsEverySecondUptoRow : OpenClaim := { program := "ytapeohnjjmokkaa", sum := "de4b2b69fd19307e5eb2d5cdae66c392601660712d04c03eb9f13fc4934b2141", func := "loop.example/g01395/laws.FnExactIsEverySecond", spec := "fnExactIsEverySecond", inPlace := ["internal/abi.NoEscape"], unfollowed := true, recurses := true, apart := false, narrowed := true }
def FnExactIsEverySecondUptoSaid : Prop := fnExactIsEverySecondUptoRow.holds Try.pinned (OpenSpec.upto fnExactIsEverySecondSpec)

/-- 'laws.FnExactCountLucky', WHERE WHAT IT READS IS OF BULK AT MOST 1048576: true; the input reads as it did. -/
def fnExactCountLuckyUptoRow : OpenClaim := { program := "ytapeohnjjmokkaa", sum := "de4b2b69fd19307e5eb2d5cdae66c392601660712d04c03eb9f13fc4934b2141", func := "loop.example/g01395/laws.FnExactCountLucky", spec := "fnExactCountLucky", apart := false, narrowed := true }
def FnExactCountLuckyUptoSaid : Prop := fnExactCountLuckyUptoRow.holds Try.pinned (OpenSpec.upto fnExactCountLuckySpec)

/-- 'laws.FnExactCountLuckyOf', WHERE WHAT IT READS IS OF BULK AT MOST 1048576: true; the input reads as it did. -/
def fnExactCountLuckyOfUptoRow : OpenClaim := { program := "ytapeohnjjmokkaa", sum := "de4b2b69fd19307e5eb2d5cdae66c392601660712d04c03eb9f13fc4934b2141", func := "loop.example/g01395/laws.FnExactCountLuckyOf", spec := "fnExactCountLuckyOf", apart := false, narrowed := true }
def FnExactCountLuckyOfUptoSaid : Prop := fnExactCountLuckyOfUptoRow.holds Try.pinned (OpenSpec.upto fnExactCountLuckyOfSpec)

/-- 'laws.FnExactCountTickets', WHERE WHAT IT READS IS OF BULK AT MOST 1048576: true; the input reads as it did. -/
def fnExactCountTicketsUptoRow : OpenClaim := { program := "ytapeohnjjmokkaa", sum := "de4b2b69fd19307e5eb2d5cdae66c392601660712d04c03eb9f13fc4934b2141", func := "loop.example/g01395/laws.FnExactCountTickets", spec := "fnExactCountTickets", apart := false, narrowed := true }
def FnExactCountTicketsUptoSaid : Prop := fnExactCountTicketsUptoRow.holds Try.pinned (OpenSpec.upto fnExactCountTicketsSpec)

/-- 'laws.FnExactRankOfLucky', WHERE WHAT IT READS IS OF BULK AT MOST 1048576: true; the input reads as it did. -/
def fnExactRankOfLuckyUptoRow : OpenClaim := { program := "ytapeohnjjmokkaa", sum := "de4b2b69fd19307e5eb2d5cdae66c392601660712d04c03eb9f13fc4934b2141", func := "loop.example/g01395/laws.FnExactRankOfLucky", spec := "fnExactRankOfLucky", apart := false, narrowed := true }
def FnExactRankOfLuckyUptoSaid : Prop := fnExactRankOfLuckyUptoRow.holds Try.pinned (OpenSpec.upto fnExactRankOfLuckySpec)

/-- 'laws.FnExactLuckyOfRank', WHERE WHAT IT READS IS OF BULK AT MOST 1048576: true; the input reads as it did. -/
def fnExactLuckyOfRankUptoRow : OpenClaim := { program := "ytapeohnjjmokkaa", sum := "de4b2b69fd19307e5eb2d5cdae66c392601660712d04c03eb9f13fc4934b2141", func := "loop.example/g01395/laws.FnExactLuckyOfRank", spec := "fnExactLuckyOfRank", inPlace := ["internal/abi.NoEscape"], recurses := true, apart := false, narrowed := true }
def FnExactLuckyOfRankUptoSaid : Prop := fnExactLuckyOfRankUptoRow.holds Try.pinned (OpenSpec.upto fnExactLuckyOfRankSpec)

/-- 'laws.FnExactNextLucky', WHERE WHAT IT READS IS OF BULK AT MOST 1048576: true; the input reads as it did. -/
def fnExactNextLuckyUptoRow : OpenClaim := { program := "ytapeohnjjmokkaa", sum := "de4b2b69fd19307e5eb2d5cdae66c392601660712d04c03eb9f13fc4934b2141", func := "loop.example/g01395/laws.FnExactNextLucky", spec := "fnExactNextLucky", inPlace := ["internal/abi.NoEscape"], recurses := true, apart := false, narrowed := true }
def FnExactNextLuckyUptoSaid : Prop := fnExactNextLuckyUptoRow.holds Try.pinned (OpenSpec.upto fnExactNextLuckySpec)

/-- 'laws.FnExactLastLucky', WHERE WHAT IT READS IS OF BULK AT MOST 1048576: true; the input reads as it did. -/
def fnExactLastLuckyUptoRow : OpenClaim := { program := "ytapeohnjjmokkaa", sum := "de4b2b69fd19307e5eb2d5cdae66c392601660712d04c03eb9f13fc4934b2141", func := "loop.example/g01395/laws.FnExactLastLucky", spec := "fnExactLastLucky", inPlace := ["internal/abi.NoEscape"], recurses := true, apart := false, narrowed := true }
def FnExactLastLuckyUptoSaid : Prop := fnExactLastLuckyUptoRow.holds Try.pinned (OpenSpec.upto fnExactLastLuckySpec)

end Rows
end Go.Proofs.Ytapeohnjjmokkaa
