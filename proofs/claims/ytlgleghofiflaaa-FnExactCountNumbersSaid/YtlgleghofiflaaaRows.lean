/-
  No cell of these rows narrows 'for every input' (looked for: loops, veiled, ifaces, maps, wideKeys, modest, calm, conditions, laid).
  DERIVED. THE GIVEN ROWS OF THIS SEAT. 12 by the template 'for every input the law returns true; each argument reads behind the call as it read before'; 0 by the template 'total and deterministic' (their statements: YtlgleghofiflaaaTotals.lean).
  GIVEN WITH THE SEED: the statements are not yours to turn. If you find one false, say at which input.
  Laid BY PROGRAM, IN A SANDBOX (cutbox-rows.mjs): the forced cells as the released guide's own fill.sh prints them over the translation 527e555080fc0218… (all of the seat's roots in one cut). By AI agents, Wed Nov 11 2026. No macro, syntax, notation, axiom, sorry.
-/
import Derived.Test.YtlgleghofiflaaaChecked
import GoSem.Claim
import GoSem.ClaimJoined
import GoSem.ClaimMapViews
import Derived.JoinedTies
import Derived.KernelRfl
namespace Go.Proofs.Ytlgleghofiflaaa
/- THE CELL 'sum', in the pinned program and in every row, IS THE sha256 OF THE DUMP (.gsa) THAT YtlgleghofiflaaaProg.lean LOADS. Nothing in Lean hashes anything: it is a label: what it is worth is what the hold of that sum in a sandbox is worth. -/
noncomputable def Try.pinned : Pinned := { name := "ytlgleghofiflaaa", sum := "527e555080fc0218e33ae0157d998ade494b69b3fe4b55a137e69fe21c3abc2b", checked := Try.checked }
namespace Rows
def none {H : Type} : Left H := { results := [], args := [] }

/-- 'laws.FnExactIsSigned': WHATEVER THE INPUT: true; the input reads as it did. -/
def fnExactIsSignedSpec : ChangeSpec := { name := "fnExactIsSigned", fn := fun _ => fun
  | [d] => { results := [.lit (.bool true)], args := [d] }
  | _ => none }
def fnExactIsSignedRow : OpenClaim := { program := "ytlgleghofiflaaa", sum := "527e555080fc0218e33ae0157d998ade494b69b3fe4b55a137e69fe21c3abc2b", func := "loop.example/g01395/laws.FnExactIsSigned", spec := "fnExactIsSigned", apart := false }
def FnExactIsSignedSaid : Prop := fnExactIsSignedRow.holds Try.pinned (OpenSpec.ofChange fnExactIsSignedSpec)

/-- ITS FALSE NEIGHBOUR: 'it returns false'. Refute it at one input. -/
def fnExactIsSignedWrong : ChangeSpec := { name := "fnExactIsSigned", fn := fun _ => fun
  | [d] => { results := [.lit (.bool false)], args := [d] }
  | _ => none }
def FnExactIsSignedWrongFalsely : Prop := fnExactIsSignedRow.holds Try.pinned (OpenSpec.ofChange fnExactIsSignedWrong)

/-- 'laws.FnExactValueOfSigned': WHATEVER THE INPUT: true; the input reads as it did. -/
def fnExactValueOfSignedSpec : ChangeSpec := { name := "fnExactValueOfSigned", fn := fun _ => fun
  | [d] => { results := [.lit (.bool true)], args := [d] }
  | _ => none }
def fnExactValueOfSignedRow : OpenClaim := { program := "ytlgleghofiflaaa", sum := "527e555080fc0218e33ae0157d998ade494b69b3fe4b55a137e69fe21c3abc2b", func := "loop.example/g01395/laws.FnExactValueOfSigned", spec := "fnExactValueOfSigned", apart := false }
def FnExactValueOfSignedSaid : Prop := fnExactValueOfSignedRow.holds Try.pinned (OpenSpec.ofChange fnExactValueOfSignedSpec)

/-- ITS FALSE NEIGHBOUR: 'it returns false'. Refute it at one input. -/
def fnExactValueOfSignedWrong : ChangeSpec := { name := "fnExactValueOfSigned", fn := fun _ => fun
  | [d] => { results := [.lit (.bool false)], args := [d] }
  | _ => none }
def FnExactValueOfSignedWrongFalsely : Prop := fnExactValueOfSignedRow.holds Try.pinned (OpenSpec.ofChange fnExactValueOfSignedWrong)

/-- 'laws.FnExactCountSigns': WHATEVER THE INPUT: true; the input reads as it did. -/
def fnExactCountSignsSpec : ChangeSpec := { name := "fnExactCountSigns", fn := fun _ => fun
  | [d] => { results := [.lit (.bool true)], args := [d] }
  | _ => none }
def fnExactCountSignsRow : OpenClaim := { program := "ytlgleghofiflaaa", sum := "527e555080fc0218e33ae0157d998ade494b69b3fe4b55a137e69fe21c3abc2b", func := "loop.example/g01395/laws.FnExactCountSigns", spec := "fnExactCountSigns", apart := false }
def FnExactCountSignsSaid : Prop := fnExactCountSignsRow.holds Try.pinned (OpenSpec.ofChange fnExactCountSignsSpec)

/-- ITS FALSE NEIGHBOUR: 'it returns false'. Refute it at one input. -/
def fnExactCountSignsWrong : ChangeSpec := { name := "fnExactCountSigns", fn := fun _ => fun
  | [d] => { results := [.lit (.bool false)], args := [d] }
  | _ => none }
def FnExactCountSignsWrongFalsely : Prop := fnExactCountSignsRow.holds Try.pinned (OpenSpec.ofChange fnExactCountSignsWrong)

/-- 'laws.FnExactJoinSigned': WHATEVER THE INPUT: true; the input reads as it did. -/
def fnExactJoinSignedSpec : ChangeSpec := { name := "fnExactJoinSigned", fn := fun _ => fun
  | [d1, d2, d3] => { results := [.lit (.bool true)], args := [d1, d2, d3] }
  | _ => none }
def fnExactJoinSignedRow : OpenClaim := { program := "ytlgleghofiflaaa", sum := "527e555080fc0218e33ae0157d998ade494b69b3fe4b55a137e69fe21c3abc2b", func := "loop.example/g01395/laws.FnExactJoinSigned", spec := "fnExactJoinSigned", apart := false }
def FnExactJoinSignedSaid : Prop := fnExactJoinSignedRow.holds Try.pinned (OpenSpec.ofChange fnExactJoinSignedSpec)

/-- ITS FALSE NEIGHBOUR: 'it returns false'. Refute it at one input. -/
def fnExactJoinSignedWrong : ChangeSpec := { name := "fnExactJoinSigned", fn := fun _ => fun
  | [d1, d2, d3] => { results := [.lit (.bool false)], args := [d1, d2, d3] }
  | _ => none }
def FnExactJoinSignedWrongFalsely : Prop := fnExactJoinSignedRow.holds Try.pinned (OpenSpec.ofChange fnExactJoinSignedWrong)

/-- 'laws.FnExactCountMade': WHATEVER THE INPUT: true; the input reads as it did. -/
def fnExactCountMadeSpec : ChangeSpec := { name := "fnExactCountMade", fn := fun _ => fun
  | [d1, d2] => { results := [.lit (.bool true)], args := [d1, d2] }
  | _ => none }
def fnExactCountMadeRow : OpenClaim := { program := "ytlgleghofiflaaa", sum := "527e555080fc0218e33ae0157d998ade494b69b3fe4b55a137e69fe21c3abc2b", func := "loop.example/g01395/laws.FnExactCountMade", spec := "fnExactCountMade", apart := false }
def FnExactCountMadeSaid : Prop := fnExactCountMadeRow.holds Try.pinned (OpenSpec.ofChange fnExactCountMadeSpec)

/-- ITS FALSE NEIGHBOUR: 'it returns false'. Refute it at one input. -/
def fnExactCountMadeWrong : ChangeSpec := { name := "fnExactCountMade", fn := fun _ => fun
  | [d1, d2] => { results := [.lit (.bool false)], args := [d1, d2] }
  | _ => none }
def FnExactCountMadeWrongFalsely : Prop := fnExactCountMadeRow.holds Try.pinned (OpenSpec.ofChange fnExactCountMadeWrong)

/-- 'laws.FnExactCountPlain': WHATEVER THE INPUT: true; the input reads as it did. -/
def fnExactCountPlainSpec : ChangeSpec := { name := "fnExactCountPlain", fn := fun _ => fun
  | [d1, d2] => { results := [.lit (.bool true)], args := [d1, d2] }
  | _ => none }
def fnExactCountPlainRow : OpenClaim := { program := "ytlgleghofiflaaa", sum := "527e555080fc0218e33ae0157d998ade494b69b3fe4b55a137e69fe21c3abc2b", func := "loop.example/g01395/laws.FnExactCountPlain", spec := "fnExactCountPlain", apart := false }
def FnExactCountPlainSaid : Prop := fnExactCountPlainRow.holds Try.pinned (OpenSpec.ofChange fnExactCountPlainSpec)

/-- ITS FALSE NEIGHBOUR: 'it returns false'. Refute it at one input. -/
def fnExactCountPlainWrong : ChangeSpec := { name := "fnExactCountPlain", fn := fun _ => fun
  | [d1, d2] => { results := [.lit (.bool false)], args := [d1, d2] }
  | _ => none }
def FnExactCountPlainWrongFalsely : Prop := fnExactCountPlainRow.holds Try.pinned (OpenSpec.ofChange fnExactCountPlainWrong)

/-- 'laws.FnExactFirstMade': WHATEVER THE INPUT: true; the input reads as it did. -/
def fnExactFirstMadeSpec : ChangeSpec := { name := "fnExactFirstMade", fn := fun _ => fun
  | [d1, d2] => { results := [.lit (.bool true)], args := [d1, d2] }
  | _ => none }
def fnExactFirstMadeRow : OpenClaim := { program := "ytlgleghofiflaaa", sum := "527e555080fc0218e33ae0157d998ade494b69b3fe4b55a137e69fe21c3abc2b", func := "loop.example/g01395/laws.FnExactFirstMade", spec := "fnExactFirstMade", unfollowed := true, recurses := true, apart := false }
def FnExactFirstMadeSaid : Prop := fnExactFirstMadeRow.holds Try.pinned (OpenSpec.ofChange fnExactFirstMadeSpec)

/-- ITS FALSE NEIGHBOUR: 'it returns false'. Refute it at one input. -/
def fnExactFirstMadeWrong : ChangeSpec := { name := "fnExactFirstMade", fn := fun _ => fun
  | [d1, d2] => { results := [.lit (.bool false)], args := [d1, d2] }
  | _ => none }
def FnExactFirstMadeWrongFalsely : Prop := fnExactFirstMadeRow.holds Try.pinned (OpenSpec.ofChange fnExactFirstMadeWrong)

/-- 'laws.FnExactFirstPlain': WHATEVER THE INPUT: true; the input reads as it did. -/
def fnExactFirstPlainSpec : ChangeSpec := { name := "fnExactFirstPlain", fn := fun _ => fun
  | [d1, d2] => { results := [.lit (.bool true)], args := [d1, d2] }
  | _ => none }
def fnExactFirstPlainRow : OpenClaim := { program := "ytlgleghofiflaaa", sum := "527e555080fc0218e33ae0157d998ade494b69b3fe4b55a137e69fe21c3abc2b", func := "loop.example/g01395/laws.FnExactFirstPlain", spec := "fnExactFirstPlain", unfollowed := true, recurses := true, apart := false }
def FnExactFirstPlainSaid : Prop := fnExactFirstPlainRow.holds Try.pinned (OpenSpec.ofChange fnExactFirstPlainSpec)

/-- ITS FALSE NEIGHBOUR: 'it returns false'. Refute it at one input. -/
def fnExactFirstPlainWrong : ChangeSpec := { name := "fnExactFirstPlain", fn := fun _ => fun
  | [d1, d2] => { results := [.lit (.bool false)], args := [d1, d2] }
  | _ => none }
def FnExactFirstPlainWrongFalsely : Prop := fnExactFirstPlainRow.holds Try.pinned (OpenSpec.ofChange fnExactFirstPlainWrong)

/-- 'laws.FnExactAllMade': WHATEVER THE INPUT: true; the input reads as it did. -/
def fnExactAllMadeSpec : ChangeSpec := { name := "fnExactAllMade", fn := fun _ => fun
  | [d1, d2] => { results := [.lit (.bool true)], args := [d1, d2] }
  | _ => none }
def fnExactAllMadeRow : OpenClaim := { program := "ytlgleghofiflaaa", sum := "527e555080fc0218e33ae0157d998ade494b69b3fe4b55a137e69fe21c3abc2b", func := "loop.example/g01395/laws.FnExactAllMade", spec := "fnExactAllMade", apart := false }
def FnExactAllMadeSaid : Prop := fnExactAllMadeRow.holds Try.pinned (OpenSpec.ofChange fnExactAllMadeSpec)

/-- ITS FALSE NEIGHBOUR: 'it returns false'. Refute it at one input. -/
def fnExactAllMadeWrong : ChangeSpec := { name := "fnExactAllMade", fn := fun _ => fun
  | [d1, d2] => { results := [.lit (.bool false)], args := [d1, d2] }
  | _ => none }
def FnExactAllMadeWrongFalsely : Prop := fnExactAllMadeRow.holds Try.pinned (OpenSpec.ofChange fnExactAllMadeWrong)

/-- 'laws.FnExactFewestSigns': WHATEVER THE INPUT: true; the input reads as it did. -/
def fnExactFewestSignsSpec : ChangeSpec := { name := "fnExactFewestSigns", fn := fun _ => fun
  | [d1, d2] => { results := [.lit (.bool true)], args := [d1, d2] }
  | _ => none }
def fnExactFewestSignsRow : OpenClaim := { program := "ytlgleghofiflaaa", sum := "527e555080fc0218e33ae0157d998ade494b69b3fe4b55a137e69fe21c3abc2b", func := "loop.example/g01395/laws.FnExactFewestSigns", spec := "fnExactFewestSigns", apart := false }
def FnExactFewestSignsSaid : Prop := fnExactFewestSignsRow.holds Try.pinned (OpenSpec.ofChange fnExactFewestSignsSpec)

/-- ITS FALSE NEIGHBOUR: 'it returns false'. Refute it at one input. -/
def fnExactFewestSignsWrong : ChangeSpec := { name := "fnExactFewestSigns", fn := fun _ => fun
  | [d1, d2] => { results := [.lit (.bool false)], args := [d1, d2] }
  | _ => none }
def FnExactFewestSignsWrongFalsely : Prop := fnExactFewestSignsRow.holds Try.pinned (OpenSpec.ofChange fnExactFewestSignsWrong)

/-- 'laws.FnExactFirstFewestSigns': WHATEVER THE INPUT: true; the input reads as it did. -/
def fnExactFirstFewestSignsSpec : ChangeSpec := { name := "fnExactFirstFewestSigns", fn := fun _ => fun
  | [d1, d2] => { results := [.lit (.bool true)], args := [d1, d2] }
  | _ => none }
def fnExactFirstFewestSignsRow : OpenClaim := { program := "ytlgleghofiflaaa", sum := "527e555080fc0218e33ae0157d998ade494b69b3fe4b55a137e69fe21c3abc2b", func := "loop.example/g01395/laws.FnExactFirstFewestSigns", spec := "fnExactFirstFewestSigns", unfollowed := true, recurses := true, apart := false }
def FnExactFirstFewestSignsSaid : Prop := fnExactFirstFewestSignsRow.holds Try.pinned (OpenSpec.ofChange fnExactFirstFewestSignsSpec)

/-- ITS FALSE NEIGHBOUR: 'it returns false'. Refute it at one input. -/
def fnExactFirstFewestSignsWrong : ChangeSpec := { name := "fnExactFirstFewestSigns", fn := fun _ => fun
  | [d1, d2] => { results := [.lit (.bool false)], args := [d1, d2] }
  | _ => none }
def FnExactFirstFewestSignsWrongFalsely : Prop := fnExactFirstFewestSignsRow.holds Try.pinned (OpenSpec.ofChange fnExactFirstFewestSignsWrong)

/-- 'laws.FnExactCountNumbers': WHATEVER THE INPUT: true; the input reads as it did. -/
def fnExactCountNumbersSpec : ChangeSpec := { name := "fnExactCountNumbers", fn := fun _ => fun
  | [d] => { results := [.lit (.bool true)], args := [d] }
  | _ => none }
def fnExactCountNumbersRow : OpenClaim := { program := "ytlgleghofiflaaa", sum := "527e555080fc0218e33ae0157d998ade494b69b3fe4b55a137e69fe21c3abc2b", func := "loop.example/g01395/laws.FnExactCountNumbers", spec := "fnExactCountNumbers", apart := false }
def FnExactCountNumbersSaid : Prop := fnExactCountNumbersRow.holds Try.pinned (OpenSpec.ofChange fnExactCountNumbersSpec)

/-- ITS FALSE NEIGHBOUR: 'it returns false'. Refute it at one input. -/
def fnExactCountNumbersWrong : ChangeSpec := { name := "fnExactCountNumbers", fn := fun _ => fun
  | [d] => { results := [.lit (.bool false)], args := [d] }
  | _ => none }
def FnExactCountNumbersWrongFalsely : Prop := fnExactCountNumbersRow.holds Try.pinned (OpenSpec.ofChange fnExactCountNumbersWrong)

/- THE SECOND FORM. 'bulk': how many values and letters a reading holds, each counted each time it is reached (what is shared counts as often as it is met; a slice's spare places count too). A statement '..UptoSaid' is the law's where the arguments, and the package variables that the reading takes, are together of bulk at most 1048576: NARROWER than '..Said'. Prove '..Said' where nothing that the law and all that it calls make is longer than what came in: it says more and counts as full. Else prove '..UptoSaid'. A law counts once. -/
mutual
def uptoBulk {H : Type} : DataW H → Nat
  | .lit (.string bytes) => bytes.length + 1
  | .lit _ => 1
  | .nil => 1
  | .ptr d => uptoBulk d + 1
  | .slice elems spare => uptoBulkAll elems + uptoBulkAll spare + 1
  | .agg parts => uptoBulkAll parts + 1
  | .iface _ d => uptoBulk d + 1
  | .map entries => uptoBulkEntries entries + 1
  | .held _ => 1
def uptoBulkAll {H : Type} : List (DataW H) → Nat
  | [] => 0
  | d :: r => uptoBulk d + uptoBulkAll r
def uptoBulkEntries {H : Type} : List (Lit × DataW H) → Nat
  | [] => 0
  | x :: r => uptoBulkEntry x + uptoBulkEntries r
def uptoBulkEntry {H : Type} : Lit × DataW H → Nat
  | (.string bytes, d) => bytes.length + uptoBulk d + 1
  | (_, d) => uptoBulk d + 1
 end
def uptoSmall : (H : Type) → List (DataW H) → Bool := fun _ ds => decide (uptoBulkAll ds ≤ 1048576)
def OpenSpec.upto (s : _root_.Go.ChangeSpec) : _root_.Go.OpenSpec := { _root_.Go.OpenSpec.ofChange s with cond := some uptoSmall }

/-- 'laws.FnExactIsSigned', WHERE WHAT IT READS IS OF BULK AT MOST 1048576: true; the input reads as it did. -/
def fnExactIsSignedUptoRow : OpenClaim := { program := "ytlgleghofiflaaa", sum := "527e555080fc0218e33ae0157d998ade494b69b3fe4b55a137e69fe21c3abc2b", func := "loop.example/g01395/laws.FnExactIsSigned", spec := "fnExactIsSigned", apart := false, narrowed := true }
def FnExactIsSignedUptoSaid : Prop := fnExactIsSignedUptoRow.holds Try.pinned (OpenSpec.upto fnExactIsSignedSpec)

/-- 'laws.FnExactValueOfSigned', WHERE WHAT IT READS IS OF BULK AT MOST 1048576: true; the input reads as it did. -/
def fnExactValueOfSignedUptoRow : OpenClaim := { program := "ytlgleghofiflaaa", sum := "527e555080fc0218e33ae0157d998ade494b69b3fe4b55a137e69fe21c3abc2b", func := "loop.example/g01395/laws.FnExactValueOfSigned", spec := "fnExactValueOfSigned", apart := false, narrowed := true }
def FnExactValueOfSignedUptoSaid : Prop := fnExactValueOfSignedUptoRow.holds Try.pinned (OpenSpec.upto fnExactValueOfSignedSpec)

/-- 'laws.FnExactCountSigns', WHERE WHAT IT READS IS OF BULK AT MOST 1048576: true; the input reads as it did. -/
def fnExactCountSignsUptoRow : OpenClaim := { program := "ytlgleghofiflaaa", sum := "527e555080fc0218e33ae0157d998ade494b69b3fe4b55a137e69fe21c3abc2b", func := "loop.example/g01395/laws.FnExactCountSigns", spec := "fnExactCountSigns", apart := false, narrowed := true }
def FnExactCountSignsUptoSaid : Prop := fnExactCountSignsUptoRow.holds Try.pinned (OpenSpec.upto fnExactCountSignsSpec)

/-- 'laws.FnExactJoinSigned', WHERE WHAT IT READS IS OF BULK AT MOST 1048576: true; the input reads as it did. -/
def fnExactJoinSignedUptoRow : OpenClaim := { program := "ytlgleghofiflaaa", sum := "527e555080fc0218e33ae0157d998ade494b69b3fe4b55a137e69fe21c3abc2b", func := "loop.example/g01395/laws.FnExactJoinSigned", spec := "fnExactJoinSigned", apart := false, narrowed := true }
def FnExactJoinSignedUptoSaid : Prop := fnExactJoinSignedUptoRow.holds Try.pinned (OpenSpec.upto fnExactJoinSignedSpec)

/-- 'laws.FnExactCountMade', WHERE WHAT IT READS IS OF BULK AT MOST 1048576: true; the input reads as it did. -/
def fnExactCountMadeUptoRow : OpenClaim := { program := "ytlgleghofiflaaa", sum := "527e555080fc0218e33ae0157d998ade494b69b3fe4b55a137e69fe21c3abc2b", func := "loop.example/g01395/laws.FnExactCountMade", spec := "fnExactCountMade", apart := false, narrowed := true }
def FnExactCountMadeUptoSaid : Prop := fnExactCountMadeUptoRow.holds Try.pinned (OpenSpec.upto fnExactCountMadeSpec)

/-- 'laws.FnExactCountPlain', WHERE WHAT IT READS IS OF BULK AT MOST 1048576: true; the input reads as it did. -/
def fnExactCountPlainUptoRow : OpenClaim := { program := "ytlgleghofiflaaa", sum := "527e555080fc0218e33ae0157d998ade494b69b3fe4b55a137e69fe21c3abc2b", func := "loop.example/g01395/laws.FnExactCountPlain", spec := "fnExactCountPlain", apart := false, narrowed := true }
def FnExactCountPlainUptoSaid : Prop := fnExactCountPlainUptoRow.holds Try.pinned (OpenSpec.upto fnExactCountPlainSpec)

/-- 'laws.FnExactFirstMade', WHERE WHAT IT READS IS OF BULK AT MOST 1048576: true; the input reads as it did. -/
def fnExactFirstMadeUptoRow : OpenClaim := { program := "ytlgleghofiflaaa", sum := "527e555080fc0218e33ae0157d998ade494b69b3fe4b55a137e69fe21c3abc2b", func := "loop.example/g01395/laws.FnExactFirstMade", spec := "fnExactFirstMade", unfollowed := true, recurses := true, apart := false, narrowed := true }
def FnExactFirstMadeUptoSaid : Prop := fnExactFirstMadeUptoRow.holds Try.pinned (OpenSpec.upto fnExactFirstMadeSpec)

/-- 'laws.FnExactFirstPlain', WHERE WHAT IT READS IS OF BULK AT MOST 1048576: true; the input reads as it did. -/
def fnExactFirstPlainUptoRow : OpenClaim := { program := "ytlgleghofiflaaa", sum := "527e555080fc0218e33ae0157d998ade494b69b3fe4b55a137e69fe21c3abc2b", func := "loop.example/g01395/laws.FnExactFirstPlain", spec := "fnExactFirstPlain", unfollowed := true, recurses := true, apart := false, narrowed := true }
def FnExactFirstPlainUptoSaid : Prop := fnExactFirstPlainUptoRow.holds Try.pinned (OpenSpec.upto fnExactFirstPlainSpec)

/-- 'laws.FnExactAllMade', WHERE WHAT IT READS IS OF BULK AT MOST 1048576: true; the input reads as it did. -/
def fnExactAllMadeUptoRow : OpenClaim := { program := "ytlgleghofiflaaa", sum := "527e555080fc0218e33ae0157d998ade494b69b3fe4b55a137e69fe21c3abc2b", func := "loop.example/g01395/laws.FnExactAllMade", spec := "fnExactAllMade", apart := false, narrowed := true }
def FnExactAllMadeUptoSaid : Prop := fnExactAllMadeUptoRow.holds Try.pinned (OpenSpec.upto fnExactAllMadeSpec)

/-- 'laws.FnExactFewestSigns', WHERE WHAT IT READS IS OF BULK AT MOST 1048576: true; the input reads as it did. -/
def fnExactFewestSignsUptoRow : OpenClaim := { program := "ytlgleghofiflaaa", sum := "527e555080fc0218e33ae0157d998ade494b69b3fe4b55a137e69fe21c3abc2b", func := "loop.example/g01395/laws.FnExactFewestSigns", spec := "fnExactFewestSigns", apart := false, narrowed := true }
def FnExactFewestSignsUptoSaid : Prop := fnExactFewestSignsUptoRow.holds Try.pinned (OpenSpec.upto fnExactFewestSignsSpec)

/-- 'laws.FnExactFirstFewestSigns', WHERE WHAT IT READS IS OF BULK AT MOST 1048576: true; the input reads as it did. -/
def fnExactFirstFewestSignsUptoRow : OpenClaim := { program := "ytlgleghofiflaaa", sum := "527e555080fc0218e33ae0157d998ade494b69b3fe4b55a137e69fe21c3abc2b", func := "loop.example/g01395/laws.FnExactFirstFewestSigns", spec := "fnExactFirstFewestSigns", unfollowed := true, recurses := true, apart := false, narrowed := true }
def FnExactFirstFewestSignsUptoSaid : Prop := fnExactFirstFewestSignsUptoRow.holds Try.pinned (OpenSpec.upto fnExactFirstFewestSignsSpec)

/-- 'laws.FnExactCountNumbers', WHERE WHAT IT READS IS OF BULK AT MOST 1048576: true; the input reads as it did. -/
def fnExactCountNumbersUptoRow : OpenClaim := { program := "ytlgleghofiflaaa", sum := "527e555080fc0218e33ae0157d998ade494b69b3fe4b55a137e69fe21c3abc2b", func := "loop.example/g01395/laws.FnExactCountNumbers", spec := "fnExactCountNumbers", apart := false, narrowed := true }
def FnExactCountNumbersUptoSaid : Prop := fnExactCountNumbersUptoRow.holds Try.pinned (OpenSpec.upto fnExactCountNumbersSpec)

end Rows
end Go.Proofs.Ytlgleghofiflaaa
