/-
  No cell of these rows narrows 'for every input' (looked for: loops, veiled, ifaces, maps, wideKeys, modest, calm, conditions, laid).
  DERIVED. THE GIVEN ROWS OF THIS SEAT. 5 by the template 'for every input the law returns true; each argument reads behind the call as it read before'; 0 by the template 'total and deterministic' (their statements: YtleifibbdjplbabTotals.lean).
  GIVEN WITH THE SEED: the statements are not yours to turn. If you find one false, say at which input.
  Laid BY PROGRAM, IN A SANDBOX (cutbox-rows.mjs): the forced cells as the released guide's own fill.sh prints them over the translation 992d6c2eaecca4d7… (all of the seat's roots in one cut). By AI agents, Wed Nov 11 2026. No macro, syntax, notation, axiom, sorry.
-/
import Derived.Test.YtleifibbdjplbabChecked
import GoSem.Claim
import GoSem.ClaimJoined
import GoSem.ClaimMapViews
import Derived.JoinedTies
import Derived.KernelRfl
namespace Go.Proofs.Ytleifibbdjplbab
/- THE CELL 'sum', in the pinned program and in every row, IS THE sha256 OF THE DUMP (.gsa) THAT YtleifibbdjplbabProg.lean LOADS. Nothing in Lean hashes anything: it is a label: what it is worth is what the hold of that sum in a sandbox is worth. -/
noncomputable def Try.pinned : Pinned := { name := "ytleifibbdjplbab", sum := "992d6c2eaecca4d7364e1fac24b41f5c81f219c069a6ebc5af47bda0ee526124", checked := Try.checked }
namespace Rows
def none {H : Type} : Left H := { results := [], args := [] }

/-- 'laws.FnExactSwapsToSound': WHATEVER THE INPUT: true; the input reads as it did. -/
def fnExactSwapsToSoundSpec : ChangeSpec := { name := "fnExactSwapsToSound", fn := fun _ => fun
  | [d1, d2] => { results := [.lit (.bool true)], args := [d1, d2] }
  | _ => none }
def fnExactSwapsToSoundRow : OpenClaim := { program := "ytleifibbdjplbab", sum := "992d6c2eaecca4d7364e1fac24b41f5c81f219c069a6ebc5af47bda0ee526124", func := "loop.example/g01395/laws.FnExactSwapsToSound", spec := "fnExactSwapsToSound", unfollowed := true, recurses := true, apart := false }
def FnExactSwapsToSoundSaid : Prop := fnExactSwapsToSoundRow.holds Try.pinned (OpenSpec.ofChange fnExactSwapsToSoundSpec)

/-- ITS FALSE NEIGHBOUR: 'it returns false'. Refute it at one input. -/
def fnExactSwapsToSoundWrong : ChangeSpec := { name := "fnExactSwapsToSound", fn := fun _ => fun
  | [d1, d2] => { results := [.lit (.bool false)], args := [d1, d2] }
  | _ => none }
def FnExactSwapsToSoundWrongFalsely : Prop := fnExactSwapsToSoundRow.holds Try.pinned (OpenSpec.ofChange fnExactSwapsToSoundWrong)

/-- 'laws.FnExactSlipBetween': WHATEVER THE INPUT: true; the input reads as it did. -/
def fnExactSlipBetweenSpec : ChangeSpec := { name := "fnExactSlipBetween", fn := fun _ => fun
  | [d1, d2] => { results := [.lit (.bool true)], args := [d1, d2] }
  | _ => none }
def fnExactSlipBetweenRow : OpenClaim := { program := "ytleifibbdjplbab", sum := "992d6c2eaecca4d7364e1fac24b41f5c81f219c069a6ebc5af47bda0ee526124", func := "loop.example/g01395/laws.FnExactSlipBetween", spec := "fnExactSlipBetween", apart := false }
def FnExactSlipBetweenSaid : Prop := fnExactSlipBetweenRow.holds Try.pinned (OpenSpec.ofChange fnExactSlipBetweenSpec)

/-- ITS FALSE NEIGHBOUR: 'it returns false'. Refute it at one input. -/
def fnExactSlipBetweenWrong : ChangeSpec := { name := "fnExactSlipBetween", fn := fun _ => fun
  | [d1, d2] => { results := [.lit (.bool false)], args := [d1, d2] }
  | _ => none }
def FnExactSlipBetweenWrongFalsely : Prop := fnExactSlipBetweenRow.holds Try.pinned (OpenSpec.ofChange fnExactSlipBetweenWrong)

/-- 'laws.FnExactDoubledSum': WHATEVER THE INPUT: true; the input reads as it did. -/
def fnExactDoubledSumSpec : ChangeSpec := { name := "fnExactDoubledSum", fn := fun _ => fun
  | [d] => { results := [.lit (.bool true)], args := [d] }
  | _ => none }
def fnExactDoubledSumRow : OpenClaim := { program := "ytleifibbdjplbab", sum := "992d6c2eaecca4d7364e1fac24b41f5c81f219c069a6ebc5af47bda0ee526124", func := "loop.example/g01395/laws.FnExactDoubledSum", spec := "fnExactDoubledSum", apart := false }
def FnExactDoubledSumSaid : Prop := fnExactDoubledSumRow.holds Try.pinned (OpenSpec.ofChange fnExactDoubledSumSpec)

/-- ITS FALSE NEIGHBOUR: 'it returns false'. Refute it at one input. -/
def fnExactDoubledSumWrong : ChangeSpec := { name := "fnExactDoubledSum", fn := fun _ => fun
  | [d] => { results := [.lit (.bool false)], args := [d] }
  | _ => none }
def FnExactDoubledSumWrongFalsely : Prop := fnExactDoubledSumRow.holds Try.pinned (OpenSpec.ofChange fnExactDoubledSumWrong)

/-- 'laws.FnExactIsDoubledSound': WHATEVER THE INPUT: true; the input reads as it did. -/
def fnExactIsDoubledSoundSpec : ChangeSpec := { name := "fnExactIsDoubledSound", fn := fun _ => fun
  | [d] => { results := [.lit (.bool true)], args := [d] }
  | _ => none }
def fnExactIsDoubledSoundRow : OpenClaim := { program := "ytleifibbdjplbab", sum := "992d6c2eaecca4d7364e1fac24b41f5c81f219c069a6ebc5af47bda0ee526124", func := "loop.example/g01395/laws.FnExactIsDoubledSound", spec := "fnExactIsDoubledSound", apart := false }
def FnExactIsDoubledSoundSaid : Prop := fnExactIsDoubledSoundRow.holds Try.pinned (OpenSpec.ofChange fnExactIsDoubledSoundSpec)

/-- ITS FALSE NEIGHBOUR: 'it returns false'. Refute it at one input. -/
def fnExactIsDoubledSoundWrong : ChangeSpec := { name := "fnExactIsDoubledSound", fn := fun _ => fun
  | [d] => { results := [.lit (.bool false)], args := [d] }
  | _ => none }
def FnExactIsDoubledSoundWrongFalsely : Prop := fnExactIsDoubledSoundRow.holds Try.pinned (OpenSpec.ofChange fnExactIsDoubledSoundWrong)

/-- 'laws.FnExactDoubledDigit': WHATEVER THE INPUT: true; the input reads as it did. -/
def fnExactDoubledDigitSpec : ChangeSpec := { name := "fnExactDoubledDigit", fn := fun _ => fun
  | [d] => { results := [.lit (.bool true)], args := [d] }
  | _ => none }
def fnExactDoubledDigitRow : OpenClaim := { program := "ytleifibbdjplbab", sum := "992d6c2eaecca4d7364e1fac24b41f5c81f219c069a6ebc5af47bda0ee526124", func := "loop.example/g01395/laws.FnExactDoubledDigit", spec := "fnExactDoubledDigit", apart := false }
def FnExactDoubledDigitSaid : Prop := fnExactDoubledDigitRow.holds Try.pinned (OpenSpec.ofChange fnExactDoubledDigitSpec)

/-- ITS FALSE NEIGHBOUR: 'it returns false'. Refute it at one input. -/
def fnExactDoubledDigitWrong : ChangeSpec := { name := "fnExactDoubledDigit", fn := fun _ => fun
  | [d] => { results := [.lit (.bool false)], args := [d] }
  | _ => none }
def FnExactDoubledDigitWrongFalsely : Prop := fnExactDoubledDigitRow.holds Try.pinned (OpenSpec.ofChange fnExactDoubledDigitWrong)

/- THE SECOND FORM. 'bulk': how many values and letters a reading holds, each counted each time it is reached (what is shared counts as often as it is met; a slice's spare places count too). A statement '..UptoSaid' is the law's where the arguments, and the package variables that the reading takes, are together of bulk at most 1048576: NARROWER than '..Said'. Prove '..Said' where nothing that the law and all that it calls make is longer than what came in: it says more and counts as full. Else prove '..UptoSaid'. A law counts once. -/
mutual
def uptoBulk {H : Type} : DataW H → Nat
  | .lit (.string bytes) => bytes.length + 1
  | .lit _ => 1
  | .nil => 1
  | .ptr d => uptoBulk d + 1
  | .slice elems spare => uptoBulkAll elems + uptoBulkAll spare + 1
  | .agg parts => uptoBulkAll parts + 1
  | .iface _ d => uptoBulk d + 1
  | .map entries => uptoBulkEntries entries + 1
  | .held _ => 1
def uptoBulkAll {H : Type} : List (DataW H) → Nat
  | [] => 0
  | d :: r => uptoBulk d + uptoBulkAll r
def uptoBulkEntries {H : Type} : List (Lit × DataW H) → Nat
  | [] => 0
  | x :: r => uptoBulkEntry x + uptoBulkEntries r
def uptoBulkEntry {H : Type} : Lit × DataW H → Nat
  | (.string bytes, d) => bytes.length + uptoBulk d + 1
  | (_, d) => uptoBulk d + 1
 end
def uptoSmall : (H : Type) → List (DataW H) → Bool := fun _ ds => decide (uptoBulkAll ds ≤ 1048576)
def OpenSpec.upto (s : _root_.Go.ChangeSpec) : _root_.Go.OpenSpec := { _root_.Go.OpenSpec.ofChange s with cond := some uptoSmall }

/-- 'laws.FnExactSwapsToSound', WHERE WHAT IT READS IS OF BULK AT MOST 1048576: true; the input reads as it did. -/
def fnExactSwapsToSoundUptoRow : OpenClaim := { program := "ytleifibbdjplbab", sum := "992d6c2eaecca4d7364e1fac24b41f5c81f219c069a6ebc5af47bda0ee526124", func := "loop.example/g01395/laws.FnExactSwapsToSound", spec := "fnExactSwapsToSound", unfollowed := true, recurses := true, apart := false, narrowed := true }
def FnExactSwapsToSoundUptoSaid : Prop := fnExactSwapsToSoundUptoRow.holds Try.pinned (OpenSpec.upto fnExactSwapsToSoundSpec)

/-- 'laws.FnExactSlipBetween', WHERE WHAT IT READS IS OF BULK AT MOST 1048576: true; the input reads as it did. -/
def fnExactSlipBetweenUptoRow : OpenClaim := { program := "ytleifibbdjplbab", sum := "992d6c2eaecca4d7364e1fac24b41f5c81f219c069a6ebc5af47bda0ee526124", func := "loop.example/g01395/laws.FnExactSlipBetween", spec := "fnExactSlipBetween", apart := false, narrowed := true }
def FnExactSlipBetweenUptoSaid : Prop := fnExactSlipBetweenUptoRow.holds Try.pinned (OpenSpec.upto fnExactSlipBetweenSpec)

/-- 'laws.FnExactDoubledSum', WHERE WHAT IT READS IS OF BULK AT MOST 1048576: true; the input reads as it did. -/
def fnExactDoubledSumUptoRow : OpenClaim := { program := "ytleifibbdjplbab", sum := "992d6c2eaecca4d7364e1fac24b41f5c81f219c069a6ebc5af47bda0ee526124", func := "loop.example/g01395/laws.FnExactDoubledSum", spec := "fnExactDoubledSum", apart := false, narrowed := true }
def FnExactDoubledSumUptoSaid : Prop := fnExactDoubledSumUptoRow.holds Try.pinned (OpenSpec.upto fnExactDoubledSumSpec)

/-- 'laws.FnExactIsDoubledSound', WHERE WHAT IT READS IS OF BULK AT MOST 1048576: true; the input reads as it did. -/
def fnExactIsDoubledSoundUptoRow : OpenClaim := { program := "ytleifibbdjplbab", sum := "992d6c2eaecca4d7364e1fac24b41f5c81f219c069a6ebc5af47bda0ee526124", func := "loop.example/g01395/laws.FnExactIsDoubledSound", spec := "fnExactIsDoubledSound", apart := false, narrowed := true }
def FnExactIsDoubledSoundUptoSaid : Prop := fnExactIsDoubledSoundUptoRow.holds Try.pinned (OpenSpec.upto fnExactIsDoubledSoundSpec)

/-- 'laws.FnExactDoubledDigit', WHERE WHAT IT READS IS OF BULK AT MOST 1048576: true; the input reads as it did. -/
def fnExactDoubledDigitUptoRow : OpenClaim := { program := "ytleifibbdjplbab", sum := "992d6c2eaecca4d7364e1fac24b41f5c81f219c069a6ebc5af47bda0ee526124", func := "loop.example/g01395/laws.FnExactDoubledDigit", spec := "fnExactDoubledDigit", apart := false, narrowed := true }
def FnExactDoubledDigitUptoSaid : Prop := fnExactDoubledDigitUptoRow.holds Try.pinned (OpenSpec.upto fnExactDoubledDigitSpec)

end Rows
end Go.Proofs.Ytleifibbdjplbab
