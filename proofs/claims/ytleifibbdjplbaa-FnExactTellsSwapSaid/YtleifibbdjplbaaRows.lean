/-
  No cell of these rows narrows 'for every input' (looked for: loops, veiled, ifaces, maps, wideKeys, modest, calm, conditions, laid).
  DERIVED. THE GIVEN ROWS OF THIS SEAT. 6 by the template 'for every input the law returns true; each argument reads behind the call as it read before'; 0 by the template 'total and deterministic' (their statements: YtleifibbdjplbaaTotals.lean).
  GIVEN WITH THE SEED: the statements are not yours to turn. If you find one false, say at which input.
  Laid BY PROGRAM, IN A SANDBOX (cutbox-rows.mjs): the forced cells as the released guide's own fill.sh prints them over the translation 233c067932e181d7… (all of the seat's roots in one cut). By AI agents, Wed Nov 11 2026. No macro, syntax, notation, axiom, sorry.
-/
import Derived.Test.YtleifibbdjplbaaChecked
import GoSem.Claim
import GoSem.ClaimJoined
import GoSem.ClaimMapViews
import Derived.JoinedTies
import Derived.KernelRfl
namespace Go.Proofs.Ytleifibbdjplbaa
/- THE CELL 'sum', in the pinned program and in every row, IS THE sha256 OF THE DUMP (.gsa) THAT YtleifibbdjplbaaProg.lean LOADS. Nothing in Lean hashes anything: it is a label: what it is worth is what the hold of that sum in a sandbox is worth. -/
noncomputable def Try.pinned : Pinned := { name := "ytleifibbdjplbaa", sum := "233c067932e181d7301b8473683a353fbbf9d49b8086888666fbacce492fe05d", checked := Try.checked }
namespace Rows
def none {H : Type} : Left H := { results := [], args := [] }

/-- 'laws.FnExactIsCheck': WHATEVER THE INPUT: true; the input reads as it did. -/
def fnExactIsCheckSpec : ChangeSpec := { name := "fnExactIsCheck", fn := fun _ => fun
  | [d] => { results := [.lit (.bool true)], args := [d] }
  | _ => none }
def fnExactIsCheckRow : OpenClaim := { program := "ytleifibbdjplbaa", sum := "233c067932e181d7301b8473683a353fbbf9d49b8086888666fbacce492fe05d", func := "loop.example/g01395/laws.FnExactIsCheck", spec := "fnExactIsCheck", unfollowed := true, recurses := true, apart := false }
def FnExactIsCheckSaid : Prop := fnExactIsCheckRow.holds Try.pinned (OpenSpec.ofChange fnExactIsCheckSpec)

/-- ITS FALSE NEIGHBOUR: 'it returns false'. Refute it at one input. -/
def fnExactIsCheckWrong : ChangeSpec := { name := "fnExactIsCheck", fn := fun _ => fun
  | [d] => { results := [.lit (.bool false)], args := [d] }
  | _ => none }
def FnExactIsCheckWrongFalsely : Prop := fnExactIsCheckRow.holds Try.pinned (OpenSpec.ofChange fnExactIsCheckWrong)

/-- 'laws.FnExactSumOfCheck': WHATEVER THE INPUT: true; the input reads as it did. -/
def fnExactSumOfCheckSpec : ChangeSpec := { name := "fnExactSumOfCheck", fn := fun _ => fun
  | [d1, d2] => { results := [.lit (.bool true)], args := [d1, d2] }
  | _ => none }
def fnExactSumOfCheckRow : OpenClaim := { program := "ytleifibbdjplbaa", sum := "233c067932e181d7301b8473683a353fbbf9d49b8086888666fbacce492fe05d", func := "loop.example/g01395/laws.FnExactSumOfCheck", spec := "fnExactSumOfCheck", unfollowed := true, recurses := true, apart := false }
def FnExactSumOfCheckSaid : Prop := fnExactSumOfCheckRow.holds Try.pinned (OpenSpec.ofChange fnExactSumOfCheckSpec)

/-- ITS FALSE NEIGHBOUR: 'it returns false'. Refute it at one input. -/
def fnExactSumOfCheckWrong : ChangeSpec := { name := "fnExactSumOfCheck", fn := fun _ => fun
  | [d1, d2] => { results := [.lit (.bool false)], args := [d1, d2] }
  | _ => none }
def FnExactSumOfCheckWrongFalsely : Prop := fnExactSumOfCheckRow.holds Try.pinned (OpenSpec.ofChange fnExactSumOfCheckWrong)

/-- 'laws.FnExactIsSound': WHATEVER THE INPUT: true; the input reads as it did. -/
def fnExactIsSoundSpec : ChangeSpec := { name := "fnExactIsSound", fn := fun _ => fun
  | [d1, d2] => { results := [.lit (.bool true)], args := [d1, d2] }
  | _ => none }
def fnExactIsSoundRow : OpenClaim := { program := "ytleifibbdjplbaa", sum := "233c067932e181d7301b8473683a353fbbf9d49b8086888666fbacce492fe05d", func := "loop.example/g01395/laws.FnExactIsSound", spec := "fnExactIsSound", unfollowed := true, recurses := true, apart := false }
def FnExactIsSoundSaid : Prop := fnExactIsSoundRow.holds Try.pinned (OpenSpec.ofChange fnExactIsSoundSpec)

/-- ITS FALSE NEIGHBOUR: 'it returns false'. Refute it at one input. -/
def fnExactIsSoundWrong : ChangeSpec := { name := "fnExactIsSound", fn := fun _ => fun
  | [d1, d2] => { results := [.lit (.bool false)], args := [d1, d2] }
  | _ => none }
def FnExactIsSoundWrongFalsely : Prop := fnExactIsSoundRow.holds Try.pinned (OpenSpec.ofChange fnExactIsSoundWrong)

/-- 'laws.FnExactCountSound': WHATEVER THE INPUT: true; the input reads as it did. -/
def fnExactCountSoundSpec : ChangeSpec := { name := "fnExactCountSound", fn := fun _ => fun
  | [d] => { results := [.lit (.bool true)], args := [d] }
  | _ => none }
def fnExactCountSoundRow : OpenClaim := { program := "ytleifibbdjplbaa", sum := "233c067932e181d7301b8473683a353fbbf9d49b8086888666fbacce492fe05d", func := "loop.example/g01395/laws.FnExactCountSound", spec := "fnExactCountSound", unfollowed := true, recurses := true, apart := false }
def FnExactCountSoundSaid : Prop := fnExactCountSoundRow.holds Try.pinned (OpenSpec.ofChange fnExactCountSoundSpec)

/-- ITS FALSE NEIGHBOUR: 'it returns false'. Refute it at one input. -/
def fnExactCountSoundWrong : ChangeSpec := { name := "fnExactCountSound", fn := fun _ => fun
  | [d] => { results := [.lit (.bool false)], args := [d] }
  | _ => none }
def FnExactCountSoundWrongFalsely : Prop := fnExactCountSoundRow.holds Try.pinned (OpenSpec.ofChange fnExactCountSoundWrong)

/-- 'laws.FnExactTellsSwap': WHATEVER THE INPUT: true; the input reads as it did. -/
def fnExactTellsSwapSpec : ChangeSpec := { name := "fnExactTellsSwap", fn := fun _ => fun
  | [d1, d2] => { results := [.lit (.bool true)], args := [d1, d2] }
  | _ => none }
def fnExactTellsSwapRow : OpenClaim := { program := "ytleifibbdjplbaa", sum := "233c067932e181d7301b8473683a353fbbf9d49b8086888666fbacce492fe05d", func := "loop.example/g01395/laws.FnExactTellsSwap", spec := "fnExactTellsSwap", unfollowed := true, recurses := true, apart := false }
def FnExactTellsSwapSaid : Prop := fnExactTellsSwapRow.holds Try.pinned (OpenSpec.ofChange fnExactTellsSwapSpec)

/-- ITS FALSE NEIGHBOUR: 'it returns false'. Refute it at one input. -/
def fnExactTellsSwapWrong : ChangeSpec := { name := "fnExactTellsSwap", fn := fun _ => fun
  | [d1, d2] => { results := [.lit (.bool false)], args := [d1, d2] }
  | _ => none }
def FnExactTellsSwapWrongFalsely : Prop := fnExactTellsSwapRow.holds Try.pinned (OpenSpec.ofChange fnExactTellsSwapWrong)

/-- 'laws.FnExactUntoldSwaps': WHATEVER THE INPUT: true; the input reads as it did. -/
def fnExactUntoldSwapsSpec : ChangeSpec := { name := "fnExactUntoldSwaps", fn := fun _ => fun
  | [d] => { results := [.lit (.bool true)], args := [d] }
  | _ => none }
def fnExactUntoldSwapsRow : OpenClaim := { program := "ytleifibbdjplbaa", sum := "233c067932e181d7301b8473683a353fbbf9d49b8086888666fbacce492fe05d", func := "loop.example/g01395/laws.FnExactUntoldSwaps", spec := "fnExactUntoldSwaps", unfollowed := true, recurses := true, apart := false }
def FnExactUntoldSwapsSaid : Prop := fnExactUntoldSwapsRow.holds Try.pinned (OpenSpec.ofChange fnExactUntoldSwapsSpec)

/-- ITS FALSE NEIGHBOUR: 'it returns false'. Refute it at one input. -/
def fnExactUntoldSwapsWrong : ChangeSpec := { name := "fnExactUntoldSwaps", fn := fun _ => fun
  | [d] => { results := [.lit (.bool false)], args := [d] }
  | _ => none }
def FnExactUntoldSwapsWrongFalsely : Prop := fnExactUntoldSwapsRow.holds Try.pinned (OpenSpec.ofChange fnExactUntoldSwapsWrong)

/- THE SECOND FORM. 'bulk': how many values and letters a reading holds, each counted each time it is reached (what is shared counts as often as it is met; a slice's spare places count too). A statement '..UptoSaid' is the law's where the arguments, and the package variables that the reading takes, are together of bulk at most 1048576: NARROWER than '..Said'. Prove '..Said' where nothing that the law and all that it calls make is longer than what came in: it says more and counts as full. Else prove '..UptoSaid'. A law counts once. -/
mutual
def uptoBulk {H : Type} : DataW H → Nat
  | .lit (.string bytes) => bytes.length + 1
  | .lit _ => 1
  | .nil => 1
  | .ptr d => uptoBulk d + 1
  | .slice elems spare => uptoBulkAll elems + uptoBulkAll spare + 1
  | .agg parts => uptoBulkAll parts + 1
  | .iface _ d => uptoBulk d + 1
  | .map entries => uptoBulkEntries entries + 1
  | .held _ => 1
def uptoBulkAll {H : Type} : List (DataW H) → Nat
  | [] => 0
  | d :: r => uptoBulk d + uptoBulkAll r
def uptoBulkEntries {H : Type} : List (Lit × DataW H) → Nat
  | [] => 0
  | x :: r => uptoBulkEntry x + uptoBulkEntries r
def uptoBulkEntry {H : Type} : Lit × DataW H → Nat
  | (.string bytes, d) => bytes.length + uptoBulk d + 1
  | (_, d) => uptoBulk d + 1
 end
def uptoSmall : (H : Type) → List (DataW H) → Bool := fun _ ds => decide (uptoBulkAll ds ≤ 1048576)
def OpenSpec.upto (s : _root_.Go.ChangeSpec) : _root_.Go.OpenSpec := { _root_.Go.OpenSpec.ofChange s with cond := some uptoSmall }

/-- 'laws.FnExactIsCheck', WHERE WHAT IT READS IS OF BULK AT MOST 1048576: true; the input reads as it did. -/
def fnExactIsCheckUptoRow : OpenClaim := { program := "ytleifibbdjplbaa", sum := "233c067932e181d7301b8473683a353fbbf9d49b8086888666fbacce492fe05d", func := "loop.example/g01395/laws.FnExactIsCheck", spec := "fnExactIsCheck", unfollowed := true, recurses := true, apart := false, narrowed := true }
def FnExactIsCheckUptoSaid : Prop := fnExactIsCheckUptoRow.holds Try.pinned (OpenSpec.upto fnExactIsCheckSpec)

/-- 'laws.FnExactSumOfCheck', WHERE WHAT IT READS IS OF BULK AT MOST 1048576: true; the input reads as it did. -/
def fnExactSumOfCheckUptoRow : OpenClaim := { program := "ytleifibbdjplbaa", sum := "233c067932e181d7301b8473683a353fbbf9d49b8086888666fbacce492fe05d", func := "loop.example/g01395/laws.FnExactSumOfCheck", spec := "fnExactSumOfCheck", unfollowed := true, recurses := true, apart := false, narrowed := true }
def FnExactSumOfCheckUptoSaid : Prop := fnExactSumOfCheckUptoRow.holds Try.pinned (OpenSpec.upto fnExactSumOfCheckSpec)

/-- 'laws.FnExactIsSound', WHERE WHAT IT READS IS OF BULK AT MOST 1048576: true; the input reads as it did. -/
def fnExactIsSoundUptoRow : OpenClaim := { program := "ytleifibbdjplbaa", sum := "233c067932e181d7301b8473683a353fbbf9d49b8086888666fbacce492fe05d", func := "loop.example/g01395/laws.FnExactIsSound", spec := "fnExactIsSound", unfollowed := true, recurses := true, apart := false, narrowed := true }
def FnExactIsSoundUptoSaid : Prop := fnExactIsSoundUptoRow.holds Try.pinned (OpenSpec.upto fnExactIsSoundSpec)

/-- 'laws.FnExactCountSound', WHERE WHAT IT READS IS OF BULK AT MOST 1048576: true; the input reads as it did. -/
def fnExactCountSoundUptoRow : OpenClaim := { program := "ytleifibbdjplbaa", sum := "233c067932e181d7301b8473683a353fbbf9d49b8086888666fbacce492fe05d", func := "loop.example/g01395/laws.FnExactCountSound", spec := "fnExactCountSound", unfollowed := true, recurses := true, apart := false, narrowed := true }
def FnExactCountSoundUptoSaid : Prop := fnExactCountSoundUptoRow.holds Try.pinned (OpenSpec.upto fnExactCountSoundSpec)

/-- 'laws.FnExactTellsSwap', WHERE WHAT IT READS IS OF BULK AT MOST 1048576: true; the input reads as it did. -/
def fnExactTellsSwapUptoRow : OpenClaim := { program := "ytleifibbdjplbaa", sum := "233c067932e181d7301b8473683a353fbbf9d49b8086888666fbacce492fe05d", func := "loop.example/g01395/laws.FnExactTellsSwap", spec := "fnExactTellsSwap", unfollowed := true, recurses := true, apart := false, narrowed := true }
def FnExactTellsSwapUptoSaid : Prop := fnExactTellsSwapUptoRow.holds Try.pinned (OpenSpec.upto fnExactTellsSwapSpec)

/-- 'laws.FnExactUntoldSwaps', WHERE WHAT IT READS IS OF BULK AT MOST 1048576: true; the input reads as it did. -/
def fnExactUntoldSwapsUptoRow : OpenClaim := { program := "ytleifibbdjplbaa", sum := "233c067932e181d7301b8473683a353fbbf9d49b8086888666fbacce492fe05d", func := "loop.example/g01395/laws.FnExactUntoldSwaps", spec := "fnExactUntoldSwaps", unfollowed := true, recurses := true, apart := false, narrowed := true }
def FnExactUntoldSwapsUptoSaid : Prop := fnExactUntoldSwapsUptoRow.holds Try.pinned (OpenSpec.upto fnExactUntoldSwapsSpec)

end Rows
end Go.Proofs.Ytleifibbdjplbaa
