/-
  NARROWER THAN 'FOR EVERY INPUT', by the rows' own cells (each row's printed sentence says how): FnExactDigitsForMultiple: calm.
  DERIVED. THE GIVEN ROWS OF THIS SEAT. 4 by the template 'for every input the law returns true; each argument reads behind the call as it read before'; 0 by the template 'total and deterministic' (their statements: YtghjpanabphbpabTotals.lean).
  GIVEN WITH THE SEED: the statements are not yours to turn. If you find one false, say at which input.
  Laid BY PROGRAM, IN A SANDBOX (cutbox-rows.mjs): the forced cells as the released guide's own fill.sh prints them over the translation d24383e76121809b… (all of the seat's roots in one cut). By AI agents, Wed Nov 11 2026. No macro, syntax, notation, axiom, sorry.
-/
import Derived.Test.YtghjpanabphbpabChecked
import GoSem.Claim
import GoSem.ClaimJoined
import GoSem.ClaimMapViews
import Derived.JoinedTies
import Derived.KernelRfl
namespace Go.Proofs.Ytghjpanabphbpab
/- THE CELL 'sum', in the pinned program and in every row, IS THE sha256 OF THE DUMP (.gsa) THAT YtghjpanabphbpabProg.lean LOADS. Nothing in Lean hashes anything: it is a label: what it is worth is what the hold of that sum in a sandbox is worth. -/
noncomputable def Try.pinned : Pinned := { name := "ytghjpanabphbpab", sum := "d24383e76121809b2d412fcc3b66b539047a4e167c2d97254475ec11a92064db", checked := Try.checked }
namespace Rows
def none {H : Type} : Left H := { results := [], args := [] }

/-- 'laws.FnExactLeastMultiple': WHATEVER THE INPUT: true; the input reads as it did. -/
def fnExactLeastMultipleSpec : ChangeSpec := { name := "fnExactLeastMultiple", fn := fun _ => fun
  | [d1, d2] => { results := [.lit (.bool true)], args := [d1, d2] }
  | _ => none }
def fnExactLeastMultipleRow : OpenClaim := { program := "ytghjpanabphbpab", sum := "d24383e76121809b2d412fcc3b66b539047a4e167c2d97254475ec11a92064db", func := "loop.example/g01395/laws.FnExactLeastMultiple", spec := "fnExactLeastMultiple", apart := false }
def FnExactLeastMultipleSaid : Prop := fnExactLeastMultipleRow.holds Try.pinned (OpenSpec.ofChange fnExactLeastMultipleSpec)

/-- ITS FALSE NEIGHBOUR: 'it returns false'. Refute it at one input. -/
def fnExactLeastMultipleWrong : ChangeSpec := { name := "fnExactLeastMultiple", fn := fun _ => fun
  | [d1, d2] => { results := [.lit (.bool false)], args := [d1, d2] }
  | _ => none }
def FnExactLeastMultipleWrongFalsely : Prop := fnExactLeastMultipleRow.holds Try.pinned (OpenSpec.ofChange fnExactLeastMultipleWrong)

/-- 'laws.FnExactDigitsForMultiple': WHATEVER THE INPUT: true; the input reads as it did. -/
def fnExactDigitsForMultipleSpec : ChangeSpec := { name := "fnExactDigitsForMultiple", fn := fun _ => fun
  | [d] => { results := [.lit (.bool true)], args := [d] }
  | _ => none }
def fnExactDigitsForMultipleRow : OpenClaim := { program := "ytghjpanabphbpab", sum := "d24383e76121809b2d412fcc3b66b539047a4e167c2d97254475ec11a92064db", func := "loop.example/g01395/laws.FnExactDigitsForMultiple", spec := "fnExactDigitsForMultiple", inPlace := ["(*sync.WaitGroup).Add", "internal/race.ReleaseMerge", "internal/race.Disable", "internal/race.Enable", "internal/synctest.IsInBubble", "internal/synctest.Associate[sync.WaitGroup]", "sync.fatal", "sync/atomic.OrUint64", "sync/atomic.AddUint64", "internal/race.Read", "sync/atomic.LoadUint64", "sync/atomic.StoreUint64", "internal/synctest.Disassociate[sync.WaitGroup]", "sync.runtime_Semrelease", "(*sync.WaitGroup).Done", "(*internal/sync.Mutex).Lock", "sync/atomic.CompareAndSwapInt32", "internal/race.Acquire", "(*internal/sync.Mutex).lockSlow", "internal/sync.runtime_canSpin", "internal/sync.runtime_doSpin", "internal/sync.throw", "internal/sync.runtime_nanotime", "internal/sync.runtime_SemacquireMutex", "sync/atomic.AddInt32", "(*internal/sync.Mutex).Unlock", "(*internal/sync.Mutex).unlockSlow", "internal/sync.fatal", "internal/sync.runtime_Semrelease", "(*sync.WaitGroup).Wait", "internal/synctest.IsAssociated[sync.WaitGroup]", "sync/atomic.CompareAndSwapUint64", "internal/race.Write", "sync.runtime_SemacquireWaitGroup"], unfollowed := true, recurses := true, leaving := true, apart := false, calm := true, outside := [.timePasses] }
def FnExactDigitsForMultipleSaid : Prop := fnExactDigitsForMultipleRow.holds Try.pinned (OpenSpec.ofChange fnExactDigitsForMultipleSpec)

/-- ITS FALSE NEIGHBOUR: 'it returns false'. Refute it at one input. -/
def fnExactDigitsForMultipleWrong : ChangeSpec := { name := "fnExactDigitsForMultiple", fn := fun _ => fun
  | [d] => { results := [.lit (.bool false)], args := [d] }
  | _ => none }
def FnExactDigitsForMultipleWrongFalsely : Prop := fnExactDigitsForMultipleRow.holds Try.pinned (OpenSpec.ofChange fnExactDigitsForMultipleWrong)

/-- 'laws.FnExactOnesFor': WHATEVER THE INPUT: true; the input reads as it did. -/
def fnExactOnesForSpec : ChangeSpec := { name := "fnExactOnesFor", fn := fun _ => fun
  | [d] => { results := [.lit (.bool true)], args := [d] }
  | _ => none }
def fnExactOnesForRow : OpenClaim := { program := "ytghjpanabphbpab", sum := "d24383e76121809b2d412fcc3b66b539047a4e167c2d97254475ec11a92064db", func := "loop.example/g01395/laws.FnExactOnesFor", spec := "fnExactOnesFor", apart := false }
def FnExactOnesForSaid : Prop := fnExactOnesForRow.holds Try.pinned (OpenSpec.ofChange fnExactOnesForSpec)

/-- ITS FALSE NEIGHBOUR: 'it returns false'. Refute it at one input. -/
def fnExactOnesForWrong : ChangeSpec := { name := "fnExactOnesFor", fn := fun _ => fun
  | [d] => { results := [.lit (.bool false)], args := [d] }
  | _ => none }
def FnExactOnesForWrongFalsely : Prop := fnExactOnesForRow.holds Try.pinned (OpenSpec.ofChange fnExactOnesForWrong)

/-- 'laws.FnExactRestOfOnes': WHATEVER THE INPUT: true; the input reads as it did. -/
def fnExactRestOfOnesSpec : ChangeSpec := { name := "fnExactRestOfOnes", fn := fun _ => fun
  | [d1, d2] => { results := [.lit (.bool true)], args := [d1, d2] }
  | _ => none }
def fnExactRestOfOnesRow : OpenClaim := { program := "ytghjpanabphbpab", sum := "d24383e76121809b2d412fcc3b66b539047a4e167c2d97254475ec11a92064db", func := "loop.example/g01395/laws.FnExactRestOfOnes", spec := "fnExactRestOfOnes", recurses := true, apart := false }
def FnExactRestOfOnesSaid : Prop := fnExactRestOfOnesRow.holds Try.pinned (OpenSpec.ofChange fnExactRestOfOnesSpec)

/-- ITS FALSE NEIGHBOUR: 'it returns false'. Refute it at one input. -/
def fnExactRestOfOnesWrong : ChangeSpec := { name := "fnExactRestOfOnes", fn := fun _ => fun
  | [d1, d2] => { results := [.lit (.bool false)], args := [d1, d2] }
  | _ => none }
def FnExactRestOfOnesWrongFalsely : Prop := fnExactRestOfOnesRow.holds Try.pinned (OpenSpec.ofChange fnExactRestOfOnesWrong)

/- THE SECOND FORM. 'bulk': how many values and letters a reading holds, each counted each time it is reached (what is shared counts as often as it is met; a slice's spare places count too). A statement '..UptoSaid' is the law's where the arguments, and the package variables that the reading takes, are together of bulk at most 1048576: NARROWER than '..Said'. Prove '..Said' where nothing that the law and all that it calls make is longer than what came in: it says more and counts as full. Else prove '..UptoSaid'. A law counts once. -/
mutual
def uptoBulk {H : Type} : DataW H → Nat
  | .lit (.string bytes) => bytes.length + 1
  | .lit _ => 1
  | .nil => 1
  | .ptr d => uptoBulk d + 1
  | .slice elems spare => uptoBulkAll elems + uptoBulkAll spare + 1
  | .agg parts => uptoBulkAll parts + 1
  | .iface _ d => uptoBulk d + 1
  | .map entries => uptoBulkEntries entries + 1
  | .held _ => 1
def uptoBulkAll {H : Type} : List (DataW H) → Nat
  | [] => 0
  | d :: r => uptoBulk d + uptoBulkAll r
def uptoBulkEntries {H : Type} : List (Lit × DataW H) → Nat
  | [] => 0
  | x :: r => uptoBulkEntry x + uptoBulkEntries r
def uptoBulkEntry {H : Type} : Lit × DataW H → Nat
  | (.string bytes, d) => bytes.length + uptoBulk d + 1
  | (_, d) => uptoBulk d + 1
 end
def uptoSmall : (H : Type) → List (DataW H) → Bool := fun _ ds => decide (uptoBulkAll ds ≤ 1048576)
def OpenSpec.upto (s : _root_.Go.ChangeSpec) : _root_.Go.OpenSpec := { _root_.Go.OpenSpec.ofChange s with cond := some uptoSmall }

/-- 'laws.FnExactLeastMultiple', WHERE WHAT IT READS IS OF BULK AT MOST 1048576: true; the input reads as it did. -/
def fnExactLeastMultipleUptoRow : OpenClaim := { program := "ytghjpanabphbpab", sum := "d24383e76121809b2d412fcc3b66b539047a4e167c2d97254475ec11a92064db", func := "loop.example/g01395/laws.FnExactLeastMultiple", spec := "fnExactLeastMultiple", apart := false, narrowed := true }
def FnExactLeastMultipleUptoSaid : Prop := fnExactLeastMultipleUptoRow.holds Try.pinned (OpenSpec.upto fnExactLeastMultipleSpec)

/-- 'laws.FnExactDigitsForMultiple', WHERE WHAT IT READS IS OF BULK AT MOST 1048576: true; the input reads as it did. -/
def fnExactDigitsForMultipleUptoRow : OpenClaim := { program := "ytghjpanabphbpab", sum := "d24383e76121809b2d412fcc3b66b539047a4e167c2d97254475ec11a92064db", func := "loop.example/g01395/laws.FnExactDigitsForMultiple", spec := "fnExactDigitsForMultiple", inPlace := ["(*sync.WaitGroup).Add", "internal/race.ReleaseMerge", "internal/race.Disable", "internal/race.Enable", "internal/synctest.IsInBubble", "internal/synctest.Associate[sync.WaitGroup]", "sync.fatal", "sync/atomic.OrUint64", "sync/atomic.AddUint64", "internal/race.Read", "sync/atomic.LoadUint64", "sync/atomic.StoreUint64", "internal/synctest.Disassociate[sync.WaitGroup]", "sync.runtime_Semrelease", "(*sync.WaitGroup).Done", "(*internal/sync.Mutex).Lock", "sync/atomic.CompareAndSwapInt32", "internal/race.Acquire", "(*internal/sync.Mutex).lockSlow", "internal/sync.runtime_canSpin", "internal/sync.runtime_doSpin", "internal/sync.throw", "internal/sync.runtime_nanotime", "internal/sync.runtime_SemacquireMutex", "sync/atomic.AddInt32", "(*internal/sync.Mutex).Unlock", "(*internal/sync.Mutex).unlockSlow", "internal/sync.fatal", "internal/sync.runtime_Semrelease", "(*sync.WaitGroup).Wait", "internal/synctest.IsAssociated[sync.WaitGroup]", "sync/atomic.CompareAndSwapUint64", "internal/race.Write", "sync.runtime_SemacquireWaitGroup"], unfollowed := true, recurses := true, leaving := true, apart := false, calm := true, outside := [.timePasses], narrowed := true }
def FnExactDigitsForMultipleUptoSaid : Prop := fnExactDigitsForMultipleUptoRow.holds Try.pinned (OpenSpec.upto fnExactDigitsForMultipleSpec)

/-- 'laws.FnExactOnesFor', WHERE WHAT IT READS IS OF BULK AT MOST 1048576: true; the input reads as it did. -/
def fnExactOnesForUptoRow : OpenClaim := { program := "ytghjpanabphbpab", sum := "d24383e76121809b2d412fcc3b66b539047a4e167c2d97254475ec11a92064db", func := "loop.example/g01395/laws.FnExactOnesFor", spec := "fnExactOnesFor", apart := false, narrowed := true }
def FnExactOnesForUptoSaid : Prop := fnExactOnesForUptoRow.holds Try.pinned (OpenSpec.upto fnExactOnesForSpec)

/-- 'laws.FnExactRestOfOnes', WHERE WHAT IT READS IS OF BULK AT MOST 1048576: true; the input reads as it did. -/
def fnExactRestOfOnesUptoRow : OpenClaim := { program := "ytghjpanabphbpab", sum := "d24383e76121809b2d412fcc3b66b539047a4e167c2d97254475ec11a92064db", func := "loop.example/g01395/laws.FnExactRestOfOnes", spec := "fnExactRestOfOnes", recurses := true, apart := false, narrowed := true }
def FnExactRestOfOnesUptoSaid : Prop := fnExactRestOfOnesUptoRow.holds Try.pinned (OpenSpec.upto fnExactRestOfOnesSpec)

end Rows
end Go.Proofs.Ytghjpanabphbpab
