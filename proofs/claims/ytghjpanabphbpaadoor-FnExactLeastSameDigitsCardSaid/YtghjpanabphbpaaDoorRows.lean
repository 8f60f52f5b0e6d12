/-
  NARROWER THAN 'FOR EVERY INPUT', by the rows' own cells (each row's printed sentence says how): FnExactLeastWithSum: laid · FnExactLeastOfDigits: laid · FnExactGreatestOfDigits: laid · FnExactNextWithSum: laid · FnExactLastWithSum: laid · FnExactNextSameDigits: laid · FnExactLastSameDigits: laid · FnExactLeastSameDigits: laid · FnExactGreatestSameDigits: laid · FnExactLeastWithProduct: laid · FnExactProductOfDigits: laid.
  DERIVED. THE GIVEN ROWS OF THIS SEAT. 11 by the template 'for every input the law returns true; each argument reads behind the call as it read before'; 0 by the template 'total and deterministic' (their statements: YtghjpanabphbpaaDoorTotals.lean).
  GIVEN WITH THE SEED: the statements are not yours to turn. If you find one false, say at which input.
  Laid BY PROGRAM, IN A SANDBOX (cutbox-rows.mjs): the forced cells as the released guide's own fill.sh prints them over the translation 2c35da07ea8b7b1b… (all of the seat's roots in one cut). By AI agents, Wed Nov 11 2026. No macro, syntax, notation, axiom, sorry.
-/
import Derived.Test.YtghjpanabphbpaaDoorChecked
import GoSem.Claim
import GoSem.ClaimJoined
import GoSem.ClaimMapViews
import Derived.JoinedTies
import Derived.KernelRfl
namespace Go.Proofs.YtghjpanabphbpaaDoor
/- THE CELL 'sum', in the pinned program and in every row, IS THE sha256 OF THE DUMP (.gsa) THAT YtghjpanabphbpaaDoorProg.lean LOADS. Nothing in Lean hashes anything: it is a label: what it is worth is what the hold of that sum in a sandbox is worth. -/
noncomputable def Tryd.pinned : Pinned := { name := "ytghjpanabphbpaadoor", sum := "2c35da07ea8b7b1b71e16c85ce77de30345bf98d0e6ea3dd2c6d74ae80c93971", checked := Tryd.checked }
namespace Rows
def none {H : Type} : Left H := { results := [], args := [] }

/- WHAT THE LISTED PACKAGE-LEVEL VARIABLES READ AS WHEN THE CALL BEGINS. Each datum BY PROGRAM (the guide's laid-datum.mjs) off the statement by which the dump's own 'gosem.cut.vars' lays the variable. In a bare row this is a premise. The card (YtghjpanabphbpaaDoorCards.lean) ties it to the program's text. -/
def laid_math_bits_deBruijn32tab {H : Type} : DataW H := .agg [.lit (.int .u8 0), .lit (.int .u8 1), .lit (.int .u8 28), .lit (.int .u8 2), .lit (.int .u8 29), .lit (.int .u8 14), .lit (.int .u8 24), .lit (.int .u8 3), .lit (.int .u8 30), .lit (.int .u8 22), .lit (.int .u8 20), .lit (.int .u8 15), .lit (.int .u8 25), .lit (.int .u8 17), .lit (.int .u8 4), .lit (.int .u8 8), .lit (.int .u8 31), .lit (.int .u8 27), .lit (.int .u8 13), .lit (.int .u8 23), .lit (.int .u8 21), .lit (.int .u8 19), .lit (.int .u8 16), .lit (.int .u8 7), .lit (.int .u8 26), .lit (.int .u8 12), .lit (.int .u8 18), .lit (.int .u8 6), .lit (.int .u8 11), .lit (.int .u8 5), .lit (.int .u8 10), .lit (.int .u8 9)]
def laid_math_bits_deBruijn64tab {H : Type} : DataW H := .agg [.lit (.int .u8 0), .lit (.int .u8 1), .lit (.int .u8 56), .lit (.int .u8 2), .lit (.int .u8 57), .lit (.int .u8 49), .lit (.int .u8 28), .lit (.int .u8 3), .lit (.int .u8 61), .lit (.int .u8 58), .lit (.int .u8 42), .lit (.int .u8 50), .lit (.int .u8 38), .lit (.int .u8 29), .lit (.int .u8 17), .lit (.int .u8 4), .lit (.int .u8 62), .lit (.int .u8 47), .lit (.int .u8 59), .lit (.int .u8 36), .lit (.int .u8 45), .lit (.int .u8 43), .lit (.int .u8 51), .lit (.int .u8 22), .lit (.int .u8 53), .lit (.int .u8 39), .lit (.int .u8 33), .lit (.int .u8 30), .lit (.int .u8 24), .lit (.int .u8 18), .lit (.int .u8 12), .lit (.int .u8 5), .lit (.int .u8 63), .lit (.int .u8 55), .lit (.int .u8 48), .lit (.int .u8 27), .lit (.int .u8 60), .lit (.int .u8 41), .lit (.int .u8 37), .lit (.int .u8 16), .lit (.int .u8 46), .lit (.int .u8 35), .lit (.int .u8 44), .lit (.int .u8 21), .lit (.int .u8 52), .lit (.int .u8 32), .lit (.int .u8 23), .lit (.int .u8 11), .lit (.int .u8 54), .lit (.int .u8 26), .lit (.int .u8 40), .lit (.int .u8 15), .lit (.int .u8 34), .lit (.int .u8 20), .lit (.int .u8 31), .lit (.int .u8 10), .lit (.int .u8 25), .lit (.int .u8 14), .lit (.int .u8 19), .lit (.int .u8 9), .lit (.int .u8 13), .lit (.int .u8 8), .lit (.int .u8 7), .lit (.int .u8 6)]
def laid_internal_strconv_uint64pow10 {H : Type} : DataW H := .agg [.lit (.int .u64 1), .lit (.int .u64 10), .lit (.int .u64 100), .lit (.int .u64 1000), .lit (.int .u64 10000), .lit (.int .u64 100000), .lit (.int .u64 1000000), .lit (.int .u64 10000000), .lit (.int .u64 100000000), .lit (.int .u64 1000000000), .lit (.int .u64 10000000000), .lit (.int .u64 100000000000), .lit (.int .u64 1000000000000), .lit (.int .u64 10000000000000), .lit (.int .u64 100000000000000), .lit (.int .u64 1000000000000000), .lit (.int .u64 10000000000000000), .lit (.int .u64 100000000000000000), .lit (.int .u64 1000000000000000000), .lit (.int .u64 10000000000000000000)]

/-- 'laws.FnExactLeastWithSum': WHATEVER THE INPUT: true; the input reads as it did. -/
def fnExactLeastWithSumSpec : ChangeSpec := { name := "fnExactLeastWithSum", fn := fun _ => fun
  | [d] => { results := [.lit (.bool true)], args := [d] }
  | _ => none }
def fnExactLeastWithSumRow : OpenClaim := { program := "ytghjpanabphbpaadoor", sum := "2c35da07ea8b7b1b71e16c85ce77de30345bf98d0e6ea3dd2c6d74ae80c93971", func := "loop.example/g01395/laws.FnExactLeastWithSum", spec := "fnExactLeastWithSum", named := ["internal/strconv.uint64pow10", "math/bits.deBruijn32tab", "math/bits.deBruijn64tab"], apart := false, laid := [("math/bits.deBruijn32tab", laid_math_bits_deBruijn32tab), ("math/bits.deBruijn64tab", laid_math_bits_deBruijn64tab), ("internal/strconv.uint64pow10", laid_internal_strconv_uint64pow10)] }
def FnExactLeastWithSumSaid : Prop := fnExactLeastWithSumRow.holds Tryd.pinned (OpenSpec.ofChange fnExactLeastWithSumSpec)

/-- ITS FALSE NEIGHBOUR: 'it returns false'. Refute it at one input. -/
def fnExactLeastWithSumWrong : ChangeSpec := { name := "fnExactLeastWithSum", fn := fun _ => fun
  | [d] => { results := [.lit (.bool false)], args := [d] }
  | _ => none }
def FnExactLeastWithSumWrongFalsely : Prop := fnExactLeastWithSumRow.holds Tryd.pinned (OpenSpec.ofChange fnExactLeastWithSumWrong)

/-- 'laws.FnExactLeastOfDigits': WHATEVER THE INPUT: true; the input reads as it did. -/
def fnExactLeastOfDigitsSpec : ChangeSpec := { name := "fnExactLeastOfDigits", fn := fun _ => fun
  | [d1, d2] => { results := [.lit (.bool true)], args := [d1, d2] }
  | _ => none }
def fnExactLeastOfDigitsRow : OpenClaim := { program := "ytghjpanabphbpaadoor", sum := "2c35da07ea8b7b1b71e16c85ce77de30345bf98d0e6ea3dd2c6d74ae80c93971", func := "loop.example/g01395/laws.FnExactLeastOfDigits", spec := "fnExactLeastOfDigits", inPlace := ["internal/abi.NoEscape", "internal/bytealg.MakeNoZero"], unfollowed := true, recurses := true, named := ["internal/strconv.uint64pow10", "math/bits.deBruijn32tab", "math/bits.deBruijn64tab"], apart := false, laid := [("math/bits.deBruijn32tab", laid_math_bits_deBruijn32tab), ("math/bits.deBruijn64tab", laid_math_bits_deBruijn64tab), ("internal/strconv.uint64pow10", laid_internal_strconv_uint64pow10)] }
def FnExactLeastOfDigitsSaid : Prop := fnExactLeastOfDigitsRow.holds Tryd.pinned (OpenSpec.ofChange fnExactLeastOfDigitsSpec)

/-- ITS FALSE NEIGHBOUR: 'it returns false'. Refute it at one input. -/
def fnExactLeastOfDigitsWrong : ChangeSpec := { name := "fnExactLeastOfDigits", fn := fun _ => fun
  | [d1, d2] => { results := [.lit (.bool false)], args := [d1, d2] }
  | _ => none }
def FnExactLeastOfDigitsWrongFalsely : Prop := fnExactLeastOfDigitsRow.holds Tryd.pinned (OpenSpec.ofChange fnExactLeastOfDigitsWrong)

/-- 'laws.FnExactGreatestOfDigits': WHATEVER THE INPUT: true; the input reads as it did. -/
def fnExactGreatestOfDigitsSpec : ChangeSpec := { name := "fnExactGreatestOfDigits", fn := fun _ => fun
  | [d1, d2] => { results := [.lit (.bool true)], args := [d1, d2] }
  | _ => none }
def fnExactGreatestOfDigitsRow : OpenClaim := { program := "ytghjpanabphbpaadoor", sum := "2c35da07ea8b7b1b71e16c85ce77de30345bf98d0e6ea3dd2c6d74ae80c93971", func := "loop.example/g01395/laws.FnExactGreatestOfDigits", spec := "fnExactGreatestOfDigits", inPlace := ["internal/abi.NoEscape"], unfollowed := true, recurses := true, named := ["internal/strconv.uint64pow10", "math/bits.deBruijn32tab", "math/bits.deBruijn64tab"], apart := false, laid := [("math/bits.deBruijn32tab", laid_math_bits_deBruijn32tab), ("math/bits.deBruijn64tab", laid_math_bits_deBruijn64tab), ("internal/strconv.uint64pow10", laid_internal_strconv_uint64pow10)] }
def FnExactGreatestOfDigitsSaid : Prop := fnExactGreatestOfDigitsRow.holds Tryd.pinned (OpenSpec.ofChange fnExactGreatestOfDigitsSpec)

/-- ITS FALSE NEIGHBOUR: 'it returns false'. Refute it at one input. -/
def fnExactGreatestOfDigitsWrong : ChangeSpec := { name := "fnExactGreatestOfDigits", fn := fun _ => fun
  | [d1, d2] => { results := [.lit (.bool false)], args := [d1, d2] }
  | _ => none }
def FnExactGreatestOfDigitsWrongFalsely : Prop := fnExactGreatestOfDigitsRow.holds Tryd.pinned (OpenSpec.ofChange fnExactGreatestOfDigitsWrong)

/-- 'laws.FnExactNextWithSum': WHATEVER THE INPUT: true; the input reads as it did. -/
def fnExactNextWithSumSpec : ChangeSpec := { name := "fnExactNextWithSum", fn := fun _ => fun
  | [d] => { results := [.lit (.bool true)], args := [d] }
  | _ => none }
def fnExactNextWithSumRow : OpenClaim := { program := "ytghjpanabphbpaadoor", sum := "2c35da07ea8b7b1b71e16c85ce77de30345bf98d0e6ea3dd2c6d74ae80c93971", func := "loop.example/g01395/laws.FnExactNextWithSum", spec := "fnExactNextWithSum", unfollowed := true, recurses := true, named := ["internal/strconv.uint64pow10", "math/bits.deBruijn32tab", "math/bits.deBruijn64tab"], apart := false, laid := [("math/bits.deBruijn32tab", laid_math_bits_deBruijn32tab), ("math/bits.deBruijn64tab", laid_math_bits_deBruijn64tab), ("internal/strconv.uint64pow10", laid_internal_strconv_uint64pow10)] }
def FnExactNextWithSumSaid : Prop := fnExactNextWithSumRow.holds Tryd.pinned (OpenSpec.ofChange fnExactNextWithSumSpec)

/-- ITS FALSE NEIGHBOUR: 'it returns false'. Refute it at one input. -/
def fnExactNextWithSumWrong : ChangeSpec := { name := "fnExactNextWithSum", fn := fun _ => fun
  | [d] => { results := [.lit (.bool false)], args := [d] }
  | _ => none }
def FnExactNextWithSumWrongFalsely : Prop := fnExactNextWithSumRow.holds Tryd.pinned (OpenSpec.ofChange fnExactNextWithSumWrong)

/-- 'laws.FnExactLastWithSum': WHATEVER THE INPUT: true; the input reads as it did. -/
def fnExactLastWithSumSpec : ChangeSpec := { name := "fnExactLastWithSum", fn := fun _ => fun
  | [d] => { results := [.lit (.bool true)], args := [d] }
  | _ => none }
def fnExactLastWithSumRow : OpenClaim := { program := "ytghjpanabphbpaadoor", sum := "2c35da07ea8b7b1b71e16c85ce77de30345bf98d0e6ea3dd2c6d74ae80c93971", func := "loop.example/g01395/laws.FnExactLastWithSum", spec := "fnExactLastWithSum", unfollowed := true, recurses := true, named := ["internal/strconv.uint64pow10", "math/bits.deBruijn32tab", "math/bits.deBruijn64tab"], apart := false, laid := [("math/bits.deBruijn32tab", laid_math_bits_deBruijn32tab), ("math/bits.deBruijn64tab", laid_math_bits_deBruijn64tab), ("internal/strconv.uint64pow10", laid_internal_strconv_uint64pow10)] }
def FnExactLastWithSumSaid : Prop := fnExactLastWithSumRow.holds Tryd.pinned (OpenSpec.ofChange fnExactLastWithSumSpec)

/-- ITS FALSE NEIGHBOUR: 'it returns false'. Refute it at one input. -/
def fnExactLastWithSumWrong : ChangeSpec := { name := "fnExactLastWithSum", fn := fun _ => fun
  | [d] => { results := [.lit (.bool false)], args := [d] }
  | _ => none }
def FnExactLastWithSumWrongFalsely : Prop := fnExactLastWithSumRow.holds Tryd.pinned (OpenSpec.ofChange fnExactLastWithSumWrong)

/-- 'laws.FnExactNextSameDigits': WHATEVER THE INPUT: true; the input reads as it did. -/
def fnExactNextSameDigitsSpec : ChangeSpec := { name := "fnExactNextSameDigits", fn := fun _ => fun
  | [d] => { results := [.lit (.bool true)], args := [d] }
  | _ => none }
def fnExactNextSameDigitsRow : OpenClaim := { program := "ytghjpanabphbpaadoor", sum := "2c35da07ea8b7b1b71e16c85ce77de30345bf98d0e6ea3dd2c6d74ae80c93971", func := "loop.example/g01395/laws.FnExactNextSameDigits", spec := "fnExactNextSameDigits", named := ["internal/strconv.uint64pow10", "math/bits.deBruijn32tab", "math/bits.deBruijn64tab"], apart := false, laid := [("math/bits.deBruijn32tab", laid_math_bits_deBruijn32tab), ("math/bits.deBruijn64tab", laid_math_bits_deBruijn64tab), ("internal/strconv.uint64pow10", laid_internal_strconv_uint64pow10)] }
def FnExactNextSameDigitsSaid : Prop := fnExactNextSameDigitsRow.holds Tryd.pinned (OpenSpec.ofChange fnExactNextSameDigitsSpec)

/-- ITS FALSE NEIGHBOUR: 'it returns false'. Refute it at one input. -/
def fnExactNextSameDigitsWrong : ChangeSpec := { name := "fnExactNextSameDigits", fn := fun _ => fun
  | [d] => { results := [.lit (.bool false)], args := [d] }
  | _ => none }
def FnExactNextSameDigitsWrongFalsely : Prop := fnExactNextSameDigitsRow.holds Tryd.pinned (OpenSpec.ofChange fnExactNextSameDigitsWrong)

/-- 'laws.FnExactLastSameDigits': WHATEVER THE INPUT: true; the input reads as it did. -/
def fnExactLastSameDigitsSpec : ChangeSpec := { name := "fnExactLastSameDigits", fn := fun _ => fun
  | [d] => { results := [.lit (.bool true)], args := [d] }
  | _ => none }
def fnExactLastSameDigitsRow : OpenClaim := { program := "ytghjpanabphbpaadoor", sum := "2c35da07ea8b7b1b71e16c85ce77de30345bf98d0e6ea3dd2c6d74ae80c93971", func := "loop.example/g01395/laws.FnExactLastSameDigits", spec := "fnExactLastSameDigits", inPlace := ["internal/abi.NoEscape"], named := ["internal/strconv.uint64pow10", "math/bits.deBruijn32tab", "math/bits.deBruijn64tab"], apart := false, laid := [("math/bits.deBruijn32tab", laid_math_bits_deBruijn32tab), ("math/bits.deBruijn64tab", laid_math_bits_deBruijn64tab), ("internal/strconv.uint64pow10", laid_internal_strconv_uint64pow10)] }
def FnExactLastSameDigitsSaid : Prop := fnExactLastSameDigitsRow.holds Tryd.pinned (OpenSpec.ofChange fnExactLastSameDigitsSpec)

/-- ITS FALSE NEIGHBOUR: 'it returns false'. Refute it at one input. -/
def fnExactLastSameDigitsWrong : ChangeSpec := { name := "fnExactLastSameDigits", fn := fun _ => fun
  | [d] => { results := [.lit (.bool false)], args := [d] }
  | _ => none }
def FnExactLastSameDigitsWrongFalsely : Prop := fnExactLastSameDigitsRow.holds Tryd.pinned (OpenSpec.ofChange fnExactLastSameDigitsWrong)

/-- 'laws.FnExactLeastSameDigits': WHATEVER THE INPUT: true; the input reads as it did. -/
def fnExactLeastSameDigitsSpec : ChangeSpec := { name := "fnExactLeastSameDigits", fn := fun _ => fun
  | [d] => { results := [.lit (.bool true)], args := [d] }
  | _ => none }
def fnExactLeastSameDigitsRow : OpenClaim := { program := "ytghjpanabphbpaadoor", sum := "2c35da07ea8b7b1b71e16c85ce77de30345bf98d0e6ea3dd2c6d74ae80c93971", func := "loop.example/g01395/laws.FnExactLeastSameDigits", spec := "fnExactLeastSameDigits", inPlace := ["internal/bytealg.CountString", "internal/bytealg.IndexByteString", "internal/bytealg.IndexString"], recurses := true, named := ["internal/strconv.uint64pow10", "math/bits.deBruijn32tab", "math/bits.deBruijn64tab", "internal/bytealg.MaxLen"], apart := false, laid := [("math/bits.deBruijn32tab", laid_math_bits_deBruijn32tab), ("math/bits.deBruijn64tab", laid_math_bits_deBruijn64tab), ("internal/strconv.uint64pow10", laid_internal_strconv_uint64pow10)] }
def FnExactLeastSameDigitsSaid : Prop := fnExactLeastSameDigitsRow.holds Tryd.pinned (OpenSpec.ofChange fnExactLeastSameDigitsSpec)

/-- ITS FALSE NEIGHBOUR: 'it returns false'. Refute it at one input. -/
def fnExactLeastSameDigitsWrong : ChangeSpec := { name := "fnExactLeastSameDigits", fn := fun _ => fun
  | [d] => { results := [.lit (.bool false)], args := [d] }
  | _ => none }
def FnExactLeastSameDigitsWrongFalsely : Prop := fnExactLeastSameDigitsRow.holds Tryd.pinned (OpenSpec.ofChange fnExactLeastSameDigitsWrong)

/-- 'laws.FnExactGreatestSameDigits': WHATEVER THE INPUT: true; the input reads as it did. -/
def fnExactGreatestSameDigitsSpec : ChangeSpec := { name := "fnExactGreatestSameDigits", fn := fun _ => fun
  | [d] => { results := [.lit (.bool true)], args := [d] }
  | _ => none }
def fnExactGreatestSameDigitsRow : OpenClaim := { program := "ytghjpanabphbpaadoor", sum := "2c35da07ea8b7b1b71e16c85ce77de30345bf98d0e6ea3dd2c6d74ae80c93971", func := "loop.example/g01395/laws.FnExactGreatestSameDigits", spec := "fnExactGreatestSameDigits", inPlace := ["internal/abi.NoEscape"], recurses := true, named := ["internal/strconv.uint64pow10", "math/bits.deBruijn32tab", "math/bits.deBruijn64tab"], apart := false, laid := [("math/bits.deBruijn32tab", laid_math_bits_deBruijn32tab), ("math/bits.deBruijn64tab", laid_math_bits_deBruijn64tab), ("internal/strconv.uint64pow10", laid_internal_strconv_uint64pow10)] }
def FnExactGreatestSameDigitsSaid : Prop := fnExactGreatestSameDigitsRow.holds Tryd.pinned (OpenSpec.ofChange fnExactGreatestSameDigitsSpec)

/-- ITS FALSE NEIGHBOUR: 'it returns false'. Refute it at one input. -/
def fnExactGreatestSameDigitsWrong : ChangeSpec := { name := "fnExactGreatestSameDigits", fn := fun _ => fun
  | [d] => { results := [.lit (.bool false)], args := [d] }
  | _ => none }
def FnExactGreatestSameDigitsWrongFalsely : Prop := fnExactGreatestSameDigitsRow.holds Tryd.pinned (OpenSpec.ofChange fnExactGreatestSameDigitsWrong)

/-- 'laws.FnExactLeastWithProduct': WHATEVER THE INPUT: true; the input reads as it did. -/
def fnExactLeastWithProductSpec : ChangeSpec := { name := "fnExactLeastWithProduct", fn := fun _ => fun
  | [d] => { results := [.lit (.bool true)], args := [d] }
  | _ => none }
def fnExactLeastWithProductRow : OpenClaim := { program := "ytghjpanabphbpaadoor", sum := "2c35da07ea8b7b1b71e16c85ce77de30345bf98d0e6ea3dd2c6d74ae80c93971", func := "loop.example/g01395/laws.FnExactLeastWithProduct", spec := "fnExactLeastWithProduct", named := ["internal/strconv.uint64pow10", "math/bits.deBruijn32tab", "math/bits.deBruijn64tab"], apart := false, laid := [("math/bits.deBruijn32tab", laid_math_bits_deBruijn32tab), ("math/bits.deBruijn64tab", laid_math_bits_deBruijn64tab), ("internal/strconv.uint64pow10", laid_internal_strconv_uint64pow10)] }
def FnExactLeastWithProductSaid : Prop := fnExactLeastWithProductRow.holds Tryd.pinned (OpenSpec.ofChange fnExactLeastWithProductSpec)

/-- ITS FALSE NEIGHBOUR: 'it returns false'. Refute it at one input. -/
def fnExactLeastWithProductWrong : ChangeSpec := { name := "fnExactLeastWithProduct", fn := fun _ => fun
  | [d] => { results := [.lit (.bool false)], args := [d] }
  | _ => none }
def FnExactLeastWithProductWrongFalsely : Prop := fnExactLeastWithProductRow.holds Tryd.pinned (OpenSpec.ofChange fnExactLeastWithProductWrong)

/-- 'laws.FnExactProductOfDigits': WHATEVER THE INPUT: true; the input reads as it did. -/
def fnExactProductOfDigitsSpec : ChangeSpec := { name := "fnExactProductOfDigits", fn := fun _ => fun
  | [d] => { results := [.lit (.bool true)], args := [d] }
  | _ => none }
def fnExactProductOfDigitsRow : OpenClaim := { program := "ytghjpanabphbpaadoor", sum := "2c35da07ea8b7b1b71e16c85ce77de30345bf98d0e6ea3dd2c6d74ae80c93971", func := "loop.example/g01395/laws.FnExactProductOfDigits", spec := "fnExactProductOfDigits", unfollowed := true, recurses := true, named := ["internal/strconv.uint64pow10", "math/bits.deBruijn32tab", "math/bits.deBruijn64tab"], apart := false, laid := [("math/bits.deBruijn32tab", laid_math_bits_deBruijn32tab), ("math/bits.deBruijn64tab", laid_math_bits_deBruijn64tab), ("internal/strconv.uint64pow10", laid_internal_strconv_uint64pow10)] }
def FnExactProductOfDigitsSaid : Prop := fnExactProductOfDigitsRow.holds Tryd.pinned (OpenSpec.ofChange fnExactProductOfDigitsSpec)

/-- ITS FALSE NEIGHBOUR: 'it returns false'. Refute it at one input. -/
def fnExactProductOfDigitsWrong : ChangeSpec := { name := "fnExactProductOfDigits", fn := fun _ => fun
  | [d] => { results := [.lit (.bool false)], args := [d] }
  | _ => none }
def FnExactProductOfDigitsWrongFalsely : Prop := fnExactProductOfDigitsRow.holds Tryd.pinned (OpenSpec.ofChange fnExactProductOfDigitsWrong)

/- THE SECOND FORM. 'bulk': how many values and letters a reading holds, each counted each time it is reached (what is shared counts as often as it is met; a slice's spare places count too). A statement '..UptoSaid' is the law's where the arguments, and the package variables that the reading takes, are together of bulk at most 1048576: NARROWER than '..Said'. Prove '..Said' where nothing that the law and all that it calls make is longer than what came in: it says more and counts as full. Else prove '..UptoSaid'. A law counts once. -/
mutual
def uptoBulk {H : Type} : DataW H → Nat
  | .lit (.string bytes) => bytes.length + 1
  | .lit _ => 1
  | .nil => 1
  | .ptr d => uptoBulk d + 1
  | .slice elems spare => uptoBulkAll elems + uptoBulkAll spare + 1
  | .agg parts => uptoBulkAll parts + 1
  | .iface _ d => uptoBulk d + 1
  | .map entries => uptoBulkEntries entries + 1
  | .held _ => 1
def uptoBulkAll {H : Type} : List (DataW H) → Nat
  | [] => 0
  | d :: r => uptoBulk d + uptoBulkAll r
def uptoBulkEntries {H : Type} : List (Lit × DataW H) → Nat
  | [] => 0
  | x :: r => uptoBulkEntry x + uptoBulkEntries r
def uptoBulkEntry {H : Type} : Lit × DataW H → Nat
  | (.string bytes, d) => bytes.length + uptoBulk d + 1
  | (_, d) => uptoBulk d + 1
 end
def uptoSmall : (H : Type) → List (DataW H) → Bool := fun _ ds => decide (uptoBulkAll ds ≤ 1048576)
def OpenSpec.upto (s : _root_.Go.ChangeSpec) : _root_.Go.OpenSpec := { _root_.Go.OpenSpec.ofChange s with cond := some uptoSmall }

/-- 'laws.FnExactLeastWithSum', WHERE WHAT IT READS IS OF BULK AT MOST 1048576: true; the input reads as it did. -/
def fnExactLeastWithSumUptoRow : OpenClaim := { program := "ytghjpanabphbpaadoor", sum := "2c35da07ea8b7b1b71e16c85ce77de30345bf98d0e6ea3dd2c6d74ae80c93971", func := "loop.example/g01395/laws.FnExactLeastWithSum", spec := "fnExactLeastWithSum", named := ["internal/strconv.uint64pow10", "math/bits.deBruijn32tab", "math/bits.deBruijn64tab"], apart := false, laid := [("math/bits.deBruijn32tab", laid_math_bits_deBruijn32tab), ("math/bits.deBruijn64tab", laid_math_bits_deBruijn64tab), ("internal/strconv.uint64pow10", laid_internal_strconv_uint64pow10)], narrowed := true }
def FnExactLeastWithSumUptoSaid : Prop := fnExactLeastWithSumUptoRow.holds Tryd.pinned (OpenSpec.upto fnExactLeastWithSumSpec)

/-- 'laws.FnExactLeastOfDigits', WHERE WHAT IT READS IS OF BULK AT MOST 1048576: true; the input reads as it did. -/
def fnExactLeastOfDigitsUptoRow : OpenClaim := { program := "ytghjpanabphbpaadoor", sum := "2c35da07ea8b7b1b71e16c85ce77de30345bf98d0e6ea3dd2c6d74ae80c93971", func := "loop.example/g01395/laws.FnExactLeastOfDigits", spec := "fnExactLeastOfDigits", inPlace := ["internal/abi.NoEscape", "internal/bytealg.MakeNoZero"], unfollowed := true, recurses := true, named := ["internal/strconv.uint64pow10", "math/bits.deBruijn32tab", "math/bits.deBruijn64tab"], apart := false, laid := [("math/bits.deBruijn32tab", laid_math_bits_deBruijn32tab), ("math/bits.deBruijn64tab", laid_math_bits_deBruijn64tab), ("internal/strconv.uint64pow10", laid_internal_strconv_uint64pow10)], narrowed := true }
def FnExactLeastOfDigitsUptoSaid : Prop := fnExactLeastOfDigitsUptoRow.holds Tryd.pinned (OpenSpec.upto fnExactLeastOfDigitsSpec)

/-- 'laws.FnExactGreatestOfDigits', WHERE WHAT IT READS IS OF BULK AT MOST 1048576: true; the input reads as it did. -/
def fnExactGreatestOfDigitsUptoRow : OpenClaim := { program := "ytghjpanabphbpaadoor", sum := "2c35da07ea8b7b1b71e16c85ce77de30345bf98d0e6ea3dd2c6d74ae80c93971", func := "loop.example/g01395/laws.FnExactGreatestOfDigits", spec := "fnExactGreatestOfDigits", inPlace := ["internal/abi.NoEscape"], unfollowed := true, recurses := true, named := ["internal/strconv.uint64pow10", "math/bits.deBruijn32tab", "math/bits.deBruijn64tab"], apart := false, laid := [("math/bits.deBruijn32tab", laid_math_bits_deBruijn32tab), ("math/bits.deBruijn64tab", laid_math_bits_deBruijn64tab), ("internal/strconv.uint64pow10", laid_internal_strconv_uint64pow10)], narrowed := true }
def FnExactGreatestOfDigitsUptoSaid : Prop := fnExactGreatestOfDigitsUptoRow.holds Tryd.pinned (OpenSpec.upto fnExactGreatestOfDigitsSpec)

/-- 'laws.FnExactNextWithSum', WHERE WHAT IT READS IS OF BULK AT MOST 1048576: true; the input reads as it did. -/
def fnExactNextWithSumUptoRow : OpenClaim := { program := "ytghjpanabphbpaadoor", sum := "2c35da07ea8b7b1b71e16c85ce77de30345bf98d0e6ea3dd2c6d74ae80c93971", func := "loop.example/g01395/laws.FnExactNextWithSum", spec := "fnExactNextWithSum", unfollowed := true, recurses := true, named := ["internal/strconv.uint64pow10", "math/bits.deBruijn32tab", "math/bits.deBruijn64tab"], apart := false, laid := [("math/bits.deBruijn32tab", laid_math_bits_deBruijn32tab), ("math/bits.deBruijn64tab", laid_math_bits_deBruijn64tab), ("internal/strconv.uint64pow10", laid_internal_strconv_uint64pow10)], narrowed := true }
def FnExactNextWithSumUptoSaid : Prop := fnExactNextWithSumUptoRow.holds Tryd.pinned (OpenSpec.upto fnExactNextWithSumSpec)

/-- 'laws.FnExactLastWithSum', WHERE WHAT IT READS IS OF BULK AT MOST 1048576: true; the input reads as it did. -/
def fnExactLastWithSumUptoRow : OpenClaim := { program := "ytghjpanabphbpaadoor", sum := "2c35da07ea8b7b1b71e16c85ce77de30345bf98d0e6ea3dd2c6d74ae80c93971", func := "loop.example/g01395/laws.FnExactLastWithSum", spec := "fnExactLastWithSum", unfollowed := true, recurses := true, named := ["internal/strconv.uint64pow10", "math/bits.deBruijn32tab", "math/bits.deBruijn64tab"], apart := false, laid := [("math/bits.deBruijn32tab", laid_math_bits_deBruijn32tab), ("math/bits.deBruijn64tab", laid_math_bits_deBruijn64tab), ("internal/strconv.uint64pow10", laid_internal_strconv_uint64pow10)], narrowed := true }
def FnExactLastWithSumUptoSaid : Prop := fnExactLastWithSumUptoRow.holds Tryd.pinned (OpenSpec.upto fnExactLastWithSumSpec)

/-- 'laws.FnExactNextSameDigits', WHERE WHAT IT READS IS OF BULK AT MOST 1048576: true; the input reads as it did. -/
def fnExactNextSameDigitsUptoRow : OpenClaim := { program := "ytghjpanabphbpaadoor", sum := "2c35da07ea8b7b1b71e16c85ce77de30345bf98d0e6ea3dd2c6d74ae80c93971", func := "loop.example/g01395/laws.FnExactNextSameDigits", spec := "fnExactNextSameDigits", named := ["internal/strconv.uint64pow10", "math/bits.deBruijn32tab", "math/bits.deBruijn64tab"], apart := false, laid := [("math/bits.deBruijn32tab", laid_math_bits_deBruijn32tab), ("math/bits.deBruijn64tab", laid_math_bits_deBruijn64tab), ("internal/strconv.uint64pow10", laid_internal_strconv_uint64pow10)], narrowed := true }
def FnExactNextSameDigitsUptoSaid : Prop := fnExactNextSameDigitsUptoRow.holds Tryd.pinned (OpenSpec.upto fnExactNextSameDigitsSpec)

/-- 'laws.FnExactLastSameDigits', WHERE WHAT IT READS IS OF BULK AT MOST 1048576: true; the input reads as it did. -/
def fnExactLastSameDigitsUptoRow : OpenClaim := { program := "ytghjpanabphbpaadoor", sum := "2c35da07ea8b7b1b71e16c85ce77de30345bf98d0e6ea3dd2c6d74ae80c93971", func := "loop.example/g01395/laws.FnExactLastSameDigits", spec := "fnExactLastSameDigits", inPlace := ["internal/abi.NoEscape"], named := ["internal/strconv.uint64pow10", "math/bits.deBruijn32tab", "math/bits.deBruijn64tab"], apart := false, laid := [("math/bits.deBruijn32tab", laid_math_bits_deBruijn32tab), ("math/bits.deBruijn64tab", laid_math_bits_deBruijn64tab), ("internal/strconv.uint64pow10", laid_internal_strconv_uint64pow10)], narrowed := true }
def FnExactLastSameDigitsUptoSaid : Prop := fnExactLastSameDigitsUptoRow.holds Tryd.pinned (OpenSpec.upto fnExactLastSameDigitsSpec)

/-- 'laws.FnExactLeastSameDigits', WHERE WHAT IT READS IS OF BULK AT MOST 1048576: true; the input reads as it did. -/
def fnExactLeastSameDigitsUptoRow : OpenClaim := { program := "ytghjpanabphbpaadoor", sum := "2c35da07ea8b7b1b71e16c85ce77de30345bf98d0e6ea3dd2c6d74ae80c93971", func := "loop.example/g01395/laws.FnExactLeastSameDigits", spec := "fnExactLeastSameDigits", inPlace := ["internal/bytealg.CountString", "internal/bytealg.IndexByteString", "internal/bytealg.IndexString"], recurses := true, named := ["internal/strconv.uint64pow10", "math/bits.deBruijn32tab", "math/bits.deBruijn64tab", "internal/bytealg.MaxLen"], apart := false, laid := [("math/bits.deBruijn32tab", laid_math_bits_deBruijn32tab), ("math/bits.deBruijn64tab", laid_math_bits_deBruijn64tab), ("internal/strconv.uint64pow10", laid_internal_strconv_uint64pow10)], narrowed := true }
def FnExactLeastSameDigitsUptoSaid : Prop := fnExactLeastSameDigitsUptoRow.holds Tryd.pinned (OpenSpec.upto fnExactLeastSameDigitsSpec)

/-- 'laws.FnExactGreatestSameDigits', WHERE WHAT IT READS IS OF BULK AT MOST 1048576: true; the input reads as it did. -/
def fnExactGreatestSameDigitsUptoRow : OpenClaim := { program := "ytghjpanabphbpaadoor", sum := "2c35da07ea8b7b1b71e16c85ce77de30345bf98d0e6ea3dd2c6d74ae80c93971", func := "loop.example/g01395/laws.FnExactGreatestSameDigits", spec := "fnExactGreatestSameDigits", inPlace := ["internal/abi.NoEscape"], recurses := true, named := ["internal/strconv.uint64pow10", "math/bits.deBruijn32tab", "math/bits.deBruijn64tab"], apart := false, laid := [("math/bits.deBruijn32tab", laid_math_bits_deBruijn32tab), ("math/bits.deBruijn64tab", laid_math_bits_deBruijn64tab), ("internal/strconv.uint64pow10", laid_internal_strconv_uint64pow10)], narrowed := true }
def FnExactGreatestSameDigitsUptoSaid : Prop := fnExactGreatestSameDigitsUptoRow.holds Tryd.pinned (OpenSpec.upto fnExactGreatestSameDigitsSpec)

/-- 'laws.FnExactLeastWithProduct', WHERE WHAT IT READS IS OF BULK AT MOST 1048576: true; the input reads as it did. -/
def fnExactLeastWithProductUptoRow : OpenClaim := { program := "ytghjpanabphbpaadoor", sum := "2c35da07ea8b7b1b71e16c85ce77de30345bf98d0e6ea3dd2c6d74ae80c93971", func := "loop.example/g01395/laws.FnExactLeastWithProduct", spec := "fnExactLeastWithProduct", named := ["internal/strconv.uint64pow10", "math/bits.deBruijn32tab", "math/bits.deBruijn64tab"], apart := false, laid := [("math/bits.deBruijn32tab", laid_math_bits_deBruijn32tab), ("math/bits.deBruijn64tab", laid_math_bits_deBruijn64tab), ("internal/strconv.uint64pow10", laid_internal_strconv_uint64pow10)], narrowed := true }
def FnExactLeastWithProductUptoSaid : Prop := fnExactLeastWithProductUptoRow.holds Tryd.pinned (OpenSpec.upto fnExactLeastWithProductSpec)

/-- 'laws.FnExactProductOfDigits', WHERE WHAT IT READS IS OF BULK AT MOST 1048576: true; the input reads as it did. -/
def fnExactProductOfDigitsUptoRow : OpenClaim := { program := "ytghjpanabphbpaadoor", sum := "2c35da07ea8b7b1b71e16c85ce77de30345bf98d0e6ea3dd2c6d74ae80c93971", func := "loop.example/g01395/laws.FnExactProductOfDigits", spec := "fnExactProductOfDigits", unfollowed := true, recurses := true, named := ["internal/strconv.uint64pow10", "math/bits.deBruijn32tab", "math/bits.deBruijn64tab"], apart := false, laid := [("math/bits.deBruijn32tab", laid_math_bits_deBruijn32tab), ("math/bits.deBruijn64tab", laid_math_bits_deBruijn64tab), ("internal/strconv.uint64pow10", laid_internal_strconv_uint64pow10)], narrowed := true }
def FnExactProductOfDigitsUptoSaid : Prop := fnExactProductOfDigitsUptoRow.holds Tryd.pinned (OpenSpec.upto fnExactProductOfDigitsSpec)

end Rows
end Go.Proofs.YtghjpanabphbpaaDoor
