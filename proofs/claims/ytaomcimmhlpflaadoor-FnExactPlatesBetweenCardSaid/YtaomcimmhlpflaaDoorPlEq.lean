/-
  Schemes compared by the law.
-/
import Derived.Test.YtaomcimmhlpflaaDoorPlTo
namespace Go.Proofs.YtaomcimmhlpflaaDoor
open Go.RowKit

theorem eqScheme_yes (P B : ByteArray) (E C : Nat) (ts : List (List UInt8)) (v u : Value) (w : World) (hn : ts.length ≤ 1048576) (h1 : Strs E ts v w) (h2 : Strs C ts u w) :
    Calls Tryd.prog 15 #[.agg #[.string P, .string B, v], .agg #[.string P, .string B, u]] w fun e w' => e = .returned (.bool true) ∧ Below w.heap.size w w' := by
  have H1 := Lib.hid h1
  have H2 := Lib.hid h2
  clear h1 h2
  go_enter Tryd.func15, Tryd.ntmps15
  go_wp2_with (go_at_call 43; go_must ((with_reducible refine (eqStrs_yes E C ts _ _ _ (by omega) (H1.out.below (by go_grown)) (H2.out.below (by go_grown))).mono ?_); rintro e w1 ⟨rfl, n, rfl⟩))
  go_ret
  exact ⟨rfl, below_drewN (by go_grown) n⟩
end Go.Proofs.YtaomcimmhlpflaaDoor
