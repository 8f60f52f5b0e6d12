/-
  The law of SlipBetween.
-/
import Derived.Test.YtleifibbdjplbabSlSbI
namespace Go.Proofs.Ytleifibbdjplbab
open Go.RowKit

set_option maxHeartbeats 1000000 in
theorem FnExactSlipBetween_law (s0 : ByteArray) (hs0 : s0.size ≤ maxLen) (s1 : ByteArray) (hs1 : s1.size ≤ maxLen) (w : World) :
    Calls Try.prog 4 #[.string s0, .string s1] w fun e w' => e = .returned (.bool true) ∧ Below w.heap.size w w' := by
  have hs0' := hs0
  unfold maxLen at hs0'
  have hs1' := hs1
  unfold maxLen at hs1'
  have hs1 : ∀ W, Calls Try.prog 17 #[.string s0, .string s1] W fun e w' => e = .returned (.tuple #[.string (sbA s0 s1), .bool (sbB s0 s1)]) ∧ Below W.heap.size W w' := fun W => sBtw_any s0 s1 W hs0 hs1
  have hi1 : ∀ W, Calls Try.prog 18 #[.string s0, .string s1] W fun e w' => e = .returned (.tuple #[.string (sbA s0 s1), .bool (sbB s0 s1)]) ∧ Below W.heap.size W w' := fun W => iSBtw_any s0 s1 W (by assumption) (by assumption)
  obtain ⟨A0, hA0⟩ : ∃ A0 : ByteArray, A0 = sbA s0 s1 := ⟨_, rfl⟩
  obtain ⟨A1, hA1⟩ : ∃ A1 : Bool, A1 = sbB s0 s1 := ⟨_, rfl⟩
  rw [← hA0, ← hA1] at hs1 hi1
  have HS := Lib.hid hs1
  have HI := Lib.hid hi1
  clear hs1 hi1 hA0 hA1
  by_cases hb0 : (s0.size : Int) ≤ 1048576
  case neg =>
    go_enter Try.func4, Try.ntmps4
    go_wp2
    go_ret
    exact ⟨rfl, Below.refl _ _⟩
  case pos =>
    by_cases hb1 : (s1.size : Int) ≤ 1048576
    case neg =>
      go_enter Try.func4, Try.ntmps4
      go_wp2
      go_ret
      exact ⟨rfl, Below.refl _ _⟩
    case pos =>
      go_enter Try.func4, Try.ntmps4
      go_wp2_with (first | (go_at_call 17; (with_reducible refine (HS.out _).mono ?_); rintro e w1 ⟨rfl, b1⟩) | (go_at_call 18; (with_reducible refine (HI.out _).mono ?_); rintro e w2 ⟨rfl, b2⟩))
      go_ret
      exact ⟨rfl, chain b1 b2⟩
end Go.Proofs.Ytleifibbdjplbab
