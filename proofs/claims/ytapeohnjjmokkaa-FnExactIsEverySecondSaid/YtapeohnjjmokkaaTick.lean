/-
  The law of IsTicket: both functions tell a ticket alike.
-/
import Derived.Test.YtapeohnjjmokkaaLeaf
namespace Go.Proofs.Ytapeohnjjmokkaa
open Go.RowKit

theorem isTicket_any (s : ByteArray) (w : World) (hs : s.size ≤ maxLen) :
    Calls Try.prog 15 #[.string s] w fun e w' => e = .returned (.bool (goodB s)) ∧ w = w' := by
  have hm := hs
  unfold maxLen at hs
  by_cases hz : szB s.size = true
  · have hgd : goodB s = digB s.data.toList := by simp [goodB, hz]
    have HG := Lib.hid hgd; clear hgd
    go_enter Try.func15, Try.ntmps15
    go_wp2_with (first | (go_at_call 37; refine (isSize_any _ _).mono ?_; rintro e w' ⟨rfl, rfl⟩) | (go_at_call 38; refine (isDigits_any _ _ hm).mono ?_; rintro e w' ⟨rfl, rfl⟩))
    go_ret
    exact ⟨ret_bool HG.out.symm, rfl⟩
  · have hz' : szB s.size = false := by simpa using hz
    have hgd : goodB s = false := by simp [goodB, hz']
    have HG := Lib.hid hgd; clear hgd hz
    go_enter Try.func15, Try.ntmps15
    go_wp2_with (first | (go_at_call 37; refine (isSize_any _ _).mono ?_; rintro e w' ⟨rfl, rfl⟩) | (go_at_call 38; refine (isDigits_any _ _ hm).mono ?_; rintro e w' ⟨rfl, rfl⟩))
    go_ret
    exact ⟨ret_bool HG.out.symm, rfl⟩
theorem spIsTicket_any (s : ByteArray) (w : World) (hs : s.size ≤ maxLen) :
    Calls Try.prog 14 #[.string s] w fun e w' => e = .returned (.bool (goodB s)) ∧ w = w' := by
  go_enter Try.func14, Try.ntmps14
  go_wp2_with (go_at_call 36; refine (tkGood_any _ _ hs).mono ?_; rintro e w' ⟨rfl, rfl⟩)
  go_ret
  exact ⟨rfl, rfl⟩
theorem FnExactIsTicket_law (s : ByteArray) (hs : s.size ≤ maxLen) (w : World) :
    Calls Try.prog 3 #[.string s] w fun e w' => e = .returned (.bool true) ∧ Below w.heap.size w w' := by
  have hm := hs
  unfold maxLen at hs
  by_cases hb : s.size ≤ 1048576
  all_goals
    go_enter Try.func3, Try.ntmps3
    go_wp2_with (first | (go_at_call 14; refine (spIsTicket_any _ _ hm).mono ?_; rintro e w' ⟨rfl, rfl⟩) | (go_at_call 15; refine (isTicket_any _ _ hm).mono ?_; rintro e w' ⟨rfl, rfl⟩))
    go_ret
    exact ⟨rfl, Below.refl _ _⟩
end Go.Proofs.Ytapeohnjjmokkaa
