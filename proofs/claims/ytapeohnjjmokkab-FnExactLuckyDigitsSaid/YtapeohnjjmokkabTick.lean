/-
  The law of IsTicket: both functions tell a ticket alike.
-/
import Derived.Test.YtapeohnjjmokkabLeaf
namespace Go.Proofs.Ytapeohnjjmokkab
open Go.RowKit

theorem isTicket_any (s : ByteArray) (w : World) (hs : s.size ≤ maxLen) :
    Calls Try.prog 37 #[.string s] w fun e w' => e = .returned (.bool (goodB s)) ∧ w = w' := by
  have hm := hs
  unfold maxLen at hs
  by_cases hz : szB s.size = true
  · have hgd : goodB s = digB s.data.toList := by simp [goodB, hz]
    have HG := Lib.hid hgd; clear hgd
    go_enter Try.func37, Try.ntmps37
    go_wp2_with (first | (go_at_call 48; refine (isSize_any _ _).mono ?_; rintro e w' ⟨rfl, rfl⟩) | (go_at_call 56; refine (isDigits_any _ _ hm).mono ?_; rintro e w' ⟨rfl, rfl⟩))
    go_ret
    exact ⟨ret_bool HG.out.symm, rfl⟩
  · have hz' : szB s.size = false := by simpa using hz
    have hgd : goodB s = false := by simp [goodB, hz']
    have HG := Lib.hid hgd; clear hgd hz
    go_enter Try.func37, Try.ntmps37
    go_wp2_with (first | (go_at_call 48; refine (isSize_any _ _).mono ?_; rintro e w' ⟨rfl, rfl⟩) | (go_at_call 56; refine (isDigits_any _ _ hm).mono ?_; rintro e w' ⟨rfl, rfl⟩))
    go_ret
    exact ⟨ret_bool HG.out.symm, rfl⟩
end Go.Proofs.Ytapeohnjjmokkab
