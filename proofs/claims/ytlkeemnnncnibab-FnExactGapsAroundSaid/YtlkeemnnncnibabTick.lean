/-
  The law of IsTicket: both functions tell a ticket alike.
-/
import Derived.Test.YtlkeemnnncnibabLeaf
namespace Go.Proofs.Ytlkeemnnncnibab
open Go.RowKit

theorem isTicket_any (s : ByteArray) (w : World) (hs : s.size ≤ maxLen) :
    Calls Try.prog 66 #[.string s] w fun e w' => e = .returned (.bool (goodB s)) ∧ w = w' := by
  have hm := hs
  unfold maxLen at hs
  by_cases hz : szB s.size = true
  · have hgd : goodB s = digB s.data.toList := by simp [goodB, hz]
    have HG := Lib.hid hgd; clear hgd
    go_enter Try.func66, Try.ntmps66
    go_wp2_with (first | (go_at_call 83; refine (isSize_any _ _).mono ?_; rintro e w' ⟨rfl, rfl⟩) | (go_at_call 76; refine (isDigits_any _ _ hm).mono ?_; rintro e w' ⟨rfl, rfl⟩))
    go_ret
    exact ⟨ret_bool HG.out.symm, rfl⟩
  · have hz' : szB s.size = false := by simpa using hz
    have hgd : goodB s = false := by simp [goodB, hz']
    have HG := Lib.hid hgd; clear hgd hz
    go_enter Try.func66, Try.ntmps66
    go_wp2_with (first | (go_at_call 83; refine (isSize_any _ _).mono ?_; rintro e w' ⟨rfl, rfl⟩) | (go_at_call 76; refine (isDigits_any _ _ hm).mono ?_; rintro e w' ⟨rfl, rfl⟩))
    go_ret
    exact ⟨ret_bool HG.out.symm, rfl⟩
end Go.Proofs.Ytlkeemnnncnibab
