/-
  Contract of tkLucky.
-/
import Derived.Test.YtlkeemnnncnibabHalf
import Derived.WalkSmall
namespace Go.Proofs.Ytlkeemnnncnibab
open Go.RowKit
set_option maxRecDepth 100000

theorem gle {s : ByteArray} (h : goodB s = true) : s.size ≤ 1000 := by have := good_sz h; omega
/-- A ticket is lucky. -/
def lucky (s : ByteArray) : Bool := decide (dsum (lo s) = dsum (hi s))
theorem lucky_yes {s : ByteArray} (h : dsum (lo s) = dsum (hi s)) : lucky s = true := by simp [lucky, h]
theorem lucky_no {s : ByteArray} (h : ¬ dsum (lo s) = dsum (hi s)) : lucky s = false := by simp [lucky, h]

theorem tkLucky_any (s : ByteArray) (w : World) (hg : goodB s = true) :
    Calls Try.prog 71 #[.string s] w fun e w' => e = .returned (.bool (lucky s)) ∧ Below w.heap.size w w' := by
  by_cases h : dsum (lo s) = dsum (hi s)
  · have E := Lib.hid (lucky_yes h)
    have hq : (dsum (lo s) == dsum (hi s)) = true := by simpa using h
    have H := Lib.hid h; clear h
    go_enter Try.func71, Try.ntmps71
    go_wp2_with (go_at_call 85; go_must ((with_reducible refine (tkHalves_any _ _ (gle hg) (good_dig hg)).mono ?_); rintro e w' ⟨rfl, ⟨nn, rfl⟩⟩))
    go_ret
    exact ⟨ret_bool E.out.symm, below_drewN (Below.refl _ _) _⟩
  · have E := Lib.hid (lucky_no h)
    have hq : (dsum (lo s) == dsum (hi s)) = false := by simpa using h
    have H := Lib.hid h; clear h
    go_enter Try.func71, Try.ntmps71
    go_wp2_with (go_at_call 85; go_must ((with_reducible refine (tkHalves_any _ _ (gle hg) (good_dig hg)).mono ?_); rintro e w' ⟨rfl, ⟨nn, rfl⟩⟩))
    go_ret
    exact ⟨ret_bool E.out.symm, below_drewN (Below.refl _ _) _⟩
end Go.Proofs.Ytlkeemnnncnibab
