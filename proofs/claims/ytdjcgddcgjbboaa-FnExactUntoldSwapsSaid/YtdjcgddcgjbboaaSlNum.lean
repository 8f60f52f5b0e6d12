/-
  Numbers of checks: their digits, sums, and whether they are sound.
-/
import Derived.Test.YtdjcgddcgjbboaaSlGood
namespace Go.Proofs.Ytdjcgddcgjbboaa
open Go.RowKit

theorem dgt_get (s : ByteArray) (k : Nat) (h : k < s.size) : dgt s.data.toList k = (s[k].toNat : Int) - 48 := by
  unfold dgt dv
  rw [List.getD_eq_getElem?_getD, List.getElem?_eq_getElem (by simpa using h)]
  rfl
theorem wrap_u8 (d : Nat) (h : d < 256) : IntKind.u8.wrap (d : Int) = (d : Int) := by
  unfold IntKind.wrap IntKind.bits IntKind.signed
  simp
  omega
/-- So many digits. -/
def ardB (s : ByteArray) (lo hi : Int) : Bool := decide (lo ≤ (s.size : Int) ∧ (s.size : Int) ≤ hi) && digB s.data.toList
theorem ard_no {s : ByteArray} {lo hi : Int} (h : ¬ (lo ≤ (s.size : Int) ∧ (s.size : Int) ≤ hi)) : ardB s lo hi = false := by unfold ardB; rw [decide_eq_false h]; rfl
theorem ard_yes {s : ByteArray} {lo hi : Int} (h : lo ≤ (s.size : Int) ∧ (s.size : Int) ≤ hi) : ardB s lo hi = digB s.data.toList := by unfold ardB; rw [decide_eq_true h]; rfl
theorem num_no {xs : List Int} {m : Int} {t : List UInt8} (h : chkB xs m = false) : numB xs m t = false := by unfold numB; rw [h]; rfl
theorem num_len {xs : List Int} {m : Int} {t : List UInt8} (h : ¬ t.length = xs.length) : numB xs m t = false := by unfold numB; rw [decide_eq_false h]; simp
theorem num_yes {xs : List Int} {m : Int} {t : List UInt8} {b : Bool} (h : chkB xs m = true) (h2 : t.length = xs.length) (h3 : digB t = b) : numB xs m t = b := by unfold numB; rw [h, decide_eq_true h2, h3]; rfl
end Go.Proofs.Ytdjcgddcgjbboaa
