/-
  Least numbers: the leaf functions of both sides.
-/
import Derived.Test.YtghjpanabphbpabDiLeaf
import Derived.Test.YtghjpanabphbpabMath
namespace Go.Proofs.Ytghjpanabphbpab
open Go.RowKit

/-- There is a digit sum, a number of digits, a product, a divisor. -/
def smB (n : Int) : Bool := decide (0 ≤ n ∧ n ≤ 108)
def lnB (n : Int) : Bool := decide (1 ≤ n ∧ n ≤ 12)
def prB (n : Int) : Bool := decide (1 ≤ n ∧ n ≤ 1000000000000)
def dvB (n : Int) : Bool := decide (1 ≤ n ∧ n ≤ 400)
theorem smB_iff (n : Int) : smB n = true ↔ 0 ≤ n ∧ n ≤ 108 := by simp [smB]
theorem lnB_iff (n : Int) : lnB n = true ↔ 1 ≤ n ∧ n ≤ 12 := by simp [lnB]
theorem prB_iff (n : Int) : prB n = true ↔ 1 ≤ n ∧ n ≤ 1000000000000 := by simp [prB]
theorem dvB_iff (n : Int) : dvB n = true ↔ 1 ≤ n ∧ n ≤ 400 := by simp [dvB]
theorem ret_ib2 {a b : Int} {p q : Bool} (h : a = b) (g : p = q) : Ending.returned (.tuple #[.int .i64 a, .bool p]) = .returned (.tuple #[.int .i64 b, .bool q]) := by rw [h, g]
theorem ret_sb {a b : ByteArray} {p q : Bool} (h : a = b) (h2 : p = q) : Ending.returned (.tuple #[.string a, .bool p]) = .returned (.tuple #[.string b, .bool q]) := by rw [h, h2]
theorem in_b (n lo hi : Int) (b : Bool) (w : World) (h : decide (lo ≤ n ∧ n ≤ hi) = b) :
    Calls Try.prog 23 #[.int .i64 n, .int .i64 lo, .int .i64 hi] w fun e w' => e = .returned (.bool b) ∧ w = w' := by
  rw [← h]; exact in_any n lo hi w
theorem below_of_eq {w w' : World} (h : w = w') : Below w.heap.size w w' := by subst h; exact Below.refl _ _
theorem isDivisor_any (n : Int) (w : World) :
    Calls Try.prog 18 #[.int .i64 n] w fun e w' => e = .returned (.bool (dvB n)) ∧ w = w' := by
  by_cases h1 : 1 ≤ n <;> by_cases h2 : n ≤ 400
  all_goals
    go_enter Try.func18, Try.ntmps18
    go_wp2
    go_ret
    exact ⟨by simp [dvB, h1, h2], rfl⟩
theorem leDivisor_any (n : Int) (w : World) :
    Calls Try.prog 15 #[.int .i64 n] w fun e w' => e = .returned (.bool (dvB n)) ∧ w = w' := by
  go_enter Try.func15, Try.ntmps15
  go_wp2_with (go_at_call 23; refine (in_b _ _ _ (dvB n) _ rfl).mono ?_; rintro e w' ⟨rfl, rfl⟩)
  go_ret
  exact ⟨rfl, rfl⟩
theorem lprod_any (n : Int) (w : World) :
    Calls Try.prog 23 #[.int .i64 n, .int .i64 1, .int .i64 1000000000000] w fun e w' => e = .returned (.bool (prB n)) ∧ w = w' := in_b _ _ _ _ _ rfl
theorem llen_any (n : Int) (w : World) :
    Calls Try.prog 23 #[.int .i64 n, .int .i64 1, .int .i64 12] w fun e w' => e = .returned (.bool (lnB n)) ∧ w = w' := in_b _ _ _ _ _ rfl
end Go.Proofs.Ytghjpanabphbpab
