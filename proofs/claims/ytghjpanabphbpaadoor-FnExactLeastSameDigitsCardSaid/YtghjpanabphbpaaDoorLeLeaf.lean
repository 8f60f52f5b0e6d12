/-
  Least numbers: the leaf functions of both sides.
-/
import Derived.Test.YtghjpanabphbpaaDoorDiLeaf
import Derived.Test.YtghjpanabphbpaaDoorMath
namespace Go.Proofs.YtghjpanabphbpaaDoor
open Go.RowKit

/-- There is a digit sum, a number of digits, a product, a divisor. -/
def smB (n : Int) : Bool := decide (0 ≤ n ∧ n ≤ 108)
def lnB (n : Int) : Bool := decide (1 ≤ n ∧ n ≤ 12)
def prB (n : Int) : Bool := decide (1 ≤ n ∧ n ≤ 1000000000000)
def dvB (n : Int) : Bool := decide (1 ≤ n ∧ n ≤ 400)
theorem smB_iff (n : Int) : smB n = true ↔ 0 ≤ n ∧ n ≤ 108 := by simp [smB]
theorem lnB_iff (n : Int) : lnB n = true ↔ 1 ≤ n ∧ n ≤ 12 := by simp [lnB]
theorem prB_iff (n : Int) : prB n = true ↔ 1 ≤ n ∧ n ≤ 1000000000000 := by simp [prB]
theorem dvB_iff (n : Int) : dvB n = true ↔ 1 ≤ n ∧ n ≤ 400 := by simp [dvB]
theorem ret_ib2 {a b : Int} {p q : Bool} (h : a = b) (g : p = q) : Ending.returned (.tuple #[.int .i64 a, .bool p]) = .returned (.tuple #[.int .i64 b, .bool q]) := by rw [h, g]
theorem ret_sb {a b : ByteArray} {p q : Bool} (h : a = b) (h2 : p = q) : Ending.returned (.tuple #[.string a, .bool p]) = .returned (.tuple #[.string b, .bool q]) := by rw [h, h2]
theorem in_b (n lo hi : Int) (b : Bool) (w : World) (h : decide (lo ≤ n ∧ n ≤ hi) = b) :
    Calls Tryd.prog 60 #[.int .i64 n, .int .i64 lo, .int .i64 hi] w fun e w' => e = .returned (.bool b) ∧ w = w' := by
  rw [← h]; exact in_any n lo hi w
theorem below_of_eq {w w' : World} (h : w = w') : Below w.heap.size w w' := by subst h; exact Below.refl _ _
theorem mostI_any (a b : Int) (w : World) :
    Calls Tryd.prog 42 #[.int .i64 a, .int .i64 b] w fun e w' => e = .returned (.int .i64 (max a b)) ∧ w = w' := by
  by_cases h : b < a
  all_goals
    have HM : Hid (max a b = if b < a then a else b) := by show _ = _; split <;> omega
    first | rw [if_pos h] at HM | rw [if_neg h] at HM
    go_enter Tryd.func42, Tryd.ntmps42
    go_wp2
    go_ret
    exact ⟨ret_int HM.out.symm, rfl⟩
theorem leastI_any (a b : Int) (w : World) :
    Calls Tryd.prog 64 #[.int .i64 a, .int .i64 b] w fun e w' => e = .returned (.int .i64 (min a b)) ∧ w = w' := by
  by_cases h : a < b
  all_goals
    have HM : Hid (min a b = if a < b then a else b) := by show _ = _; split <;> omega
    first | rw [if_pos h] at HM | rw [if_neg h] at HM
    go_enter Tryd.func64, Tryd.ntmps64
    go_wp2
    go_ret
    exact ⟨ret_int HM.out.symm, rfl⟩
theorem isNumber_any (n : Int) (w : World) :
    Calls Tryd.prog 52 #[.int .i64 n] w fun e w' => e = .returned (.bool (nuB n)) ∧ w = w' := by
  by_cases h1 : 0 ≤ n <;> by_cases h2 : n ≤ 1000000000000
  all_goals
    go_enter Tryd.func52, Tryd.ntmps52
    go_wp2
    go_ret
    exact ⟨by simp [nuB, h1, h2], rfl⟩
theorem isSum_any (n : Int) (w : World) :
    Calls Tryd.prog 38 #[.int .i64 n] w fun e w' => e = .returned (.bool (smB n)) ∧ w = w' := by
  by_cases h1 : 0 ≤ n <;> by_cases h2 : n ≤ 108
  all_goals
    go_enter Tryd.func38, Tryd.ntmps38
    go_wp2
    go_ret
    exact ⟨by simp [smB, h1, h2], rfl⟩
theorem isLength_any (n : Int) (w : World) :
    Calls Tryd.prog 65 #[.int .i64 n] w fun e w' => e = .returned (.bool (lnB n)) ∧ w = w' := by
  by_cases h1 : 1 ≤ n <;> by_cases h2 : n ≤ 12
  all_goals
    go_enter Tryd.func65, Tryd.ntmps65
    go_wp2
    go_ret
    exact ⟨by simp [lnB, h1, h2], rfl⟩
theorem isProduct_any (n : Int) (w : World) :
    Calls Tryd.prog 61 #[.int .i64 n] w fun e w' => e = .returned (.bool (prB n)) ∧ w = w' := by
  by_cases h1 : 1 ≤ n <;> by_cases h2 : n ≤ 1000000000000
  all_goals
    go_enter Tryd.func61, Tryd.ntmps61
    go_wp2
    go_ret
    exact ⟨by simp [prB, h1, h2], rfl⟩
theorem leNumber_any (n : Int) (w : World) :
    Calls Tryd.prog 46 #[.int .i64 n] w fun e w' => e = .returned (.bool (nuB n)) ∧ w = w' := by
  go_enter Tryd.func46, Tryd.ntmps46
  go_wp2_with (go_at_call 60; refine (in_b _ _ _ (nuB n) _ rfl).mono ?_; rintro e w' ⟨rfl, rfl⟩)
  go_ret
  exact ⟨rfl, rfl⟩
theorem leSum_any (n : Int) (w : World) :
    Calls Tryd.prog 36 #[.int .i64 n] w fun e w' => e = .returned (.bool (smB n)) ∧ w = w' := by
  go_enter Tryd.func36, Tryd.ntmps36
  go_wp2_with (go_at_call 60; refine (in_b _ _ _ (smB n) _ rfl).mono ?_; rintro e w' ⟨rfl, rfl⟩)
  go_ret
  exact ⟨rfl, rfl⟩
theorem lprod_any (n : Int) (w : World) :
    Calls Tryd.prog 60 #[.int .i64 n, .int .i64 1, .int .i64 1000000000000] w fun e w' => e = .returned (.bool (prB n)) ∧ w = w' := in_b _ _ _ _ _ rfl
theorem llen_any (n : Int) (w : World) :
    Calls Tryd.prog 60 #[.int .i64 n, .int .i64 1, .int .i64 12] w fun e w' => e = .returned (.bool (lnB n)) ∧ w = w' := in_b _ _ _ _ _ rfl
end Go.Proofs.YtghjpanabphbpaaDoor
