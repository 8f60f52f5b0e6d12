/-
  How many texts of n digits have each sum: plain facts, nothing of the program.
-/
import Derived.Test.YtghjpanabphbpaaDoorMath
namespace Go.Proofs.YtghjpanabphbpaaDoor

/-- After k items of p: entry j of the next row. -/
def outp (p : Nat → Int) : Nat → Nat → Int
  | 0, _ => 0
  | k + 1, j => outp p k j + (if k ≤ j ∧ j < k + 10 then p k else 0)
/-- After k items, and d digits of the next one. -/
def mid (p : Nat → Int) (k d j : Nat) : Int := outp p k j + (if k ≤ j ∧ j < k + d then p k else 0)
/-- How many texts of n digits have the sum j. -/
def W : Nat → Nat → Int
  | 0, j => if j = 0 then 1 else 0
  | n + 1, j => outp (W n) (9 * n + 1) j

theorem mid_zero (p : Nat → Int) (k j : Nat) : mid p k 0 j = outp p k j := by
  unfold mid; rw [if_neg (by omega)]; omega
theorem mid_ten (p : Nat → Int) (k j : Nat) : mid p k 10 j = outp p (k + 1) j := rfl
theorem mid_succ (p : Nat → Int) (k d j : Nat) : mid p k (d + 1) j = if j = k + d then mid p k d (k + d) + p k else mid p k d j := by
  unfold mid
  by_cases h : j = k + d
  · subst h; rw [if_pos rfl, if_pos (by omega), if_neg (by omega)]; omega
  · rw [if_neg h]
    by_cases h2 : k ≤ j ∧ j < k + d
    · rw [if_pos h2, if_pos (by omega)]
    · rw [if_neg h2, if_neg (by omega)]
theorem outp_bd (p : Nat → Int) (M : Int) (hp : ∀ i, 0 ≤ p i ∧ p i ≤ M) (k j : Nat) : 0 ≤ outp p k j ∧ outp p k j ≤ M * ((min k (j + 1) - (j - 9) : Nat) : Int) := by
  induction k with
  | zero => simp [outp]
  | succ k ih =>
    unfold outp
    by_cases h : k ≤ j ∧ j < k + 10
    · rw [if_pos h]
      have e : ((min (k + 1) (j + 1) - (j - 9) : Nat) : Int) = ((min k (j + 1) - (j - 9) : Nat) : Int) + 1 := by omega
      rw [e, Int.mul_add]
      have := hp k
      omega
    · rw [if_neg h]
      have e : (min (k + 1) (j + 1) - (j - 9) : Nat) = (min k (j + 1) - (j - 9) : Nat) := by omega
      rw [e]; omega
theorem outp_10 (p : Nat → Int) (M : Int) (hM : 0 ≤ M) (hp : ∀ i, 0 ≤ p i ∧ p i ≤ M) (k j : Nat) : 0 ≤ outp p k j ∧ outp p k j ≤ 10 * M := by
  have h := outp_bd p M hp k j
  refine ⟨h.1, Int.le_trans h.2 ?_⟩
  rw [Int.mul_comm 10 M]
  exact Int.mul_le_mul_of_nonneg_left (by omega) hM
theorem W_bd (n : Nat) : ∀ j, 0 ≤ W n j ∧ W n j ≤ 10 ^ n := by
  induction n with
  | zero => intro j; unfold W; split <;> simp
  | succ n ih =>
    intro j
    have hM : (0 : Int) ≤ 10 ^ n := Int.le_trans (ih 0).1 (ih 0).2
    have h := outp_10 (W n) (10 ^ n) hM ih (9 * n + 1) j
    unfold W
    rw [Int.pow_succ]; omega
theorem pow_12 {n : Nat} (h : n ≤ 12) : (10 : Int) ^ n ≤ 1000000000000 := by
  have hp : (10 : Nat) ^ n ≤ 10 ^ 12 := Nat.pow_le_pow_right (by omega) h
  have : (10 : Int) ^ n ≤ 10 ^ 12 := by exact_mod_cast hp
  omega
theorem W_12 {n : Nat} (h : n ≤ 12) (j : Nat) : 0 ≤ W n j ∧ W n j ≤ 1000000000000 := by
  have := W_bd n j; have := pow_12 h; omega
theorem mid_12 {n : Nat} (h : n ≤ 12) (k d j : Nat) : 0 ≤ mid (W n) k d j ∧ mid (W n) k d j ≤ 11000000000000 := by
  have h1 := outp_10 (W n) 1000000000000 (by omega) (fun i => W_12 h i) k j
  have h2 := W_12 h k
  unfold mid; split <;> omega
/-- The count for a sum, 0 outside. -/
def Wi (n : Nat) (s : Int) : Int := if 0 ≤ s ∧ s ≤ 9 * (n : Int) then W n s.toNat else 0
theorem Wi_in {n : Nat} {s : Int} (h : 0 ≤ s ∧ s ≤ 9 * (n : Int)) : Wi n s = W n s.toNat := by rw [Wi, if_pos h]
theorem Wi_out {n : Nat} {s : Int} (h : ¬ (0 ≤ s ∧ s ≤ 9 * (n : Int))) : Wi n s = 0 := by rw [Wi, if_neg h]
end Go.Proofs.YtghjpanabphbpaaDoor
