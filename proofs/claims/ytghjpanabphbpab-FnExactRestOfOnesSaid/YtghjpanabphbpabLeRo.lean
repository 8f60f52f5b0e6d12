/-
  Least numbers: numbers of ones, and powers of ten, and what is left of them. Nothing of the program.
-/
import Derived.Test.YtghjpanabphbpabMath
namespace Go.Proofs.Ytghjpanabphbpab

/-- So many ones. -/
def ro : Nat → Nat
  | 0 => 0
  | k + 1 => ro k * 10 + 1
theorem ro_pow (k : Nat) : 9 * ro k + 1 = 10 ^ k := by
  induction k with
  | zero => rfl
  | succ k ih => rw [ro, Nat.pow_succ]; omega
theorem ro_add (a b : Nat) : ro (a + b) = ro a * 10 ^ b + ro b := by
  induction b with
  | zero => simp [ro]
  | succ b ih => rw [← Nat.add_assoc, ro, ih, ro, Nat.pow_succ, Nat.add_mul, Nat.mul_assoc]; omega
/-- What is left of ones, out of what is left of nines. -/
theorem ro_rest (z : Nat) {n : Nat} (hn : 1 ≤ n) : 10 ^ z % (9 * n) = 9 * (ro z % n) + 1 := by
  rw [← ro_pow]
  have h1 := Nat.div_add_mod (ro z) n
  have h2 := Nat.mod_lt (ro z) hn
  have e : 9 * ro z + 1 = 9 * n * (ro z / n) + (9 * (ro z % n) + 1) := by
    rw [Nat.mul_assoc]; omega
  rw [e, Nat.mul_add_mod, Nat.mod_eq_of_lt (by omega)]
theorem pow_half (z m : Nat) : 10 ^ z % m = if z % 2 = 0 then (10 ^ (z / 2) % m) * (10 ^ (z / 2) % m) % m else (10 ^ (z / 2) % m) * (10 ^ (z / 2) % m) * 10 % m := by
  by_cases h : z % 2 = 0
  · rw [if_pos h]
    have e : z = z / 2 + z / 2 := by omega
    conv => lhs; rw [e, Nat.pow_add, Nat.mul_mod]
  · rw [if_neg h]
    have e : z = z / 2 + z / 2 + 1 := by omega
    conv => lhs; rw [e, Nat.pow_succ, Nat.pow_add, Nat.mul_mod, Nat.mul_mod (10 ^ (z / 2))]
    conv => rhs; rw [Nat.mul_mod]
/-- One step of the model: the ones of l and those of a. -/
theorem ro_step (l a n : Nat) : ro (l + a) % n = ((ro l % n) * (10 ^ a % n) + ro a % n) % n := by
  rw [ro_add, Nat.add_mod, Nat.mul_mod]
  conv => rhs; rw [Nat.add_mod]
  simp
theorem pow_step (a n : Nat) : 10 ^ (a + a) % n = (10 ^ a % n) * (10 ^ a % n) % n := by
  rw [Nat.pow_add, Nat.mul_mod]
end Go.Proofs.Ytghjpanabphbpab
