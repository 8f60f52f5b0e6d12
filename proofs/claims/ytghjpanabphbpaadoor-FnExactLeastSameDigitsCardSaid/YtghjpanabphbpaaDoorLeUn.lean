/-
  Least numbers: counts of numbers with a digit sum go up by one at each of them. Nothing of the program.
-/
import Derived.Test.YtghjpanabphbpaaDoorDiUm
import Derived.Test.YtghjpanabphbpaaDoorLeCd
namespace Go.Proofs.YtghjpanabphbpaaDoor

/-- The sum of the last k digits. -/
def dsk : Nat → Nat → Nat
  | 0, _ => 0
  | k + 1, n => n / 10 ^ k + dsk k (n % 10 ^ k)

theorem UN_0 (k : Nat) : ∀ s, UN k 0 s = V 0 s := by
  induction k with
  | zero => intro s; rfl
  | succ k ih => intro s; rw [UN, Nat.zero_div, Nat.zero_mod, ih]; simp [ps]
theorem dsk_0 (k : Nat) : dsk k 0 = 0 := by
  induction k with
  | zero => rfl
  | succ k ih => rw [dsk, Nat.zero_div, Nat.zero_mod, ih]
theorem UN_top (k : Nat) : ∀ s, UN k (10 ^ k - 1) s = V k s := by
  induction k with
  | zero => intro s; rfl
  | succ k ih =>
    intro s
    have hp : 0 < 10 ^ k := Nat.pow_pos (by omega)
    have e : 10 ^ (k + 1) - 1 = 10 ^ k * 9 + (10 ^ k - 1) := by rw [Nat.pow_succ]; omega
    have e1 : (10 ^ (k + 1) - 1) / 10 ^ k = 9 := by rw [e, Nat.mul_add_div hp, Nat.div_eq_of_lt (show 10 ^ k - 1 < 10 ^ k by omega)]
    have e2 : (10 ^ (k + 1) - 1) % 10 ^ k = 10 ^ k - 1 := by rw [e, Nat.mul_add_mod, Nat.mod_eq_of_lt (by omega)]
    rw [UN, e1, e2, ih, ← ps_ten]
    rfl
theorem next_div {P n : Nat} (hP : 0 < P) : (n % P + 1 < P ∧ (n + 1) / P = n / P ∧ (n + 1) % P = n % P + 1) ∨ (n % P = P - 1 ∧ (n + 1) / P = n / P + 1 ∧ (n + 1) % P = 0) := by
  have h1 := Nat.div_add_mod n P
  have h2 := Nat.mod_lt n hP
  by_cases h : n % P + 1 < P
  · left
    have e : n + 1 = P * (n / P) + (n % P + 1) := by omega
    refine ⟨h, ?_, ?_⟩
    · rw [e, Nat.mul_add_div hP, Nat.div_eq_of_lt h]; rfl
    · rw [e, Nat.mul_add_mod, Nat.mod_eq_of_lt h]
  · right
    have e : n + 1 = P * (n / P + 1) := by rw [Nat.mul_add]; omega
    refine ⟨by omega, ?_, ?_⟩
    · rw [e, Nat.mul_div_cancel_left _ hP]
    · rw [e, Nat.mul_mod_right]
theorem UN_step (k : Nat) : ∀ (n : Nat) (s : Int), n + 1 < 10 ^ k → UN k (n + 1) s = UN k n s + (if (dsk k (n + 1) : Int) = s then 1 else 0) := by
  induction k with
  | zero => intro n s h; simp at h
  | succ k ih =>
    intro n s h
    have hp : 0 < 10 ^ k := Nat.pow_pos (by omega)
    rw [UN, UN, dsk]
    rcases next_div (n := n) hp with ⟨h1, h2, h3⟩ | ⟨h1, h2, h3⟩
    · rw [h2, h3, ih _ _ h1]
      have e : ((dsk k (n % 10 ^ k + 1) : Int) = s - ((n / 10 ^ k : Nat) : Int)) = (((n / 10 ^ k + dsk k (n % 10 ^ k + 1) : Nat) : Int) = s) := propext ⟨fun h => by omega, fun h => by omega⟩
      simp only [e]
      omega
    · rw [h1, h2, h3, UN_0, UN_top, dsk_0, ps, V_0]
      have e : (s - ((n / 10 ^ k + 1 : Nat) : Int) = 0) = (((n / 10 ^ k + 1 + 0 : Nat) : Int) = s) := propext ⟨fun h => by omega, fun h => by omega⟩
      simp only [e]
/-- The digit sum of a number. -/
def ds (n : Nat) : Nat := dsk 13 n
theorem dsk_lw (k : Nat) : ∀ n, n < 10 ^ k → (dsk k n : Int) = dsum (lw n k) := by
  induction k with
  | zero => intro n _; rfl
  | succ k ih =>
    intro n h
    have hp : 0 < 10 ^ k := Nat.pow_pos (by omega)
    have hq : n / 10 ^ k < 10 := by rw [Nat.div_lt_iff_lt_mul hp]; rw [Nat.pow_succ, Nat.mul_comm] at h; exact h
    have hd : dt n k = n / 10 ^ k := by unfold dt; exact Nat.mod_eq_of_lt hq
    rw [lw, dsum, hd, dv_dc (by omega), dsk]
    have := ih (n % 10 ^ k) (Nat.mod_lt _ hp)
    rw [lw_mod k n k (Nat.le_refl _)] at this
    omega
theorem dsum_zeros (k : Nat) (l : List UInt8) : dsum (List.replicate k 48 ++ l) = dsum l := by
  induction k with
  | zero => rfl
  | succ k ih => rw [List.replicate_succ, List.cons_append, dsum, ih, show dv 48 = 0 from rfl]; omega
theorem nsum_ds {n : Nat} (h : n ≤ 1000000000000) : nsum (n : Int) = (ds n : Int) := by
  have hlt : n < 10 ^ 13 := by omega
  have := (dec_fits 12 n hlt).2
  unfold nsum ds
  rw [Int.toNat_natCast, dsk_lw 13 n hlt, this, dsum_zeros]
theorem uc_step {n : Nat} (s : Int) (h : n + 1 ≤ 1000000000000) : uc s ((n : Int) + 1) = uc s n + (if (ds (n + 1) : Int) = s then 1 else 0) := by
  unfold uc ds
  rw [show ((n : Int) + 1).toNat = n + 1 by omega, show (n : Int).toNat = n by omega, UL_dec _ s (by omega), UL_dec _ s (by omega), UN_step 13 n s (by omega)]
  omega
theorem uc_zero (s : Int) : uc s 0 = 0 := by
  unfold uc
  rw [show (0 : Int).toNat = 0 from rfl, UL_dec _ s (by omega), UN_0, V_0]
  omega
/-- From a up to b it is the same if none of them has the sum. -/
theorem uc_flat {a : Nat} (s : Int) (k : Nat) : a + k ≤ 1000000000000 → (∀ x, a < x → x ≤ a + k → (ds x : Int) ≠ s) → uc s ((a + k : Nat) : Int) = uc s a := by
  induction k with
  | zero => intro _ _; rfl
  | succ k ih =>
    intro h hn
    have := uc_step (n := a + k) s (by omega)
    rw [show (((a + (k + 1) : Nat)) : Int) = ((a + k : Nat) : Int) + 1 by omega, this, if_neg (hn _ (by omega) (by omega)), ih (by omega) (fun x h1 h2 => hn x h1 (by omega))]
    omega
/-- The count of all up to n is more than that of all up to m just if one of them is between. -/
theorem uc_more {a b : Nat} (s : Int) (hab : a ≤ b) (hb : b ≤ 1000000000000) : (uc s a < uc s b) ↔ ∃ x, a < x ∧ x ≤ b ∧ (ds x : Int) = s := by
  constructor
  · intro h
    by_cases e : ∃ x, a < x ∧ x ≤ b ∧ (ds x : Int) = s
    · exact e
    · obtain ⟨k, rfl⟩ : ∃ k, b = a + k := ⟨b - a, by omega⟩
      rw [uc_flat s k hb (fun x h1 h2 h3 => e ⟨x, h1, h2, h3⟩)] at h
      omega
  · rintro ⟨x, h1, h2, h3⟩
    obtain ⟨y, rfl⟩ : ∃ y, x = y + 1 := ⟨x - 1, by omega⟩
    have m1 := uc_mono (s := s) (a := (a : Int)) (b := (y : Int)) (by omega) (by omega)
    have m2 := uc_step (n := y) s (by omega)
    have m3 := uc_mono (s := s) (a := ((y : Int) + 1)) (b := (b : Int)) (by omega) (by omega)
    rw [if_pos h3] at m2
    omega
end Go.Proofs.YtghjpanabphbpaaDoor
