/-
  Plain facts on the digits of a number: sums, products, counts of each; nothing of the program.
-/
import Derived.Test.YtghjpanabphbpaaDoorDiNum
import Derived.Test.YtghjpanabphbpaaDoorMath
namespace Go.Proofs.YtghjpanabphbpaaDoor

/-- The product of digits. -/
def dprod (l : List UInt8) : Int := l.foldl (fun n c => n * dv c) 1
theorem dprod_snoc (l : List UInt8) (c : UInt8) : dprod (l ++ [c]) = dprod l * dv c := by simp [dprod, List.foldl_append]
/-- How often a digit is there. -/
def dct (d : Nat) (l : List UInt8) : Int := l.foldl (fun n c => if dv c = (d : Int) then n + 1 else n) 0
theorem dct_snoc (d : Nat) (l : List UInt8) (c : UInt8) : dct d (l ++ [c]) = if dv c = (d : Int) then dct d l + 1 else dct d l := by simp [dct, List.foldl_append]
theorem snoc_ind {P : List UInt8 → Prop} (h0 : P []) (h1 : ∀ l c, P l → P (l ++ [c])) (l : List UInt8) : P l := by
  have : ∀ r : List UInt8, P r.reverse := by
    intro r
    induction r with
    | nil => exact h0
    | cons c r ih => rw [List.reverse_cons]; exact h1 _ _ ih
  have := this l.reverse
  rwa [List.reverse_reverse] at this
theorem dct_bd (d : Nat) (l : List UInt8) : 0 ≤ dct d l ∧ dct d l ≤ l.length := by
  induction l using snoc_ind with
  | h0 => simp [dct]
  | h1 l c ih => rw [dct_snoc, List.length_append, List.length_singleton]; split <;> omega
theorem dv_bd {c : UInt8} (h : dgB c = true) : 0 ≤ dv c ∧ dv c ≤ 9 := by
  have := (dgB_iff c).1 h
  unfold dv; omega
theorem dprod_bd (l : List UInt8) : digB l = true → 0 ≤ dprod l ∧ dprod l ≤ 9 ^ l.length := by
  induction l using snoc_ind with
  | h0 => intro _; simp [dprod]
  | h1 l c ih =>
    intro h
    rw [digB_snoc] at h
    simp only [Bool.and_eq_true] at h
    have h1 := ih h.1
    have h2 := dv_bd h.2
    rw [dprod_snoc, List.length_append, List.length_singleton, Int.pow_succ]
    exact ⟨Int.mul_nonneg h1.1 h2.1, Int.mul_le_mul h1.2 h2.2 h2.1 (by omega)⟩
theorem dprod_13 (l : List UInt8) (h : digB l = true) (hl : l.length ≤ 13) : 0 ≤ dprod l ∧ dprod l ≤ 2541865828329 := by
  have h1 := dprod_bd l h
  have hp : (9 : Nat) ^ l.length ≤ 9 ^ 13 := Nat.pow_le_pow_right (by omega) hl
  have : (9 : Int) ^ l.length ≤ 9 ^ 13 := by exact_mod_cast hp
  omega
/-- Changed at one digit, the sum goes up by that digit. -/
theorem dsm_bump (f : Nat → Int) (d : Nat) (k : Nat) : dsm (fun j => if j = d then f j + 1 else f j) k = dsm f k + (if d < k then (d : Int) else 0) := by
  induction k with
  | zero => simp [dsm]
  | succ k ih =>
    rw [dsm, dsm, ih]
    by_cases h : k = d
    · subst h
      rw [if_pos rfl, if_neg (by omega), if_pos (by omega), Int.mul_add]
      omega
    · rw [if_neg h]
      by_cases h2 : d < k
      · rw [if_pos h2, if_pos (by omega)]; omega
      · rw [if_neg h2, if_neg (by omega)]; omega
theorem dsm_zero (k : Nat) : dsm (fun _ => 0) k = 0 := by
  induction k with
  | zero => rfl
  | succ k ih => rw [dsm, ih]; simp
theorem dsm_dct (l : List UInt8) : digB l = true → dsm (fun d => dct d l) 10 = dsum l := by
  induction l using snoc_ind with
  | h0 => intro _; rw [dsm_same (g := fun _ => 0) (fun i _ => by simp [dct]), dsm_zero]; rfl
  | h1 l c ih =>
    intro h
    rw [digB_snoc] at h
    simp only [Bool.and_eq_true] at h
    have h2 := dv_bd h.2
    rw [dsum_snoc, ← ih h.1, dsm_same (g := fun j => if j = (dv c).toNat then (fun d => dct d l) j + 1 else (fun d => dct d l) j) (fun i _ => by
      rw [dct_snoc]
      by_cases e : i = (dv c).toNat
      · rw [if_pos e, if_pos (by omega)]
      · rw [if_neg e, if_neg (by omega)]), dsm_bump, if_pos (by omega)]
    omega
theorem dc_toNat {u : Nat} (h : u ≤ 9) : (dc u).toNat = 48 + u := by
  unfold dc
  simp
  omega
theorem dv_dc {u : Nat} (h : u ≤ 9) : dv (dc u) = (u : Int) := by unfold dv; rw [dc_toNat h]; omega
theorem dgB_dc {u : Nat} (h : u ≤ 9) : dgB (dc u) = true := by rw [dgB_iff, dc_toNat h]; omega
theorem dec_dig (n : Nat) : digB (Lib.decDigits n) = true := by
  induction n using Nat.strongRecOn with
  | _ n ih =>
    by_cases h10 : n < 10
    · rw [dec_small h10]; simp [digB, dgB_dc (show n ≤ 9 by omega)]
    · rw [dec_big h10, digB_snoc, ih (n / 10) (by omega), dgB_dc (by omega)]; rfl
/-- The digit sum, and the product of the digits, of a number. -/
def nsum (n : Int) : Int := dsum (Lib.decDigits n.toNat)
def nprod (n : Int) : Int := dprod (Lib.decDigits n.toNat)
theorem nsum_le (n : Nat) : 0 ≤ dsum (Lib.decDigits n) ∧ dsum (Lib.decDigits n) ≤ n ∧ (10 ≤ n → dsum (Lib.decDigits n) < n) := by
  induction n using Nat.strongRecOn with
  | _ n ih =>
    by_cases h10 : n < 10
    · rw [dec_small h10]
      simp only [dsum, dv_dc (show n ≤ 9 by omega)]
      omega
    · rw [dec_big h10, dsum_snoc, dv_dc (by omega)]
      have := ih (n / 10) (by omega)
      omega
theorem nprod_le (n : Nat) : 0 ≤ dprod (Lib.decDigits n) ∧ dprod (Lib.decDigits n) ≤ n ∧ (10 ≤ n → dprod (Lib.decDigits n) < n) := by
  induction n using Nat.strongRecOn with
  | _ n ih =>
    by_cases h10 : n < 10
    · rw [dec_small h10, show [dc n] = [] ++ [dc n] from rfl, dprod_snoc, dv_dc (by omega)]
      simp only [dprod, List.foldl_nil, Int.one_mul]
      omega
    · rw [dec_big h10, dprod_snoc, dv_dc (by omega)]
      have h := ih (n / 10) (by omega)
      have h1 : dprod (Lib.decDigits (n / 10)) * ((n % 10 : Nat) : Int) ≤ ((n / 10 : Nat) : Int) * 9 := Int.mul_le_mul h.2.1 (by omega) (by omega) (by omega)
      have h2 : 0 ≤ dprod (Lib.decDigits (n / 10)) * ((n % 10 : Nat) : Int) := Int.mul_nonneg h.1 (by omega)
      omega
/-- What lessens a number with more than one digit. -/
structure Lessens (f : Int → Int) : Prop where
  nn : ∀ n, 0 ≤ n → 0 ≤ f n
  lt : ∀ n, 10 ≤ n → f n < n
theorem nsum_lessens : Lessens nsum := ⟨fun n _ => (nsum_le n.toNat).1, fun n h => by have := (nsum_le n.toNat).2.2 (by omega); unfold nsum; omega⟩
theorem nprod_lessens : Lessens nprod := ⟨fun n _ => (nprod_le n.toNat).1, fun n h => by have := (nprod_le n.toNat).2.2 (by omega); unfold nprod; omega⟩
/-- Made less k times. -/
def itr (f : Int → Int) (n : Int) : Nat → Int
  | 0 => n
  | k + 1 => f (itr f n k)
/-- The digit that is left, and how often it was made less. -/
def EndIs (f : Int → Int) (n e t : Int) : Prop := ∃ k : Nat, t = (k : Int) ∧ e = itr f n k ∧ e ≤ 9 ∧ ∀ j, j < k → 9 < itr f n j
theorem EndIs.uniq {f : Int → Int} {n e t e' t' : Int} (u : EndIs f n e t) (v : EndIs f n e' t') : e = e' ∧ t = t' := by
  obtain ⟨k, rfl, rfl, h1, h2⟩ := u
  obtain ⟨m, rfl, rfl, h3, h4⟩ := v
  have : k = m := by
    rcases Nat.lt_trichotomy k m with h | h | h
    · have := h4 k h; omega
    · exact h
    · have := h2 m h; omega
  subst this
  exact ⟨rfl, rfl⟩
end Go.Proofs.YtghjpanabphbpaaDoor
