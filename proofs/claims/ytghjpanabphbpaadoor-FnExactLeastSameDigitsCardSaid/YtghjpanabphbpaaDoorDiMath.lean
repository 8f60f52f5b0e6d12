/-
  Plain facts on digits that are written: counts of digits by places; nothing of the program.
-/
import Derived.WalkKit
namespace Go.Proofs.YtghjpanabphbpaaDoor

/-- Ten to the power k. -/
def tn (k : Nat) : Int := ((10 ^ k : Nat) : Int)
theorem tn_zero : tn 0 = 1 := rfl
theorem tn_succ (k : Nat) : tn (k + 1) = tn k * 10 := by unfold tn; rw [Nat.pow_succ]; push_cast; rfl
theorem tn_pos (k : Nat) : 1 ≤ tn k := by unfold tn; have := Nat.pow_pos (a := 10) (n := k) (by omega); omega
theorem tn_mono {a b : Nat} (h : a ≤ b) : tn a ≤ tn b := by unfold tn; have := Nat.pow_le_pow_right (n := 10) (by omega) h; omega
theorem tn_13 : tn 13 = 10000000000000 := by decide +kernel
theorem tn_12 : tn 12 = 1000000000000 := by decide +kernel
/-- There is a number. -/
def nuB (n : Int) : Bool := decide (0 ≤ n ∧ n ≤ 1000000000000)
theorem nuB_iff (n : Int) : nuB n = true ↔ 0 ≤ n ∧ n ≤ 1000000000000 := by simp [nuB]
/-- There is a digit. -/
def dgtB (d : Int) : Bool := decide (0 ≤ d ∧ d ≤ 9)
theorem dgtB_iff (n : Int) : dgtB n = true ↔ 0 ≤ n ∧ n ≤ 9 := by simp [dgtB]
/-- A power of ten that is not greater than a number up to the greatest one comes before the 13th. -/
theorem tn_lt {j : Nat} {n : Int} (h : tn j ≤ n) (hn : n ≤ 1000000000000) : j < 13 := by
  rcases Nat.lt_or_ge j 13 with h' | h'
  · exact h'
  · have := tn_mono h'; rw [tn_13] at this; omega

/-- How many digits at the first k places are written for all numbers up to n. -/
def wp (n : Int) : Nat → Int
  | 0 => 0
  | k + 1 => wp n k + (if tn k ≤ n then n - tn k + 1 else 0)
theorem wp_go {n : Int} {j : Nat} (h : tn j ≤ n) : wp n (j + 1) = wp n j + (n - tn j + 1) := by rw [wp, if_pos h]
theorem wp_stop {n : Int} {j : Nat} (h : n < tn j) (k : Nat) : wp n (j + k) = wp n j := by
  induction k with
  | zero => rfl
  | succ k ih =>
    have := tn_mono (show j ≤ j + k by omega)
    rw [← Nat.add_assoc, wp, if_neg (by omega), ih]; omega
theorem wp_all {n : Int} {j : Nat} (h : n < tn j) (hj : j ≤ 13) : wp n j = wp n 13 := by
  obtain ⟨k, hk⟩ : ∃ k, 13 = j + k := ⟨13 - j, by omega⟩
  rw [hk, wp_stop h]
theorem wp_bd {n : Int} (h0 : 0 ≤ n) (k : Nat) : 0 ≤ wp n k ∧ wp n k ≤ (k : Int) * n := by
  induction k with
  | zero => simp [wp]
  | succ k ih =>
    have := tn_pos k
    rw [wp]
    have e : ((k + 1 : Nat) : Int) * n = (k : Int) * n + n := by rw [Int.natCast_succ, Int.add_mul, Int.one_mul]
    split <;> omega
theorem wp_13 {n : Int} (h0 : 0 ≤ n) (h1 : n ≤ 1000000000000) {k : Nat} (hk : k ≤ 13) : 0 ≤ wp n k ∧ wp n k ≤ 13000000000000 := by
  have := wp_bd h0 k
  have h2 : (k : Int) * n ≤ 13 * 1000000000000 := Int.mul_le_mul (by omega) h1 h0 (by omega)
  omega
theorem wp_shift {m m' : Int} (j : Nat) (h : m ≤ m') (hj : ∀ k, k < j → tn k ≤ m) : wp m' j = wp m j + (j : Int) * (m' - m) := by
  induction j with
  | zero => simp [wp]
  | succ j ih =>
    have hj' := hj j (by omega)
    rw [wp_go (show tn j ≤ m' by omega), wp_go hj', ih (fun k hk => hj k (by omega))]
    have e : ((j + 1 : Nat) : Int) * (m' - m) = (j : Int) * (m' - m) + (m' - m) := by rw [Int.natCast_succ, Int.add_mul, Int.one_mul]
    omega
/-- The number of digits of a number, those at the first k places. -/
def ln (n : Int) : Nat → Int
  | 0 => 0
  | k + 1 => ln n k + (if tn k ≤ n then 1 else 0)
theorem wp_up (n : Int) (k : Nat) : wp (n + 1) k = wp n k + ln (n + 1) k := by
  induction k with
  | zero => simp [wp, ln]
  | succ k ih => rw [wp, wp, ln, ih]; split <;> split <;> omega
theorem ln_nn (n : Int) (k : Nat) : 0 ≤ ln n k := by
  induction k with
  | zero => simp [ln]
  | succ k ih => rw [ln]; split <;> omega
theorem ln_pos {n : Int} (h : 1 ≤ n) (k : Nat) : 1 ≤ ln n (k + 1) := by
  induction k with
  | zero => rw [ln, if_pos (by rw [tn_zero]; exact h)]; simp [ln]
  | succ k ih => rw [ln]; split <;> omega
/-- All that is written. -/
def wr (n : Int) : Int := wp n 13
theorem wr_up (n : Int) : wr (n + 1) = wr n + ln (n + 1) 13 := wp_up n 13
theorem wr_lt1 {n : Int} (h : 0 ≤ n) : wr n < wr (n + 1) := by
  have := wr_up n
  have h : 1 ≤ ln (n + 1) 13 := ln_pos (n := n + 1) (by omega) 12
  omega
theorem mono_of_step {f : Int → Int} (hs : ∀ n, 0 ≤ n → f n ≤ f (n + 1)) (a : Int) (ha : 0 ≤ a) (k : Nat) : f a ≤ f (a + k) := by
  induction k with
  | zero => simp
  | succ k ih =>
    have := hs (a + k) (by omega)
    rw [show a + ((k + 1 : Nat) : Int) = a + k + 1 by omega]
    omega
theorem mono_le {f : Int → Int} (hs : ∀ n, 0 ≤ n → f n ≤ f (n + 1)) {a b : Int} (ha : 0 ≤ a) (h : a ≤ b) : f a ≤ f b := by
  have := mono_of_step hs a ha (b - a).toNat
  rwa [show a + ((b - a).toNat : Int) = b by omega] at this
theorem wr_mono {a b : Int} (ha : 0 ≤ a) (h : a ≤ b) : wr a ≤ wr b := mono_le (fun n hn => by have := wr_lt1 hn; omega) ha h
theorem wr_mono' {a b : Int} (ha : 0 ≤ a) (h : a < b) : wr a < wr b := by
  have h1 := wr_lt1 ha
  have h2 := wr_mono (a := a + 1) (b := b) (by omega) (by omega)
  omega
theorem wr_0 : wr 0 = 0 := by decide +kernel
theorem wr_top : 1000000000000 < wr 1000000000000 := by decide +kernel

/-- How often a digit is at the place of T, for all numbers up to n, which have it. -/
def ca (n T d : Int) : Int := n / (10 * T) * T + min (max (n % (10 * T) + 1 - d * T) 0) T - (if d = 0 then T else 0)
theorem pair_split (n T : Int) : n = 10 * (n / (10 * T) * T) + n % (10 * T) := by
  have h := Int.mul_ediv_add_emod n (10 * T)
  have e : 10 * T * (n / (10 * T)) = 10 * (n / (10 * T) * T) := by rw [Int.mul_assoc, Int.mul_comm T]
  omega
theorem quo_bd {n T : Int} (h0 : 0 ≤ n) (hT : 1 ≤ T) : 0 ≤ n / (10 * T) * T ∧ 10 * (n / (10 * T) * T) ≤ n := by
  have h1 := pair_split n T
  have h2 := Int.emod_nonneg n (show (10 * T) ≠ 0 by omega)
  have h3 : 0 ≤ n / (10 * T) := Int.ediv_nonneg h0 (by omega)
  have h4 : 0 ≤ n / (10 * T) * T := Int.mul_nonneg h3 (by omega)
  omega
theorem dT_bd {d T : Int} (hd : 0 ≤ d ∧ d ≤ 9) (hT : 1 ≤ T) : 0 ≤ d * T ∧ d * T ≤ 9 * T ∧ (d ≠ 0 → T ≤ d * T) := by
  refine ⟨Int.mul_nonneg hd.1 (by omega), Int.mul_le_mul_of_nonneg_right hd.2 (by omega), fun h => ?_⟩
  have := Int.mul_le_mul_of_nonneg_right (show 1 ≤ d by omega) (show 0 ≤ T by omega)
  omega
theorem ca_bd {n T d : Int} (h0 : 0 ≤ n) (hT : 1 ≤ T) (hTn : T ≤ n) (hd : 0 ≤ d ∧ d ≤ 9) : 0 ≤ ca n T d ∧ ca n T d ≤ n := by
  have h1 := pair_split n T
  have h2 := quo_bd h0 hT
  have h3 := Int.emod_nonneg n (show (10 * T) ≠ 0 by omega)
  have h4 := dT_bd hd hT
  have h5 : n / (10 * T) * T = 0 ∨ T ≤ n / (10 * T) * T := by
    have h6 : 0 ≤ n / (10 * T) := Int.ediv_nonneg h0 (by omega)
    by_cases h : n / (10 * T) = 0
    · left; rw [h, Int.zero_mul]
    · right
      have := Int.mul_le_mul_of_nonneg_right (show 1 ≤ n / (10 * T) by omega) (show 0 ≤ T by omega)
      omega
  unfold ca
  by_cases hz : d = 0
  · subst hz
    simp only [if_pos]
    omega
  · rw [if_neg hz]
    have := h4.2.2 hz
    omega
/-- One number more. -/
theorem ca_step {n T d : Int} (hT : 1 ≤ T) (hd : 0 ≤ d ∧ d ≤ 9) : ca n T d ≤ ca (n + 1) T d := by
  have h1 := pair_split n T
  have h3 := Int.emod_nonneg n (show (10 * T) ≠ 0 by omega)
  have h4 := dT_bd hd hT
  have h5 := Int.emod_lt_of_pos n (show 0 < 10 * T by omega)
  by_cases h : n % (10 * T) + 1 < 10 * T
  · have e1 : (n + 1) / (10 * T) = n / (10 * T) := by
      rw [Int.ediv_eq_iff_of_pos (by omega)]
      have e : 10 * T * (n / (10 * T)) = 10 * (n / (10 * T) * T) := by rw [Int.mul_assoc, Int.mul_comm T]
      have e' : n / (10 * T) * (10 * T) = 10 * (n / (10 * T) * T) := by rw [Int.mul_comm, e]
      constructor <;> first | (rw [Int.add_mul]; omega) | omega
    have e2 : (n + 1) % (10 * T) = n % (10 * T) + 1 := by
      have := pair_split (n + 1) T
      rw [e1] at this
      omega
    unfold ca
    rw [e1, e2]
    omega
  · have e1 : (n + 1) / (10 * T) = n / (10 * T) + 1 := by
      have e : 10 * T * (n / (10 * T)) = 10 * (n / (10 * T) * T) := by rw [Int.mul_assoc, Int.mul_comm T]
      have e' : n / (10 * T) * (10 * T) = 10 * (n / (10 * T) * T) := by rw [Int.mul_comm, e]
      rw [Int.ediv_eq_iff_of_pos (by omega)]
      constructor
      · rw [Int.add_mul]; omega
      · rw [Int.add_mul]; omega
    have e3 : (n / (10 * T) + 1) * T = n / (10 * T) * T + T := by rw [Int.add_mul]; omega
    have e2 : (n + 1) % (10 * T) = 0 := by
      have := pair_split (n + 1) T
      rw [e1, e3] at this
      omega
    unfold ca
    rw [e1, e2, e3]
    omega
/-- How often a digit is at the first k places. -/
def cp (d n : Int) : Nat → Int
  | 0 => 0
  | k + 1 => cp d n k + (if tn k ≤ n then ca n (tn k) d else 0)
theorem cp_go {d n : Int} {j : Nat} (h : tn j ≤ n) : cp d n (j + 1) = cp d n j + ca n (tn j) d := by rw [cp, if_pos h]
theorem cp_stop {d n : Int} {j : Nat} (h : n < tn j) (k : Nat) : cp d n (j + k) = cp d n j := by
  induction k with
  | zero => rfl
  | succ k ih =>
    have := tn_mono (show j ≤ j + k by omega)
    rw [← Nat.add_assoc, cp, if_neg (by omega), ih]; omega
theorem cp_all {d n : Int} {j : Nat} (h : n < tn j) (hj : j ≤ 13) : cp d n j = cp d n 13 := by
  obtain ⟨k, hk⟩ : ∃ k, 13 = j + k := ⟨13 - j, by omega⟩
  rw [hk, cp_stop h]
theorem cp_bd {d n : Int} (h0 : 0 ≤ n) (hd : 0 ≤ d ∧ d ≤ 9) (k : Nat) : 0 ≤ cp d n k ∧ cp d n k ≤ (k : Int) * n := by
  induction k with
  | zero => simp [cp]
  | succ k ih =>
    rw [cp]
    have e : ((k + 1 : Nat) : Int) * n = (k : Int) * n + n := by rw [Int.natCast_succ, Int.add_mul, Int.one_mul]
    split
    · rename_i h
      have := ca_bd h0 (tn_pos k) h hd
      omega
    · omega
theorem cp_13 {d n : Int} (h0 : 0 ≤ n) (h1 : n ≤ 1000000000000) (hd : 0 ≤ d ∧ d ≤ 9) {k : Nat} (hk : k ≤ 13) : 0 ≤ cp d n k ∧ cp d n k ≤ 13000000000000 := by
  have := cp_bd h0 hd k
  have h2 : (k : Int) * n ≤ 13 * 1000000000000 := Int.mul_le_mul (by omega) h1 h0 (by omega)
  omega
theorem cp_step {d n : Int} (h0 : 0 ≤ n) (hd : 0 ≤ d ∧ d ≤ 9) (k : Nat) : cp d n k ≤ cp d (n + 1) k := by
  induction k with
  | zero => simp [cp]
  | succ k ih =>
    rw [cp, cp]
    by_cases h : tn k ≤ n
    · rw [if_pos h, if_pos (by omega)]
      have := ca_step (n := n) (tn_pos k) hd
      omega
    · rw [if_neg h]
      split
      · rename_i h'
        have := ca_bd (by omega) (tn_pos k) h' hd
        omega
      · omega
/-- How often a digit is written up to n. -/
def cn (d n : Int) : Int := cp d n 13
theorem cn_mono {d a b : Int} (hd : 0 ≤ d ∧ d ≤ 9) (ha : 0 ≤ a) (h : a ≤ b) : cn d a ≤ cn d b := mono_le (f := fun n => cn d n) (fun _ hn => cp_step hn hd 13) ha h
theorem cn_bd {d n : Int} (h0 : 0 ≤ n) (h1 : n ≤ 1000000000000) (hd : 0 ≤ d ∧ d ≤ 9) : 0 ≤ cn d n ∧ cn d n ≤ 13000000000000 := cp_13 h0 h1 hd (Nat.le_refl _)
theorem clamp_key {o b d T : Int} (hT : 1 ≤ T) (hb1 : 0 ≤ b) (hb2 : b < T) : min (max (o * T + b + 1 - d * T) 0) T = if d < o then T else if o = d then b + 1 else 0 := by
  by_cases c1 : d < o
  · rw [if_pos c1]
    have := Int.mul_le_mul_of_nonneg_right (show d + 1 ≤ o by omega) (show 0 ≤ T by omega)
    rw [Int.add_mul] at this
    omega
  · rw [if_neg c1]
    by_cases c2 : o = d
    · subst c2; rw [if_pos rfl]; omega
    · rw [if_neg c2]
      have := Int.mul_le_mul_of_nonneg_right (show o + 1 ≤ d by omega) (show 0 ≤ T by omega)
      rw [Int.add_mul] at this
      omega
/-- What the model adds. -/
theorem ca_model {n T d : Int} (hT : 1 ≤ T) (hTn : T ≤ n) (hd : 0 ≤ d ∧ d ≤ 9) :
    ca n T d = if d = 0 ∧ n / (T * 10) = 0 then 0 else (n / (T * 10) - (if d = 0 then 1 else 0)) * T + (if d < n / T % 10 then T else if n / T % 10 = d then n % T + 1 else 0) := by
  have h1 := pair_split n T
  have h4 := dT_bd hd hT
  have eT : T * 10 = 10 * T := Int.mul_comm _ _
  have hx : n % (10 * T) = n / T % 10 * T + n % T := by
    have a1 := Int.mul_ediv_add_emod n T
    have a2 := Int.mul_ediv_add_emod (n / T) 10
    have a3 : n / T / 10 = n / (10 * T) := by rw [Int.ediv_ediv_of_nonneg (by omega), eT]
    rw [a3] at a2
    have a4 : T * (n / T) = 10 * (n / (10 * T) * T) + n / T % 10 * T := by
      conv => lhs; rw [← a2]
      rw [Int.mul_add, Int.mul_comm T (n / T % 10)]
      congr 1
      rw [← Int.mul_assoc, eT, Int.mul_assoc, Int.mul_comm T]
    omega
  have ho1 := Int.emod_nonneg (n / T) (show (10 : Int) ≠ 0 by omega)
  have ho2 := Int.emod_lt_of_pos (n / T) (show (0 : Int) < 10 by omega)
  have hb1 := Int.emod_nonneg n (show T ≠ 0 by omega)
  have hb2 := Int.emod_lt_of_pos n (show 0 < T by omega)
  rw [eT]
  unfold ca
  rw [hx, clamp_key hT hb1 hb2]
  by_cases hz : d = 0
  · subst hz
    by_cases hqz : n / (10 * T) = 0
    · have h7 : 0 < n / T % 10 := by
        rcases Int.lt_or_le 0 (n / T % 10) with h | h
        · exact h
        · have h8 : n / T % 10 = 0 := by omega
          rw [h8, Int.zero_mul] at hx
          rw [hqz] at h1
          omega
      rw [if_pos (show (0 : Int) = 0 ∧ n / (10 * T) = 0 from ⟨rfl, hqz⟩), if_pos (show (0 : Int) = 0 from rfl), if_pos h7, hqz]; omega
    · rw [if_neg (show ¬ ((0 : Int) = 0 ∧ n / (10 * T) = 0) from fun h => hqz h.2), if_pos (show (0 : Int) = 0 from rfl), if_pos (show (0 : Int) = 0 from rfl), Int.sub_mul]
      omega
  · rw [if_neg (show ¬ (d = 0 ∧ n / (10 * T) = 0) from fun h => hz h.1), if_neg hz, if_neg hz, Int.sub_zero, Int.sub_zero]
/-- The sum of the digits, each as often as told. -/
def dsm (f : Nat → Int) : Nat → Int
  | 0 => 0
  | k + 1 => dsm f k + (k : Int) * f k
theorem dsm_bd {f : Nat → Int} {M : Int} (h : ∀ i, i < 10 → 0 ≤ f i ∧ f i ≤ M) {k : Nat} (hk : k ≤ 10) : 0 ≤ dsm f k ∧ dsm f k ≤ 10 * ((k : Int) * M) := by
  induction k with
  | zero => simp [dsm]
  | succ k ih =>
    have := ih (by omega)
    have h1 := h k (by omega)
    have h2 : (k : Int) * f k ≤ 10 * M := Int.mul_le_mul (by omega) h1.2 h1.1 (by omega)
    have h3 : 0 ≤ (k : Int) * f k := Int.mul_nonneg (by omega) h1.1
    have e : ((k + 1 : Nat) : Int) * M = (k : Int) * M + M := by rw [Int.natCast_succ, Int.add_mul, Int.one_mul]
    rw [dsm]; omega
theorem dsm_same {f g : Nat → Int} {k : Nat} (h : ∀ i, i < k → f i = g i) : dsm f k = dsm g k := by
  induction k with
  | zero => rfl
  | succ k ih => rw [dsm, dsm, ih (fun i hi => h i (by omega)), h k (by omega)]
/-- The least x from a to b with p, if there is one. -/
def LeastIs (p : Int → Bool) (a b h : Int) (ok : Bool) : Prop :=
  (ok = true ∧ a ≤ h ∧ h ≤ b ∧ p h = true ∧ ∀ x, a ≤ x → x < h → p x = false) ∨ (ok = false ∧ h = 0 ∧ ∀ x, a ≤ x → x ≤ b → p x = false)
theorem LeastIs.uniq {p : Int → Bool} {a b h h' : Int} {o o' : Bool} (u : LeastIs p a b h o) (v : LeastIs p a b h' o') : h = h' ∧ o = o' := by
  rcases u with ⟨rfl, u1, u2, u3, u4⟩ | ⟨rfl, u1, u2⟩ <;> rcases v with ⟨rfl, v1, v2, v3, v4⟩ | ⟨rfl, v1, v2⟩
  · refine ⟨?_, rfl⟩
    rcases Int.lt_trichotomy h h' with k | k | k
    · have := v4 h u1 k; rw [u3] at this; cases this
    · exact k
    · have := u4 h' v1 k; rw [v3] at this; cases this
  · have := v2 h u1 u2; rw [u3] at this; cases this
  · have := u2 h' v1 v2; rw [v3] at this; cases this
  · exact ⟨by omega, rfl⟩
end Go.Proofs.YtghjpanabphbpaaDoor
