/-
  Plain facts on numbers with a digit sum; nothing of the program.
-/
import Derived.Test.YtghjpanabphbpaaDoorDiDm
import Derived.Test.YtghjpanabphbpaaDoorVMath
namespace Go.Proofs.YtghjpanabphbpaaDoor

/-- k digits ahead of n more. -/
def ps (n : Nat) (s : Int) : Nat → Int
  | 0 => 0
  | k + 1 => ps n s k + V n (s - (k : Int))
theorem ps_bd {n : Nat} (hn : n ≤ 12) (s : Int) (k : Nat) : 0 ≤ ps n s k ∧ ps n s k ≤ 1000000000000 * (k : Int) := by
  induction k with
  | zero => simp [ps]
  | succ k ih => have := V_12 hn (s - (k : Int)); rw [ps]; omega
theorem ps_mono (n : Nat) (s : Int) {a b : Nat} (h : a ≤ b) : ps n s a ≤ ps n s b := by
  obtain ⟨k, rfl⟩ : ∃ k, b = a + k := ⟨b - a, by omega⟩
  clear h
  induction k with
  | zero => exact Int.le_refl _
  | succ k ih => have := (V_bd n (s - ((a + k : Nat) : Int))).1; rw [← Nat.add_assoc, ps]; omega
theorem ps_ten (n : Nat) (s : Int) : ps n s 10 = V (n + 1) s := by
  simp only [ps, V_succ, ten]
  simp
/-- How many texts of as many digits, up to this one, have the sum s. -/
def UL : List UInt8 → Int → Int
  | [], s => V 0 s
  | c :: l, s => ps l.length s (dv c).toNat + UL l (s - dv c)
theorem UL_bd (l : List UInt8) : digB l = true → ∀ s, 0 ≤ UL l s ∧ UL l s ≤ V l.length s := by
  induction l with
  | nil => intro _ s; exact ⟨(V_bd 0 s).1, Int.le_refl _⟩
  | cons c l ih =>
    intro h s
    have h' : dgB c = true ∧ digB l = true := by simpa [digB] using h
    have hc := dv_bd h'.1
    have h1 := ih h'.2 (s - dv c)
    have h2 := ps_mono l.length s (show 0 ≤ (dv c).toNat by omega)
    have h3 := ps_mono l.length s (show (dv c).toNat + 1 ≤ 10 by omega)
    rw [ps_ten, ps, show ((dv c).toNat : Int) = dv c by omega] at h3
    rw [show ps l.length s 0 = 0 from rfl] at h2
    rw [UL, List.length_cons]
    omega
theorem UL_zero (l : List UInt8) (s : Int) : UL (48 :: l) s = UL l s := by
  rw [UL, show dv 48 = 0 from rfl]
  simp [ps]
theorem UL_zeros (k : Nat) (l : List UInt8) (s : Int) : UL (List.replicate k 48 ++ l) s = UL l s := by
  induction k with
  | zero => rfl
  | succ k ih => rw [List.replicate_succ, List.cons_append, UL_zero, ih]
/-- The same by numbers. -/
def UN : Nat → Nat → Int → Int
  | 0, _, s => V 0 s
  | k + 1, n, s => ps k s (n / 10 ^ k) + UN k (n % 10 ^ k) (s - ((n / 10 ^ k : Nat) : Int))
theorem lw_mod (k : Nat) : ∀ n j : Nat, k ≤ j → lw (n % 10 ^ j) k = lw n k := by
  induction k with
  | zero => intro n j _; rfl
  | succ k ih =>
    intro n j h
    rw [lw, lw, ih n j (by omega)]
    congr 2
    unfold dt
    obtain ⟨m, rfl⟩ : ∃ m, j = k + (m + 1) := ⟨j - k - 1, by omega⟩
    rw [Nat.pow_add, Nat.mod_mul_right_div_self, Nat.pow_succ, Nat.mod_mul_left_mod]
theorem UN_UL (k : Nat) : ∀ (n : Nat) (s : Int), n < 10 ^ k → UL (lw n k) s = UN k n s := by
  induction k with
  | zero => intro n s _; rfl
  | succ k ih =>
    intro n s h
    have hp : 0 < 10 ^ k := Nat.pow_pos (by omega)
    have hq : n / 10 ^ k < 10 := by rw [Nat.div_lt_iff_lt_mul hp]; rw [Nat.pow_succ, Nat.mul_comm] at h; exact h
    have hd : dt n k = n / 10 ^ k := by unfold dt; exact Nat.mod_eq_of_lt hq
    rw [lw, UL, lw_len, hd, dv_dc (by omega), UN, ← ih _ _ (Nat.mod_lt _ hp), lw_mod k n k (Nat.le_refl _), Int.toNat_natCast]
theorem lw_dig (n k : Nat) : digB (lw n k) = true := by
  induction k with
  | zero => rfl
  | succ k ih =>
    have : digB (lw n (k + 1)) = (dgB (dc (dt n k)) && digB (lw n k)) := by simp [lw, digB]
    rw [this, ih, dgB_dc (dt_le n k)]; rfl
theorem UN_le (k n : Nat) (s : Int) (h : n < 10 ^ k) : 0 ≤ UN k n s ∧ UN k n s ≤ V k s := by
  have := UL_bd (lw n k) (lw_dig n k) s
  rwa [lw_len, UN_UL k n s h] at this
theorem UN_mono (k : Nat) : ∀ (n m : Nat) (s : Int), n ≤ m → m < 10 ^ k → UN k n s ≤ UN k m s := by
  induction k with
  | zero => intro n m s _ _; exact Int.le_refl _
  | succ k ih =>
    intro n m s h hm
    have hp : 0 < 10 ^ k := Nat.pow_pos (by omega)
    have hq : n / 10 ^ k ≤ m / 10 ^ k := Nat.div_le_div_right h
    rw [UN, UN]
    by_cases e : n / 10 ^ k = m / 10 ^ k
    · rw [e]
      have h1 := Nat.div_add_mod n (10 ^ k)
      have h2 := Nat.div_add_mod m (10 ^ k)
      rw [e] at h1
      have := ih (n % 10 ^ k) (m % 10 ^ k) (s - ((m / 10 ^ k : Nat) : Int)) (by omega) (Nat.mod_lt _ hp)
      omega
    · have h1 := (UN_le k (n % 10 ^ k) (s - ((n / 10 ^ k : Nat) : Int)) (Nat.mod_lt _ hp)).2
      have h2 := ps_mono k s (show n / 10 ^ k + 1 ≤ m / 10 ^ k by omega)
      rw [ps] at h2
      have h3 := (UN_le k (m % 10 ^ k) (s - ((m / 10 ^ k : Nat) : Int)) (Nat.mod_lt _ hp)).1
      omega
/-- How many numbers from 1 up to n have a digit sum. -/
def uc (s n : Int) : Int := UL (Lib.decDigits n.toNat) s - (if s = 0 then 1 else 0)
theorem UL_dec (n : Nat) (s : Int) (h : n < 10 ^ 13) : UL (Lib.decDigits n) s = UN 13 n s := by
  have := (dec_fits 12 n h).2
  rw [← UN_UL 13 n s h, this, UL_zeros]
theorem uc_mono {s a b : Int} (h : a ≤ b) (hb : b ≤ 1000000000000) : uc s a ≤ uc s b := by
  unfold uc
  rw [UL_dec _ s (by omega), UL_dec _ s (by omega)]
  have := UN_mono 13 a.toNat b.toNat s (by omega) (by omega)
  omega
theorem uc_bd {s n : Int} (h0 : 0 ≤ n) (hn : n ≤ 1000000000000) : -1 ≤ uc s n ∧ uc s n ≤ 10000000000000 := by
  unfold uc
  rw [UL_dec _ s (by omega)]
  have h1 := UN_le 13 n.toNat s (by omega)
  have h2 := (V_bd 13 s).2
  have : (10 : Int) ^ 13 = 10000000000000 := by decide +kernel
  split <;> omega
/-- What the first k of all digits add. -/
def upa (l : List UInt8) (s : Int) : Nat → Int
  | 0 => 0
  | k + 1 => upa l s k + ps (l.length - 1 - k) (s - dsum (l.take k)) (dv (l.getD k 48)).toNat
theorem upa_cons (c : UInt8) (l : List UInt8) (s : Int) (k : Nat) : k ≤ l.length → upa (c :: l) s (k + 1) = ps l.length s (dv c).toNat + upa l (s - dv c) k := by
  induction k with
  | zero => intro _; simp [upa, dsum]
  | succ k ih =>
    intro h
    rw [upa, ih (by omega), upa]
    rw [show (c :: l).length - 1 - (k + 1) = l.length - 1 - k by simp; omega, List.take_succ_cons, dsum, List.getD_cons_succ, show s - (dv c + dsum (List.take k l)) = s - dv c - dsum (List.take k l) by omega]
    omega
theorem upa_all (l : List UInt8) : ∀ s, upa l s l.length + V 0 (s - dsum l) = UL l s := by
  induction l with
  | nil => intro s; simp [upa, UL, dsum]
  | cons c l ih =>
    intro s
    rw [List.length_cons, upa_cons c l s l.length (Nat.le_refl _), UL, ← ih, dsum, show s - (dv c + dsum l) = s - dv c - dsum l by omega]
    omega
theorem upa_bd {l : List UInt8} (hl : l.length ≤ 13) (hd : digB l = true) (s : Int) (k : Nat) (hk : k ≤ l.length) : 0 ≤ upa l s k ∧ upa l s k ≤ 9000000000000 * (k : Int) := by
  induction k with
  | zero => simp [upa]
  | succ k ih =>
    have h1 := ih (by omega)
    have h2 := ps_bd (n := l.length - 1 - k) (by omega) (s - dsum (l.take k)) (dv (l.getD k 48)).toNat
    have h3 : dv (l.getD k 48) ≤ 9 := by
      have : dgB (l.getD k 48) = true := by
        rw [List.getD_eq_getElem?_getD, List.getElem?_eq_getElem (by omega)]
        unfold digB at hd
        rw [List.all_eq_true] at hd
        exact hd _ (List.getElem_mem _)
      exact (dv_bd this).2
    rw [upa]; omega
theorem uc_eq {n : Int} (s : Int) : uc s n = upa (Lib.decDigits n.toNat) s (Lib.decDigits n.toNat).length + (if s - dsum (Lib.decDigits n.toNat) = 0 then 1 else 0) - (if s = 0 then 1 else 0) := by
  unfold uc
  rw [← upa_all]
  rfl
end Go.Proofs.YtghjpanabphbpaaDoor
