/-
  Least numbers: the least and the greatest number of k digits with a digit sum, and the next one. Nothing of the program.
-/
import Derived.Test.YtghjpanabphbpaaDoorLeUn
namespace Go.Proofs.YtghjpanabphbpaaDoor

/-- The digit at place k of the least one; the least one. -/
def ld (S k : Nat) : Nat := min (S - 9 * k) 9
def fv (S : Nat) : Nat → Nat
  | 0 => 0
  | k + 1 => ld S k * 10 ^ k + fv S k
/-- The greatest one. -/
def gv : Nat → Nat → Nat
  | _, 0 => 0
  | S, k + 1 => min S 9 * 10 ^ k + gv (S - min S 9) k
theorem ld_le (S k : Nat) : ld S k ≤ 9 := by unfold ld; omega
theorem pow_p (k : Nat) : 0 < 10 ^ k := Nat.pow_pos (by omega)
theorem mul9 {a k : Nat} (h : a ≤ 9) : a * 10 ^ k ≤ 9 * 10 ^ k := Nat.mul_le_mul_right _ h
theorem fv_lt (S k : Nat) : fv S k < 10 ^ k := by
  induction k with
  | zero => simp [fv]
  | succ k ih => have := mul9 (k := k) (ld_le S k); rw [fv, Nat.pow_succ]; omega
theorem gv_lt (k : Nat) : ∀ S, gv S k < 10 ^ k := by
  induction k with
  | zero => intro S; simp [gv]
  | succ k ih => intro S; have := mul9 (k := k) (show min S 9 ≤ 9 by omega); have := ih (S - min S 9); rw [gv, Nat.pow_succ]; omega
theorem dsk_mk {a y k : Nat} (hy : y < 10 ^ k) : dsk (k + 1) (a * 10 ^ k + y) = a + dsk k y := by
  have hp := pow_p k
  rw [dsk, Nat.mul_comm, Nat.mul_add_div hp, Nat.div_eq_of_lt hy, Nat.mul_add_mod, Nat.mod_eq_of_lt hy]
  rfl
theorem dsk_le (k : Nat) : ∀ y, y < 10 ^ k → dsk k y ≤ 9 * k := by
  induction k with
  | zero => intro y _; simp [dsk]
  | succ k ih =>
    intro y hy
    have hp := pow_p k
    have hq : y / 10 ^ k < 10 := by rw [Nat.div_lt_iff_lt_mul hp]; rw [Nat.pow_succ, Nat.mul_comm] at hy; exact hy
    have := ih (y % 10 ^ k) (Nat.mod_lt _ hp)
    rw [dsk]; omega
theorem split_k {y k : Nat} (hy : y < 10 ^ (k + 1)) : ∃ a z, a ≤ 9 ∧ z < 10 ^ k ∧ y = a * 10 ^ k + z := by
  have hp := pow_p k
  refine ⟨y / 10 ^ k, y % 10 ^ k, ?_, Nat.mod_lt _ hp, ?_⟩
  · have : y / 10 ^ k < 10 := by rw [Nat.div_lt_iff_lt_mul hp]; rw [Nat.pow_succ, Nat.mul_comm] at hy; exact hy
    omega
  · rw [Nat.mul_comm]; exact (Nat.div_add_mod _ _).symm
theorem step_up {a b k y z : Nat} (h : a < b) (hy : y < 10 ^ k) : a * 10 ^ k + y < b * 10 ^ k + z := by
  have := Nat.mul_le_mul_right (10 ^ k) (show a + 1 ≤ b by omega)
  rw [Nat.add_mul] at this
  omega
/-- Only what it can have counts. -/
theorem fv_min (S : Nat) (k : Nat) : fv (min S (9 * k)) k = fv S k := by
  have : ∀ j, j ≤ k → fv (min S (9 * k)) j = fv S j := by
    intro j
    induction j with
    | zero => intro _; rfl
    | succ j ih => intro h; rw [fv, fv, ih (by omega)]; congr 2; unfold ld; omega
  exact this k (Nat.le_refl _)
theorem fv_sum (k : Nat) : ∀ S, S ≤ 9 * k → dsk k (fv S k) = S := by
  induction k with
  | zero => intro S h; simp [dsk]; omega
  | succ k ih =>
    intro S h
    rw [fv, dsk_mk (fv_lt S k), ← fv_min, ih _ (by omega)]
    unfold ld; omega
theorem fv_least (k : Nat) : ∀ S y, y < 10 ^ k → dsk k y = S → fv S k ≤ y := by
  induction k with
  | zero => intro S y _ _; simp [fv]
  | succ k ih =>
    intro S y hy h
    obtain ⟨a, z, ha, hz, rfl⟩ := split_k hy
    rw [dsk_mk hz] at h
    have hz9 := dsk_le k z hz
    rw [fv]
    by_cases e : ld S k = a
    · have h1 := ih (min S (9 * k)) z hz (by unfold ld at e; omega)
      rw [fv_min] at h1
      rw [e]; omega
    · exact Nat.le_of_lt (step_up (by unfold ld at *; omega) (fv_lt S k))
theorem gv_sum (k : Nat) : ∀ S, S ≤ 9 * k → dsk k (gv S k) = S := by
  induction k with
  | zero => intro S h; simp [dsk]; omega
  | succ k ih =>
    intro S h
    rw [gv, dsk_mk (gv_lt k _), ih _ (by omega)]
    omega
theorem gv_most (k : Nat) : ∀ S y, y < 10 ^ k → dsk k y = S → y ≤ gv S k := by
  induction k with
  | zero => intro S y h _; simp at h; omega
  | succ k ih =>
    intro S y hy h
    obtain ⟨a, z, ha, hz, rfl⟩ := split_k hy
    rw [dsk_mk hz] at h
    have hz9 := dsk_le k z hz
    rw [gv]
    by_cases e : a = min S 9
    · have h1 := ih (S - min S 9) z hz (by omega)
      rw [← e] at h1 ⊢; omega
    · exact Nat.le_of_lt (step_up (by omega) hz)
theorem dsk_ext (k : Nat) : ∀ n, n < 10 ^ k → ∀ j, dsk (k + j) n = dsk k n := by
  intro n h j
  induction j with
  | zero => rfl
  | succ j ih =>
    have : n < 10 ^ (k + j) := Nat.lt_of_lt_of_le h (Nat.pow_le_pow_right (by omega) (by omega))
    rw [← Nat.add_assoc, dsk, Nat.div_eq_of_lt this, Nat.mod_eq_of_lt this, ih]
    omega
/-- The digit sum, parted at place p. -/
theorem dsk_part (p : Nat) : ∀ (k q y : Nat), q < 10 ^ k → y < 10 ^ p → dsk (k + p) (q * 10 ^ p + y) = dsk k q + dsk p y := by
  intro k
  induction k with
  | zero => intro q y hq hy; have : q = 0 := by simpa using hq
            subst this; simp [dsk]
  | succ k ih =>
    intro q y hq hy
    obtain ⟨a, z, ha, hz, rfl⟩ := split_k hq
    have e : (a * 10 ^ k + z) * 10 ^ p + y = a * 10 ^ (k + p) + (z * 10 ^ p + y) := by
      rw [Nat.add_mul, Nat.mul_assoc, ← Nat.pow_add]; omega
    have hlt : z * 10 ^ p + y < 10 ^ (k + p) := by
      have := Nat.mul_le_mul_right (10 ^ p) (show z + 1 ≤ 10 ^ k by omega)
      rw [Nat.add_mul, ← Nat.pow_add] at this
      omega
    rw [show k + 1 + p = (k + p) + 1 by omega, e, dsk_mk hlt, ih z y hz hy, dsk_mk hz]
    omega
/-- The low digits of n are the greatest, the least number of as many digits with their sum. -/
def Mx (n p : Nat) : Prop := n % 10 ^ p = gv (dsk p (n % 10 ^ p)) p
def Mn (n p : Nat) : Prop := n % 10 ^ p = fv (dsk p (n % 10 ^ p)) p
theorem Mx_0 (n : Nat) : Mx n 0 := by unfold Mx; simp [gv]; omega
theorem Mn_0 (n : Nat) : Mn n 0 := by unfold Mn; simp [fv]; omega
theorem mod_up (n p : Nat) : n % 10 ^ (p + 1) = n / 10 ^ p % 10 * 10 ^ p + n % 10 ^ p := by
  rw [Nat.pow_succ, Nat.mod_mul, Nat.mul_comm (10 ^ p) (n / 10 ^ p % 10)]; omega
theorem dsk_up (n p : Nat) : dsk (p + 1) (n % 10 ^ (p + 1)) = n / 10 ^ p % 10 + dsk p (n % 10 ^ p) := by
  rw [mod_up, dsk_mk (Nat.mod_lt _ (pow_p p))]
theorem Mx_up {n p : Nat} (h : Mx n p) (hno : n / 10 ^ p % 10 = 9 ∨ dsk p (n % 10 ^ p) = 0) : Mx n (p + 1) := by
  have h9 : n / 10 ^ p % 10 ≤ 9 := by omega
  unfold Mx at *
  rw [dsk_up, mod_up, gv]
  obtain ⟨d, hd⟩ : ∃ d, n / 10 ^ p % 10 = d := ⟨_, rfl⟩
  obtain ⟨r, hr⟩ : ∃ r, dsk p (n % 10 ^ p) = r := ⟨_, rfl⟩
  rw [hd] at h9 hno ⊢
  rw [hr] at h hno ⊢
  have e1 : min (d + r) 9 = d := by omega
  rw [e1, show d + r - d = r by omega, ← h]
theorem Mn_up {n p : Nat} (h : Mn n p) (hno : n / 10 ^ p % 10 = 0 ∨ 9 * p ≤ dsk p (n % 10 ^ p)) : Mn n (p + 1) := by
  have h9 : n / 10 ^ p % 10 ≤ 9 := by omega
  have hle := dsk_le p (n % 10 ^ p) (Nat.mod_lt _ (pow_p p))
  unfold Mn at *
  rw [dsk_up, mod_up, fv]
  obtain ⟨d, hd⟩ : ∃ d, n / 10 ^ p % 10 = d := ⟨_, rfl⟩
  obtain ⟨r, hr⟩ : ∃ r, dsk p (n % 10 ^ p) = r := ⟨_, rfl⟩
  rw [hd] at h9 hno ⊢
  rw [hr] at h hno hle ⊢
  have e1 : ld (d + r) p = d := by unfold ld; omega
  have e2 : fv (d + r) p = fv r p := by rw [← fv_min (d + r), ← fv_min r]; congr 1; omega
  rw [e1, e2, ← h]
theorem part_n (n p : Nat) : n = n / 10 ^ p * 10 ^ p + n % 10 ^ p := by rw [Nat.mul_comm]; exact (Nat.div_add_mod _ _).symm
theorem ds_part {q y p : Nat} (hp : p ≤ 13) (hq : q < 10 ^ (13 - p)) (hy : y < 10 ^ p) : ds (q * 10 ^ p + y) = dsk (13 - p) q + dsk p y := by
  have := dsk_part p (13 - p) q y hq hy
  rwa [show 13 - p + p = 13 by omega] at this
theorem div_13 {n p : Nat} (hp : p ≤ 13) (h : n < 10 ^ 13) : n / 10 ^ p < 10 ^ (13 - p) := by
  rw [Nat.div_lt_iff_lt_mul (pow_p p), ← Nat.pow_add, show 13 - p + p = 13 by omega]; exact h
theorem dsk_inc {k q : Nat} (hk0 : 0 < k) (hq : q < 10 ^ k) (h9 : q % 10 < 9) : q + 1 < 10 ^ k ∧ dsk k (q + 1) = dsk k q + 1 := by
  cases k with
  | zero => omega
  | succ k =>
    have hk := dsk_part 1 k (q / 10) (q % 10) (by rw [Nat.div_lt_iff_lt_mul (by omega)]; rwa [Nat.pow_succ] at hq) (by omega)
    have hk2 := dsk_part 1 k (q / 10) (q % 10 + 1) (by rw [Nat.div_lt_iff_lt_mul (by omega)]; rwa [Nat.pow_succ] at hq) (by omega)
    rw [show q / 10 * 10 ^ 1 + q % 10 = q by omega] at hk
    rw [show q / 10 * 10 ^ 1 + (q % 10 + 1) = q + 1 by omega] at hk2
    refine ⟨?_, ?_⟩
    · rw [Nat.pow_succ] at *; omega
    · rw [hk, hk2]; simp [dsk]; omega
theorem dsk_dec {k q : Nat} (hq : q < 10 ^ k) (h0 : 0 < q % 10) : dsk k (q - 1) + 1 = dsk k q := by
  have hk0 : 0 < k := by
    cases k with
    | zero => simp at hq; omega
    | succ k => omega
  have h := dsk_inc (k := k) (q := q - 1) hk0 (by omega) (by omega)
  rw [show q - 1 + 1 = q by omega] at h
  exact h.2.symm
/-- The next one with the same sum. -/
theorem near_next {n p : Nat} (hp : p < 13) (hn : n < 10 ^ 13) (hM : Mx n p) (h9 : n / 10 ^ p % 10 < 9) (hr : 0 < dsk p (n % 10 ^ p)) :
    n < (n / 10 ^ p + 1) * 10 ^ p + fv (dsk p (n % 10 ^ p) - 1) p ∧ (n / 10 ^ p + 1) * 10 ^ p + fv (dsk p (n % 10 ^ p) - 1) p < 10 ^ 13 ∧
    ds ((n / 10 ^ p + 1) * 10 ^ p + fv (dsk p (n % 10 ^ p) - 1) p) = ds n ∧ ∀ y, n < y → y < (n / 10 ^ p + 1) * 10 ^ p + fv (dsk p (n % 10 ^ p) - 1) p → ds y ≠ ds n := by
  obtain ⟨q, hq⟩ : ∃ q, n / 10 ^ p = q := ⟨_, rfl⟩
  obtain ⟨l, hl⟩ : ∃ l, n % 10 ^ p = l := ⟨_, rfl⟩
  obtain ⟨r, hrr⟩ : ∃ r, dsk p l = r := ⟨_, rfl⟩
  have hql : q < 10 ^ (13 - p) := by rw [← hq]; exact div_13 (by omega) hn
  have hll : l < 10 ^ p := by rw [← hl]; exact Nat.mod_lt _ (pow_p p)
  have hnn : n = q * 10 ^ p + l := by rw [← hq, ← hl]; exact part_n n p
  unfold Mx at hM
  rw [hl, hrr] at hM hr
  rw [hq] at h9
  rw [hq, hl, hrr]
  have hi := dsk_inc (show 0 < 13 - p by omega) hql h9
  have hr9 := dsk_le p l hll
  have hfl := fv_lt (r - 1) p
  have hlt13 : (q + 1) * 10 ^ p + fv (r - 1) p < 10 ^ 13 := by
    have := Nat.mul_le_mul_right (10 ^ p) (show (q + 1) + 1 ≤ 10 ^ (13 - p) by omega)
    rw [Nat.add_mul (q + 1), ← Nat.pow_add, show 13 - p + p = 13 by omega] at this
    omega
  have hdn : ds n = dsk (13 - p) q + r := by rw [hnn, ds_part (by omega) hql hll, hrr]
  refine ⟨by rw [hnn]; exact step_up (by omega) hll, hlt13, ?_, ?_⟩
  · rw [ds_part (by omega) hi.1 hfl, hi.2, fv_sum p (r - 1) (by omega), hdn]; omega
  · intro y h1 h2 h3
    have hy13 : y < 10 ^ 13 := by omega
    have hyp := part_n y p
    have hym := Nat.mod_lt y (pow_p p)
    have hyq := div_13 (p := p) (by omega) hy13
    have hdy : ds y = dsk (13 - p) (y / 10 ^ p) + dsk p (y % 10 ^ p) := by
      conv => lhs; rw [hyp]
      exact ds_part (by omega) hyq hym
    have hge : q ≤ y / 10 ^ p := by
      rcases Nat.lt_or_ge (y / 10 ^ p) q with h | h
      · have := step_up (z := l) h hym; omega
      · exact h
    have hle : y / 10 ^ p ≤ q + 1 := by
      rcases Nat.lt_or_ge (q + 1) (y / 10 ^ p) with h | h
      · have := step_up (z := y % 10 ^ p) h hfl; omega
      · exact h
    rcases Nat.eq_or_lt_of_le hge with e | e
    · rw [← e] at hdy hyp
      have := gv_most p r (y % 10 ^ p) hym (by omega)
      omega
    · have e' : y / 10 ^ p = q + 1 := by omega
      rw [e'] at hdy hyp
      have := fv_least p (r - 1) (y % 10 ^ p) hym (by omega)
      omega
/-- The last one before it. -/
theorem near_last {n p : Nat} (hp : p < 13) (hn : n < 10 ^ 13) (hM : Mn n p) (h0 : 0 < n / 10 ^ p % 10) (hr : dsk p (n % 10 ^ p) < 9 * p) :
    (n / 10 ^ p - 1) * 10 ^ p + gv (dsk p (n % 10 ^ p) + 1) p < n ∧
    ds ((n / 10 ^ p - 1) * 10 ^ p + gv (dsk p (n % 10 ^ p) + 1) p) = ds n ∧ ∀ y, y < n → (n / 10 ^ p - 1) * 10 ^ p + gv (dsk p (n % 10 ^ p) + 1) p < y → ds y ≠ ds n := by
  obtain ⟨q, hq⟩ : ∃ q, n / 10 ^ p = q := ⟨_, rfl⟩
  obtain ⟨l, hl⟩ : ∃ l, n % 10 ^ p = l := ⟨_, rfl⟩
  obtain ⟨r, hrr⟩ : ∃ r, dsk p l = r := ⟨_, rfl⟩
  have hql : q < 10 ^ (13 - p) := by rw [← hq]; exact div_13 (by omega) hn
  have hll : l < 10 ^ p := by rw [← hl]; exact Nat.mod_lt _ (pow_p p)
  have hnn : n = q * 10 ^ p + l := by rw [← hq, ← hl]; exact part_n n p
  unfold Mn at hM
  rw [hl, hrr] at hM hr
  rw [hq] at h0
  rw [hq, hl, hrr]
  have hi := dsk_dec hql h0
  have hgl := gv_lt p (r + 1)
  have hdn : ds n = dsk (13 - p) q + r := by rw [hnn, ds_part (by omega) hql hll, hrr]
  refine ⟨by rw [hnn]; exact step_up (by omega) hgl, ?_, ?_⟩
  · rw [ds_part (by omega) (by omega) hgl, gv_sum p (r + 1) (by omega), hdn]; omega
  · intro y h1 h2 h3
    have hy13 : y < 10 ^ 13 := by omega
    have hyp := part_n y p
    have hym := Nat.mod_lt y (pow_p p)
    have hyq := div_13 (p := p) (by omega) hy13
    have hdy : ds y = dsk (13 - p) (y / 10 ^ p) + dsk p (y % 10 ^ p) := by
      conv => lhs; rw [hyp]
      exact ds_part (by omega) hyq hym
    have hge : q - 1 ≤ y / 10 ^ p := by
      rcases Nat.lt_or_ge (y / 10 ^ p) (q - 1) with h | h
      · have := step_up (z := gv (r + 1) p) h hym; omega
      · exact h
    have hle : y / 10 ^ p ≤ q := by
      rcases Nat.lt_or_ge q (y / 10 ^ p) with h | h
      · have := step_up (z := y % 10 ^ p) h hll; omega
      · exact h
    rcases Nat.eq_or_lt_of_le hle with e | e
    · rw [e] at hdy hyp
      have := fv_least p r (y % 10 ^ p) hym (by omega)
      omega
    · have e' : y / 10 ^ p = q - 1 := by omega
      rw [e'] at hdy hyp
      have := gv_most p (r + 1) (y % 10 ^ p) hym (by omega)
      omega
/-- There is none. -/
theorem none_next {n : Nat} (hn : n < 10 ^ 13) (hM : Mx n 13) : ∀ y, n < y → y < 10 ^ 13 → ds y ≠ ds n := by
  intro y h1 h2 h3
  unfold Mx at hM
  rw [Nat.mod_eq_of_lt hn] at hM
  have := gv_most 13 (dsk 13 n) y h2 h3
  omega
theorem none_last {n : Nat} (hn : n < 10 ^ 13) (hM : Mn n 13) : ∀ y, y < n → ds y ≠ ds n := by
  intro y h1 h3
  unfold Mn at hM
  rw [Nat.mod_eq_of_lt hn] at hM
  have := fv_least 13 (dsk 13 n) y (by omega) h3
  omega
end Go.Proofs.YtghjpanabphbpaaDoor
