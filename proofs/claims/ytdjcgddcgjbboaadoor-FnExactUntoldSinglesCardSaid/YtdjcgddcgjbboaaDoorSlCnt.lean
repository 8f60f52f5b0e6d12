/-
  Plain facts on how many numbers leave each rest, and which rests can be had; nothing of the program.
-/
import Derived.Test.YtdjcgddcgjbboaaDoorSlMath
namespace Go.Proofs.YtdjcgddcgjbboaaDoor

/-- How many of the first D digits lead from the rest R to j. -/
def hits (x m : Int) (R : Nat) : Nat → Nat → Int
  | 0, _ => 0
  | D + 1, j => hits x m R D j + (if ((R : Int) + x * (D : Int)) % m = (j : Int) then 1 else 0)
/-- The next counts, of the first R rests. -/
def scR (c : Nat → Int) (x m : Int) : Nat → Nat → Int
  | 0, _ => 0
  | R + 1, j => scR c x m R j + c R * hits x m R 10 j
/-- .. and D digits of the next rest. -/
def scM (c : Nat → Int) (x m : Int) (R D j : Nat) : Int := scR c x m R j + c R * hits x m R D j
/-- How many numbers of k places have the rest j. -/
def cR (xs : List Int) (m : Int) : Nat → Nat → Int
  | 0, j => if j = 0 then 1 else 0
  | k + 1, j => scR (cR xs m k) (xs.getD k 0) m m.toNat j
theorem scM_zero (c : Nat → Int) (x m : Int) (R j : Nat) : scM c x m R 0 j = scR c x m R j := by simp [scM, hits]
theorem scM_ten (c : Nat → Int) (x m : Int) (R j : Nat) : scM c x m R 10 j = scR c x m (R + 1) j := rfl
theorem scM_succ (c : Nat → Int) (x m : Int) (R D q : Nat) (hq : (q : Int) = ((R : Int) + x * (D : Int)) % m) (j : Nat) : scM c x m R (D + 1) j = if j = q then scM c x m R D q + c R else scM c x m R D j := by
  unfold scM
  rw [hits, ← hq]
  by_cases h : j = q
  · subst h; rw [if_pos rfl, if_pos rfl, Int.mul_add, Int.mul_one]; omega
  · rw [if_neg h, if_neg (by omega), Int.add_zero]
/-- The sum of the first n. -/
def tot (f : Nat → Int) : Nat → Int
  | 0 => 0
  | n + 1 => tot f n + f n
theorem tot_add (f g : Nat → Int) (n : Nat) : tot (fun j => f j + g j) n = tot f n + tot g n := by
  induction n with
  | zero => simp [tot]
  | succ n ih => simp only [tot, ih]; omega
theorem tot_mul (f : Nat → Int) (a : Int) (n : Nat) : tot (fun j => a * f j) n = a * tot f n := by
  induction n with
  | zero => simp [tot]
  | succ n ih => simp only [tot, ih, Int.mul_add]
theorem tot_zero (n : Nat) : tot (fun _ => 0) n = 0 := by
  induction n with
  | zero => rfl
  | succ n ih => simp only [tot, ih]; omega
theorem tot_ind (v n : Nat) : tot (fun j => if (v : Int) = (j : Int) then 1 else 0) n = if v < n then 1 else 0 := by
  induction n with
  | zero => simp [tot]
  | succ n ih =>
    simp only [tot, ih]
    by_cases h : v < n
    · rw [if_pos h, if_neg (by omega), if_pos (by omega)]; omega
    · by_cases e : v = n
      · rw [if_neg h, if_pos (by omega), if_pos (by omega)]; omega
      · rw [if_neg h, if_neg (by omega), if_neg (by omega)]; omega
theorem rest_nat (a m : Int) (h : 0 < m) : ∃ q : Nat, (q : Int) = a % m ∧ q < m.toNat := by
  have h1 := Int.emod_nonneg a (by omega : m ≠ 0)
  have h2 := Int.emod_lt_of_pos a h
  exact ⟨(a % m).toNat, by omega, by omega⟩
theorem tot_hits (x m : Int) (R D : Nat) (hm : 0 < m) : tot (hits x m R D) m.toNat = D := by
  induction D with
  | zero =>
    have : hits x m R 0 = fun _ => 0 := by funext j; rfl
    rw [this, tot_zero]; rfl
  | succ D ih =>
    obtain ⟨q, hq, hqm⟩ := rest_nat ((R : Int) + x * (D : Int)) m hm
    have : hits x m R (D + 1) = fun j => hits x m R D j + (if (q : Int) = (j : Int) then 1 else 0) := by funext j; rw [hits, hq]
    rw [this, tot_add, ih, tot_ind, if_pos hqm]; push_cast; rfl
theorem tot_scR (c : Nat → Int) (x m : Int) (R : Nat) (hm : 0 < m) : tot (scR c x m R) m.toNat = 10 * tot c R := by
  induction R with
  | zero =>
    have : scR c x m 0 = fun _ => 0 := by funext j; rfl
    rw [this, tot_zero]; rfl
  | succ R ih =>
    have : scR c x m (R + 1) = fun j => scR c x m R j + c R * hits x m R 10 j := by funext j; rfl
    rw [this, tot_add, ih, tot_mul, tot_hits x m R 10 hm, tot]; push_cast; omega
theorem tot_cR (xs : List Int) (m : Int) (k : Nat) (hm : 0 < m) : tot (cR xs m k) m.toNat = 10 ^ k := by
  induction k with
  | zero =>
    have : cR xs m 0 = fun (j : Nat) => if ((0 : Nat) : Int) = (j : Int) then (1 : Int) else 0 := by
      funext j; rw [cR]
      by_cases h : j = 0
      · subst h; simp
      · rw [if_neg h, if_neg (by omega)]
    rw [this, tot_ind, if_pos (by omega)]; rfl
  | succ k ih =>
    have : cR xs m (k + 1) = scR (cR xs m k) (xs.getD k 0) m m.toNat := by funext j; rfl
    rw [this, tot_scR _ _ _ _ hm, ih, Int.pow_succ]; omega
theorem hits_nn (x m : Int) (R D j : Nat) : 0 ≤ hits x m R D j := by
  induction D with
  | zero => simp [hits]
  | succ D ih => rw [hits]; split <;> omega
theorem hits_mono (x m : Int) (R j : Nat) {D E : Nat} (h : D ≤ E) : hits x m R D j ≤ hits x m R E j := by
  induction E with
  | zero => obtain rfl : D = 0 := by omega
            exact Int.le_refl _
  | succ E ih =>
    by_cases e : D = E + 1
    · subst e; exact Int.le_refl _
    · have := ih (by omega)
      rw [hits]; split <;> omega
theorem scR_nn (c : Nat → Int) (x m : Int) (hc : ∀ i, 0 ≤ c i) (R j : Nat) : 0 ≤ scR c x m R j := by
  induction R with
  | zero => simp [scR]
  | succ R ih => rw [scR]; have := Int.mul_nonneg (hc R) (hits_nn x m R 10 j); omega
theorem scR_mono (c : Nat → Int) (x m : Int) (hc : ∀ i, 0 ≤ c i) (j : Nat) {R S : Nat} (h : R ≤ S) : scR c x m R j ≤ scR c x m S j := by
  induction S with
  | zero => obtain rfl : R = 0 := by omega
            exact Int.le_refl _
  | succ S ih =>
    by_cases e : R = S + 1
    · subst e; exact Int.le_refl _
    · have := ih (by omega)
      have := Int.mul_nonneg (hc S) (hits_nn x m S 10 j)
      rw [scR]; omega
theorem cR_nn (xs : List Int) (m : Int) (k : Nat) : ∀ j, 0 ≤ cR xs m k j := by
  induction k with
  | zero => intro j; rw [cR]; split <;> omega
  | succ k ih => intro j; rw [cR]; exact scR_nn _ _ _ ih _ _
theorem le_tot (f : Nat → Int) (hf : ∀ i, 0 ≤ f i) (n j : Nat) (h : j < n) : f j ≤ tot f n := by
  have hz : ∀ n, 0 ≤ tot f n := by
    intro n
    induction n with
    | zero => simp [tot]
    | succ n ih => rw [tot]; have := hf n; omega
  induction n with
  | zero => omega
  | succ n ih =>
    rw [tot]
    by_cases e : j = n
    · subst e; have := hz j; omega
    · have := ih (by omega); have := hf n; omega
theorem ten_12 {n : Nat} (h : n ≤ 12) : (10 : Int) ^ n ≤ 1000000000000 := by
  have hp : (10 : Nat) ^ n ≤ 10 ^ 12 := Nat.pow_le_pow_right (by omega) h
  have : (10 : Int) ^ n ≤ 10 ^ 12 := by exact_mod_cast hp
  omega
theorem cR_bd (xs : List Int) (m : Int) (k j : Nat) (hm : 0 < m) (hk : k ≤ 12) (hj : j < m.toNat) : 0 ≤ cR xs m k j ∧ cR xs m k j ≤ 1000000000000 := by
  refine ⟨cR_nn xs m k j, ?_⟩
  have := le_tot _ (cR_nn xs m k) m.toNat j hj
  rw [tot_cR xs m k hm] at this
  have := ten_12 hk; omega
theorem scM_bd (xs : List Int) (m : Int) (k R D j : Nat) (hm : 0 < m) (hk : k + 1 ≤ 12) (hj : j < m.toNat) (hR : R < m.toNat) (hD : D ≤ 10) : 0 ≤ scM (cR xs m k) (xs.getD k 0) m R D j ∧ scM (cR xs m k) (xs.getD k 0) m R D j ≤ 1000000000000 := by
  have h0 := cR_nn xs m k
  have h1 := scR_nn (cR xs m k) (xs.getD k 0) m h0 R j
  have h2 := Int.mul_nonneg (h0 R) (hits_nn (xs.getD k 0) m R D j)
  have h3 : cR xs m k R * hits (xs.getD k 0) m R D j ≤ cR xs m k R * hits (xs.getD k 0) m R 10 j := Int.mul_le_mul_of_nonneg_left (hits_mono _ _ _ _ hD) (h0 R)
  have h4 : scR (cR xs m k) (xs.getD k 0) m (R + 1) j ≤ scR (cR xs m k) (xs.getD k 0) m m.toNat j := scR_mono _ _ _ h0 j (by omega)
  have h5 := (cR_bd xs m (k + 1) j hm (by omega) hj).2
  rw [cR] at h5
  rw [scR] at h4
  unfold scM; omega

/-- Whether one of the first D digits leads from R to j. -/
def hitB (x m : Int) (R : Nat) : Nat → Nat → Bool
  | 0, _ => false
  | D + 1, j => hitB x m R D j || decide (((R : Int) + x * (D : Int)) % m = (j : Int))
/-- The next rests that can be had, from the first R ones. -/
def rcR (c : Nat → Bool) (x m : Int) : Nat → Nat → Bool
  | 0, _ => false
  | R + 1, j => rcR c x m R j || (c R && hitB x m R 10 j)
def rcM (c : Nat → Bool) (x m : Int) (R D j : Nat) : Bool := rcR c x m R j || (c R && hitB x m R D j)
/-- Which rests can be had from r behind k places. -/
def rB (xs : List Int) (m : Int) (r : Nat) : Nat → Nat → Bool
  | 0, j => decide (j = r)
  | k + 1, j => rcR (rB xs m r k) (xs.getD k 0) m m.toNat j
theorem rcM_zero (c : Nat → Bool) (x m : Int) (R j : Nat) : rcM c x m R 0 j = rcR c x m R j := by simp [rcM, hitB]
theorem rcM_ten (c : Nat → Bool) (x m : Int) (R j : Nat) : rcM c x m R 10 j = rcR c x m (R + 1) j := rfl
theorem rcM_no {c : Nat → Bool} {x m : Int} {R : Nat} (h : c R = false) (j : Nat) : rcR c x m (R + 1) j = rcR c x m R j := by rw [rcR, h]; simp
theorem rcM_succ {c : Nat → Bool} {x m : Int} {R D q : Nat} (hc : c R = true) (hq : (q : Int) = ((R : Int) + x * (D : Int)) % m) (j : Nat) : rcM c x m R (D + 1) j = if j = q then true else rcM c x m R D j := by
  unfold rcM
  rw [hitB, ← hq, hc]
  by_cases h : j = q
  · subst h; simp
  · rw [if_neg h, decide_eq_false (by omega)]; simp
theorem hits_pos (x m : Int) (R D j : Nat) : hitB x m R D j = decide (0 < hits x m R D j) := by
  induction D with
  | zero => simp [hitB, hits]
  | succ D ih =>
    have := hits_nn x m R D j
    rw [hitB, hits, ih]
    by_cases h : ((R : Int) + x * (D : Int)) % m = (j : Int)
    · rw [if_pos h, decide_eq_true h, Bool.or_true]; symm; rw [decide_eq_true_eq]; omega
    · rw [if_neg h, decide_eq_false h, Bool.or_false, Int.add_zero]
theorem mul_pos' (a b : Int) (ha : 0 ≤ a) (hb : 0 ≤ b) : decide (0 < a * b) = (decide (0 < a) && decide (0 < b)) := by
  by_cases h1 : 0 < a
  · by_cases h2 : 0 < b
    · rw [decide_eq_true h1, decide_eq_true h2, decide_eq_true (Int.mul_pos h1 h2)]; rfl
    · obtain rfl : b = 0 := by omega
      simp
  · obtain rfl : a = 0 := by omega
    simp
theorem add_pos' (a b : Int) (ha : 0 ≤ a) (hb : 0 ≤ b) : decide (0 < a + b) = (decide (0 < a) || decide (0 < b)) := by
  rw [Bool.eq_iff_iff]; simp only [Bool.or_eq_true, decide_eq_true_eq]; omega
theorem scR_pos (c : Nat → Int) (x m : Int) (hc : ∀ i, 0 ≤ c i) (R j : Nat) : rcR (fun i => decide (0 < c i)) x m R j = decide (0 < scR c x m R j) := by
  induction R with
  | zero => simp [rcR, scR]
  | succ R ih => rw [rcR, scR, ih, hits_pos, add_pos' _ _ (scR_nn c x m hc R j) (Int.mul_nonneg (hc R) (hits_nn x m R 10 j)), mul_pos' _ _ (hc R) (hits_nn x m R 10 j)]
theorem cR_pos (xs : List Int) (m : Int) (k j : Nat) : rB xs m 0 k j = decide (0 < cR xs m k j) := by
  induction k generalizing j with
  | zero => rw [rB, cR]; by_cases h : j = 0 <;> simp [h]
  | succ k ih =>
    rw [rB, cR, ← scR_pos _ _ _ (cR_nn xs m k)]
    have : rB xs m 0 k = fun i => decide (0 < cR xs m k i) := by funext i; exact ih i
    rw [this]
theorem hitB_iff (x m : Int) (R D j : Nat) : hitB x m R D j = true ↔ ∃ d : Nat, d < D ∧ ((R : Int) + x * (d : Int)) % m = (j : Int) := by
  induction D with
  | zero => simp [hitB]
  | succ D ih =>
    rw [hitB, Bool.or_eq_true, ih, decide_eq_true_eq]
    constructor
    · rintro (⟨d, h1, h2⟩ | h)
      · exact ⟨d, by omega, h2⟩
      · exact ⟨D, by omega, h⟩
    · rintro ⟨d, h1, h2⟩
      by_cases e : d = D
      · subst e; exact .inr h2
      · exact .inl ⟨d, by omega, h2⟩
theorem rcR_iff (c : Nat → Bool) (x m : Int) (R j : Nat) : rcR c x m R j = true ↔ ∃ q : Nat, q < R ∧ c q = true ∧ ∃ d : Nat, d < 10 ∧ ((q : Int) + x * (d : Int)) % m = (j : Int) := by
  induction R with
  | zero => simp [rcR]
  | succ R ih =>
    rw [rcR, Bool.or_eq_true, ih, Bool.and_eq_true, hitB_iff]
    constructor
    · rintro (⟨q, h1, h2⟩ | ⟨h1, h2⟩)
      · exact ⟨q, by omega, h2⟩
      · exact ⟨R, by omega, h1, h2⟩
    · rintro ⟨q, h1, h2, h3⟩
      by_cases e : q = R
      · subst e; exact .inr ⟨h2, h3⟩
      · exact .inl ⟨q, by omega, h2, h3⟩
theorem rB_shift (xs : List Int) (m : Int) (hm : 0 < m) (r k : Nat) (hr : r < m.toNat) : ∀ j j' : Nat, j < m.toNat → (j' : Int) = ((j : Int) - (r : Int)) % m → rB xs m r k j = rB xs m 0 k j' := by
  induction k with
  | zero =>
    intro j j' hj hj'
    rw [rB, rB]
    by_cases h : j = r
    · subst h
      have : j' = 0 := by rw [Int.sub_self, Int.zero_emod] at hj'; omega
      simp [this]
    · rw [decide_eq_false h, decide_eq_false]
      rintro rfl
      have h1 : ((j : Int) - (r : Int)) % m = 0 := by omega
      have h2 := Int.emod_emod_of_dvd ((j : Int) - (r : Int)) (Int.dvd_refl m)
      have h3 : m ∣ ((j : Int) - (r : Int)) := Int.dvd_of_emod_eq_zero h1
      obtain ⟨z, hz⟩ := h3
      have hz0 : z = 0 := by
        by_cases hp : 1 ≤ z
        · have := Int.mul_le_mul_of_nonneg_left hp (show (0 : Int) ≤ m by omega)
          omega
        · by_cases hn : z ≤ -1
          · have := Int.mul_le_mul_of_nonneg_left hn (show (0 : Int) ≤ m by omega)
            omega
          · omega
      subst hz0
      omega
  | succ k ih =>
    intro j j' hj hj'
    rw [rB, rB, Bool.eq_iff_iff, rcR_iff, rcR_iff]
    constructor
    · rintro ⟨q, hq, hc, d, hd, hv⟩
      obtain ⟨q', hq', hqm⟩ := rest_nat ((q : Int) - (r : Int)) m hm
      refine ⟨q', hqm, by rw [← ih q q' hq hq']; exact hc, d, hd, ?_⟩
      rw [hq', hj', ← hv, Int.emod_add_emod, Int.sub_emod, Int.emod_emod, ← Int.sub_emod]
      congr 1; omega
    · rintro ⟨q', hqm, hc, d, hd, hv⟩
      obtain ⟨q, hq, hqm2⟩ := rest_nat ((q' : Int) + (r : Int)) m hm
      have hq' : (q' : Int) = ((q : Int) - (r : Int)) % m := by
        rw [hq, Int.sub_emod, Int.emod_emod, ← Int.sub_emod, Int.add_sub_cancel]
        exact (Int.emod_eq_of_lt (by omega) (by omega)).symm
      refine ⟨q, hqm2, by rw [ih q q' hqm2 hq']; exact hc, d, hd, ?_⟩
      have : (j : Int) = ((j' : Int) + (r : Int)) % m := by
        rw [hj', Int.emod_add_emod, Int.sub_add_cancel]
        exact (Int.emod_eq_of_lt (by omega) (by omega)).symm
      rw [this, ← hv, hq, Int.emod_add_emod, Int.emod_add_emod]
      congr 1; omega
end Go.Proofs.YtdjcgddcgjbboaaDoor
