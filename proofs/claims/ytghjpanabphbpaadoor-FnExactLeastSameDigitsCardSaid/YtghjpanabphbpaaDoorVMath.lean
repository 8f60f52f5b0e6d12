/-
  Counts of digits with a sum, over the integers: they are symmetric, and two of them make a third. Plain facts, nothing of the program.
-/
import Derived.Test.YtghjpanabphbpaaDoorWMath
namespace Go.Proofs.YtghjpanabphbpaaDoor

/-- Ten neighbours. -/
def ten (f : Int → Int) (s : Int) : Int := f s + f (s - 1) + f (s - 2) + f (s - 3) + f (s - 4) + f (s - 5) + f (s - 6) + f (s - 7) + f (s - 8) + f (s - 9)
def V : Nat → Int → Int
  | 0, s => if s = 0 then 1 else 0
  | n + 1, s => ten (V n) s
theorem V_succ (n : Nat) (s : Int) : V (n + 1) s = ten (V n) s := rfl
theorem ten_congr {f g : Int → Int} (h : ∀ x, f x = g x) (s : Int) : ten f s = ten g s := by simp only [ten, h]
theorem V_low (n : Nat) : ∀ s : Int, s < 0 → V n s = 0 := by
  induction n with
  | zero => intro s h; unfold V; rw [if_neg (by omega)]
  | succ n ih => intro s h; unfold V ten; simp only [ih s h, ih (s - 1) (by omega), ih (s - 2) (by omega), ih (s - 3) (by omega), ih (s - 4) (by omega), ih (s - 5) (by omega), ih (s - 6) (by omega), ih (s - 7) (by omega), ih (s - 8) (by omega), ih (s - 9) (by omega)]; rfl
theorem V_sym (n : Nat) : ∀ s : Int, V n s = V n (9 * (n : Int) - s) := by
  induction n with
  | zero => intro s; unfold V; by_cases h : s = 0 <;> simp [h]
  | succ n ih =>
    intro s
    have e : ∀ k : Int, V n (9 * ((n + 1 : Nat) : Int) - s - k) = V n (s - (9 - k)) := fun k => by
      rw [ih (s - (9 - k))]; congr 1; omega
    have e0 : V n (9 * ((n + 1 : Nat) : Int) - s) = V n (s - 9) := by have := e 0; simpa using this
    unfold V ten
    rw [e0, e 1, e 2, e 3, e 4, e 5, e 6, e 7, e 8, e 9]
    simp
    omega
theorem V_high (n : Nat) (s : Int) (h : 9 * (n : Int) < s) : V n s = 0 := by rw [V_sym]; exact V_low n _ (by omega)
theorem V_bd (n : Nat) : ∀ s, 0 ≤ V n s ∧ V n s ≤ 10 ^ n := by
  induction n with
  | zero => intro s; unfold V; split <;> simp
  | succ n ih =>
    intro s
    have h0 := ih s; have h1 := ih (s - 1); have h2 := ih (s - 2); have h3 := ih (s - 3); have h4 := ih (s - 4)
    have h5 := ih (s - 5); have h6 := ih (s - 6); have h7 := ih (s - 7); have h8 := ih (s - 8); have h9 := ih (s - 9)
    unfold V ten
    rw [Int.pow_succ]; omega
theorem V_12 {n : Nat} (h : n ≤ 12) (s : Int) : 0 ≤ V n s ∧ V n s ≤ 1000000000000 := by
  have := V_bd n s; have := pow_12 h; omega

theorem outp_eq (p : Nat → Int) (q : Int → Int) (h : ∀ i : Nat, q i = p i) (k j : Nat) :
    outp p k j = ten (fun s => if s < (k : Int) ∧ 0 ≤ s then q s else 0) j := by
  induction k with
  | zero =>
    unfold outp ten
    have e : ∀ s : Int, (if s < ((0 : Nat) : Int) ∧ 0 ≤ s then q s else 0) = 0 := fun s => if_neg (by omega)
    simp only [e]; rfl
  | succ k ih =>
    unfold outp
    rw [ih]
    have e : ∀ s : Int, (if s < ((k + 1 : Nat) : Int) ∧ 0 ≤ s then q s else 0) = (if s < (k : Int) ∧ 0 ≤ s then q s else 0) + (if s = (k : Int) then p k else 0) := fun s => by
      by_cases h1 : s = (k : Int)
      · subst h1; rw [if_pos (by omega), if_neg (by omega), if_pos rfl, h]; omega
      · rw [if_neg h1]
        by_cases h2 : s < (k : Int) ∧ 0 ≤ s
        · rw [if_pos h2, if_pos (by omega)]; omega
        · rw [if_neg h2, if_neg (by omega)]; rfl
    have t : ten (fun s => if s = (k : Int) then p k else 0) j = (if k ≤ j ∧ j < k + 10 then p k else 0) := by
      unfold ten
      by_cases hk : k ≤ j ∧ j < k + 10
      · rw [if_pos hk]
        obtain ⟨e, rfl⟩ : ∃ e, j = k + e := ⟨j - k, by omega⟩
        have he : e = 0 ∨ e = 1 ∨ e = 2 ∨ e = 3 ∨ e = 4 ∨ e = 5 ∨ e = 6 ∨ e = 7 ∨ e = 8 ∨ e = 9 := by omega
        have z : ∀ c : Int, c ≠ (e : Int) → (if ((k + e : Nat) : Int) - c = (k : Int) then p k else 0) = 0 := fun c hc => if_neg (by omega)
        have y : ∀ c : Int, c = (e : Int) → (if ((k + e : Nat) : Int) - c = (k : Int) then p k else 0) = p k := fun c hc => if_pos (by omega)
        have z0 : (if ((k + e : Nat) : Int) = (k : Int) then p k else 0) = (if ((k + e : Nat) : Int) - 0 = (k : Int) then p k else 0) := by rw [Int.sub_zero]
        dsimp only
        rw [z0]
        rcases he with rfl | rfl | rfl | rfl | rfl | rfl | rfl | rfl | rfl | rfl
        · rw [y 0 rfl, z 1 (by decide), z 2 (by decide), z 3 (by decide), z 4 (by decide), z 5 (by decide), z 6 (by decide), z 7 (by decide), z 8 (by decide), z 9 (by decide)]; omega
        · rw [z 0 (by decide), y 1 rfl, z 2 (by decide), z 3 (by decide), z 4 (by decide), z 5 (by decide), z 6 (by decide), z 7 (by decide), z 8 (by decide), z 9 (by decide)]; omega
        · rw [z 0 (by decide), z 1 (by decide), y 2 rfl, z 3 (by decide), z 4 (by decide), z 5 (by decide), z 6 (by decide), z 7 (by decide), z 8 (by decide), z 9 (by decide)]; omega
        · rw [z 0 (by decide), z 1 (by decide), z 2 (by decide), y 3 rfl, z 4 (by decide), z 5 (by decide), z 6 (by decide), z 7 (by decide), z 8 (by decide), z 9 (by decide)]; omega
        · rw [z 0 (by decide), z 1 (by decide), z 2 (by decide), z 3 (by decide), y 4 rfl, z 5 (by decide), z 6 (by decide), z 7 (by decide), z 8 (by decide), z 9 (by decide)]; omega
        · rw [z 0 (by decide), z 1 (by decide), z 2 (by decide), z 3 (by decide), z 4 (by decide), y 5 rfl, z 6 (by decide), z 7 (by decide), z 8 (by decide), z 9 (by decide)]; omega
        · rw [z 0 (by decide), z 1 (by decide), z 2 (by decide), z 3 (by decide), z 4 (by decide), z 5 (by decide), y 6 rfl, z 7 (by decide), z 8 (by decide), z 9 (by decide)]; omega
        · rw [z 0 (by decide), z 1 (by decide), z 2 (by decide), z 3 (by decide), z 4 (by decide), z 5 (by decide), z 6 (by decide), y 7 rfl, z 8 (by decide), z 9 (by decide)]; omega
        · rw [z 0 (by decide), z 1 (by decide), z 2 (by decide), z 3 (by decide), z 4 (by decide), z 5 (by decide), z 6 (by decide), z 7 (by decide), y 8 rfl, z 9 (by decide)]; omega
        · rw [z 0 (by decide), z 1 (by decide), z 2 (by decide), z 3 (by decide), z 4 (by decide), z 5 (by decide), z 6 (by decide), z 7 (by decide), z 8 (by decide), y 9 rfl]; omega
      · rw [if_neg hk]
        have z : ∀ c : Int, 0 ≤ c → c ≤ 9 → (if (j : Int) - c = (k : Int) then p k else 0) = 0 := fun c h1 h2 => if_neg (by omega)
        have z0 : (if (j : Int) = (k : Int) then p k else 0) = 0 := if_neg (by omega)
        dsimp only
        rw [z0, z 1 (by decide) (by decide), z 2 (by decide) (by decide), z 3 (by decide) (by decide), z 4 (by decide) (by decide), z 5 (by decide) (by decide), z 6 (by decide) (by decide), z 7 (by decide) (by decide), z 8 (by decide) (by decide), z 9 (by decide) (by decide)]; rfl
    rw [← t]
    unfold ten
    simp only [e]
    omega
theorem W_V (n : Nat) : ∀ j : Nat, W n j = V n j := by
  induction n with
  | zero => intro j; unfold W V; by_cases h : j = 0 <;> simp [h]
  | succ n ih =>
    intro j
    unfold W V
    rw [outp_eq (W n) (V n) (fun i => (ih i).symm)]
    refine ten_congr (fun s => ?_) _
    by_cases h : s < ((9 * n + 1 : Nat) : Int) ∧ 0 ≤ s
    · rw [if_pos h]
    · rw [if_neg h]
      by_cases h0 : s < 0
      · exact (V_low n s h0).symm
      · exact (V_high n s (by omega)).symm
theorem Wi_V (n : Nat) (s : Int) : Wi n s = V n s := by
  unfold Wi
  by_cases h : 0 ≤ s ∧ s ≤ 9 * (n : Int)
  · rw [if_pos h, W_V, Int.toNat_of_nonneg h.1]
  · rw [if_neg h]
    by_cases h0 : s < 0
    · exact (V_low n s h0).symm
    · exact (V_high n s (by omega)).symm

/-- A sum of the first ones. -/
def sumTo : Nat → (Nat → Int) → Int
  | 0, _ => 0
  | n + 1, f => sumTo n f + f n
theorem sumTo_succ (n : Nat) (f : Nat → Int) : sumTo (n + 1) f = sumTo n f + f n := rfl
theorem sumTo_congr (n : Nat) (f g : Nat → Int) (h : ∀ i, i < n → f i = g i) : sumTo n f = sumTo n g := by
  induction n with
  | zero => rfl
  | succ n ih => unfold sumTo; rw [ih (fun i hi => h i (by omega)), h n (by omega)]
theorem sumTo_zero (n : Nat) (f : Nat → Int) (h : ∀ i, i < n → f i = 0) : sumTo n f = 0 := by
  induction n with
  | zero => rfl
  | succ n ih => unfold sumTo; rw [ih (fun i hi => h i (by omega)), h n (by omega)]; rfl
theorem sumTo_add (n : Nat) (f g : Nat → Int) : sumTo n (fun i => f i + g i) = sumTo n f + sumTo n g := by
  induction n with
  | zero => rfl
  | succ n ih => rw [sumTo_succ, sumTo_succ, sumTo_succ, ih]; omega
theorem sumTo_shift (g : Int → Int) (hg : ∀ s, s < 0 → g s = 0) (d m : Nat) : sumTo (m + d) (fun s => g ((s : Int) - (d : Int))) = sumTo m (fun s => g s) := by
  induction m with
  | zero =>
    rw [Nat.zero_add]
    exact sumTo_zero d _ (fun i hi => hg _ (by omega))
  | succ m ih =>
    rw [show m + 1 + d = (m + d) + 1 by omega]
    rw [sumTo_succ, sumTo_succ, ih]
    have e : ((m + d : Nat) : Int) - (d : Int) = (m : Int) := by omega
    rw [e]
theorem sumTo_mono (f : Nat → Int) (h : ∀ i, 0 ≤ f i) (k n : Nat) (hk : k ≤ n) : sumTo k f ≤ sumTo n f := by
  induction n with
  | zero => rw [show k = 0 by omega]; exact Int.le_refl _
  | succ n ih =>
    by_cases e : k = n + 1
    · rw [e]; exact Int.le_refl _
    · have h1 := ih (by omega); have h2 := h n; rw [sumTo_succ]; omega
theorem sumTo_nonneg (f : Nat → Int) (h : ∀ i, 0 ≤ f i) (n : Nat) : 0 ≤ sumTo n f := by
  have := sumTo_mono f h 0 n (Nat.zero_le _); simpa [sumTo] using this
/-- Counts of a and of b digits make those of a + b. -/
theorem V_conv (b : Nat) (a : Nat) : ∀ (t : Int) (m : Nat), 9 * a + 1 ≤ m → sumTo m (fun s => V a s * V b (t - s)) = V (a + b) t := by
  induction a with
  | zero =>
    intro t m hm
    obtain ⟨m, rfl⟩ : ∃ k, m = k + 1 := ⟨m - 1, by omega⟩
    rw [Nat.zero_add]
    clear hm
    induction m with
    | zero => simp [sumTo, V]
    | succ m ih =>
      rw [sumTo_succ, ih]
      have : V 0 ((m + 1 : Nat) : Int) = 0 := by unfold V; rw [if_neg (by omega)]
      rw [this]; omega
  | succ a ih =>
    intro t m hm
    have sh : ∀ d : Nat, d ≤ 9 → sumTo m (fun s => V a ((s : Int) - (d : Int)) * V b (t - s)) = V (a + b) (t - d) := fun d hd => by
      have h1 := sumTo_shift (fun u => V a u * V b (t - d - u)) (fun s hs => by show V a s * _ = 0; rw [V_low a s hs]; omega) d (m - d)
      rw [show m - d + d = m by omega] at h1
      have h2 := ih (t - d) (m - d) (by omega)
      rw [← h2, ← h1]
      refine sumTo_congr _ _ _ (fun i _ => ?_)
      congr 2; omega
    have e : (fun s : Nat => V (a + 1) (s : Int) * V b (t - s)) = fun s : Nat => (((((((((V a ((s : Int) - (0 : Nat)) * V b (t - s) + V a ((s : Int) - (1 : Nat)) * V b (t - s)) + V a ((s : Int) - (2 : Nat)) * V b (t - s)) + V a ((s : Int) - (3 : Nat)) * V b (t - s)) + V a ((s : Int) - (4 : Nat)) * V b (t - s)) + V a ((s : Int) - (5 : Nat)) * V b (t - s)) + V a ((s : Int) - (6 : Nat)) * V b (t - s)) + V a ((s : Int) - (7 : Nat)) * V b (t - s)) + V a ((s : Int) - (8 : Nat)) * V b (t - s)) + V a ((s : Int) - (9 : Nat)) * V b (t - s)) := by
      funext s
      show ten (V a) s * V b (t - s) = _
      unfold ten
      simp only [Int.add_mul]
      simp
    rw [e]
    simp only [sumTo_add]
    rw [sh 0 (by omega), sh 1 (by omega), sh 2 (by omega), sh 3 (by omega), sh 4 (by omega), sh 5 (by omega), sh 6 (by omega), sh 7 (by omega), sh 8 (by omega), sh 9 (by omega)]
    rw [show a + 1 + b = (a + b) + 1 by omega]
    show _ = ten (V (a + b)) t
    unfold ten
    simp
end Go.Proofs.YtghjpanabphbpaaDoor
