/-
  Plain facts on houses: sums of streets, balanced houses, least far ones; nothing of the program.
-/
import Derived.WalkKit
namespace Go.Proofs.Ytblkkjjoidbdlaa

/-- A house's number. -/
def houB (n : Int) : Bool := decide (1 ≤ n ∧ n ≤ 1000000)
/-- A street. -/
def stB (a b : Int) : Bool := decide (1 ≤ a ∧ a ≤ b ∧ b ≤ 1000000)
/-- A house of a street. -/
def hofB (a b h : Int) : Bool := decide (1 ≤ a ∧ a ≤ b ∧ b ≤ 1000000 ∧ a ≤ h ∧ h ≤ b)
theorem houB_iff (n : Int) : houB n = true ↔ 1 ≤ n ∧ n ≤ 1000000 := by simp [houB]
theorem stB_iff (a b : Int) : stB a b = true ↔ 1 ≤ a ∧ a ≤ b ∧ b ≤ 1000000 := by simp [stB]
theorem hofB_iff (a b h : Int) : hofB a b h = true ↔ 1 ≤ a ∧ a ≤ b ∧ b ≤ 1000000 ∧ a ≤ h ∧ h ≤ b := by simp [hofB]

/-- The sum of the numbers from a to b. -/
def sm (a b : Int) : Int := (b - a + 1) * (a + b) / 2
theorem even_mul (n : Int) : ∃ k, n * (n + 1) = 2 * k := by
  obtain ⟨k, hk⟩ : ∃ k, k = n / 2 := ⟨_, rfl⟩
  rcases (by omega : n = 2 * k ∨ n = 2 * k + 1) with h | h
  · exact ⟨k * (2 * k + 1), by clear hk; subst h; grind⟩
  · exact ⟨(2 * k + 1) * (k + 1), by clear hk; subst h; grind⟩
theorem sq_nn (a : Int) : 0 ≤ a * a := by rw [← Int.natAbs_mul_self]; exact Int.natCast_nonneg _
theorem sm_ev (a b : Int) : (b - a + 1) * (a + b) = 2 * sm a b := by
  obtain ⟨x, hx⟩ := even_mul b
  obtain ⟨y, hy⟩ := even_mul (a - 1)
  have e : (b - a + 1) * (a + b) = b * (b + 1) - (a - 1) * (a - 1 + 1) := by grind
  unfold sm
  omega
theorem two_sm (a b : Int) : 2 * sm a b = b * b + b - a * a + a := by
  rw [← sm_ev]; grind
theorem sm_comm (a b : Int) : (a + b) * (b - a + 1) / 2 = sm a b := by unfold sm; rw [Int.mul_comm]
theorem sm_none (a : Int) : sm a (a - 1) = 0 := by
  have := two_sm a (a - 1)
  have e : (a - 1) * (a - 1) = a * a - 2 * a + 1 := by grind
  omega
theorem sm_one (a : Int) : sm a a = a := by have := two_sm a a; omega
theorem sm_succ (a b : Int) : sm a (b + 1) = sm a b + (b + 1) := by
  have h1 := two_sm a (b + 1)
  have h2 := two_sm a b
  have e : (b + 1) * (b + 1) = b * b + 2 * b + 1 := by grind
  omega
theorem sq_le {a b : Int} (h0 : 0 ≤ a) (h : a ≤ b) : a * a ≤ b * b := Int.mul_le_mul h h h0 (by omega)
theorem sq_lt {a b : Int} (h0 : 0 ≤ a) (h : a < b) : a * a < b * b := by
  have h1 := sq_le h0 (show a ≤ b - 1 by omega)
  have e : (b - 1) * (b - 1) = b * b - 2 * b + 1 := by grind
  omega
theorem sm_bd (a b : Int) (ha : 0 ≤ a) (hb : a - 1 ≤ b) (hb' : b ≤ 2000000) : 0 ≤ sm a b ∧ sm a b ≤ 4000000000000 := by
  have h1 := two_sm a b
  have h2 : b * b ≤ 2000000 * 2000000 ∨ b < 0 := by
    by_cases h : b < 0
    · exact .inr h
    · exact .inl (sq_le (by omega) hb')
  have h3 : 0 ≤ a * a := sq_nn a
  have h5 : a - 1 = -1 ∨ (a - 1) * (a - 1) ≤ b * b := by
    by_cases h : a = 0
    · exact .inl (by omega)
    · exact .inr (sq_le (by omega) hb)
  have e : (a - 1) * (a - 1) = a * a - 2 * a + 1 := by grind
  rcases h5 with h5 | h5
  · have ha0 : a = 0 := by omega
    subst ha0
    have h6 : b = -1 ∨ 0 ≤ b := by omega
    rcases h6 with h6 | h6
    · subst h6; omega
    · have h7 := sq_nn b
      have h8 : b * b ≤ 2000000 * 2000000 := sq_le h6 hb'
      omega
  · have h6 : b * b ≤ 2000000 * 2000000 ∨ (a = 0) := by
      rcases h2 with h | h
      · exact .inl h
      · exact .inr (by omega)
    rcases h6 with h6 | h6
    · omega
    · subst h6
      have hb1 : b = -1 ∨ 0 ≤ b := by omega
      rcases hb1 with h7 | h7
      · subst h7; omega
      · have h8 : b * b ≤ 2000000 * 2000000 := sq_le h7 hb'
        omega
theorem prod_bd (a b : Int) (ha : 0 ≤ a) (hb : a - 1 ≤ b) (hb' : b ≤ 2000000) : 0 ≤ (b - a + 1) * (a + b) ∧ (b - a + 1) * (a + b) ≤ 8000000000000 := by
  have := sm_bd a b ha hb hb'
  rw [sm_ev]; omega
theorem sm_mono (a x y : Int) (ha : 0 ≤ a) (hx : a - 1 ≤ x) (hy : x ≤ y) : sm a x ≤ sm a y := by
  have h1 := two_sm a x
  have h2 := two_sm a y
  have e1 : x * x + x = (x + 1) * (x + 1) - (x + 1) := by grind
  have e2 : y * y + y = (y + 1) * (y + 1) - (y + 1) := by grind
  have e3 : (x + 1) * (x + 1) - (x + 1) ≤ (y + 1) * (y + 1) - (y + 1) := by
    have k : 0 ≤ (y - x) * (x + y + 1) := by
      by_cases h : 0 ≤ x + y + 1
      · exact Int.mul_nonneg (by omega) h
      · have : x = -1 ∧ y = -1 := by omega
        obtain ⟨rfl, rfl⟩ := this
        decide
    grind
  omega
/-- The balanced house has this square. -/
def sqr (f l : Int) : Int := sm 1 l + sm 1 (f - 1)
theorem two_sqr (f l : Int) : 2 * sqr f l = l * l + l + f * f - f := by
  have h1 := two_sm 1 l
  have h2 := two_sm 1 (f - 1)
  have e : (f - 1) * (f - 1) = f * f - 2 * f + 1 := by grind
  unfold sqr; omega
theorem bal_iff (f l h : Int) : sm (h + 1) l ≤ sm f (h - 1) ↔ sqr f l ≤ h * h := by
  have h1 := two_sm (h + 1) l
  have h2 := two_sm f (h - 1)
  have h3 := two_sqr f l
  have e : (h - 1) * (h - 1) = h * h - 2 * h + 1 := by grind
  have e2 : (h + 1) * (h + 1) = h * h + 2 * h + 1 := by grind
  omega
theorem bal_eq (f l h : Int) : sm f (h - 1) = sm (h + 1) l ↔ h * h = sqr f l := by
  have h1 := two_sm (h + 1) l
  have h2 := two_sm f (h - 1)
  have h3 := two_sqr f l
  have e : (h - 1) * (h - 1) = h * h - 2 * h + 1 := by grind
  have e2 : (h + 1) * (h + 1) = h * h + 2 * h + 1 := by grind
  omega
theorem sqr_lo (f l : Int) (h1 : 1 ≤ f) (h2 : f ≤ l) : f * f ≤ sqr f l ∧ sqr f l ≤ l * l := by
  have h3 := two_sqr f l
  have h4 := sq_le (show 0 ≤ f by omega) h2
  have h5 := sq_le (show 0 ≤ f - 1 by omega) (show f - 1 ≤ l - 1 by omega)
  have e : (f - 1) * (f - 1) = f * f - 2 * f + 1 := by grind
  have e2 : (l - 1) * (l - 1) = l * l - 2 * l + 1 := by grind
  omega
/-- The least number of a street from which on p holds. -/
def LeastOf (p : Int → Bool) (f h : Int) : Prop := f ≤ h ∧ p h = true ∧ (h = f ∨ p (h - 1) = false)
/-- What BalancedHouse answers. -/
def BalAns (n h : Int) (ok : Bool) : Prop := (ok = true ∧ 0 < h ∧ h * h = n) ∨ (ok = false ∧ h = 0 ∧ ∀ x : Int, 0 ≤ x → x * x ≠ n)
theorem BalAns.uniq {n h g : Int} {p q : Bool} (a : BalAns n h p) (b : BalAns n g q) : h = g ∧ p = q := by
  rcases a with ⟨a1, a2, a3⟩ | ⟨a1, a2, a3⟩ <;> rcases b with ⟨b1, b2, b3⟩ | ⟨b1, b2, b3⟩
  · refine ⟨?_, by rw [a1, b1]⟩
    rcases Int.lt_trichotomy h g with k | k | k
    · have := sq_lt (by omega) k; omega
    · exact k
    · have := sq_lt (by omega) k; omega
  · exact absurd a3 (b3 h (by omega))
  · exact absurd b3 (a3 g (by omega))
  · exact ⟨by rw [a2, b2], by rw [a1, b1]⟩
theorem bal_least {f l h : Int} (h1 : 1 ≤ f) (h2 : f ≤ l) (hl : LeastOf (fun x => decide (sqr f l ≤ x * x)) f h) (hne : h * h ≠ sqr f l) : BalAns (sqr f l) 0 false := by
  obtain ⟨a1, a2, a3⟩ := hl
  have a2' : sqr f l ≤ h * h := by simpa using a2
  refine .inr ⟨rfl, rfl, fun x hx hxx => ?_⟩
  by_cases hk : h ≤ x
  · have := sq_le (by omega) hk; omega
  · have hx1 : x ≤ h - 1 := by omega
    have hs := sq_le hx hx1
    rcases a3 with a3 | a3
    · subst a3
      have := sqr_lo h l h1 h2
      have e : (h - 1) * (h - 1) = h * h - 2 * h + 1 := by grind
      omega
    · have : (h - 1) * (h - 1) < sqr f l := by simpa using a3
      omega
theorem bal_root {n r : Int} (h0 : 0 ≤ r) (h1 : r * r ≤ n) (h2 : n < (r + 1) * (r + 1)) (hne : r * r ≠ n) : BalAns n 0 false := by
  refine .inr ⟨rfl, rfl, fun x hx hxx => ?_⟩
  by_cases hk : x ≤ r
  · have := sq_le hx hk; omega
  · have := sq_le (show 0 ≤ r + 1 by omega) (show r + 1 ≤ x by omega); omega
/-- The house up to which the sum is half of all has this product with the next number. -/
def twi (f l : Int) : Int := sm f l + 2 * sm 1 (f - 1)
theorem twi_iff (f l h : Int) : sm f l ≤ 2 * sm f h ↔ twi f l ≤ h * h + h := by
  have h1 := two_sm f h
  have h2 := two_sm 1 (f - 1)
  have e : (f - 1) * (f - 1) = f * f - 2 * f + 1 := by grind
  unfold twi; omega
theorem twi_eq (f l h : Int) : 2 * sm f h = sm f l ↔ h * h + h = twi f l := by
  have h1 := two_sm f h
  have h2 := two_sm 1 (f - 1)
  have e : (f - 1) * (f - 1) = f * f - 2 * f + 1 := by grind
  unfold twi; omega
theorem twi_two (f l : Int) : twi f l = sm f l + (f * f - f) := by
  have h2 := two_sm 1 (f - 1)
  have e : (f - 1) * (f - 1) = f * f - 2 * f + 1 := by grind
  unfold twi; omega
/-- What DoubleSum answers. -/
def DblAns (n h : Int) (ok : Bool) : Prop := (ok = true ∧ 0 ≤ h ∧ h * h + h = n) ∨ (ok = false ∧ h = 0 ∧ ∀ x : Int, 0 ≤ x → x * x + x ≠ n)
theorem DblAns.uniq {n h g : Int} {p q : Bool} (a : DblAns n h p) (b : DblAns n g q) : h = g ∧ p = q := by
  rcases a with ⟨a1, a2, a3⟩ | ⟨a1, a2, a3⟩ <;> rcases b with ⟨b1, b2, b3⟩ | ⟨b1, b2, b3⟩
  · refine ⟨?_, by rw [a1, b1]⟩
    rcases Int.lt_trichotomy h g with k | k | k
    · have := sq_lt (by omega) k; omega
    · exact k
    · have := sq_lt (by omega) k; omega
  · exact absurd a3 (b3 h (by omega))
  · exact absurd b3 (a3 g (by omega))
  · exact ⟨by rw [a2, b2], by rw [a1, b1]⟩
theorem dbl_least {f l h : Int} (h1 : 1 ≤ f) (h2 : f ≤ l) (hl : LeastOf (fun x => decide (twi f l ≤ x * x + x)) f h) (hne : h * h + h ≠ twi f l) : DblAns (twi f l) 0 false := by
  obtain ⟨a1, a2, a3⟩ := hl
  have a2' : twi f l ≤ h * h + h := by simpa using a2
  refine .inr ⟨rfl, rfl, fun x hx hxx => ?_⟩
  by_cases hk : h ≤ x
  · have := sq_le (by omega) hk; omega
  · have hx1 : x ≤ h - 1 := by omega
    have hs := sq_le hx hx1
    have e : (h - 1) * (h - 1) = h * h - 2 * h + 1 := by grind
    rcases a3 with a3 | a3
    · subst a3
      have := twi_two h l
      have h3 := sm_mono h (h - 1) l (by omega) (by omega) (by omega)
      have h4 := sm_mono h h l (by omega) (by omega) (by omega)
      rw [sm_one] at h4
      omega
    · have : (h - 1) * (h - 1) + (h - 1) < twi f l := by simpa using a3
      omega
theorem dbl_root {n r : Int} (h0 : 0 ≤ r) (h1 : r * r ≤ n) (h2 : n < (r + 1) * (r + 1)) (hne : r * r + r ≠ n) : DblAns n 0 false := by
  refine .inr ⟨rfl, rfl, fun x hx hxx => ?_⟩
  by_cases hk : x ≤ r
  · by_cases hk2 : x = r
    · subst hk2; exact hne hxx
    · have := sq_le hx (show x ≤ r - 1 by omega)
      have e : (r - 1) * (r - 1) = r * r - 2 * r + 1 := by grind
      omega
  · have := sq_le (show 0 ≤ r + 1 by omega) (show r + 1 ≤ x by omega); omega
theorem dbl_even {f l r : Int} (h : r * r + r = twi f l) : sm f l % 2 = 0 := by
  obtain ⟨k, hk⟩ := even_mul r
  have e : r * (r + 1) = r * r + r := by grind
  unfold twi at h; omega
theorem dbl_first {f l r : Int} (h1 : 1 ≤ f) (h2 : f ≤ l) (h0 : 0 ≤ r) (h : r * r + r = twi f l) : f ≤ r := by
  rw [twi_two] at h
  have h4 := sm_mono f f l (by omega) (by omega) h2
  rw [sm_one] at h4
  by_cases hk : f ≤ r
  · exact hk
  · have := sq_le h0 (show r ≤ f - 1 by omega)
    have e : (f - 1) * (f - 1) = f * f - 2 * f + 1 := by grind
    omega
/-- The least last house with which a street from f on has at least a sum. -/
def Reach (f s l : Int) : Prop := f ≤ l ∧ s ≤ sm f l ∧ (l = f ∨ sm f (l - 1) < s)
theorem Reach.uniq {f s l m : Int} (h0 : 1 ≤ f) (a : Reach f s l) (b : Reach f s m) : l = m := by
  obtain ⟨a1, a2, a3⟩ := a
  obtain ⟨b1, b2, b3⟩ := b
  rcases Int.lt_trichotomy l m with k | k | k
  · rcases b3 with b3 | b3
    · omega
    · have := sm_mono f l (m - 1) (by omega) (by omega) (by omega); omega
  · exact k
  · rcases a3 with a3 | a3
    · omega
    · have := sm_mono f m (l - 1) (by omega) (by omega) (by omega); omega
theorem sm_ge (f l : Int) (h1 : 1 ≤ f) (h2 : f ≤ l) : l ≤ sm f l := by
  have h3 : sm f (l - 1 + 1) = sm f (l - 1) + (l - 1 + 1) := sm_succ f (l - 1)
  rw [show l - 1 + 1 = l by omega] at h3
  have h4 := sm_mono f (f - 1) (l - 1) (by omega) (by omega) (by omega)
  rw [sm_none] at h4
  omega
theorem sm_top (s : Int) (h : s ≤ 1000001) : s ≤ sm 1 1000000 := by
  have := two_sm 1 1000000
  omega
theorem reach_missing {s l : Int} (hs : 1 ≤ s) (h : Reach 1 (s + 1) l) : 2 ≤ l ∧ 1 ≤ sm 1 l - s ∧ sm 1 l - s ≤ l ∧ sm 1 (l - 1) ≤ s := by
  obtain ⟨a1, a2, a3⟩ := h
  have h3 : sm 1 (l - 1 + 1) = sm 1 (l - 1) + (l - 1 + 1) := sm_succ 1 (l - 1)
  rw [show l - 1 + 1 = l by omega] at h3
  have h1 : sm 1 1 = 1 := sm_one 1
  have hl : l ≠ 1 := by rintro rfl; omega
  rcases a3 with a3 | a3
  · omega
  · omega
/-- The sum of houses that are met by steps. -/
theorem steps_sum (f m s t : Int) (ht : m * (m + 1) = 2 * t) : (m + 1) * (f + (f + (m + 1 - 1) * s)) / 2 = (m + 1) * f + s * t := by
  have e : (m + 1) * (f + (f + (m + 1 - 1) * s)) = 2 * ((m + 1) * f + s * t) := by grind
  omega
end Go.Proofs.Ytblkkjjoidbdlaa
