/-
  Plain facts on checks and the sums of their numbers; nothing of the program.
-/
import Derived.Test.YtdjcgddcgjbboaaDoorMath
namespace Go.Proofs.YtdjcgddcgjbboaaDoor

/-- Weights of at most twelve places, with a modulus. -/
structure CkOk (xs : List Int) (m : Int) : Prop where
  len : xs.length ≤ 12
  m2 : 2 ≤ m
  m11 : m ≤ 11
  x : ∀ i, i < xs.length → 0 ≤ xs.getD i 0 ∧ xs.getD i 0 < m
/-- There is a check. -/
def chkB (xs : List Int) (m : Int) : Bool := decide (2 ≤ xs.length ∧ xs.length ≤ 12) && (decide (2 ≤ m ∧ m ≤ 11) && xs.all (fun x => decide (0 ≤ x ∧ x < m)))
theorem all_getD {α : Type} (xs : List α) (d : α) (p : α → Bool) : xs.all p = true ↔ ∀ i, i < xs.length → p (xs.getD i d) = true := by
  rw [List.all_eq_true]
  constructor
  · intro h i hi
    rw [List.getD_eq_getElem?_getD, List.getElem?_eq_getElem hi]
    exact h _ (List.getElem_mem hi)
  · intro h x hx
    obtain ⟨i, hi, rfl⟩ := List.mem_iff_getElem.1 hx
    have := h i hi
    rwa [List.getD_eq_getElem?_getD, List.getElem?_eq_getElem hi] at this
theorem chkB_iff (xs : List Int) (m : Int) : chkB xs m = true ↔ 2 ≤ xs.length ∧ CkOk xs m := by
  unfold chkB
  rw [Bool.and_eq_true, Bool.and_eq_true, all_getD xs 0]
  simp only [decide_eq_true_eq]
  constructor
  · rintro ⟨⟨h1, h2⟩, ⟨h3, h4⟩, h5⟩; exact ⟨h1, h2, h3, h4, h5⟩
  · rintro ⟨h1, h2, h3, h4, h5⟩; exact ⟨⟨h1, h2⟩, ⟨h3, h4⟩, h5⟩
/-- What the digit at a place tells. -/
def dgt (t : List UInt8) (i : Nat) : Int := dv (t.getD i 48)
/-- The sum of the first k places. -/
def wsk (xs : List Int) (t : List UInt8) : Nat → Int
  | 0 => 0
  | k + 1 => wsk xs t k + xs.getD k 0 * dgt t k
/-- The sum of a number. -/
def wsum (xs : List Int) (t : List UInt8) : Int := wsk xs t xs.length
/-- It is sound. -/
def sndB (xs : List Int) (m : Int) (t : List UInt8) : Bool := decide (wsum xs t % m = 0)
theorem dgt_bd (t : List UInt8) (i : Nat) (h : digB t = true) : 0 ≤ dgt t i ∧ dgt t i ≤ 9 := by
  unfold dgt dv
  by_cases hi : i < t.length
  · have := (all_getD t 48 dgB).1 h i hi
    have := (dgB_iff _).1 this
    omega
  · rw [List.getD_eq_getElem?_getD, List.getElem?_eq_none (by omega)]
    simp
theorem wsk_bd (xs : List Int) (m : Int) (t : List UInt8) (hc : CkOk xs m) (h : digB t = true) (k : Nat) (hk : k ≤ xs.length) : 0 ≤ wsk xs t k ∧ wsk xs t k ≤ 90 * (k : Int) := by
  induction k with
  | zero => simp [wsk]
  | succ k ih =>
    have h1 := ih (by omega)
    have h2 := hc.x k (by omega)
    have h3 := dgt_bd t k h
    have hm := hc.m11
    have h4 : 0 ≤ xs.getD k 0 * dgt t k := Int.mul_nonneg h2.1 h3.1
    have h5 : xs.getD k 0 * dgt t k ≤ 10 * 9 := Int.mul_le_mul (by omega) h3.2 h3.1 (by omega)
    rw [wsk]; push_cast; omega
/-- Another digit at a place. -/
def putD (t : List UInt8) (p d : Nat) : List UInt8 := t.take p ++ UInt8.ofNat (48 + d) :: t.drop (p + 1)
theorem putD_len (t : List UInt8) (p d : Nat) (hp : p < t.length) : (putD t p d).length = t.length := by
  simp [putD]; omega
theorem u8_dig (d : Nat) (hd : d ≤ 9) : (UInt8.ofNat (48 + d)).toNat = 48 + d := by
  rw [UInt8.toNat_ofNat']; omega
theorem dgB_dig (d : Nat) (hd : d ≤ 9) : dgB (UInt8.ofNat (48 + d)) = true := by
  rw [dgB_iff, u8_dig d hd]; omega
theorem putD_dig (t : List UInt8) (p d : Nat) (hd : d ≤ 9) (h : digB t = true) : digB (putD t p d) = true := by
  unfold putD
  rw [digB_append, digB_take _ _ h]
  have := digB_drop t (p + 1) h
  simp only [digB, List.all_cons, Bool.true_and, dgB_dig d hd] at this ⊢
  exact this
theorem putD_get (t : List UInt8) (p d i : Nat) (hp : p < t.length) : (putD t p d).getD i 48 = if i = p then UInt8.ofNat (48 + d) else t.getD i 48 := by
  unfold putD
  simp only [List.getD_eq_getElem?_getD]
  by_cases h : i < p
  · rw [List.getElem?_append_left (by simp; omega), if_neg (by omega), List.getElem?_take, if_pos h]
  · rw [List.getElem?_append_right (by simp; omega)]
    have hl : (t.take p).length = p := by simp; omega
    rw [hl]
    by_cases e : i = p
    · subst e; simp
    · rw [if_neg e, show i - p = (i - p - 1) + 1 by omega, List.getElem?_cons_succ, List.getElem?_drop, show p + 1 + (i - p - 1) = i by omega]
theorem dgt_putD (t : List UInt8) (p d i : Nat) (hp : p < t.length) (hd : d ≤ 9) : dgt (putD t p d) i = if i = p then (d : Int) else dgt t i := by
  unfold dgt
  rw [putD_get t p d i hp]
  split
  · unfold dv; rw [u8_dig d hd]; omega
  · rfl
theorem wsk_putD (xs : List Int) (t : List UInt8) (p d k : Nat) (hp : p < t.length) (hd : d ≤ 9) : wsk xs (putD t p d) k = wsk xs t k + (if p < k then xs.getD p 0 * ((d : Int) - dgt t p) else 0) := by
  induction k with
  | zero => simp [wsk]
  | succ k ih =>
    rw [wsk, wsk, ih, dgt_putD t p d k hp hd]
    by_cases h : p < k
    · rw [if_pos h, if_neg (show ¬ k = p by omega), if_pos (show p < k + 1 by omega)]; omega
    · by_cases e : k = p
      · subst e
        rw [if_neg h, if_pos rfl, if_pos (Nat.lt_succ_self k), Int.mul_sub]; omega
      · rw [if_neg h, if_neg e, if_neg (show ¬ p < k + 1 by omega)]; omega
/-- A number of a check. -/
def numB (xs : List Int) (m : Int) (t : List UInt8) : Bool := chkB xs m && (decide (t.length = xs.length) && digB t)
theorem numB_iff (xs : List Int) (m : Int) (t : List UInt8) : numB xs m t = true ↔ (2 ≤ xs.length ∧ CkOk xs m) ∧ t.length = xs.length ∧ digB t = true := by
  unfold numB
  rw [Bool.and_eq_true, Bool.and_eq_true, chkB_iff, decide_eq_true_eq]
/-- Which digits make a number sound in a place. -/
def sdg (xs : List Int) (m : Int) (t : List UInt8) (p : Nat) : Nat → List Int
  | 0 => []
  | k + 1 => sdg xs m t p k ++ (if sndB xs m (putD t p k) = true then [(k : Int)] else [])
theorem sdg_len (xs : List Int) (m : Int) (t : List UInt8) (p k : Nat) : (sdg xs m t p k).length ≤ k := by
  induction k with
  | zero => simp [sdg]
  | succ k ih => rw [sdg]; split <;> simp <;> omega
theorem sdg_hit {xs : List Int} {m : Int} {t : List UInt8} {p k : Nat} (h : sndB xs m (putD t p k) = true) : sdg xs m t p (k + 1) = sdg xs m t p k ++ [(k : Int)] := by rw [sdg, if_pos h]
theorem sdg_miss {xs : List Int} {m : Int} {t : List UInt8} {p k : Nat} (h : sndB xs m (putD t p k) = false) : sdg xs m t p (k + 1) = sdg xs m t p k := by rw [sdg, if_neg (by simp [h]), List.append_nil]
end Go.Proofs.YtdjcgddcgjbboaaDoor
