/-
  How many lucky tickets begin with some digits: plain facts, nothing of the program.
-/
import Derived.Test.YtlkeemnnncnibabVMath
namespace Go.Proofs.Ytlkeemnnncnibab

/-- By how much the first half is ahead. -/
def bal (h : Nat) (l : List UInt8) : Int := dsum (l.take h) - dsum (l.drop h)
def cmp (h p : Nat) (b : Int) : Int := V (2 * h - p) (9 * ((min (2 * h - p) h : Nat) : Int) - b)
/-- How many lucky tickets of 2h digits begin so. -/
def comp (h : Nat) (l : List UInt8) : Int := cmp h l.length (bal h l)
def stp (h p : Nat) (b d : Int) : Int := if p < h then b + d else b - d
theorem bal_snoc (h : Nat) (l : List UInt8) (c : UInt8) : bal h (l ++ [c]) = stp h l.length (bal h l) (dv c) := by
  unfold bal stp
  by_cases hl : l.length < h
  · rw [if_pos hl, List.take_of_length_le (by simp; omega), List.drop_of_length_le (by simp; omega), List.take_of_length_le (by omega), List.drop_of_length_le (by omega), dsum_snoc]
    omega
  · rw [if_neg hl, List.take_append_of_le_length (by omega), List.drop_append_of_le_length (by omega), dsum_snoc]
    omega
theorem comp_snoc (h : Nat) (l : List UInt8) (c : UInt8) : comp h (l ++ [c]) = cmp h (l.length + 1) (stp h l.length (bal h l) (dv c)) := by
  unfold comp; rw [bal_snoc]; simp
def sum10 (f : Int → Int) : Int := f 0 + f 1 + f 2 + f 3 + f 4 + f 5 + f 6 + f 7 + f 8 + f 9
theorem cmp_ten (h p : Nat) (b : Int) (hp : p < 2 * h) : cmp h p b = sum10 (fun d => cmp h (p + 1) (stp h p b d)) := by
  unfold sum10 cmp stp
  obtain ⟨n, hn⟩ : ∃ n, 2 * h - p = n + 1 := ⟨2 * h - p - 1, by omega⟩
  have hn1 : 2 * h - (p + 1) = n := by omega
  rw [hn, hn1]
  by_cases hl : p < h
  · simp only [if_pos hl]
    rw [show min (n + 1) h = h by omega, show min n h = h by omega]
    rw [V_succ]; unfold ten
    have e : ∀ d : Int, 9 * (h : Int) - (b + d) = 9 * (h : Int) - b - d := fun d => by omega
    simp only [e, Int.sub_zero]
  · simp only [if_neg hl]
    rw [show min (n + 1) h = n + 1 by omega, show min n h = n by omega]
    have e : ∀ d : Int, 9 * (n : Int) - (b - d) = 9 * ((n + 1 : Nat) : Int) - b - (9 - d) := fun d => by omega
    simp only [e]
    rw [V_succ]; unfold ten
    simp
    omega
theorem cmp_bd {h p : Nat} (hh : h ≤ 6) (b : Int) : 0 ≤ cmp h p b ∧ cmp h p b ≤ 1000000000000 := V_12 (by omega) _
theorem comp_bd {h : Nat} (hh : h ≤ 6) (l : List UInt8) : 0 ≤ comp h l ∧ comp h l ≤ 1000000000000 := cmp_bd hh _
theorem comp_high (h : Nat) (l : List UInt8) (h1 : h < l.length) : Wi (2 * h - l.length) (dsum (l.take h) - dsum (l.drop h)) = comp h l := by
  rw [Wi_V, V_sym]
  unfold comp cmp bal
  rw [show min (2 * h - l.length) h = 2 * h - l.length by omega]
/-- What tkFrom adds up. -/
def term (h : Nat) (l : List UInt8) (s : Nat) : Int := W (h - l.length) s * Wi h (dsum l + s)
theorem term_nonneg (h : Nat) (l : List UInt8) (s : Nat) : 0 ≤ term h l s :=
  Int.mul_nonneg (W_bd _ _).1 (by rw [Wi_V]; exact (V_bd _ _).1)
theorem comp_low (h : Nat) (l : List UInt8) (h1 : l.length ≤ h) : sumTo (9 * (h - l.length) + 1) (term h l) = comp h l := by
  unfold comp cmp bal
  rw [List.take_of_length_le h1, List.drop_of_length_le h1, show min (2 * h - l.length) h = h by omega, show 2 * h - l.length = (h - l.length) + h by omega]
  rw [← V_conv h (h - l.length) _ _ (Nat.le_refl _)]
  refine sumTo_congr _ _ _ (fun s _ => ?_)
  unfold term
  rw [Wi_V, W_V, V_sym h]
  congr 2
  simp [dsum]; omega
theorem term_part (h : Nat) (hh : h ≤ 6) (l : List UInt8) (h1 : l.length ≤ h) (k : Nat) (hk : k < 9 * (h - l.length) + 1) :
    0 ≤ sumTo k (term h l) ∧ sumTo k (term h l) + term h l k ≤ 1000000000000 := by
  refine ⟨sumTo_nonneg _ (term_nonneg h l) k, ?_⟩
  have := sumTo_mono _ (term_nonneg h l) (k + 1) (9 * (h - l.length) + 1) (by omega)
  rw [comp_low h l h1, sumTo_succ] at this
  have := (comp_bd hh l).2
  omega
end Go.Proofs.Ytlkeemnnncnibab
