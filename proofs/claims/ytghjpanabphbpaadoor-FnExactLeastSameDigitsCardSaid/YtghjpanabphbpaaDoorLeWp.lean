/-
  Least numbers: digits that are taken out of a product, the greatest first. Nothing of the program.
-/
import Derived.Test.YtghjpanabphbpaaDoorMath
namespace Go.Proofs.YtghjpanabphbpaaDoor

/-- The digit, what is left, and what was taken, the last one first. -/
structure PSt where
  d : Nat
  p : Nat
  l : List Nat
def pstep (s : PSt) : PSt := if s.d ≤ 1 then s else if s.p % s.d = 0 then ⟨s.d, s.p / s.d, s.d :: s.l⟩ else ⟨s.d - 1, s.p, s.l⟩
def pseq (p0 : Nat) : Nat → PSt
  | 0 => ⟨9, p0, []⟩
  | k + 1 => pstep (pseq p0 k)
theorem pseq_take {p0 k : Nat} (h1 : 1 < (pseq p0 k).d) (h2 : (pseq p0 k).p % (pseq p0 k).d = 0) : pseq p0 (k + 1) = ⟨(pseq p0 k).d, (pseq p0 k).p / (pseq p0 k).d, (pseq p0 k).d :: (pseq p0 k).l⟩ := by
  rw [pseq, pstep, if_neg (by omega), if_pos h2]
theorem pseq_next {p0 k : Nat} (h1 : 1 < (pseq p0 k).d) (h2 : ¬ (pseq p0 k).p % (pseq p0 k).d = 0) : pseq p0 (k + 1) = ⟨(pseq p0 k).d - 1, (pseq p0 k).p, (pseq p0 k).l⟩ := by
  rw [pseq, pstep, if_neg (by omega), if_neg h2]
theorem pseq_stop {p0 k : Nat} (h1 : (pseq p0 k).d ≤ 1) (j : Nat) : pseq p0 (k + j) = pseq p0 k := by
  induction j with
  | zero => rfl
  | succ j ih => rw [← Nat.add_assoc, pseq, ih, pstep, if_pos h1]
theorem pseq_uniq {p0 k j : Nat} (h1 : (pseq p0 k).d ≤ 1) (h2 : (pseq p0 j).d ≤ 1) : pseq p0 k = pseq p0 j := by
  rcases Nat.le_total k j with h | h
  · obtain ⟨m, rfl⟩ : ∃ m, j = k + m := ⟨j - k, by omega⟩
    exact (pseq_stop h1 m).symm
  · obtain ⟨m, rfl⟩ : ∃ m, k = j + m := ⟨k - j, by omega⟩
    exact pseq_stop h2 m
/-- How many digits of at least 5, and of less, were taken; what else is known. -/
def pK (d p b : Nat) : Prop :=
  (d = 9 ∧ b = 0) ∨ (d = 8 ∧ b = 0 ∧ p % 9 ≠ 0) ∨ (d = 7 ∧ b = 0 ∧ p % 9 ≠ 0 ∧ p % 8 ≠ 0) ∨ (d = 6 ∧ b = 0 ∧ p % 9 ≠ 0 ∧ p % 8 ≠ 0) ∨ (d = 5 ∧ b = 0 ∧ p % 9 ≠ 0 ∧ p % 8 ≠ 0) ∨
  (d = 4 ∧ p % 9 ≠ 0 ∧ ((b = 0 ∧ p % 8 ≠ 0) ∨ (b = 1 ∧ p % 2 ≠ 0))) ∨ (d = 3 ∧ p % 4 ≠ 0 ∧ ((b ≤ 1 ∧ p % 9 ≠ 0) ∨ (b ≤ 2 ∧ p % 3 ≠ 0))) ∨ (d = 2 ∧ ((b ≤ 2 ∧ p % 4 ≠ 0) ∨ (b ≤ 3 ∧ p % 2 ≠ 0))) ∨ (d = 1 ∧ b ≤ 3)
def pInv (s : PSt) : Prop := 1 ≤ s.p ∧ (∀ x ∈ s.l, 2 ≤ x ∧ x ≤ 9) ∧ ∃ a b, s.l.length = a + b ∧ s.p * 5 ^ a * 2 ^ b ≤ 1000000000000 ∧ pK s.d s.p b
theorem pK_take {d p q b : Nat} (h : pK d p b) (h1 : 1 < d) (e : p = d * q) (h5 : d < 5) : pK d q (b + 1) := by
  unfold pK at *
  have hd : d = 4 ∨ d = 3 ∨ d = 2 := by omega
  rcases hd with rfl | rfl | rfl <;> subst e <;> simp at h ⊢ <;> omega
theorem pK_take5 {d p q b : Nat} (h : pK d p b) (e : p = d * q) (h5 : 5 ≤ d) : pK d q b := by
  unfold pK at *
  have hd : d = 9 ∨ d = 8 ∨ d = 7 ∨ d = 6 ∨ d = 5 := by omega
  rcases hd with rfl | rfl | rfl | rfl | rfl <;> subst e <;> simp at h ⊢ <;> omega
theorem pK_next {d p b : Nat} (h : pK d p b) (h1 : 1 < d) (e : ¬ p % d = 0) : pK (d - 1) p b := by
  unfold pK at *
  have hd : d = 9 ∨ d = 8 ∨ d = 7 ∨ d = 6 ∨ d = 5 ∨ d = 4 ∨ d = 3 ∨ d = 2 := by omega
  rcases hd with rfl | rfl | rfl | rfl | rfl | rfl | rfl | rfl <;> simp at h ⊢ <;> omega
theorem pK_d {d p b : Nat} (h : pK d p b) : 1 ≤ d ∧ d ≤ 9 := by unfold pK at h; omega
theorem pInv_step {s : PSt} (h : pInv s) : pInv (pstep s) := by
  obtain ⟨h1, h2, a, b, h3, h4, h5⟩ := h
  have hd := pK_d h5
  unfold pstep
  by_cases c1 : s.d ≤ 1
  · rw [if_pos c1]; exact ⟨h1, h2, a, b, h3, h4, h5⟩
  · rw [if_neg c1]
    by_cases c2 : s.p % s.d = 0
    · rw [if_pos c2]
      have e : s.p = s.d * (s.p / s.d) := by have := Nat.div_add_mod s.p s.d; omega
      obtain ⟨q, hq⟩ : ∃ q, s.p / s.d = q := ⟨_, rfl⟩
      rw [hq] at e
      have hq1 : 1 ≤ q := by
        rcases Nat.eq_zero_or_pos q with h | h
        · rw [h] at e; omega
        · exact h
      refine ⟨by show 1 ≤ s.p / s.d; omega, ?_, ?_⟩
      · intro x hx
        rcases List.mem_cons.1 hx with h | h
        · subst h; omega
        · exact h2 x h
      · show ∃ a b, (s.d :: s.l).length = a + b ∧ s.p / s.d * 5 ^ a * 2 ^ b ≤ _ ∧ pK s.d (s.p / s.d) b
        rw [hq]
        by_cases c5 : s.d < 5
        · refine ⟨a, b + 1, by simp; omega, ?_, pK_take h5 (by omega) e c5⟩
          refine Nat.le_trans ?_ h4
          rw [Nat.pow_succ, Nat.mul_comm (2 ^ b) 2, ← Nat.mul_assoc]
          refine Nat.mul_le_mul_right _ ?_
          rw [Nat.mul_assoc, Nat.mul_comm (5 ^ a) 2, ← Nat.mul_assoc]
          refine Nat.mul_le_mul_right _ ?_
          rw [e, Nat.mul_comm]
          exact Nat.mul_le_mul_right _ (by omega)
        · refine ⟨a + 1, b, by simp; omega, ?_, pK_take5 h5 e (by omega)⟩
          refine Nat.le_trans ?_ h4
          refine Nat.mul_le_mul_right _ ?_
          rw [Nat.pow_succ, Nat.mul_comm (5 ^ a) 5, ← Nat.mul_assoc]
          refine Nat.mul_le_mul_right _ ?_
          rw [e, Nat.mul_comm]
          exact Nat.mul_le_mul_right _ (by omega)
    · rw [if_neg c2]
      exact ⟨h1, h2, a, b, h3, h4, pK_next h5 (by omega) c2⟩
theorem pInv_all {p0 : Nat} (h1 : 1 ≤ p0) (h2 : p0 ≤ 1000000000000) (k : Nat) : pInv (pseq p0 k) := by
  induction k with
  | zero => exact ⟨h1, (fun x hx => by cases hx), 0, 0, rfl, (by simpa [pseq] using h2), Or.inl ⟨rfl, rfl⟩⟩
  | succ k ih => exact pInv_step ih
theorem pInv_len {s : PSt} (h : pInv s) : s.l.length ≤ 18 ∧ s.p ≤ 1000000000000 ∧ 1 ≤ s.d ∧ s.d ≤ 9 := by
  obtain ⟨h1, h2, a, b, h3, h4, h5⟩ := h
  have hb : b ≤ 3 := by unfold pK at h5; omega
  have hd := pK_d h5
  have p2 : 1 ≤ 2 ^ b := Nat.pow_pos (by omega)
  have p5 : 1 ≤ 5 ^ a := Nat.pow_pos (by omega)
  have hp : s.p ≤ s.p * 5 ^ a * 2 ^ b := by
    rw [Nat.mul_assoc]
    exact Nat.le_mul_of_pos_right _ (Nat.mul_pos p5 p2)
  have hab : 5 ^ a * 2 ^ b ≤ 1000000000000 := by
    refine Nat.le_trans ?_ h4
    rw [Nat.mul_assoc]
    exact Nat.le_mul_of_pos_left _ h1
  refine ⟨?_, by omega, hd.1, hd.2⟩
  rcases Nat.lt_or_ge 18 (a + b) with c | c
  · exfalso
    have ha : a ≤ 17 := by
      rcases Nat.lt_or_ge 17 a with g | g
      · have e5 : 5 ^ 18 ≤ 5 ^ a := Nat.pow_le_pow_right (by omega) g
        have : 5 ^ a ≤ 5 ^ a * 2 ^ b := Nat.le_mul_of_pos_right _ p2
        have : (5 : Nat) ^ 18 = 3814697265625 := by decide +kernel
        omega
      · exact g
    have hc : (a = 17 ∧ b = 2) ∨ (a = 17 ∧ b = 3) ∨ (a = 16 ∧ b = 3) := by omega
    rcases hc with ⟨rfl, rfl⟩ | ⟨rfl, rfl⟩ | ⟨rfl, rfl⟩ <;> revert hab <;> decide +kernel
  · omega
/-- The number with some digits. -/
def nl (l : List Nat) : Nat := l.foldl (fun n d => n * 10 + d) 0
theorem nl_from (l : List Nat) : ∀ a, l.foldl (fun n d => n * 10 + d) a = a * 10 ^ l.length + nl l := by
  induction l with
  | nil => intro a; simp [nl]
  | cons d l ih =>
    intro a
    unfold nl
    rw [List.foldl_cons, List.foldl_cons, ih, ih (0 * 10 + d), List.length_cons, Nat.pow_succ, Nat.add_mul, Nat.zero_mul, Nat.zero_add, Nat.mul_assoc, Nat.mul_comm 10]
    omega
theorem nl_cons (d : Nat) (l : List Nat) : nl (d :: l) = d * 10 ^ l.length + nl l := by
  conv => lhs; unfold nl
  rw [List.foldl_cons, nl_from]; simp
theorem nl_snoc (l : List Nat) (d : Nat) : nl (l ++ [d]) = nl l * 10 + d := by simp [nl, List.foldl_append]
theorem nl_lt (l : List Nat) (h : ∀ x ∈ l, x ≤ 9) : nl l < 10 ^ l.length := by
  induction l with
  | nil => simp [nl]
  | cons d l ih =>
    have h1 := ih (fun x hx => h x (List.mem_cons_of_mem _ hx))
    have h2 : d * 10 ^ l.length ≤ 9 * 10 ^ l.length := Nat.mul_le_mul_right _ (h d (List.mem_cons_self))
    rw [nl_cons, List.length_cons, Nat.pow_succ]; omega
theorem nl_big {l : List Nat} (h : ∀ x ∈ l, 2 ≤ x) (hl : 12 < l.length) : 1000000000000 < nl l := by
  cases l with
  | nil => simp at hl
  | cons d l =>
    have h2 := h d (List.mem_cons_self)
    have h3 : 2 * 10 ^ l.length ≤ d * 10 ^ l.length := Nat.mul_le_mul_right _ h2
    have h4 : 10 ^ 12 ≤ 10 ^ l.length := Nat.pow_le_pow_right (by omega) (by rw [List.length_cons] at hl; omega)
    rw [nl_cons]; omega
end Go.Proofs.YtghjpanabphbpaaDoor
