/-
  Plain facts on broken counters; nothing of the program.
-/
import Derived.Test.YtdgdjgefjhkpbabDoorDiDm
namespace Go.Proofs.YtdgdjgefjhkpbabDoor

/-- What a digit stands for. -/
def st (b x : Int) : Int := if 0 < b ∧ b ≤ x then x - 1 else x
theorem st_bd {b x : Int} (h : 0 ≤ x ∧ x ≤ 9) : 0 ≤ st b x ∧ st b x ≤ 9 := by unfold st; split <;> omega
/-- What is counted after some digits, and whether one of them is broken. -/
def cwS (b : Int) (p : Int × Bool) (c : UInt8) : Int × Bool := (9 * p.1 + st b (if p.2 = true then 9 else dv c), p.2 || decide (dv c = b))
def cwf (b : Int) (l : List UInt8) : Int × Bool := l.foldl (cwS b) (0, false)
theorem cwf_snoc (b : Int) (l : List UInt8) (c : UInt8) : cwf b (l ++ [c]) = cwS b (cwf b l) c := by simp [cwf, List.foldl_append]
def cwn (b : Int) (n : Nat) : Int := (cwf b (Lib.decDigits n)).1
def hsn (b : Int) (n : Nat) : Bool := (cwf b (Lib.decDigits n)).2
theorem cwn_small (b : Int) {n : Nat} (h : n < 10) : cwn b n = st b n ∧ hsn b n = decide ((n : Int) = b) := by
  unfold cwn hsn
  rw [dec_small h, show [dc n] = [] ++ [dc n] from rfl, cwf_snoc]
  simp [cwf, cwS, dv_dc (show n ≤ 9 by omega)]
theorem cwn_big (b : Int) {n : Nat} (h : ¬ n < 10) : cwn b n = 9 * cwn b (n / 10) + st b (if hsn b (n / 10) = true then 9 else ((n % 10 : Nat) : Int)) ∧ hsn b n = (hsn b (n / 10) || decide (((n % 10 : Nat) : Int) = b)) := by
  unfold cwn hsn
  rw [dec_big h, cwf_snoc]
  simp [cwS, dv_dc (show n % 10 ≤ 9 by omega)]
/-- .. with 0 as no digit at all. -/
def cwA (b : Int) (q : Nat) : Int := if q = 0 then 0 else cwn b q
def hsA (b : Int) (q : Nat) : Bool := if q = 0 then false else hsn b q
theorem A_zero (b : Int) {q : Nat} (h : q = 0) : cwA b q = 0 ∧ hsA b q = false := by unfold cwA hsA; rw [if_pos h, if_pos h]; exact ⟨rfl, rfl⟩
theorem A_pos (b : Int) {q : Nat} (h : q ≠ 0) : cwA b q = cwn b q ∧ hsA b q = hsn b q := by unfold cwA hsA; rw [if_neg h, if_neg h]; exact ⟨rfl, rfl⟩
theorem cwn_all (b : Int) (n : Nat) : cwn b n = 9 * cwA b (n / 10) + st b (if hsA b (n / 10) = true then 9 else ((n % 10 : Nat) : Int)) ∧ hsn b n = (hsA b (n / 10) || decide (((n % 10 : Nat) : Int) = b)) := by
  by_cases h : n < 10
  · have := cwn_small b h
    rw [(A_zero b (show n / 10 = 0 by omega)).1, (A_zero b (show n / 10 = 0 by omega)).2, this.1, this.2, show n % 10 = n by omega]
    simp
  · have := cwn_big b h
    rw [(A_pos b (show n / 10 ≠ 0 by omega)).1, (A_pos b (show n / 10 ≠ 0 by omega)).2]
    exact this
theorem cwn_step {b : Int} (hb : 0 ≤ b ∧ b ≤ 9) (n : Nat) : cwn b (n + 1) = cwn b n + (if hsn b (n + 1) = true then 0 else 1) := by
  induction n using Nat.strongRecOn with
  | _ n ih =>
    have hA : ∀ q, q ≤ n / 10 → q + 1 ≤ n → cwA b (q + 1) = cwA b q + (if hsA b (q + 1) = true then 0 else 1) := by
      intro q _ h
      by_cases hq : q = 0
      · subst hq
        have := cwn_small b (show 1 < 10 by omega)
        rw [(A_pos b (show 0 + 1 ≠ 0 by omega)).1, (A_pos b (show 0 + 1 ≠ 0 by omega)).2, (A_zero b (show 0 = 0 from rfl)).1, show 0 + 1 = 1 from rfl, this.1, this.2]
        unfold st
        by_cases h1 : b = 1
        · subst h1; simp
        · rw [if_neg (show ¬ (decide (((1 : Nat) : Int) = b) = true) by rw [decide_eq_true_eq]; omega), if_neg (by omega)]
          omega
      · rw [(A_pos b (show q + 1 ≠ 0 by omega)).1, (A_pos b (show q + 1 ≠ 0 by omega)).2, (A_pos b hq).1]
        exact ih q (by omega)
    obtain ⟨e1, e2⟩ := cwn_all b n
    obtain ⟨f1, f2⟩ := cwn_all b (n + 1)
    by_cases hr : n % 10 < 9
    · have d1 : (n + 1) / 10 = n / 10 := by omega
      have d2 : (n + 1) % 10 = n % 10 + 1 := by omega
      rw [d1, d2] at f1 f2
      rw [f1, e1, f2]
      cases hh : hsA b (n / 10) with
      | true => simp
      | false =>
        simp only [Bool.false_or, decide_eq_true_eq, Bool.false_eq_true, if_false]
        unfold st
        by_cases hx : ((n % 10 + 1 : Nat) : Int) = b
        · rw [if_pos hx]; split <;> split <;> omega
        · rw [if_neg hx]; split <;> split <;> omega
    · have d1 : (n + 1) / 10 = n / 10 + 1 := by omega
      have d2 : (n + 1) % 10 = 0 := by omega
      have d3 : n % 10 = 9 := by omega
      rw [d1, d2] at f1 f2
      rw [d3] at e1
      have hq := hA (n / 10) (by omega) (by omega)
      rw [f1, e1, f2, hq]
      have e9 : (if hsA b (n / 10) = true then (9 : Int) else ((9 : Nat) : Int)) = 9 := by split <;> rfl
      rw [e9]
      cases hh : hsA b (n / 10 + 1) with
      | true => simp
      | false =>
        simp only [Bool.false_or, decide_eq_true_eq, Bool.false_eq_true, if_false]
        unfold st
        by_cases hx : ((0 : Nat) : Int) = b
        · rw [if_pos hx]; split <;> split <;> omega
        · rw [if_neg hx]; split <;> split <;> omega
/-- For numbers. -/
def cw (b n : Int) : Int := cwn b n.toNat
def hs (b n : Int) : Bool := hsn b n.toNat
theorem cw_step {b n : Int} (hb : 0 ≤ b ∧ b ≤ 9) (h0 : 0 ≤ n) : cw b (n + 1) = cw b n + (if hs b (n + 1) = true then 0 else 1) := by
  unfold cw hs
  rw [show (n + 1).toNat = n.toNat + 1 by omega]
  exact cwn_step hb n.toNat
theorem cw_mono {b x y : Int} (hb : 0 ≤ b ∧ b ≤ 9) (hx : 0 ≤ x) (h : x ≤ y) : cw b x ≤ cw b y := mono_le (f := fun n => cw b n) (fun n hn => by have := cw_step hb hn; show cw b n ≤ cw b (n + 1); rw [this]; split <;> omega) hx h
theorem cwf_bd (b : Int) (l : List UInt8) : digB l = true → 0 ≤ (cwf b l).1 ∧ (cwf b l).1 + 1 ≤ 10 ^ l.length := by
  induction l using snoc_ind with
  | h0 => intro _; simp [cwf]
  | h1 l c ih =>
    intro h
    rw [digB_snoc] at h
    simp only [Bool.and_eq_true] at h
    have h1 := ih h.1
    have h2 := dv_bd h.2
    have h3 : 0 ≤ st b (if (cwf b l).2 = true then 9 else dv c) ∧ st b (if (cwf b l).2 = true then 9 else dv c) ≤ 9 := st_bd (by split <;> omega)
    rw [cwf_snoc, List.length_append, List.length_singleton, Int.pow_succ]
    simp only [cwS]
    omega
theorem cwf_13 (b : Int) (l : List UInt8) (h : digB l = true) (hl : l.length ≤ 13) : 0 ≤ (cwf b l).1 ∧ (cwf b l).1 ≤ 10000000000000 := by
  have h1 := cwf_bd b l h
  have hp : (10 : Nat) ^ l.length ≤ 10 ^ 13 := Nat.pow_le_pow_right (by omega) hl
  have : (10 : Int) ^ l.length ≤ 10 ^ 13 := by exact_mod_cast hp
  omega
theorem hs_dct (b : Int) (hb : 0 ≤ b ∧ b ≤ 9) (l : List UInt8) : (cwf b l).2 = decide (0 < dct b.toNat l) := by
  induction l using snoc_ind with
  | h0 => simp [cwf, dct]
  | h1 l c ih =>
    rw [cwf_snoc, dct_snoc]
    simp only [cwS]
    rw [ih]
    have := (dct_bd b.toNat l).1
    by_cases h : dv c = b
    · rw [if_pos (by omega), decide_eq_true h, Bool.or_true]
      symm; rw [decide_eq_true_eq]; omega
    · rw [if_neg (by omega), decide_eq_false h, Bool.or_false]
theorem cw_top (b : Int) (hb : 0 ≤ b ∧ b ≤ 9) : 1000000 ≤ cw b 1000000000000 := by
  obtain ⟨k, hk⟩ : ∃ k : Nat, b = (k : Int) := ⟨b.toNat, by omega⟩
  subst hk
  rcases (by omega : k = 0 ∨ k = 1 ∨ k = 2 ∨ k = 3 ∨ k = 4 ∨ k = 5 ∨ k = 6 ∨ k = 7 ∨ k = 8 ∨ k = 9) with rfl | rfl | rfl | rfl | rfl | rfl | rfl | rfl | rfl | rfl
  all_goals decide +kernel
end Go.Proofs.YtdgdjgefjhkpbabDoor
