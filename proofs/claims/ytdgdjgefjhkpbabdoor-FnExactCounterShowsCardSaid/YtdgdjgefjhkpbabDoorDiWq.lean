/-
  Plain facts on the model's way to count numbers without a digit.
-/
import Derived.Test.YtdgdjgefjhkpbabDoorDiWm
namespace Go.Proofs.YtdgdjgefjhkpbabDoor

/-- Nine to the power k. -/
def p9 (k : Nat) : Int := ((9 ^ k : Nat) : Int)
theorem p9_zero : p9 0 = 1 := rfl
theorem p9_succ (k : Nat) : p9 (k + 1) = p9 k * 9 := by unfold p9; rw [Nat.pow_succ]; push_cast; rfl
theorem p9_pos (k : Nat) : 1 ≤ p9 k := by unfold p9; have := Nat.pow_pos (a := 9) (n := k) (by omega); omega
theorem p9_13 {k : Nat} (h : k ≤ 13) : p9 k ≤ 2541865828329 := by
  have := Nat.pow_le_pow_right (n := 9) (by omega) h
  unfold p9
  have e : (9 : Nat) ^ 13 = 2541865828329 := by decide +kernel
  omega
/-- Numbers with fewer digits, and none at all of no digit. -/
def gz : Nat → Int
  | 0 => -1
  | k + 1 => gz k + p9 k
def pre (b : Int) (k : Nat) : Int := if b = 0 then gz k else p9 (k - 1) - 1
def al (b : Int) (k : Nat) : Int := if b = 0 then p9 k else 8 * p9 (k - 1)
theorem pre_one (b : Int) : pre b 1 = 0 := by unfold pre; split <;> rfl
theorem al_one (b : Int) : al b 1 = if b = 0 then 9 else 8 := by unfold al; split <;> rfl
theorem pre_succ (b : Int) {k : Nat} (h : 1 ≤ k) : pre b (k + 1) = pre b k + al b k ∧ al b (k + 1) = al b k * 9 := by
  obtain ⟨j, rfl⟩ : ∃ j, k = j + 1 := ⟨k - 1, by omega⟩
  unfold pre al
  by_cases hb : b = 0
  · simp only [if_pos hb]
    exact ⟨rfl, p9_succ _⟩
  · simp only [if_neg hb, Nat.add_sub_cancel]
    have := p9_succ j
    omega
theorem gz_bd (k : Nat) : -1 ≤ gz k ∧ gz k + 1 ≤ p9 k := by
  induction k with
  | zero => exact ⟨Int.le_refl _, by simp [gz, p9_zero]⟩
  | succ k ih => have := p9_succ k; have := p9_pos k; rw [gz]; omega
theorem pre_bd (b : Int) {k : Nat} (h1 : 1 ≤ k) (h : k ≤ 13) : 0 ≤ pre b k ∧ pre b k ≤ 2541865828329 ∧ 0 ≤ al b k ∧ al b k ≤ 2541865828329 := by
  have g := gz_bd k
  have p1 := p9_pos k
  have p2 := p9_13 h
  have p3 := p9_pos (k - 1)
  have e : p9 k = p9 (k - 1) * 9 := by
    obtain ⟨j, rfl⟩ : ∃ j, k = j + 1 := ⟨k - 1, by omega⟩
    exact p9_succ j
  have g0 : 0 ≤ gz k := by
    obtain ⟨j, rfl⟩ : ∃ j, k = j + 1 := ⟨k - 1, by omega⟩
    have := (gz_bd j).1
    have := p9_pos j
    rw [gz]; omega
  unfold pre al
  split <;> omega
/-- How many digits below d are counted at place i. -/
def ct (b : Int) (i : Nat) : Nat → Int
  | 0 => 0
  | d + 1 => ct b i d + (if (d : Int) ≠ b ∧ (0 < i ∨ 0 < d) then 1 else 0)
theorem ct_bd (b : Int) (i d : Nat) : 0 ≤ ct b i d ∧ ct b i d ≤ d := by
  induction d with
  | zero => simp [ct]
  | succ d ih => rw [ct]; split <;> omega
/-- .. in terms of what digits stand for. -/
theorem ct_st (b : Int) (hb : 0 ≤ b) (i d : Nat) : ct b i d = (if b = 0 then (if d = 0 then 0 else (d : Int) - 1) else if (i = 0 ∧ d ≠ 0) then (if b < (d : Int) then (d : Int) - 2 else (d : Int) - 1) else (if b < (d : Int) then (d : Int) - 1 else (d : Int))) := by
  induction d with
  | zero => simp [ct]; omega
  | succ d ih =>
    rw [ct, ih]
    by_cases h0 : b = 0
    · subst h0
      simp only [if_pos]
      by_cases hd : d = 0
      · subst hd; simp
      · rw [if_neg hd, if_pos (show ((d : Int) ≠ 0 ∧ (0 < i ∨ 0 < d)) by omega)]; simp
    · simp only [if_neg h0]
      by_cases hi : i = 0
      · subst hi
        by_cases hd : d = 0
        · subst hd
          simp
          omega
        · simp only [hd, ne_eq, not_false_eq_true, and_true, if_true, Nat.add_eq_zero_iff, false_and]
          by_cases h1 : b < (d : Int)
          · rw [if_pos h1, if_pos (show (¬ (d : Int) = b ∧ (0 < 0 ∨ 0 < d)) by omega), if_pos (by omega)]; omega
          · rw [if_neg h1]
            by_cases h2 : (d : Int) = b
            · rw [if_neg (show ¬ (¬ (d : Int) = b ∧ (0 < 0 ∨ 0 < d)) by omega), if_pos (by omega)]; omega
            · rw [if_pos (show (¬ (d : Int) = b ∧ (0 < 0 ∨ 0 < d)) by omega), if_neg (by omega)]; omega
      · simp only [hi, false_and, if_false]
        by_cases h1 : b < (d : Int)
        · rw [if_pos h1, if_pos (show ((d : Int) ≠ b ∧ (0 < i ∨ 0 < d)) by omega), if_pos (by omega)]; omega
        · rw [if_neg h1]
          by_cases h2 : (d : Int) = b
          · rw [if_neg (show ¬ ((d : Int) ≠ b ∧ (0 < i ∨ 0 < d)) by omega), if_pos (by omega)]; omega
          · rw [if_pos (show ((d : Int) ≠ b ∧ (0 < i ∨ 0 < d)) by omega), if_neg (by omega)]; omega
/-- What the count is ahead of what the first i of L digits stand for. -/
def kor (b : Int) (L i : Nat) : Int := if b = 0 then gz (L - i) else if i = 0 then p9 (L - 1) - 1 else -1
theorem kor_zero (b : Int) (L : Nat) : kor b L 0 = pre b L := by unfold kor pre; split <;> simp
theorem kor_last (b : Int) {L : Nat} (h : 1 ≤ L) : kor b L L = -1 := by unfold kor; rw [Nat.sub_self]; split <;> first | rfl | (rw [if_neg (by omega)])
/-- The tail behind a broken digit. -/
def tl (b : Int) : Nat → Int
  | 0 => 0
  | m + 1 => 9 * tl b m + st b 9
theorem tl_eq (b : Int) (hb : 0 ≤ b ∧ b ≤ 9) (m : Nat) : tl b m = if b = 0 then gz (m + 1) else p9 m - 1 := by
  induction m with
  | zero => unfold tl; split <;> rfl
  | succ m ih =>
    rw [tl, ih]
    unfold st
    by_cases h : b = 0
    · subst h
      simp only [if_pos]
      rw [if_neg (by omega)]
      have : ∀ m, 9 * gz m + 9 = gz (m + 1) := by
        intro m
        induction m with
        | zero => rfl
        | succ m ih2 => rw [gz, gz, ← ih2]; have := p9_succ m; rw [gz] at *; omega
      exact this (m + 1)
    · simp only [if_neg h]
      rw [if_pos (by omega)]
      have := p9_succ m
      omega
theorem tail_fold (b : Int) : ∀ (l : List UInt8) (c : Int), l.foldl (cwS b) (c, true) = (c * p9 l.length + tl b l.length, true) := by
  intro l
  induction l using snoc_ind with
  | h0 => intro c; simp [p9_zero, tl]
  | h1 l x ih =>
    intro c
    rw [List.foldl_append, ih]
    simp only [List.foldl_cons, List.foldl_nil, cwS, if_true, Bool.true_or, List.length_append, List.length_singleton, tl, p9_succ]
    congr 1
    rw [Int.mul_add, ← Int.mul_assoc, Int.mul_comm 9 c, Int.mul_assoc, Int.mul_comm 9 (p9 l.length)]
    omega
/-- One digit more, not a broken one. -/
theorem kor_step {b x c : Int} {L i : Nat} (hb : 0 ≤ b ∧ b ≤ 9) (hx : 0 ≤ x ∧ x ≤ 9) (hi : i < L) (hxb : x ≠ b) (h0 : i = 0 → 1 ≤ x) :
    c * p9 (L - i) + kor b L i + p9 (L - 1 - i) * ct b i x.toNat = (9 * c + st b x) * p9 (L - (i + 1)) + kor b L (i + 1) := by
  obtain ⟨m, hm⟩ : ∃ m, L - i = m + 1 := ⟨L - 1 - i, by omega⟩
  have e1 : L - 1 - i = m := by omega
  have e2 : L - (i + 1) = m := by omega
  rw [hm, e1, e2, p9_succ, Int.add_mul, ct_st b hb.1]
  have e3 : c * (p9 m * 9) = 9 * c * p9 m := by rw [Int.mul_comm (p9 m) 9, ← Int.mul_assoc, Int.mul_comm c 9]
  have e5 : ((x.toNat : Nat) : Int) = x := by omega
  rw [e3, e5]
  obtain ⟨P, hP⟩ : ∃ P, P = p9 m := ⟨_, rfl⟩
  rw [← hP]
  unfold kor st
  by_cases hz : b = 0
  · subst hz
    simp only [if_pos]
    rw [hm, e2, gz, ← hP, if_neg (show ¬ ((0 : Int) < 0 ∧ (0 : Int) ≤ x) by omega), if_neg (by omega), Int.mul_sub, Int.mul_one, Int.mul_comm P x]
    omega
  · simp only [if_neg hz]
    rw [if_neg (show ¬ i + 1 = 0 by omega)]
    by_cases hi0 : i = 0
    · subst hi0
      have := h0 rfl
      rw [if_pos rfl, if_pos (show (0 = 0 ∧ x.toNat ≠ 0) by omega)]
      have e6 : p9 (L - 1) = P := by rw [hP]; congr 1
      rw [e6]
      by_cases h1 : b < x
      · rw [if_pos h1, if_pos (by omega), Int.mul_sub, Int.sub_mul, Int.mul_comm P x]; omega
      · rw [if_neg h1, if_neg (by omega), Int.mul_sub, Int.mul_comm P x]; omega
    · rw [if_neg hi0, if_neg (show ¬ (i = 0 ∧ x.toNat ≠ 0) by omega)]
      by_cases h1 : b < x
      · rw [if_pos h1, if_pos (by omega), Int.mul_sub, Int.sub_mul, Int.mul_comm P x]; omega
      · rw [if_neg h1, if_neg (by omega), Int.mul_comm P x]; omega
/-- A broken digit. -/
theorem kor_broken {b c : Int} {L i : Nat} (hb : 0 ≤ b ∧ b ≤ 9) (hi : i < L) (h0 : i = 0 → c = 0) :
    c * p9 (L - i) + kor b L i + p9 (L - 1 - i) * ct b i b.toNat = (9 * c + st b b) * p9 (L - 1 - i) + tl b (L - 1 - i) := by
  obtain ⟨m, hm⟩ : ∃ m, L - i = m + 1 := ⟨L - 1 - i, by omega⟩
  have e1 : L - 1 - i = m := by omega
  rw [hm, e1, p9_succ, Int.add_mul, ct_st b hb.1, tl_eq b hb]
  have e3 : c * (p9 m * 9) = 9 * c * p9 m := by rw [Int.mul_comm (p9 m) 9, ← Int.mul_assoc, Int.mul_comm c 9]
  have e5 : ((b.toNat : Nat) : Int) = b := by omega
  rw [e3, e5]
  obtain ⟨P, hP⟩ : ∃ P, P = p9 m := ⟨_, rfl⟩
  rw [← hP]
  unfold kor st
  by_cases hz : b = 0
  · subst hz
    simp only [if_pos]
    rw [hm, if_neg (show ¬ ((0 : Int) < 0 ∧ (0 : Int) ≤ 0) by omega)]
    simp
  · simp only [if_neg hz]
    rw [if_pos (show (0 < b ∧ b ≤ b) by omega)]
    by_cases hi0 : i = 0
    · subst hi0
      rw [if_pos rfl, if_pos (show (0 = 0 ∧ b.toNat ≠ 0) by omega), if_neg (show ¬ b < b by omega)]
      have e6 : p9 (L - 1) = P := by rw [hP]; congr 1
      rw [e6, Int.mul_sub, Int.sub_mul, Int.mul_comm P b]; omega
    · rw [if_neg hi0, if_neg (show ¬ (i = 0 ∧ b.toNat ≠ 0) by omega), if_neg (show ¬ b < b by omega), Int.sub_mul, Int.mul_comm P b]
      omega
theorem dec_first (n : Nat) : 1 ≤ n → 1 ≤ dv ((Lib.decDigits n).getD 0 48) := by
  induction n using Nat.strongRecOn with
  | _ n ih =>
    intro h
    by_cases h10 : n < 10
    · rw [dec_small h10]
      simp [dv_dc (show n ≤ 9 by omega)]
      omega
    · rw [dec_big h10]
      have h1 := ih (n / 10) (by omega) (by omega)
      have h2 := dec_pos (n / 10)
      rw [List.getD_eq_getElem?_getD, List.getElem?_append_left (by omega), ← List.getD_eq_getElem?_getD]
      exact h1
/-- The model's count after i digits. -/
def JW (b n : Int) (i : Nat) (C : Int) : Prop := ∃ c, cwf b ((Lib.decDigits n.toNat).take i) = (c, false) ∧ (n ≠ 0 → C = c * p9 ((Lib.decDigits n.toNat).length - i) + kor b (Lib.decDigits n.toNat).length i) ∧ (n = 0 → C = 0)
theorem JW.start (b n : Int) : JW b n 0 (pre b (Lib.decDigits n.toNat).length) := by
  refine ⟨0, rfl, fun _ => ?_, fun h => ?_⟩
  · rw [kor_zero, Int.zero_mul, Int.zero_add]
  · subst h
    rw [show (Lib.decDigits (Int.toNat 0)).length = 1 by rw [dec_small (by decide)]; rfl]
    exact pre_one b
theorem take_dv {l : List UInt8} {i : Nat} (hi : i < l.length) : l.take (i + 1) = l.take i ++ [l.getD i 48] := by
  rw [List.take_succ_eq_append_getElem hi, List.getD_eq_getElem?_getD, List.getElem?_eq_getElem hi]; rfl
theorem JW.step {b n : Int} {i : Nat} {C : Int} (hb : 0 ≤ b ∧ b ≤ 9) (h0 : 0 ≤ n) (hi : i < (Lib.decDigits n.toNat).length) (h : JW b n i C) (hx : 0 ≤ dv ((Lib.decDigits n.toNat).getD i 48) ∧ dv ((Lib.decDigits n.toNat).getD i 48) ≤ 9) (hxb : dv ((Lib.decDigits n.toNat).getD i 48) ≠ b) :
    JW b n (i + 1) (C + p9 ((Lib.decDigits n.toNat).length - 1 - i) * ct b i (dv ((Lib.decDigits n.toNat).getD i 48)).toNat) := by
  obtain ⟨c, h1, h2, h3⟩ := h
  refine ⟨9 * c + st b (dv ((Lib.decDigits n.toNat).getD i 48)), ?_, fun hn => ?_, fun hn => ?_⟩
  · rw [take_dv hi, cwf_snoc, h1]
    simp only [cwS, Bool.false_eq_true, if_false, Bool.false_or, decide_eq_false hxb]
  · rw [h2 hn]
    exact kor_step hb hx hi hxb (fun e => by rw [e]; exact dec_first _ (by omega))
  · rw [h3 hn]
    subst hn
    have hl : Lib.decDigits (Int.toNat 0) = [48] := dec_small (by decide)
    rw [hl] at hi ⊢
    simp only [List.length_singleton] at hi
    have : i = 0 := by omega
    subst this
    simp [dv, ct]
theorem JW.broken {b n : Int} {i : Nat} {C : Int} (hb : 0 ≤ b ∧ b ≤ 9) (hi : i < (Lib.decDigits n.toNat).length) (h : JW b n i C) (hxb : dv ((Lib.decDigits n.toNat).getD i 48) = b) :
    C + p9 ((Lib.decDigits n.toNat).length - 1 - i) * ct b i b.toNat = cw b n := by
  obtain ⟨c, h1, h2, h3⟩ := h
  have hw : cw b n = (9 * c + st b b) * p9 ((Lib.decDigits n.toNat).length - 1 - i) + tl b ((Lib.decDigits n.toNat).length - 1 - i) := by
    unfold cw cwn
    conv => lhs; rw [← List.take_append_drop (i + 1) (Lib.decDigits n.toNat)]
    unfold cwf
    rw [List.foldl_append]
    have e : List.foldl (cwS b) (0, false) (List.take (i + 1) (Lib.decDigits n.toNat)) = (9 * c + st b b, true) := by
      have := cwf_snoc b ((Lib.decDigits n.toNat).take i) ((Lib.decDigits n.toNat).getD i 48)
      rw [← take_dv hi, h1] at this
      unfold cwf at this
      rw [this]
      simp only [cwS, Bool.false_eq_true, if_false, Bool.false_or, hxb, decide_true]
    rw [e, tail_fold, List.length_drop, show (Lib.decDigits n.toNat).length - (i + 1) = (Lib.decDigits n.toNat).length - 1 - i by omega]
  by_cases hn : n = 0
  · subst hn
    have hl : Lib.decDigits (Int.toNat 0) = [48] := dec_small (by decide)
    rw [hw, h3 rfl]
    rw [hl] at hi hxb h1 ⊢
    simp only [List.length_singleton] at hi
    have : i = 0 := by omega
    subst this
    have hb0 : b = 0 := by rw [← hxb]; rfl
    subst hb0
    have hc : c = 0 := by
      have := congrArg Prod.fst h1
      simp [cwf] at this
      exact this.symm
    subst hc
    rfl
  · rw [hw, h2 hn]
    refine kor_broken hb hi (fun e => ?_)
    subst e
    have := congrArg Prod.fst h1
    simp [cwf] at this
    exact this.symm
theorem JW.done {b n : Int} {C : Int} (h : JW b n (Lib.decDigits n.toNat).length C) : (n ≠ 0 → C + 1 = cw b n) ∧ (n = 0 → 0 = cw b n) := by
  obtain ⟨c, h1, h2, h3⟩ := h
  rw [List.take_length] at h1
  refine ⟨fun hn => ?_, fun hn => ?_⟩
  · rw [h2 hn, kor_last b (dec_pos _), Nat.sub_self, p9_zero]
    unfold cw cwn
    rw [h1]
    omega
  · subst hn
    unfold cw
    rw [(cwn_small b (show Int.toNat 0 < 10 by decide)).1]
    unfold st
    split
    · rename_i h4; have : ((Int.toNat 0 : Nat) : Int) = 0 := rfl; omega
    · rfl
end Go.Proofs.YtdgdjgefjhkpbabDoor
