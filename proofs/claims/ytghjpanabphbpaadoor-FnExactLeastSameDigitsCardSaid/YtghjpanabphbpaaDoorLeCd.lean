/-
  Least numbers: how many numbers of k digits have a sum. Nothing of the program.
-/
import Derived.Test.YtghjpanabphbpaaDoorVMath
namespace Go.Proofs.YtghjpanabphbpaaDoor

theorem V_pos (n : Nat) : ∀ s : Int, 0 ≤ s → s ≤ 9 * (n : Int) → 0 < V n s := by
  induction n with
  | zero => intro s h0 h1; unfold V; rw [if_pos (by omega)]; omega
  | succ n ih =>
    intro s h0 h1
    have b : ∀ k : Int, 0 ≤ V n (s - k) := fun k => (V_bd n (s - k)).1
    have b0 : 0 ≤ V n s := (V_bd n s).1
    rw [V_succ]; unfold ten
    have b1 := b 1; have b2 := b 2; have b3 := b 3; have b4 := b 4; have b5 := b 5; have b6 := b 6; have b7 := b 7; have b8 := b 8; have b9 := b 9
    by_cases h : s ≤ 9 * (n : Int)
    · have := ih s h0 h; omega
    · by_cases h2 : 9 ≤ s
      · have := ih (s - 9) (by omega) (by omega); omega
      · have hn : n = 0 := by omega
        subst hn
        have c : s = 1 ∨ s = 2 ∨ s = 3 ∨ s = 4 ∨ s = 5 ∨ s = 6 ∨ s = 7 ∨ s = 8 := by omega
        rcases c with c | c | c | c | c | c | c | c <;> subst c <;> decide
theorem V_0 (s : Int) : V 0 s = if s = 0 then 1 else 0 := rfl
/-- How many texts of k digits that begin as numbers of d digits do have a sum. -/
def cd (d k : Nat) (s : Int) : Int := if k = 0 then V 0 s else if d = 1 then V k s else V k s - V (k - 1) s
theorem cd_0 (d : Nat) (s : Int) : cd d 0 s = V 0 s := by rw [cd, if_pos rfl]
theorem V_up (n : Nat) (s : Int) : V n s ≤ V (n + 1) s := by
  have b : ∀ k : Int, 0 ≤ V n (s - k) := fun k => (V_bd n (s - k)).1
  have b1 := b 1; have b2 := b 2; have b3 := b 3; have b4 := b 4; have b5 := b 5; have b6 := b 6; have b7 := b 7; have b8 := b 8; have b9 := b 9
  rw [V_succ]; unfold ten; omega
theorem cd_bd {k : Nat} (hk : k ≤ 12) (d : Nat) (s : Int) : 0 ≤ cd d k s ∧ cd d k s ≤ 1000000000000 := by
  unfold cd
  split
  · exact V_12 (by omega) s
  · rename_i h0
    obtain ⟨j, rfl⟩ : ∃ j, k = j + 1 := ⟨k - 1, by omega⟩
    have h1 := V_12 hk s
    split
    · exact h1
    · have h2 := V_bd j s
      have h3 := V_up j s
      rw [Nat.add_sub_cancel]; omega
theorem cd_low (d k : Nat) (s : Int) (h : s < 0) : cd d k s = 0 := by
  unfold cd
  rw [V_low 0 s h, V_low k s h, V_low (k - 1) s h]
  repeat' split
  all_goals rfl
theorem ten_sub (f g : Int → Int) (s : Int) : ten (fun x => f x - g x) s = ten f s - ten g s := by simp only [ten]; omega
/-- One digit more; the first one is no 0 unless it is all. -/
theorem cd_up (d k : Nat) (s : Int) : cd d (k + 1) s = ten (cd d k) s - (if k > 0 ∨ d = 1 then 0 else cd d k s) := by
  by_cases hk : k = 0
  · subst hk
    rw [ten_congr (cd_0 d), ← V_succ, cd_0]
    unfold cd
    rw [if_neg (by omega)]
    by_cases hd : d = 1
    · rw [if_pos hd, if_pos (Or.inr hd)]; simp
    · rw [if_neg hd, if_neg (by omega)]
  · obtain ⟨j, rfl⟩ : ∃ j, k = j + 1 := ⟨k - 1, by omega⟩
    rw [if_pos (Or.inl (by omega))]
    by_cases hd : d = 1
    · have e : ∀ x, cd d (j + 1) x = V (j + 1) x := fun x => by rw [cd, if_neg (by omega), if_pos hd]
      rw [ten_congr e, ← V_succ, cd, if_neg (by omega), if_pos hd]; omega
    · have e : ∀ x, cd d (j + 1) x = V (j + 1) x - V j x := fun x => by rw [cd, if_neg (by omega), if_neg hd]; rfl
      rw [ten_congr e, ten_sub, ← V_succ, ← V_succ, cd, if_neg (by omega), if_neg hd]
      rw [Nat.add_sub_cancel]; omega
/-- What the program counts. -/
def cN (d : Nat) (s : Int) : Int := if d = 1 then V d s else V d s - V (d - 1) s
theorem cd_all {d : Nat} (h : 1 ≤ d) (s : Int) : cd d d s = cN d s := by rw [cd, if_neg (by omega)]; rfl
theorem cN_bd {d : Nat} (h1 : 1 ≤ d) (h : d ≤ 12) (s : Int) : 0 ≤ cN d s ∧ cN d s ≤ 1000000000000 := by rw [← cd_all h1]; exact cd_bd h d s
/-- There is one. -/
theorem cN_pos {d : Nat} (h : 1 ≤ d) {s : Int} (h0 : 0 ≤ s) : cN d s ≠ 0 ↔ s ≤ 9 * (d : Int) ∧ (0 < s ∨ d = 1) := by
  obtain ⟨j, rfl⟩ : ∃ j, d = j + 1 := ⟨d - 1, by omega⟩
  unfold cN
  by_cases hd : j + 1 = 1
  · rw [if_pos hd]
    constructor
    · intro hne
      refine ⟨?_, Or.inr hd⟩
      rcases Int.lt_or_le (9 * ((j + 1 : Nat) : Int)) s with h' | h'
      · exact absurd (V_high (j + 1) s h') hne
      · exact h'
    · rintro ⟨a, _⟩
      have := V_pos (j + 1) s h0 a
      omega
  · rw [if_neg hd, Nat.add_sub_cancel]
    have b : ∀ k : Int, 0 ≤ V j (s - k) := fun k => (V_bd j (s - k)).1
    have b1 := b 1; have b2 := b 2; have b3 := b 3; have b4 := b 4; have b5 := b 5; have b6 := b 6; have b7 := b 7; have b8 := b 8; have b9 := b 9
    have e : V (j + 1) s - V j s = V j (s - 1) + V j (s - 2) + V j (s - 3) + V j (s - 4) + V j (s - 5) + V j (s - 6) + V j (s - 7) + V j (s - 8) + V j (s - 9) := by rw [V_succ]; unfold ten; omega
    constructor
    · intro hne
      rcases Int.lt_or_le (9 * ((j + 1 : Nat) : Int)) s with h' | h'
      · rw [V_high (j + 1) s h', V_high j s (by omega)] at hne; omega
      · refine ⟨h', Or.inl ?_⟩
        rcases Int.lt_or_le 0 s with h3 | h3
        · exact h3
        · rw [e, V_low j (s - 1) (by omega), V_low j (s - 2) (by omega), V_low j (s - 3) (by omega), V_low j (s - 4) (by omega), V_low j (s - 5) (by omega), V_low j (s - 6) (by omega), V_low j (s - 7) (by omega), V_low j (s - 8) (by omega), V_low j (s - 9) (by omega)] at hne
          omega
    · rintro ⟨a, c⟩
      have h1 : 0 < s := by omega
      rw [e]
      by_cases h9 : 9 ≤ s
      · have := V_pos j (s - 9) (by omega) (by omega); omega
      · have h0 : 0 ≤ 9 * (j : Int) := by omega
        have c : s = 1 ∨ s = 2 ∨ s = 3 ∨ s = 4 ∨ s = 5 ∨ s = 6 ∨ s = 7 ∨ s = 8 := by omega
        have p0 := V_pos j 0 (by omega) h0
        rcases c with c | c | c | c | c | c | c | c <;> subst c <;> simp at b1 b2 b3 b4 b5 b6 b7 b8 b9 ⊢ <;> omega
/-- The model's rows: after a items of p, and g digits of the next one. -/
def outc (c : Bool) (p : Nat → Int) : Nat → Nat → Int
  | 0, _ => 0
  | k + 1, j => outc c p k j + (if k ≤ j ∧ j < k + 10 ∧ (c = true ∨ j ≠ k) then p k else 0)
def midc (c : Bool) (p : Nat → Int) (k d j : Nat) : Int := outc c p k j + (if k ≤ j ∧ j < k + d ∧ (c = true ∨ j ≠ k) then p k else 0)
theorem midc_zero (c : Bool) (p : Nat → Int) (k j : Nat) : midc c p k 0 j = outc c p k j := by
  unfold midc; rw [if_neg (by omega)]; omega
theorem midc_ten (c : Bool) (p : Nat → Int) (k d S j : Nat) (hd : d = 10 ∨ S < k + d) (hj : j ≤ S) (hd10 : d ≤ 10) : midc c p k d j = outc c p (k + 1) j := by
  unfold midc
  rw [outc]
  by_cases h : k ≤ j ∧ j < k + 10 ∧ (c = true ∨ j ≠ k)
  · rw [if_pos h, if_pos ⟨h.1, by omega, h.2.2⟩]
  · rw [if_neg h, if_neg (fun e => h ⟨e.1, by omega, e.2.2⟩)]
theorem midc_put (c : Bool) (p : Nat → Int) (k d j : Nat) (h : c = true ∨ 0 < d) : midc c p k (d + 1) j = if j = k + d then midc c p k d (k + d) + p k else midc c p k d j := by
  unfold midc
  by_cases e : j = k + d
  · subst e
    rw [if_pos rfl, if_pos ⟨by omega, by omega, by rcases h with h | h; exact Or.inl h; exact Or.inr (by omega)⟩, if_neg (by omega)]; omega
  · rw [if_neg e]
    by_cases h2 : k ≤ j ∧ j < k + d ∧ (c = true ∨ j ≠ k)
    · rw [if_pos h2, if_pos ⟨h2.1, by omega, h2.2.2⟩]
    · rw [if_neg h2, if_neg (fun e2 => h2 ⟨e2.1, by omega, e2.2.2⟩)]
theorem midc_skip (p : Nat → Int) (k j : Nat) : midc false p k 1 j = midc false p k 0 j := by
  unfold midc
  rw [if_neg (by simp; omega), if_neg (by omega)]
theorem outc_outp (c : Bool) (p : Nat → Int) (k j : Nat) : outc c p k j = outp p k j - (if c = true then 0 else if j < k then p j else 0) := by
  induction k with
  | zero => cases c <;> simp [outc, outp]
  | succ k ih =>
    rw [outc, outp, ih]
    cases c with
    | true =>
      simp
    | false =>
      by_cases e : j = k
      · subst e; simp
      · simp only [Bool.false_eq_true, if_false, false_or]
        by_cases h : k ≤ j ∧ j < k + 10
        · rw [if_pos (show k ≤ j ∧ j < k + 10 ∧ j ≠ k from ⟨h.1, h.2, e⟩), if_pos h, if_neg (show ¬ j < k by omega), if_neg (show ¬ j < k + 1 by omega)]; omega
        · rw [if_neg (show ¬ (k ≤ j ∧ j < k + 10 ∧ j ≠ k) from fun e2 => h ⟨e2.1, e2.2.1⟩), if_neg h]
          by_cases h3 : j < k
          · rw [if_pos h3, if_pos (show j < k + 1 by omega)]; omega
          · rw [if_neg h3, if_neg (show ¬ j < k + 1 by omega)]; omega
theorem outc_cd (d k S j : Nat) (hj : j ≤ S) : outc (decide (k > 0 ∨ d = 1)) (fun i => cd d k i) (S + 1) j = cd d (k + 1) j := by
  rw [outc_outp, outp_eq (fun i => cd d k i) (cd d k) (fun _ => rfl), cd_up]
  have e : ten (fun s => if s < ((S + 1 : Nat) : Int) ∧ 0 ≤ s then cd d k s else 0) j = ten (cd d k) j := by
    have q : ∀ x : Int, x ≤ (j : Int) → (if x < ((S + 1 : Nat) : Int) ∧ 0 ≤ x then cd d k x else 0) = cd d k x := fun x hx => by
      by_cases h : 0 ≤ x
      · rw [if_pos ⟨by omega, h⟩]
      · rw [if_neg (by omega), cd_low d k x (by omega)]
    simp only [ten]
    rw [q _ (by omega), q _ (by omega), q _ (by omega), q _ (by omega), q _ (by omega), q _ (by omega), q _ (by omega), q _ (by omega), q _ (by omega), q _ (by omega)]
  rw [e]
  by_cases h : k > 0 ∨ d = 1
  · rw [if_pos (by simpa using h), if_pos h]
  · rw [if_neg (by simpa using h), if_neg h, if_pos (by omega)]
theorem outc_bd (c : Bool) (p : Nat → Int) (hp : ∀ i, 0 ≤ p i ∧ p i ≤ 1000000000000) (k j : Nat) : 0 ≤ outc c p k j ∧ outc c p k j ≤ 10000000000000 := by
  have h1 := outp_10 p 1000000000000 (by omega) hp k j
  have h2 : 0 ≤ outc c p k j := by
    induction k with
    | zero => simp [outc]
    | succ k ih =>
      have h1' := outp_10 p 1000000000000 (by omega) hp k j
      have := ih h1'
      have := hp k
      rw [outc]; split <;> omega
  refine ⟨h2, ?_⟩
  rw [outc_outp]
  have := hp j
  split
  · omega
  · split <;> omega
theorem midc_bd (c : Bool) (p : Nat → Int) (hp : ∀ i, 0 ≤ p i ∧ p i ≤ 1000000000000) (k d j : Nat) : 0 ≤ midc c p k d j ∧ midc c p k d j ≤ 11000000000000 := by
  have h1 := outc_bd c p hp k j
  have := hp k
  unfold midc; split <;> omega
end Go.Proofs.YtghjpanabphbpaaDoor
