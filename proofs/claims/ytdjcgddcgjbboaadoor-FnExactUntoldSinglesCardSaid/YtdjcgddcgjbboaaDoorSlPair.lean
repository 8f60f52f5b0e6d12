/-
  Plain facts on the least two digits with a property, and on what is told; nothing of the program.
-/
import Derived.Test.YtdjcgddcgjbboaaDoorSlCnt
namespace Go.Proofs.YtdjcgddcgjbboaaDoor

/-- No two digits ahead of these have the property. -/
def NoB (P : Nat → Nat → Bool) (a b : Nat) : Prop := ∀ x y, x < y → y < 10 → (x < a ∨ (x = a ∧ y < b)) → P x y = false
/-- The least two digits with a property. -/
def PairIs (P : Nat → Nat → Bool) : Option (Nat × Nat) → Prop
  | some (a, b) => a < b ∧ b < 10 ∧ P a b = true ∧ NoB P a b
  | none => ∀ x y, x < y → y < 10 → P x y = false
theorem NoB.start (P : Nat → Nat → Bool) : NoB P 0 1 := fun x y h1 h2 h3 => by omega
theorem NoB.go {P : Nat → Nat → Bool} {a b : Nat} (h : NoB P a b) (hp : P a b = false) : NoB P a (b + 1) := fun x y h1 h2 h3 => by
  by_cases e : x = a ∧ y = b
  · obtain ⟨rfl, rfl⟩ := e; exact hp
  · exact h x y h1 h2 (by omega)
theorem NoB.next {P : Nat → Nat → Bool} {a b : Nat} (h : NoB P a b) (hb : 10 ≤ b) : NoB P (a + 1) (a + 1 + 1) := fun x y h1 h2 h3 => h x y h1 h2 (by omega)
theorem NoB.none {P : Nat → Nat → Bool} {a b : Nat} (h : NoB P a b) (ha : 10 ≤ a) : PairIs P none := fun x y h1 h2 => h x y h1 h2 (by omega)
theorem PairIs.uniq {P : Nat → Nat → Bool} {o q : Option (Nat × Nat)} (h : PairIs P o) (k : PairIs P q) : o = q := by
  match o, q, h, k with
  | none, none, _, _ => rfl
  | none, some (a, b), h, ⟨k1, k2, k3, _⟩ => rw [h a b k1 k2] at k3; cases k3
  | some (a, b), none, ⟨h1, h2, h3, _⟩, k => rw [k a b h1 h2] at h3; cases h3
  | some (a, b), some (c, d), ⟨h1, h2, h3, h4⟩, ⟨k1, k2, k3, k4⟩ =>
    by_cases e : a = c
    · subst e
      by_cases e2 : b = d
      · subst e2; rfl
      · by_cases hl : b < d
        · rw [k4 a b h1 h2 (by omega)] at h3; cases h3
        · rw [h4 a d k1 k2 (by omega)] at k3; cases k3
    · by_cases hl : a < c
      · rw [k4 a b h1 h2 (by omega)] at h3; cases h3
      · rw [h4 c d k1 k2 (by omega)] at k3; cases k3
def pU (P : Nat → Nat → Bool) : Nat → Option (Nat × Nat)
  | 0 => none
  | n + 1 => match pU P n with
    | some x => some x
    | none => if n / 10 < n % 10 ∧ P (n / 10) (n % 10) = true then some (n / 10, n % 10) else none
/-- The least two digits with a property, if there are some. -/
def pairF (P : Nat → Nat → Bool) : Option (Nat × Nat) := pU P 100
theorem pU_is (P : Nat → Nat → Bool) (n : Nat) : match pU P n with
    | some (a, b) => a < b ∧ b < 10 ∧ P a b = true ∧ NoB P a b
    | none => ∀ x y, x < y → y < 10 → 10 * x + y < n → P x y = false := by
  induction n with
  | zero => intro x y _ _ h; omega
  | succ n ih =>
    rw [pU]
    cases e : pU P n with
    | some z =>
      obtain ⟨a, b⟩ := z
      rw [e] at ih; exact ih
    | none =>
      rw [e] at ih
      dsimp only at ih ⊢
      by_cases h : n / 10 < n % 10 ∧ P (n / 10) (n % 10) = true
      · rw [if_pos h]
        refine ⟨h.1, by omega, h.2, fun x y h1 h2 h3 => ih x y h1 h2 (by omega)⟩
      · rw [if_neg h]
        intro x y h1 h2 h3
        by_cases e2 : 10 * x + y = n
        · have hx : n / 10 = x := by omega
          have hy : n % 10 = y := by omega
          rw [hx, hy] at h
          cases hp : P x y with
          | false => rfl
          | true => exact (h ⟨h1, hp⟩).elim
        · exact ih x y h1 h2 (by omega)
theorem pairF_is (P : Nat → Nat → Bool) : PairIs P (pairF P) := by
  have h := pU_is P 100
  unfold pairF
  cases e : pU P 100 with
  | some z =>
    obtain ⟨a, b⟩ := z
    rw [e] at h; exact h
  | none =>
    rw [e] at h
    intro x y h1 h2
    exact h x y h1 h2 (by omega)
theorem pairF_eq {P : Nat → Nat → Bool} {o : Option (Nat × Nat)} (h : PairIs P o) : pairF P = o := (pairF_is P).uniq h
/-- Two digits with which a weight makes no difference. -/
def pw (x m : Int) (a b : Nat) : Bool := decide (x * ((b : Int) - (a : Int)) % m = 0)
/-- The other weights at a swap, or at a slip. -/
def oth (xs : List Int) (p q : Nat) : List Int := xs.take p ++ xs.drop q
theorem oth_len (xs : List Int) (p q : Nat) (hp : p ≤ q) (hq : q ≤ xs.length) : (oth xs p q).length = xs.length - (q - p) := by simp [oth]; omega
theorem oth_lo (xs : List Int) (p q k : Nat) (hk : k < p) (hp : p ≤ xs.length) : (oth xs p q).getD k 0 = xs.getD k 0 := by
  unfold oth
  simp only [List.getD_eq_getElem?_getD]
  rw [List.getElem?_append_left (by simp; omega), List.getElem?_take, if_pos hk]
theorem oth_hi (xs : List Int) (p q k : Nat) (hk : q ≤ k) (hpq : p ≤ q) (hq : q ≤ xs.length) : (oth xs p q).getD (k - (q - p)) 0 = xs.getD k 0 := by
  unfold oth
  simp only [List.getD_eq_getElem?_getD]
  have hl : (xs.take p).length = p := by simp; omega
  rw [List.getElem?_append_right (by rw [hl]; omega), hl, List.getElem?_drop, show q + (k - (q - p) - p) = k by omega]
/-- The rest of two digits at a swap. -/
def wrest (xs : List Int) (m : Int) (p : Nat) (a b : Nat) : Int := (xs.getD p 0 * (a : Int) + xs.getD (p + 1) 0 * (b : Int)) % m
/-- Two digits whose exchange isn't told. -/
def pS (xs : List Int) (m : Int) (p a b : Nat) : Bool := pw ((xs.getD p 0 - xs.getD (p + 1) 0).natAbs : Int) m a b && rB (oth xs p (p + 2)) m (wrest xs m p a b).toNat (oth xs p (p + 2)).length 0
/-- What isn't told at a place. -/
def untS (xs : List Int) (m : Int) (p : Nat) : Option (Nat × Nat) := pairF (pw (xs.getD p 0) m)
def untW (xs : List Int) (m : Int) (p : Nat) : Option (Nat × Nat) := pairF (pS xs m p)
theorem dvd_abs (y z m : Int) : m ∣ (y.natAbs : Int) * z ↔ m ∣ y * z := by
  rcases Int.natAbs_eq y with h | h
  · rw [← h]
  · constructor
    · intro hd
      rw [h, Int.neg_mul]; exact Int.dvd_neg.2 hd
    · intro hd
      rw [h, Int.neg_mul] at hd; exact Int.dvd_neg.1 hd
theorem swap_iff (x y m : Int) (a b : Nat) : (x * (a : Int) + y * (b : Int)) % m = (x * (b : Int) + y * (a : Int)) % m ↔ pw ((x - y).natAbs : Int) m a b = true := by
  unfold pw
  rw [decide_eq_true_eq, Int.emod_eq_emod_iff_emod_sub_eq_zero]
  have e : x * (a : Int) + y * (b : Int) - (x * (b : Int) + y * (a : Int)) = -((x - y) * ((b : Int) - (a : Int))) := by
    rw [Int.sub_mul, Int.mul_sub, Int.mul_sub]; omega
  rw [e]
  constructor
  · intro h
    have h1 := Int.dvd_of_emod_eq_zero h
    exact Int.emod_eq_zero_of_dvd ((dvd_abs _ _ _).2 (Int.dvd_neg.1 h1))
  · intro h
    have h1 := Int.dvd_of_emod_eq_zero h
    exact Int.emod_eq_zero_of_dvd (Int.dvd_neg.2 ((dvd_abs _ _ _).1 h1))
theorem made_iff (os : List Int) (m : Int) (r : Nat) (hm : 0 < m) (hr : r < m.toNat) (q : Nat) (hq : (q : Int) = (m - (r : Int)) % m) : rB os m r os.length 0 = decide (0 < cR os m os.length q) := by
  rw [← cR_pos]
  refine rB_shift os m hm r os.length hr 0 q (by omega) ?_
  rw [hq, show m - (r : Int) = (0 - (r : Int)) + m by omega, Int.add_emod_right]
  simp
/-- The program's test. -/
theorem pS_iff (xs : List Int) (m : Int) (p a b q : Nat) (hm : 0 < m) (hq : (q : Int) = (m - wrest xs m p a b) % m) : pS xs m p a b = (decide (wrest xs m p a b = (xs.getD p 0 * (b : Int) + xs.getD (p + 1) 0 * (a : Int)) % m) && decide (0 < cR (oth xs p (p + 2)) m (oth xs p (p + 2)).length q)) := by
  have h1 := Int.emod_nonneg (xs.getD p 0 * (a : Int) + xs.getD (p + 1) 0 * (b : Int)) (show m ≠ 0 by omega)
  have h2 := Int.emod_lt_of_pos (xs.getD p 0 * (a : Int) + xs.getD (p + 1) 0 * (b : Int)) hm
  have hw : ((wrest xs m p a b).toNat : Int) = wrest xs m p a b := by unfold wrest; omega
  unfold pS
  rw [made_iff _ m (wrest xs m p a b).toNat hm (by unfold wrest at hw ⊢; omega) q (by rw [hw]; exact hq)]
  congr 1
  rw [Bool.eq_iff_iff, decide_eq_true_eq, ← swap_iff]; rfl
/-- With zeros elsewhere. -/
def zer (n : Nat) : List UInt8 := List.replicate n 48
theorem zer_dig (n : Nat) : digB (zer n) = true := by
  unfold digB zer
  rw [List.all_eq_true]
  intro x hx
  rw [(List.mem_replicate.1 hx).2]; rfl
theorem zer_dgt (n i : Nat) : dgt (zer n) i = 0 := by
  unfold dgt zer
  by_cases h : i < n
  · rw [List.getD_eq_getElem?_getD, List.getElem?_replicate, if_pos h]; rfl
  · rw [List.getD_eq_getElem?_getD, List.getElem?_replicate, if_neg h]; rfl
theorem zer_wsk (xs : List Int) (n k : Nat) : wsk xs (zer n) k = 0 := by
  induction k with
  | zero => rfl
  | succ k ih => rw [wsk, ih, zer_dgt]; omega
theorem zer_snd (xs : List Int) (m : Int) (p d : Nat) (hp : p < xs.length) (hd : d ≤ 9) : sndB xs m (putD (zer xs.length) p d) = pw (xs.getD p 0) m 0 d := by
  unfold sndB wsum pw
  rw [wsk_putD xs _ p d _ (by simp [zer]; exact hp) hd, zer_wsk, if_pos hp, zer_dgt]
  simp
/-- The first two digits that make zeros sound are what isn't told. -/
theorem untS_of (xs : List Int) (m : Int) (p : Nat) (hp : p < xs.length) : match (sdg xs m (zer xs.length) p 10) with
    | [] => False
    | [_] => untS xs m p = none
    | x :: y :: _ => x = 0 ∧ ∃ d : Nat, y = (d : Int) ∧ untS xs m p = some (0, d) := by
  have key : ∀ k, k ≤ 9 → match (sdg xs m (zer xs.length) p (k + 1)) with
      | [] => False
      | [x] => x = 0 ∧ ∀ d, 1 ≤ d → d ≤ k → pw (xs.getD p 0) m 0 d = false
      | x :: y :: _ => x = 0 ∧ ∃ d : Nat, y = (d : Int) ∧ 1 ≤ d ∧ d ≤ 9 ∧ pw (xs.getD p 0) m 0 d = true ∧ ∀ e, 1 ≤ e → e < d → pw (xs.getD p 0) m 0 e = false := by
    intro k
    induction k with
    | zero =>
      intro _
      have : sndB xs m (putD (zer xs.length) p 0) = true := by rw [zer_snd xs m p 0 hp (by omega)]; simp [pw]
      rw [sdg_hit this]
      simp only [sdg, List.nil_append]
      exact ⟨rfl, fun d h1 h2 => by omega⟩
    | succ k ih =>
      intro hk
      have ih := ih (by omega)
      have hs := zer_snd xs m p (k + 1) hp (by omega)
      rw [sdg, hs]
      cases e : pw (xs.getD p 0) m 0 (k + 1) with
      | false =>
        simp only [Bool.false_eq_true, if_false, List.append_nil]
        match hl : sdg xs m (zer xs.length) p (k + 1), ih with
        | [x], ih =>
          refine ⟨ih.1, fun d h1 h2 => ?_⟩
          by_cases ed : d = k + 1
          · subst ed; exact e
          · exact ih.2 d h1 (by omega)
        | x :: y :: l, ih => exact ih
      | true =>
        simp only [if_true]
        match hl : sdg xs m (zer xs.length) p (k + 1), ih with
        | [x], ih => exact ⟨ih.1, k + 1, rfl, by omega, by omega, e, fun d h1 h2 => ih.2 d h1 (by omega)⟩
        | x :: y :: l, ih => exact ih
  have h9 := key 9 (by omega)
  match hl : sdg xs m (zer xs.length) p (9 + 1), h9 with
  | [x], h =>
    refine pairF_eq (fun a b h1 h2 => ?_)
    have := h.2 (b - a) (by omega) (by omega)
    unfold pw at this ⊢
    rw [show ((b - a : Nat) : Int) - ((0 : Nat) : Int) = (b : Int) - (a : Int) by omega] at this
    exact this
  | x :: y :: l, h =>
    obtain ⟨hx, d, hy, h1, h2, h3, h4⟩ := h
    refine ⟨hx, d, hy, pairF_eq ⟨by omega, by omega, h3, fun a b k1 k2 k3 => ?_⟩⟩
    obtain rfl : a = 0 := by omega
    exact h4 b (by omega) (by omega)
end Go.Proofs.YtdjcgddcgjbboaaDoor
