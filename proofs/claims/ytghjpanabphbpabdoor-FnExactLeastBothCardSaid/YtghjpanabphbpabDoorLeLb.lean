/-
  Least numbers: the first digits that never fall, with a sum and a product. Nothing of the program.
-/
import Derived.Test.YtghjpanabphbpabDoorLeWp
namespace Go.Proofs.YtghjpanabphbpabDoor

/-- The first k digits, none less than d and none less than the one before, with the sum s and the product p. -/
def lgo (f : Nat → Int → Nat → Option (List Nat)) (s : Int) (p : Nat) : Nat → Nat → Option (List Nat)
  | 0, _ => none
  | m + 1, d => if p % d = 0 then (match f d (s - (d : Int)) (p / d) with
      | some l => some (d :: l)
      | none => lgo f s p m (d + 1)) else lgo f s p m (d + 1)
def lb : Nat → Nat → Int → Nat → Option (List Nat)
  | 0, _, s, p => if s = 0 ∧ p = 1 then some [] else none
  | k + 1, d, s, p => lgo (lb k) s p (10 - d) d
theorem lgo_some {f : Nat → Int → Nat → Option (List Nat)} {s : Int} {p : Nat} : ∀ {m d : Nat} {l : List Nat}, lgo f s p m d = some l → ∃ e r, d ≤ e ∧ e < d + m ∧ l = e :: r ∧ f e (s - (e : Int)) (p / e) = some r := by
  intro m
  induction m with
  | zero => intro d l h; cases h
  | succ m ih =>
    intro d l h
    rw [lgo] at h
    split at h
    · split at h
      · rename_i r hr
        cases h
        exact ⟨d, r, Nat.le_refl _, by omega, rfl, hr⟩
      · obtain ⟨e, r, h1, h2, h3, h4⟩ := ih h
        exact ⟨e, r, by omega, by omega, h3, h4⟩
    · obtain ⟨e, r, h1, h2, h3, h4⟩ := ih h
      exact ⟨e, r, by omega, by omega, h3, h4⟩
theorem lb_sum : ∀ {k d : Nat} {s : Int} {p : Nat} {l : List Nat}, d ≤ 10 → lb k d s p = some l → (d : Int) * (k : Int) ≤ s ∧ s ≤ 9 * (k : Int) ∧ l.length = k ∧ ∀ x ∈ l, d ≤ x ∧ x ≤ 9 := by
  intro k
  induction k with
  | zero =>
    intro d s p l hd h
    rw [lb] at h
    split at h
    · rename_i hc; cases h; refine ⟨by simp; omega, by omega, rfl, fun x hx => by cases hx⟩
    · cases h
  | succ k ih =>
    intro d s p l hd h
    rw [lb] at h
    obtain ⟨e, r, h1, h2, rfl, h4⟩ := lgo_some h
    obtain ⟨g1, g2, g3, g4⟩ := ih (by omega) h4
    have h5 : (d : Int) * (k : Int) ≤ (e : Int) * (k : Int) := Int.mul_le_mul_of_nonneg_right (by omega) (by omega)
    refine ⟨?_, by omega, by simp [g3], ?_⟩
    · rw [Int.natCast_succ, Int.mul_add]; omega
    · intro x hx
      rcases List.mem_cons.1 hx with h | h
      · omega
      · have := g4 x h; omega
theorem lb_low {k d : Nat} {s : Int} {p : Nat} (hd : d ≤ 10) (h : s < (d : Int) * (k : Int)) : lb k d s p = none := by
  cases e : lb k d s p with
  | none => rfl
  | some l => have := (lb_sum hd e).1; omega
theorem lb_high {k d : Nat} {s : Int} {p : Nat} (hd : d ≤ 10) (h : 9 * (k : Int) < s) : lb k d s p = none := by
  cases e : lb k d s p with
  | none => rfl
  | some l => have := (lb_sum hd e).2.1; omega
theorem lgo_low {k d m : Nat} {s : Int} {p : Nat} (hd : d + m ≤ 10) (h : s < (d : Int) * ((k : Int) + 1)) : lgo (lb k) s p m d = none := by
  cases e : lgo (lb k) s p m d with
  | none => rfl
  | some l =>
    obtain ⟨x, r, h1, h2, _, h4⟩ := lgo_some e
    have := (lb_sum (by omega) h4).1
    have h5 : (d : Int) * (k : Int) ≤ (x : Int) * (k : Int) := Int.mul_le_mul_of_nonneg_right (by omega) (by omega)
    rw [Int.mul_add] at h; omega
theorem lb_0 (d : Nat) (s : Int) (p : Nat) : lb 0 d s p = if s = 0 ∧ p = 1 then some [] else none := rfl
theorem lb_go (k d : Nat) (s : Int) (p : Nat) (m : Nat) (h : m = 10 - d) : lb (k + 1) d s p = lgo (lb k) s p m d := by rw [h]; rfl
theorem lgo_0 (f : Nat → Int → Nat → Option (List Nat)) (s : Int) (p d : Nat) : lgo f s p 0 d = none := rfl
theorem lgo_skip {f : Nat → Int → Nat → Option (List Nat)} {s : Int} {p m d : Nat} (h : ¬ p % d = 0) : lgo f s p (m + 1) d = lgo f s p m (d + 1) := by rw [lgo, if_neg h]
theorem lgo_no {f : Nat → Int → Nat → Option (List Nat)} {s : Int} {p m d : Nat} (h : p % d = 0) (e : f d (s - (d : Int)) (p / d) = none) : lgo f s p (m + 1) d = lgo f s p m (d + 1) := by rw [lgo, if_pos h, e]
theorem lgo_yes {f : Nat → Int → Nat → Option (List Nat)} {s : Int} {p m d : Nat} {l : List Nat} (h : p % d = 0) (e : f d (s - (d : Int)) (p / d) = some l) : lgo f s p (m + 1) d = some (d :: l) := by rw [lgo, if_pos h, e]
/-- The first of all lengths up to 12. -/
def lbA (s : Int) (p : Nat) : Nat → Nat → Option (List Nat)
  | 0, _ => none
  | m + 1, k => match lb k 1 s p with
    | some l => some l
    | none => lbA s p m (k + 1)
theorem lbA_len {s : Int} {p : Nat} : ∀ {m k : Nat} {l : List Nat}, lbA s p m k = some l → l.length < k + m ∧ k ≤ l.length ∧ ∀ x ∈ l, 1 ≤ x ∧ x ≤ 9 := by
  intro m
  induction m with
  | zero => intro k l h; cases h
  | succ m ih =>
    intro k l h
    rw [lbA] at h
    split at h
    · rename_i r hr
      cases h
      have := lb_sum (by omega) hr
      exact ⟨by omega, by omega, this.2.2.2⟩
    · have := ih h
      exact ⟨by omega, by omega, this.2.2⟩
end Go.Proofs.YtghjpanabphbpabDoor
