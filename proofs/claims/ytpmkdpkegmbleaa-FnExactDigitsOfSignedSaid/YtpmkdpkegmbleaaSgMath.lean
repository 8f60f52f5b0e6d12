/-
  Plain facts on signed digits and their values; nothing of the program.
-/
import Derived.Test.YtpmkdpkegmbleaaMath
namespace Go.Proofs.Ytpmkdpkegmbleaa

/-- A sign. -/
def sgB (c : UInt8) : Bool := c == 42 || c == 43 || c == 45
/-- How many digits there are. -/
def nDig : List UInt8 → Nat
  | [] => 0
  | c :: l => (if dgB c then 1 else 0) + nDig l
/-- How many signs there are. -/
def nSg : List UInt8 → Nat
  | [] => 0
  | c :: l => (if sgB c then 1 else 0) + nSg l
/-- Digits and signs, each sign behind a digit; whether a digit was the last one. -/
def okStep (s : Option Bool) (c : UInt8) : Option Bool :=
  match s with
  | none => none
  | some b => if dgB c then some true else if sgB c && b then some false else none
def okSt (l : List UInt8) : Option Bool := l.foldl okStep (some false)
/-- Signed digits. -/
def sigB (l : List UInt8) : Bool := (okSt l == some true) && decide (nDig l ≤ 7)
theorem okSt_snoc (l : List UInt8) (c : UInt8) : okSt (l ++ [c]) = okStep (okSt l) c := by simp [okSt, List.foldl_append]
theorem nDig_append (a b : List UInt8) : nDig (a ++ b) = nDig a + nDig b := by
  induction a with
  | nil => simp [nDig]
  | cons c a ih => simp only [List.cons_append, nDig, ih]; omega
theorem nSg_append (a b : List UInt8) : nSg (a ++ b) = nSg a + nSg b := by
  induction a with
  | nil => simp [nSg]
  | cons c a ih => simp only [List.cons_append, nSg, ih]; omega
theorem nDig_snoc (l : List UInt8) (c : UInt8) : nDig (l ++ [c]) = nDig l + (if dgB c then 1 else 0) := by rw [nDig_append]; simp [nDig]
theorem nSg_snoc (l : List UInt8) (c : UInt8) : nSg (l ++ [c]) = nSg l + (if sgB c then 1 else 0) := by rw [nSg_append]; simp [nSg]
theorem okSt_none_append (a b : List UInt8) (h : okSt a = none) : okSt (a ++ b) = none := by
  unfold okSt at *
  rw [List.foldl_append, h]
  induction b with
  | nil => rfl
  | cons c b ih => exact ih
theorem sgB_iff (c : UInt8) : sgB c = true ↔ (c.toNat : Int) = 42 ∨ (c.toNat : Int) = 43 ∨ (c.toNat : Int) = 45 := by
  have e (k : UInt8) (n : Nat) (hk : k.toNat = n) : (c == k) = true ↔ (c.toNat : Int) = n := by
    rw [beq_iff_eq, ← UInt8.toNat_inj, hk]; omega
  simp only [sgB, Bool.or_eq_true, e 42 42 rfl, e 43 43 rfl, e 45 45 rfl, or_assoc]; rfl
theorem sg_not_dg {c : UInt8} (h : sgB c = true) : dgB c = false := by
  have := (sgB_iff c).1 h
  simp only [dgB, decide_eq_false_iff_not]; omega
theorem dg_not_sg {c : UInt8} (h : dgB c = true) : sgB c = false := by
  cases e : sgB c with
  | false => rfl
  | true => rw [sg_not_dg e] at h; cases h
/-- Where the value stands: sums that are done, the product that is open, the number that is open. -/
structure Rk where
  S : Int
  P : Int
  N : Int
def Rk.val (r : Rk) : Int := r.S + r.P * r.N
def rkStep (r : Rk) (c : UInt8) : Rk :=
  if (c.toNat : Int) = 42 then ⟨r.S, r.P * r.N, 0⟩
  else if (c.toNat : Int) = 43 then ⟨r.val, 1, 0⟩
  else if (c.toNat : Int) = 45 then ⟨r.val, -1, 0⟩
  else ⟨r.S, r.P, 10 * r.N + dv c⟩
def rk (l : List UInt8) : Rk := l.foldl rkStep ⟨0, 1, 0⟩
/-- The value of signed digits. -/
def sval (l : List UInt8) : Int := (rk l).val
theorem rk_snoc (l : List UInt8) (c : UInt8) : rk (l ++ [c]) = rkStep (rk l) c := by simp [rk, List.foldl_append]
/-- What bounds a state. -/
def Rk.size (r : Rk) : Nat := r.S.natAbs + r.P.natAbs * (r.N.toNat + 1)
def cap : Nat → Nat
  | 0 => 1
  | k + 1 => 10 * (cap k + 1)
theorem cap_mono {a b : Nat} (h : a ≤ b) : cap a ≤ cap b := by
  induction h with
  | refl => exact Nat.le_refl _
  | step _ ih => rw [cap]; omega
theorem cap7 {k : Nat} (h : k ≤ 7) : cap k ≤ 21111110 := Nat.le_trans (cap_mono h) (by decide)
theorem Rk.size_digit (r : Rk) (c : UInt8) (hd : dgB c = true) (hN : 0 ≤ r.N) : (rkStep r c).size ≤ 10 * r.size ∧ 0 ≤ (rkStep r c).N := by
  have h := (dgB_iff c).1 hd
  have e : rkStep r c = ⟨r.S, r.P, 10 * r.N + dv c⟩ := by
    unfold rkStep; rw [if_neg (by omega), if_neg (by omega), if_neg (by omega)]
  rw [e]
  have h0 : 0 ≤ dv c ∧ dv c ≤ 9 := by unfold dv; omega
  constructor
  · show r.S.natAbs + r.P.natAbs * ((10 * r.N + dv c).toNat + 1) ≤ 10 * (r.S.natAbs + r.P.natAbs * (r.N.toNat + 1))
    have h1 : (10 * r.N + dv c).toNat + 1 ≤ 10 * (r.N.toNat + 1) := by omega
    have h2 := Nat.mul_le_mul_left r.P.natAbs h1
    have h3 : r.P.natAbs * (10 * (r.N.toNat + 1)) = 10 * (r.P.natAbs * (r.N.toNat + 1)) := Nat.mul_left_comm _ _ _
    omega
  · show 0 ≤ 10 * r.N + dv c; omega
theorem Rk.abs_PN (r : Rk) (hN : 0 ≤ r.N) : (r.P * r.N).natAbs + r.P.natAbs = r.P.natAbs * (r.N.toNat + 1) := by
  rw [Int.natAbs_mul, Nat.mul_add, Nat.mul_one, show r.N.natAbs = r.N.toNat by omega]
theorem Rk.size_sign (r : Rk) (c : UInt8) (hd : sgB c = true) (hN : 0 ≤ r.N) : (rkStep r c).size ≤ r.size + 1 ∧ 0 ≤ (rkStep r c).N := by
  have h := (sgB_iff c).1 hd
  have hp := r.abs_PN hN
  rcases h with h | h | h
  · have e : rkStep r c = ⟨r.S, r.P * r.N, 0⟩ := by unfold rkStep; rw [if_pos h]
    rw [e]
    refine ⟨?_, Int.le_refl _⟩
    show r.S.natAbs + (r.P * r.N).natAbs * (0 + 1) ≤ r.S.natAbs + r.P.natAbs * (r.N.toNat + 1) + 1
    omega
  · have e : rkStep r c = ⟨r.val, 1, 0⟩ := by unfold rkStep; rw [if_neg (by omega), if_pos h]
    rw [e]
    refine ⟨?_, Int.le_refl _⟩
    show (r.S + r.P * r.N).natAbs + 1 * (0 + 1) ≤ r.S.natAbs + r.P.natAbs * (r.N.toNat + 1) + 1
    omega
  · have e : rkStep r c = ⟨r.val, -1, 0⟩ := by unfold rkStep; rw [if_neg (by omega), if_neg (by omega), if_pos h]
    rw [e]
    refine ⟨?_, Int.le_refl _⟩
    show (r.S + r.P * r.N).natAbs + 1 * (0 + 1) ≤ r.S.natAbs + r.P.natAbs * (r.N.toNat + 1) + 1
    omega
/-- All bounds of a state that is reached. -/
structure Rk.Fine (r : Rk) : Prop where
  n0 : 0 ≤ r.N
  n1 : r.N ≤ 30000000
  s : -30000000 ≤ r.S ∧ r.S ≤ 30000000
  p : -30000000 ≤ r.P ∧ r.P ≤ 30000000
  pn : -30000000 ≤ r.P * r.N ∧ r.P * r.N ≤ 30000000
  v : -30000000 ≤ r.S + r.P * r.N ∧ r.S + r.P * r.N ≤ 30000000
/-- The number that is open is bounded by its digits. -/
theorem rk_bound (l : List UInt8) : ∀ b, okSt l = some b → 0 ≤ (rk l).N ∧ (rk l).size ≤ cap (nDig l) + (if b then 0 else 1) ∧ (b = true → 1 ≤ nDig l) ∧ ((rk l).N.toNat + 1 ≤ 10 ^ nDig l) := by
  have key : ∀ (r : List UInt8), ∀ b, okSt r.reverse = some b → 0 ≤ (rk r.reverse).N ∧ (rk r.reverse).size ≤ cap (nDig r.reverse) + (if b then 0 else 1) ∧ (b = true → 1 ≤ nDig r.reverse) ∧ ((rk r.reverse).N.toNat + 1 ≤ 10 ^ nDig r.reverse) := by
    intro r
    induction r with
    | nil =>
      intro b h
      simp only [List.reverse_nil] at *
      have : b = false := by simpa [okSt] using h.symm
      subst this
      exact ⟨by decide, by decide, by simp, by decide⟩
    | cons c r ih =>
      intro b h
      rw [List.reverse_cons] at h ⊢
      rw [okSt_snoc] at h
      rw [rk_snoc, nDig_snoc]
      cases e : okSt r.reverse with
      | none => rw [e] at h; cases h
      | some q =>
        rw [e] at h
        obtain ⟨i1, i2, i3, i4⟩ := ih q e
        unfold okStep at h
        by_cases hd : dgB c = true
        · simp [hd] at h
          subst h
          obtain ⟨j1, j2⟩ := Rk.size_digit (rk r.reverse) c hd i1
          rw [if_pos hd]
          refine ⟨j2, ?_, fun _ => by omega, ?_⟩
          · rw [cap]
            simp only [if_true]
            have : (if q = true then 0 else 1) ≤ 1 := by split <;> omega
            omega
          · have hh := (dgB_iff c).1 hd
            have e : rkStep (rk r.reverse) c = ⟨(rk r.reverse).S, (rk r.reverse).P, 10 * (rk r.reverse).N + dv c⟩ := by
              unfold rkStep; rw [if_neg (by omega), if_neg (by omega), if_neg (by omega)]
            rw [e, Nat.pow_succ]
            show (10 * (rk r.reverse).N + dv c).toNat + 1 ≤ _
            have : dv c ≤ 9 ∧ 0 ≤ dv c := by unfold dv; omega
            omega
        · have hd' : dgB c = false := by simpa using hd
          simp [hd'] at h
          obtain ⟨⟨h1, h2⟩, rfl⟩ := h
          subst h2
          obtain ⟨j1, j2⟩ := Rk.size_sign (rk r.reverse) c h1 i1
          refine ⟨j2, ?_, by simp, ?_⟩
          · simp [hd'] at *; omega
          · have hz : (rkStep (rk r.reverse) c).N = 0 := by
              have := (sgB_iff c).1 h1
              unfold rkStep
              rcases this with h | h | h
              · rw [if_pos h]
              · rw [if_neg (by omega), if_pos h]
              · rw [if_neg (by omega), if_neg (by omega), if_pos h]
            rw [hz, hd']
            have : 0 < 10 ^ (nDig r.reverse) := Nat.pow_pos (by omega)
            simp; omega
  intro b h
  have := key l.reverse b (by simpa using h)
  simp only [List.reverse_reverse] at this
  exact this
theorem Rk.fine_of (r : Rk) (h0 : 0 ≤ r.N) (h1 : r.size ≤ 21111111) (h2 : r.N.toNat + 1 ≤ 10000000) : r.Fine := by
  have hp := r.abs_PN h0
  unfold Rk.size at h1
  have hP : r.P.natAbs ≤ r.P.natAbs * (r.N.toNat + 1) := Nat.le_mul_of_pos_right _ (by omega)
  exact ⟨h0, by omega, by omega, by omega, by omega, by omega⟩
theorem rk_fine (l : List UInt8) (b : Bool) (h : okSt l = some b) (h7 : nDig l ≤ 7) : (rk l).Fine := by
  obtain ⟨h1, h2, h3, h4⟩ := rk_bound l b h
  have hc := cap7 h7
  refine Rk.fine_of _ h1 ?_ (Nat.le_trans h4 (Nat.pow_le_pow_right (by omega) h7))
  cases b <;> simp at h2 <;> omega
end Go.Proofs.Ytpmkdpkegmbleaa
