/-
  Least numbers: the order of digits that comes next. Nothing of the program.
-/
import Derived.Test.YtghjpanabphbpaaDoorMath
namespace Go.Proofs.YtghjpanabphbpaaDoor

/-- The place at which the digits rise for the last time. -/
structure IsPl (f : Nat → Int) (n k : Nat) : Prop where
  lt : k + 1 < n
  up : f k < f (k + 1)
  rest : ∀ j, k < j → j + 1 < n → f (j + 1) ≤ f j
/-- The last digit that is greater than the one there. -/
structure IsOt (f : Nat → Int) (n k o : Nat) : Prop where
  gt : k < o
  lt : o < n
  up : f k < f o
  rest : ∀ j, o < j → j < n → f j ≤ f k
/-- They never rise. -/
def NoPl (f : Nat → Int) (n : Nat) : Prop := ∀ j, j + 1 < n → f (j + 1) ≤ f j
theorem IsPl.uniq {f : Nat → Int} {n k l : Nat} (h : IsPl f n k) (g : IsPl f n l) : k = l := by
  rcases Nat.lt_trichotomy k l with e | e | e
  · have := h.rest l e g.lt; have := g.up; omega
  · exact e
  · have := g.rest k e h.lt; have := h.up; omega
theorem IsPl.no {f : Nat → Int} {n k : Nat} (h : IsPl f n k) (g : NoPl f n) : False := by
  have := g k h.lt; have := h.up; omega
theorem IsOt.uniq {f : Nat → Int} {n k o p : Nat} (h : IsOt f n k o) (g : IsOt f n k p) : o = p := by
  rcases Nat.lt_trichotomy o p with e | e | e
  · have := h.rest p e g.lt; have := g.up; omega
  · exact e
  · have := g.rest o e h.lt; have := h.up; omega
/-- Two exchanged. -/
def xch (f : Nat → Int) (k o j : Nat) : Int := if j = k then f o else if j = o then f k else f j
/-- And all behind the place the other way round. -/
def nxo (f : Nat → Int) (n k o j : Nat) : Int := if j ≤ k then xch f k o j else if j < n then xch f k o (n + k - j) else f j
/-- The first i pairs from place a on, of those up to place b, exchanged. -/
def rvp (f : Nat → Int) (a b i j : Nat) : Int := if (a ≤ j ∧ j < a + i) ∨ (b < j + i ∧ j ≤ b) then f (a + b - j) else f j
theorem rvp_0 (f : Nat → Int) (a b j : Nat) : rvp f a b 0 j = f j := by unfold rvp; rw [if_neg (by omega)]
theorem rvp_up {f : Nat → Int} {a b i : Nat} (h : a + i < b - i) (j : Nat) : rvp f a b (i + 1) j = if j = b - i then rvp f a b i (a + i) else if j = a + i then rvp f a b i (b - i) else rvp f a b i j := by
  unfold rvp
  by_cases e : j = b - i
  · subst e; rw [if_pos (by omega), if_pos rfl, if_neg (by omega)]; congr 1; omega
  · rw [if_neg e]
    by_cases e2 : j = a + i
    · subst e2; rw [if_pos (by omega), if_pos rfl, if_neg (by omega)]; congr 1; omega
    · rw [if_neg e2]
      by_cases c : (a ≤ j ∧ j < a + i) ∨ (b < j + i ∧ j ≤ b)
      · rw [if_pos c, if_pos (by omega)]
      · rw [if_neg c, if_neg (by omega)]
/-- The number with the first n digits. -/
def nf (f : Nat → Int) : Nat → Int
  | 0 => 0
  | k + 1 => nf f k * 10 + f k
theorem nf_same {f g : Nat → Int} {n : Nat} (h : ∀ j, j < n → f j = g j) : nf f n = nf g n := by
  induction n with
  | zero => rfl
  | succ n ih => rw [nf, nf, ih (fun j hj => h j (by omega)), h n (by omega)]
theorem nf_bd {f : Nat → Int} (h : ∀ j, 0 ≤ f j ∧ f j ≤ 9) (n : Nat) : 0 ≤ nf f n ∧ nf f n < (10 ^ n : Nat) := by
  induction n with
  | zero => simp [nf]
  | succ n ih => have := h n; rw [nf, Nat.pow_succ]; push_cast at *; omega
/-- The other way round by what makes 9. -/
theorem nxo_neg (f : Nat → Int) (n k o j : Nat) (h : j < n) : nxo (fun i => 9 - f i) n k o j = 9 - nxo f n k o j := by
  unfold nxo xch
  repeat' split
  all_goals first | rfl | omega
/-- The answer: there is a next order, or none. -/
def NxIs (f : Nat → Int) (n : Nat) (g : Nat → Int) (ok : Bool) : Prop :=
  (ok = true ∧ ∃ k o, IsPl f n k ∧ IsOt f n k o ∧ ∀ j, j < n → g j = nxo f n k o j) ∨ (ok = false ∧ NoPl f n)
theorem NxIs.uniq {f g h : Nat → Int} {n : Nat} {a b : Bool} (u : NxIs f n g a) (v : NxIs f n h b) : a = b ∧ (a = true → ∀ j, j < n → g j = h j) := by
  rcases u with ⟨rfl, k, o, u1, u2, u3⟩ | ⟨rfl, u1⟩ <;> rcases v with ⟨rfl, l, p, v1, v2, v3⟩ | ⟨rfl, v1⟩
  · have e := u1.uniq v1; subst e
    have e := u2.uniq v2; subst e
    exact ⟨rfl, fun _ j hj => by rw [u3 j hj, v3 j hj]⟩
  · exact (u1.no v1).elim
  · exact (v1.no u1).elim
  · exact ⟨rfl, fun h => by cases h⟩
end Go.Proofs.YtghjpanabphbpaaDoor
