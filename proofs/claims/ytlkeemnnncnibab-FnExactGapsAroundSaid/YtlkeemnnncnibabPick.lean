/-
  Lucky tickets by their ranks: plain facts, nothing of the program.
-/
import Derived.Test.YtlkeemnnncnibabRank
namespace Go.Proofs.Ytlkeemnnncnibab

/-- The byte of a digit. -/
def dch (d : Nat) : UInt8 := UInt8.ofNat (48 + d)
theorem dch_nat (d : Nat) (h : d ≤ 9) : (dch d).toNat = 48 + d := by unfold dch; rw [UInt8.toNat_ofNat']; omega
theorem dch_dv (d : Nat) (h : d ≤ 9) : dv (dch d) = (d : Int) := by unfold dv; rw [dch_nat d h]; omega
theorem dch_dg (d : Nat) (h : d ≤ 9) : dgB (dch d) = true := by unfold dgB; rw [dch_nat d h]; simp; omega
theorem comp_dch (h : Nat) (l : List UInt8) (d : Nat) (h9 : d ≤ 9) : comp h (l ++ [dch d]) = cmp h (l.length + 1) (stp h l.length (bal h l) (d : Int)) := by
  rw [comp_snoc, dch_dv d h9]
theorem inner_ten (h : Nat) (l : List UInt8) (hl : l.length < 2 * h) : inner h l 10 = comp h l := by
  unfold comp
  rw [cmp_ten h l.length _ hl]
  unfold inner sum10
  simp [sumTo]
theorem inner_mono (h : Nat) (hh : h ≤ 6) (l : List UInt8) {a b : Nat} (hab : a ≤ b) : inner h l a ≤ inner h l b :=
  sumTo_mono _ (fun _ => (cmp_bd hh _).1) a b hab
/-- The next digit, by search. -/
def dig (h : Nat) (l : List UInt8) (r : Int) : Nat → Nat → Nat
  | 0, d => d
  | n + 1, d => if r < inner h l (d + 1) then d else dig h l r n (d + 1)
theorem dig_at (h : Nat) (hh : h ≤ 6) (l : List UInt8) (r : Int) (n d e : Nat) (hd : d ≤ e) (hn : e < d + n) (h1 : inner h l e ≤ r) (h2 : r < inner h l (e + 1)) : dig h l r n d = e := by
  induction n generalizing d with
  | zero => omega
  | succ n ih =>
    unfold dig
    by_cases he : d = e
    · subst he; rw [if_pos h2]
    · have := inner_mono h hh l (show d + 1 ≤ e by omega)
      rw [if_neg (by omega)]
      exact ih (d + 1) (by omega) (by omega)
/-- The lucky ticket with a rank among those that begin so. -/
def ranked (h : Nat) : Nat → List UInt8 → Int → List UInt8
  | 0, l, _ => l
  | n + 1, l, r => ranked h n (l ++ [dch (dig h l r 10 0)]) (r - inner h l (dig h l r 10 0))
theorem ranked_step (h : Nat) (hh : h ≤ 6) (n : Nat) (l : List UInt8) (r : Int) (e : Nat) (he : e ≤ 9) (h1 : inner h l e ≤ r) (h2 : r < inner h l (e + 1)) :
    ranked h (n + 1) l r = ranked h n (l ++ [dch e]) (r - inner h l e) := by
  show ranked h n _ _ = _
  rw [dig_at h hh l r 10 0 e (by omega) (by omega) h1 h2]
theorem part_lt (h : Nat) (l : List UInt8) (r : Int) (e : Nat) (he : e ≤ 9) (h2 : r < inner h l (e + 1)) : r - inner h l e < comp h (l ++ [dch e]) := by
  rw [comp_dch h l e he]; rw [inner_succ] at h2; omega
theorem le_nine (h : Nat) (hh : h ≤ 6) (l : List UInt8) (hl : l.length < 2 * h) (r : Int) (d : Nat) (hr : r < comp h l) (h1 : inner h l d ≤ r) : d ≤ 9 := by
  rcases Nat.lt_or_ge d 10 with h' | h'
  · omega
  · have := inner_mono h hh l h'
    rw [inner_ten h l hl] at this
    omega
end Go.Proofs.Ytlkeemnnncnibab
