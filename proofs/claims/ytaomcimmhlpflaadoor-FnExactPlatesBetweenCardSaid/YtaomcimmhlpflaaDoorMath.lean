/-
  Plain facts on digits and their sums; nothing of the program.
-/
import Derived.WalkKit
namespace Go.Proofs.YtaomcimmhlpflaaDoor

/-- A digit. -/
def dgB (c : UInt8) : Bool := decide (48 ≤ (c.toNat : Int) ∧ (c.toNat : Int) ≤ 57)
/-- Digits. -/
def digB (l : List UInt8) : Bool := l.all dgB
/-- What a digit tells. -/
def dv (c : UInt8) : Int := (c.toNat : Int) - 48
/-- The sum of digits. -/
def dsum : List UInt8 → Int
  | [] => 0
  | c :: l => dv c + dsum l
/-- There is a number of digits. -/
def szB (d : Int) : Bool := decide (2 ≤ d ∧ d ≤ 12 ∧ d % 2 = 0)
/-- There is a ticket. -/
def goodB (s : ByteArray) : Bool := szB s.size && digB s.data.toList

theorem take_snoc (s : ByteArray) (k : Nat) (h : k < s.size) : s.data.toList.take (k + 1) = s.data.toList.take k ++ [s[k]] := by
  rw [List.take_succ_eq_append_getElem (by simpa using h)]; rfl
theorem take_all (s : ByteArray) : s.data.toList.take s.size = s.data.toList := List.take_of_length_le (by simp)
theorem digB_snoc (l : List UInt8) (c : UInt8) : digB (l ++ [c]) = (digB l && dgB c) := by simp [digB]
theorem digB_append (a b : List UInt8) : digB (a ++ b) = (digB a && digB b) := by simp [digB]
theorem dsum_append (a b : List UInt8) : dsum (a ++ b) = dsum a + dsum b := by
  induction a with
  | nil => simp [dsum]
  | cons c a ih => simp only [List.cons_append, dsum, ih]; omega
theorem dsum_snoc (l : List UInt8) (c : UInt8) : dsum (l ++ [c]) = dsum l + dv c := by rw [dsum_append]; simp [dsum]
theorem dgB_iff (c : UInt8) : dgB c = true ↔ 48 ≤ (c.toNat : Int) ∧ (c.toNat : Int) ≤ 57 := by simp [dgB]
theorem dsum_bd (l : List UInt8) (h : digB l = true) : 0 ≤ dsum l ∧ dsum l ≤ 9 * l.length := by
  induction l with
  | nil => simp [dsum]
  | cons c l ih =>
    have h' : dgB c = true ∧ digB l = true := by simpa [digB] using h
    have := ih h'.2
    have := (dgB_iff c).1 h'.1
    simp only [dsum, dv, List.length_cons]; omega
theorem digB_take (l : List UInt8) (k : Nat) (h : digB l = true) : digB (l.take k) = true := by
  have e : digB (l.take k ++ l.drop k) = true := by rw [List.take_append_drop]; exact h
  rw [digB_append] at e; simp at e; exact e.1
theorem digB_drop (l : List UInt8) (k : Nat) (h : digB l = true) : digB (l.drop k) = true := by
  have e : digB (l.take k ++ l.drop k) = true := by rw [List.take_append_drop]; exact h
  rw [digB_append] at e; simp at e; exact e.2
theorem digB_get (s : ByteArray) (k : Nat) (hk : k < s.size) (h : digB s.data.toList = true) : 48 ≤ (s[k].toNat : Int) ∧ (s[k].toNat : Int) ≤ 57 := by
  rw [← dgB_iff]
  have e := digB_take _ (k + 1) h
  rw [take_snoc s k hk, digB_snoc] at e; simp at e; exact e.2
theorem digB_no (s : ByteArray) (k : Nat) (hk : k < s.size) (h : dgB s[k] = false) : digB s.data.toList = false := by
  cases e : digB s.data.toList with
  | false => rfl
  | true => have := (dgB_iff _).2 (digB_get s k hk e); rw [h] at this; cases this
theorem szB_iff (d : Int) : szB d = true ↔ 2 ≤ d ∧ d ≤ 12 ∧ d % 2 = 0 := by simp [szB]
theorem good_sz {s : ByteArray} (h : goodB s = true) : 2 ≤ (s.size : Int) ∧ (s.size : Int) ≤ 12 ∧ (s.size : Int) % 2 = 0 := by
  rw [← szB_iff]; simp [goodB] at h; exact h.1
theorem good_dig {s : ByteArray} (h : goodB s = true) : digB s.data.toList = true := by simp [goodB] at h; exact h.2
end Go.Proofs.YtaomcimmhlpflaaDoor
