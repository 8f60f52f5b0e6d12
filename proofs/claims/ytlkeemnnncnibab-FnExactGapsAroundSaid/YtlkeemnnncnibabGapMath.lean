/-
  Tickets that are told by ranks are tickets.
-/
import Derived.Test.YtlkeemnnncnibabNext
import Derived.Test.YtlkeemnnncnibabNum
namespace Go.Proofs.Ytlkeemnnncnibab
open Go.RowKit
set_option maxRecDepth 100000

theorem digit_ex (h : Nat) (l : List UInt8) (r : Int) (h0 : 0 ≤ r) (k : Nat) (hk : r < inner h l k) : ∃ e, e < k ∧ inner h l e ≤ r ∧ r < inner h l (e + 1) := by
  induction k with
  | zero => simp [inner, sumTo] at hk; omega
  | succ k ih =>
    by_cases h1 : r < inner h l k
    · obtain ⟨e, he, h2, h3⟩ := ih h1
      exact ⟨e, by omega, h2, h3⟩
    · exact ⟨k, by omega, by omega, hk⟩
theorem ranked_good (h : Nat) (hh : h ≤ 6) (n : Nat) : ∀ (l : List UInt8) (r : Int), l.length + n = 2 * h → digB l = true → 0 ≤ r → r < comp h l →
    digB (ranked h n l r) = true ∧ (ranked h n l r).length = 2 * h := by
  induction n with
  | zero => intro l r hl hd _ _; exact ⟨hd, by simpa [ranked] using hl⟩
  | succ n ih =>
    intro l r hl hd h0 h1
    rw [← inner_ten h l (by omega)] at h1
    obtain ⟨e, he, h2, h3⟩ := digit_ex h l r h0 10 h1
    rw [ranked_step h hh n l r e (by omega) h2 h3]
    exact ih _ _ (by simp; omega) (by rw [digB_append, hd]; simp [digB, dch_dg e (by omega)]) (by omega) (part_lt h l r e (by omega) h3)
theorem lor_good {z : Nat} {r : Int} (hz : szB (2 * (z : Int)) = true) (h6 : z ≤ 6) (h : lorB z r = true) : goodB (lorS z r) = true := by
  have hh : 0 ≤ r ∧ r < comp z [] := by simpa [lorB] using h
  obtain ⟨h1, h2⟩ := ranked_good z h6 (2 * z) [] r (by simp) rfl hh.1 hh.2
  rw [lorS, if_pos h]
  unfold goodB
  show (szB ((ranked z (2 * z) [] r).toArray.size : Int) && digB (ranked z (2 * z) [] r).toArray.toList) = true
  rw [List.size_toArray, h2, List.toList_toArray, h1]
  simpa using hz
theorem tnum_bd (s : ByteArray) : 0 ≤ tnum s ∧ tnum s ≤ 999999999999 := by
  unfold tnum
  by_cases h : goodB s = true
  · rw [if_pos h]; exact dnum_12 _ (by have := good_12 h; simpa using this) (good_dig h)
  · rw [if_neg h]; omega
theorem good_len {s : ByteArray} (h : goodB s = true) : s.size ≤ maxLen := by have := good_12 h; unfold maxLen; omega
theorem tkNum_t (s : ByteArray) (w : World) (hg : goodB s = true) :
    Calls Try.prog 46 #[.string s] w fun e w' => e = .returned (.int .i64 (tnum s)) ∧ w = w' :=
  (tkNumber_any s w (good_12 hg) (good_dig hg)).mono fun e w' ⟨he, hw⟩ => ⟨by rw [he, tnum_yes hg], hw⟩
theorem iNum_t (s : ByteArray) (w : World) (hg : goodB s = true) :
    Calls Try.prog 20 #[.string s] w fun e w' => e = .returned (.tuple #[.int .i64 (tnum s), .bool true]) ∧ Below w.heap.size w w' :=
  (iNumber_any s w (good_len hg)).mono fun e w' ⟨he, hw⟩ => ⟨by rw [he, hg], hw⟩
/-- The gaps. -/
def gapA (z : Nat) (s : ByteArray) : Int := if lorB z (rank z s - 1) = true then tnum s - tnum (lorS z (rank z s - 1)) else 0
def gapB (z : Nat) (s : ByteArray) : Int := if lorB z (nextR z s) = true then tnum (lorS z (nextR z s)) - tnum s else 0
theorem gapA_yes {z : Nat} {s : ByteArray} (h : lorB z (rank z s - 1) = true) : gapA z s = tnum s - tnum (lorS z (rank z s - 1)) := by rw [gapA, if_pos h]
theorem gapA_no {z : Nat} {s : ByteArray} (h : lorB z (rank z s - 1) = false) : gapA z s = 0 := by rw [gapA, if_neg (by rw [h]; simp)]
theorem gapB_yes {z : Nat} {s : ByteArray} (h : lorB z (nextR z s) = true) : gapB z s = tnum (lorS z (nextR z s)) - tnum s := by rw [gapB, if_pos h]
theorem gapB_no {z : Nat} {s : ByteArray} (h : lorB z (nextR z s) = false) : gapB z s = 0 := by rw [gapB, if_neg (by rw [h]; simp)]
end Go.Proofs.Ytlkeemnnncnibab
