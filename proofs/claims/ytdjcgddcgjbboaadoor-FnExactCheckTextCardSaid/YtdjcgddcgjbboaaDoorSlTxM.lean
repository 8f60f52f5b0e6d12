/-
  The text of a check: texts of numbers with commas between them.
-/
import Derived.Test.YtdjcgddcgjbboaaDoorSlGood
import Derived.Lib.Join
import Derived.Lib.ItoaNum
namespace Go.Proofs.YtdjcgddcgjbboaaDoor
open Go.RowKit

def dcx (u : Nat) : UInt8 := UInt8.ofNat (48 + u)
def ddx (x : Int) : List UInt8 := Lib.decDigits x.toNat
theorem ddx_len {x : Int} (h : 0 ≤ x ∧ x ≤ 11) : (ddx x).length ≤ 2 ∧ 1 ≤ (ddx x).length := by
  unfold ddx
  by_cases h1 : x.toNat < 10
  · rw [Lib.decDigits, dif_pos h1]; simp
  · rw [Lib.decDigits, dif_neg h1, Lib.decDigits, dif_pos (by omega)]; simp
def wtx (xs : List Int) (k : Nat) : List UInt8 := Lib.join ((xs.take k).map ddx) [44]
def ctx (xs : List Int) (m : Int) : List UInt8 := wtx xs xs.length ++ [109] ++ ddx m
theorem wtx_zero (xs : List Int) : wtx xs 0 = [] := by simp [wtx, Lib.join_nil]
theorem wtx_one {xs : List Int} (h : 0 < xs.length) : wtx xs 1 = ddx (xs.getD 0 0) := by
  cases xs with
  | nil => simp at h
  | cons x r => simp [wtx, Lib.join_one]
theorem wtx_succ {xs : List Int} {k : Nat} (h : k + 1 < xs.length) : wtx xs (k + 2) = wtx xs (k + 1) ++ [44] ++ ddx (xs.getD (k + 1) 0) := by
  cases xs with
  | nil => simp at h
  | cons x r =>
    have hk : k < r.length := by simpa using h
    unfold wtx
    rw [List.take_succ_cons, List.take_succ_cons, List.map_cons, List.map_cons, Lib.join_cons, Lib.join_cons, List.map_take, List.map_take,
      Lib.joinTail_take_succ [44] (r.map ddx) k (ddx (r.getD k 0)) (by simp [List.getD, List.getElem?_eq_getElem hk])]
    simp [List.append_assoc]
theorem wtx_len {xs : List Int} (h : ∀ j, j < xs.length → 0 ≤ xs.getD j 0 ∧ xs.getD j 0 ≤ 11) (k : Nat) (hk : k ≤ xs.length) : (wtx xs k).length ≤ 3 * k := by
  induction k with
  | zero => rw [wtx_zero]; simp
  | succ k ih =>
    cases k with
    | zero => rw [wtx_one (by omega)]; have := (ddx_len (h 0 (by omega))).1; omega
    | succ k =>
      rw [wtx_succ (by omega)]
      have h1 := ih (by omega)
      have h2 := (ddx_len (h (k + 1) (by omega))).1
      simp only [List.length_append, List.length_singleton]
      omega
theorem chk_in {xs : List Int} {m : Int} (h : chkB xs m = true) : (2 ≤ xs.length ∧ xs.length ≤ 12) ∧ (2 ≤ m ∧ m ≤ 11) ∧ ∀ j, j < xs.length → 0 ≤ xs.getD j 0 ∧ xs.getD j 0 ≤ 10 := by
  unfold chkB at h
  rw [Bool.and_eq_true, Bool.and_eq_true, decide_eq_true_eq, decide_eq_true_eq] at h
  obtain ⟨h1, h2, h3⟩ := h
  refine ⟨h1, h2, fun j hj => ?_⟩
  have h4 := (all_getD xs 0 _).1 h3 j hj
  rw [decide_eq_true_eq] at h4
  omega
theorem bytes_two (l m : List UInt8) : (⟨l.toArray⟩ : ByteArray) ++ ⟨m.toArray⟩ = ⟨(l ++ m).toArray⟩ := by
  apply ByteArray.ext
  simp [ByteArray.data_append]
end Go.Proofs.YtdjcgddcgjbboaaDoor
