/-
  What leads from one text of digits to another one.
-/
import Derived.Test.YtleifibbdjplbabSlSwp
import Derived.Test.YtleifibbdjplbabApp
import Derived.Test.YtleifibbdjplbabSlMark
import Derived.Test.YtleifibbdjplbabSlLawI
import Derived.Deep.RegionHeldLaw
import Derived.Deep.AppendLies
import Derived.BigQuiet
namespace Go.Proofs.Ytleifibbdjplbab
open Go.RowKit

/-- The places where two texts differ, among the first k. -/
def dfk (a b : List UInt8) : Nat → List Nat
  | 0 => []
  | k + 1 => dfk a b k ++ (if a.getD k 48 = b.getD k 48 then [] else [k])
theorem dfk_len (a b : List UInt8) (k : Nat) : (dfk a b k).length ≤ k := by
  induction k with
  | zero => simp [dfk]
  | succ k ih => rw [dfk]; split <;> simp <;> omega
theorem dfk_same {a b : List UInt8} {k : Nat} (h : a.getD k 48 = b.getD k 48) : dfk a b (k + 1) = dfk a b k := by rw [dfk, if_pos h, List.append_nil]
theorem dfk_diff {a b : List UInt8} {k : Nat} (h : ¬ a.getD k 48 = b.getD k 48) : dfk a b (k + 1) = dfk a b k ++ [k] := by rw [dfk, if_neg h]
theorem dfk_mem (a b : List UInt8) (k i : Nat) : i ∈ dfk a b k ↔ i < k ∧ a.getD i 48 ≠ b.getD i 48 := by
  induction k with
  | zero => simp [dfk]
  | succ k ih =>
    by_cases h : a.getD k 48 = b.getD k 48
    · rw [dfk_same h, ih]
      constructor
      · rintro ⟨h1, h2⟩; exact ⟨by omega, h2⟩
      · rintro ⟨h1, h2⟩
        refine ⟨?_, h2⟩
        by_cases e : i = k
        · subst e; exact absurd h h2
        · omega
    · rw [dfk_diff h, List.mem_append, ih, List.mem_singleton]
      constructor
      · rintro (⟨h1, h2⟩ | rfl)
        · exact ⟨by omega, h2⟩
        · exact ⟨by omega, h⟩
      · rintro ⟨h1, h2⟩
        by_cases e : i = k
        · exact .inr e
        · exact .inl ⟨by omega, h2⟩
/-- The slips at these places, field by field. -/
def slc (a b : List UInt8) : List Nat → List Value
  | [] => []
  | k :: ds => .int .i64 k :: .int .i64 (dgt a k) :: .int .i64 (dgt b k) :: slc a b ds
theorem slc_snoc (a b : List UInt8) (ds : List Nat) (k : Nat) : slc a b (ds ++ [k]) = slc a b ds ++ [.int .i64 k, .int .i64 (dgt a k), .int .i64 (dgt b k)] := by
  induction ds with
  | nil => rfl
  | cons d ds ih => simp [slc, ih]
/-- Two slips are a swap. -/
def isSwp (a b : List UInt8) : List Nat → Bool
  | [i, j] => decide (j = i + 1) && (decide (dgt a j = dgt b i) && decide (dgt b j = dgt a i))
  | _ => false
def tSame : ByteArray := ⟨#[115, 97, 109, 101]⟩
def tSlip : ByteArray := ⟨#[115, 108, 105, 112]⟩
def tSwap : ByteArray := ⟨#[115, 119, 97, 112]⟩
def tMore : ByteArray := ⟨#[109, 111, 114, 101]⟩
/-- What leads from one text to the other one, these being the places where they differ. -/
def sbT (a b : List UInt8) (ds : List Nat) : ByteArray := if ds.length = 0 then tSame else if ds.length = 1 then tSlip else if isSwp a b ds = true then tSwap else tMore
/-- Both are texts of as many digits. -/
def sbB (s t : ByteArray) : Bool := ardB s 1 12 && (decide (t.size = s.size) && digB t.data.toList)
def sbA (s t : ByteArray) : ByteArray := if sbB s t = true then sbT s.data.toList t.data.toList (dfk s.data.toList t.data.toList s.size) else ⟨#[]⟩
theorem dgt_inj {a b : List UInt8} {i j : Nat} : dgt a i = dgt b j ↔ a.getD i 48 = b.getD j 48 := by
  unfold dgt dv
  constructor
  · intro h
    have h2 : (a.getD i 48).toNat = (b.getD j 48).toNat := by omega
    exact UInt8.toNat_inj.1 h2
  · intro h; rw [h]
theorem swL_get (t : List UInt8) (p i : Nat) (hp : p + 1 < t.length) : (swL t p).getD i 48 = if i = p then t.getD (p + 1) 48 else if i = p + 1 then t.getD p 48 else t.getD i 48 := by
  unfold swL
  by_cases h1 : i < p
  · rw [if_neg (by omega), if_neg (by omega), List.getD_eq_getElem?_getD, List.getElem?_append_left (by simp; omega), List.getElem?_take_of_lt h1, ← List.getD_eq_getElem?_getD]
  · have hl : (t.take p).length = p := by simp; omega
    rw [List.getD_eq_getElem?_getD, List.getElem?_append_right (by omega), hl]
    by_cases h2 : i = p
    · subst h2; simp
    · rw [if_neg h2]
      by_cases h3 : i = p + 1
      · subst h3; simp
      · rw [if_neg h3]
        obtain ⟨q, hq⟩ : ∃ q, i - p = q + 2 := ⟨i - p - 2, by omega⟩
        rw [hq, List.getElem?_cons_succ, List.getElem?_cons_succ, List.getElem?_drop, show p + 2 + q = i by omega, ← List.getD_eq_getElem?_getD]
theorem ext_getD {a b : List UInt8} (hl : a.length = b.length) (h : ∀ i, i < a.length → a.getD i 48 = b.getD i 48) : a = b := by
  apply List.ext_getElem? 
  intro i
  by_cases hi : i < a.length
  · have := h i hi
    rw [List.getD_eq_getElem?_getD, List.getD_eq_getElem?_getD, List.getElem?_eq_getElem hi, List.getElem?_eq_getElem (hl ▸ hi)] at this
    rw [List.getElem?_eq_getElem hi, List.getElem?_eq_getElem (hl ▸ hi)]
    simpa using this
  · rw [List.getElem?_eq_none (by omega), List.getElem?_eq_none (by omega)]
/-- The swap of a text is the other one just if the two slips are its two halves. -/
theorem swp_iff (a b : List UInt8) (i : Nat) (hl : a.length = b.length) (hi : i + 1 < a.length) (hd : dfk a b a.length = [i, i + 1]) : swL a i = b ↔ isSwp a b [i, i + 1] = true := by
  have key : isSwp a b [i, i + 1] = true ↔ a.getD (i + 1) 48 = b.getD i 48 ∧ b.getD (i + 1) 48 = a.getD i 48 := by
    simp only [isSwp, Bool.and_eq_true, decide_eq_true_eq, true_and]
    rw [dgt_inj, dgt_inj]
  rw [key]
  constructor
  · intro h
    subst h
    rw [swL_get a i i hi, swL_get a i (i + 1) hi, if_pos rfl, if_neg (by omega), if_pos rfl]
    exact ⟨rfl, rfl⟩
  · rintro ⟨h1, h2⟩
    refine ext_getD (by rw [swL_len a i hi, hl]) fun q hq => ?_
    rw [swL_len a i hi] at hq
    rw [swL_get a i q hi]
    by_cases e1 : q = i
    · rw [if_pos e1, e1]; exact h1
    · rw [if_neg e1]
      by_cases e2 : q = i + 1
      · rw [if_pos e2, e2]; exact h2.symm
      · rw [if_neg e2]
        have hm : q ∉ dfk a b a.length := by rw [hd]; simp [e1, e2]
        rw [dfk_mem] at hm
        by_cases e3 : a.getD q 48 = b.getD q 48
        · exact e3
        · exact absurd ⟨hq, e3⟩ hm
theorem sbB_no {s t : ByteArray} (h : ardB s 1 12 = false) : sbB s t = false := by unfold sbB; rw [h]; rfl
theorem get_D (s : ByteArray) (k : Nat) (h : k < s.size) : s.data.toList.getD k 48 = s[k] := by
  rw [List.getD_eq_getElem?_getD, List.getElem?_eq_getElem (by simpa using h)]
  rfl
end Go.Proofs.Ytleifibbdjplbab
