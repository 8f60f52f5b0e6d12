/-
  Both functions tell signed digits alike.
-/
import Derived.Test.YtpmkdpkegmbleaaDoorSgLeaf
namespace Go.Proofs.YtpmkdpkegmbleaaDoor
open Go.RowKit

theorem ext_one (s : ByteArray) (k : Nat) (h : k < s.size) : (s.extract k (k + 1)).data.toList = [s[k]] := by
  simp only [ByteArray.data_extract, Array.toList_extract, List.extract_eq_take_drop]
  have hk : k < s.data.toList.length := by simpa using h
  rw [List.drop_eq_getElem_cons hk]
  simp; rfl
theorem isSign_b (c : UInt8) (b : Bool) (w : World) (h : sgB c = b) :
    Calls Tryd.prog 26 #[.int .u8 (c.toNat : Int)] w fun e w' => e = .returned (.bool b) ∧ w = w' := by subst h; exact isSign_any c w
theorem digB_one (s : ByteArray) (k : Nat) (h : k < s.size) (b : Bool) (hb : dgB s[k] = b) : digB (s.extract k (k + 1)).data.toList = b := by
  rw [ext_one s k h]; simpa [digB] using hb
theorem size_ext (s : ByteArray) (k : Nat) (hs : s.size ≤ maxLen) : (s.extract k (k + 1)).size ≤ maxLen := by
  rw [ByteArray.size_extract]; omega
theorem okSt_take_succ (s : ByteArray) (k : Nat) (h : k < s.size) : okSt (s.data.toList.take (k + 1)) = okStep (okSt (s.data.toList.take k)) s[k] := by
  rw [take_snoc s k h, okSt_snoc]
theorem nDig_take_succ (s : ByteArray) (k : Nat) (h : k < s.size) : nDig (s.data.toList.take (k + 1)) = nDig (s.data.toList.take k) + (if dgB s[k] then 1 else 0) := by
  rw [take_snoc s k h, nDig_snoc]
theorem sigB_none (s : ByteArray) (k : Nat) (h : okSt (s.data.toList.take k) = none) : sigB s.data.toList = false := by
  have := okSt_none_sig (s.data.toList.take k) (s.data.toList.drop k) h
  rwa [List.take_append_drop] at this
/-- What the model hands back. -/
def plainOk (s : ByteArray) (v : Value) : Prop := ∃ t : ByteArray, v = .tuple #[.string t, .bool (sigB s.data.toList)] ∧ (sigB s.data.toList = true → t = ⟨(nos s.data.toList).toArray⟩)
theorem str_snoc (l : List UInt8) (s : ByteArray) (k : Nat) (h : k < s.size) : (⟨l.toArray⟩ : ByteArray) ++ s.extract k (k + 1) = ⟨(l ++ [s[k]]).toArray⟩ := by
  apply ByteArray.ext
  simp [ByteArray.data_append, ByteArray.data_extract]
  have hk : k < s.data.toList.length := by simpa using h
  rw [List.drop_eq_getElem_cons hk]
  simp; rfl
theorem pSt_take_succ (s : ByteArray) (k : Nat) (h : k < s.size) : pSt (s.data.toList.take (k + 1)) = pStep (pSt (s.data.toList.take k)) s[k] := by
  rw [take_snoc s k h, pSt_snoc]
theorem nos_take_succ (s : ByteArray) (k : Nat) (h : k < s.size) : nos (s.data.toList.take (k + 1)) = if sgB s[k] then nos (s.data.toList.take k) else nos (s.data.toList.take k) ++ [s[k]] := by
  rw [take_snoc s k h, nos_snoc]
theorem plain_no (s : ByteArray) (k : Nat) (h : pSt (s.data.toList.take k) = none) : sigB s.data.toList = false := by
  refine sigB_no_pSt _ ?_
  have := pSt_none_append (s.data.toList.take k) (s.data.toList.drop k) h
  rw [List.take_append_drop] at this
  rw [this]; simp
theorem nos_le (l : List UInt8) : (nos l).length ≤ l.length := List.length_filter_le _ _
end Go.Proofs.YtpmkdpkegmbleaaDoor
