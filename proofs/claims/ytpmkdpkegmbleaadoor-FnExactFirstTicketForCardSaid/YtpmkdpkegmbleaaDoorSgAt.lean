/-
  The signed digits at a place of the list.
-/
import Derived.Test.YtpmkdpkegmbleaaDoorSgRec
namespace Go.Proofs.YtpmkdpkegmbleaaDoor
open Go.RowKit

theorem ret_str2 {a b : List UInt8} (h : a = b) : Ending.returned (.string ⟨a.toArray⟩) = .returned (.string ⟨b.toArray⟩) := by rw [h]
theorem allK_last (plain : Bool) (ds : List UInt8) (r p : Nat) (hr : r < ds.length) (hp : p < sgsN plain ^ r) : ∃ pre, (allK plain ds r).getD p [] = pre ++ [ds.getD r 0] := by
  cases r with
  | zero =>
    refine ⟨[], ?_⟩
    have hp0 : p = 0 := by simpa using hp
    subst hp0
    match ds, hr with
    | c :: ds, _ => rfl
  | succ r => exact ⟨_, allK_get plain ds r p hp⟩
/-- How far the text is told from its end. -/
def AtInv (plain : Bool) (ds full : List UInt8) (r p : Nat) (x : List UInt8) : Prop := p < sgsN plain ^ r ∧ ∃ pre, (allK plain ds r).getD p [] = pre ++ [ds.getD r 0] ∧ full = pre ++ x
theorem at_step {plain : Bool} {ds full : List UInt8} {r p : Nat} {x : List UInt8} (hr : r + 1 < ds.length) (h : AtInv plain ds full (r + 1) p x) :
    AtInv plain ds full r (p / sgsN plain) ([ds.getD r 0] ++ ((sgs plain).getD (p % sgsN plain) [] ++ x)) := by
  obtain ⟨h1, pre, h2, h3⟩ := h
  have hp : p / sgsN plain < sgsN plain ^ r := by rw [Nat.div_lt_iff_lt_mul (sgsN_pos plain), ← Nat.pow_succ]; exact h1
  obtain ⟨pre2, h4⟩ := allK_last plain ds r (p / sgsN plain) (by omega) hp
  refine ⟨hp, pre2, h4, ?_⟩
  rw [allK_get plain ds r p h1, h4] at h2
  have := List.append_inj_left' h2 rfl
  rw [h3, ← this]; simp
theorem sgs_sbs (plain : Bool) (g : ByteArray) (hg : g = sbs plain) (m : Nat) (hm : m < g.size) :
    ((g[m].toNat : Int) = 32 ∧ (sgs plain).getD m [] = []) ∨ ((g[m].toNat : Int) = 42 ∧ (sgs plain).getD m [] = [42]) ∨ ((g[m].toNat : Int) = 43 ∧ (sgs plain).getD m [] = [43]) ∨ ((g[m].toNat : Int) = 45 ∧ (sgs plain).getD m [] = [45]) := by
  subst hg
  cases plain with
  | true =>
    match m, hm with
    | 0, _ => exact .inr (.inr (.inl ⟨rfl, rfl⟩))
    | 1, _ => exact .inr (.inr (.inr ⟨rfl, rfl⟩))
    | 2, _ => exact .inl ⟨rfl, rfl⟩
  | false =>
    match m, hm with
    | 0, _ => exact .inr (.inl ⟨rfl, rfl⟩)
    | 1, _ => exact .inr (.inr (.inl ⟨rfl, rfl⟩))
    | 2, _ => exact .inr (.inr (.inr ⟨rfl, rfl⟩))
    | 3, _ => exact .inl ⟨rfl, rfl⟩
theorem str_pre (s : ByteArray) (i : Nat) (h : i < s.size) (x : List UInt8) : s.extract i (i + 1) ++ ⟨x.toArray⟩ = (⟨([s[i]] ++ x).toArray⟩ : ByteArray) := by
  apply ByteArray.ext
  have hk : i < s.data.toList.length := by simpa using h
  apply Array.ext'
  simp only [ByteArray.data_append, ByteArray.data_extract, Array.toList_append, Array.toList_extract, List.extract_eq_take_drop, List.drop_eq_getElem_cons hk, Nat.add_sub_cancel_left, List.take_succ_cons, List.take_zero]
  rfl
theorem str_cat (u x : List UInt8) : (⟨u.toArray⟩ : ByteArray) ++ ⟨x.toArray⟩ = ⟨(u ++ x).toArray⟩ := by
  apply ByteArray.ext
  simp [ByteArray.data_append]
theorem str_end (s : ByteArray) (h : 1 ≤ s.size) : s.extract (s.size - 1) s.size = ⟨[s[s.size - 1]].toArray⟩ := by
  have e : s.extract (s.size - 1) s.size = s.extract (s.size - 1) (s.size - 1 + 1) := by rw [Nat.sub_add_cancel h]
  rw [e]
  apply ByteArray.ext
  have hk : s.size - 1 < s.data.toList.length := by simp; omega
  apply Array.ext'
  simp only [ByteArray.data_extract, Array.toList_extract, List.extract_eq_take_drop, List.drop_eq_getElem_cons hk, Nat.add_sub_cancel_left, List.take_succ_cons, List.take_zero]
  rfl
theorem getD_at (s : ByteArray) (i : Nat) (h : i < s.size) : s.data.toList.getD i 0 = s[i] := by
  rw [List.getD_eq_getElem?_getD, List.getElem?_eq_getElem (by simpa using h)]; rfl
end Go.Proofs.YtpmkdpkegmbleaaDoor
