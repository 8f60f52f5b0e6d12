/-
  Two digits side by side exchanged.
-/
import Derived.Test.YtleifibbdjplbabSlNum
namespace Go.Proofs.Ytleifibbdjplbab
open Go.RowKit

/-- Two signs side by side exchanged. -/
def swS (s : ByteArray) (p : Nat) : ByteArray := s.extract 0 p ++ s.extract (p + 1) (p + 2) ++ s.extract p (p + 1) ++ s.extract (p + 2) s.size
def swL (t : List UInt8) (p : Nat) : List UInt8 := t.take p ++ t.getD (p + 1) 48 :: t.getD p 48 :: t.drop (p + 2)
theorem take1 (t : List UInt8) (k : Nat) (h : k < t.length) : (t.drop k).take 1 = [t.getD k 48] := by
  rw [List.drop_eq_getElem_cons h, List.take_succ_cons, List.take_zero]
  simp [List.getD, List.getElem?_eq_getElem h]
theorem swS_list (s : ByteArray) (p : Nat) (hp : p + 1 < s.size) : (swS s p).data.toList = swL s.data.toList p := by
  have hl : s.data.toList.length = s.size := by simp
  have e : ∀ a b, (s.extract a b).data.toList = (s.data.toList.drop a).take (b - a) := fun a b => by simp [ByteArray.data_extract, Array.toList_extract, List.extract_eq_take_drop]
  unfold swS swL
  simp only [ByteArray.data_append, Array.toList_append, e]
  rw [show p + 2 - (p + 1) = 1 by omega, show p + 1 - p = 1 by omega, take1 _ _ (by omega), take1 _ _ (by omega), List.drop_zero, Nat.sub_zero, List.take_of_length_le (by simp : (s.data.toList.drop (p + 2)).length ≤ s.size - (p + 2))]
  simp
theorem swL_len (t : List UInt8) (p : Nat) (hp : p + 1 < t.length) : (swL t p).length = t.length := by simp [swL]; omega
theorem swS_size (s : ByteArray) (p : Nat) (hp : p + 1 < s.size) : (swS s p).size = s.size := by
  have h := swL_len s.data.toList p (by simpa using hp)
  rw [← swS_list s p hp] at h
  simpa using h
theorem dgB_at (t : List UInt8) (i : Nat) (h : digB t = true) : dgB (t.getD i 48) = true := by
  by_cases hi : i < t.length
  · exact (all_getD t 48 dgB).1 h i hi
  · rw [List.getD_eq_getElem?_getD, List.getElem?_eq_none (by omega)]; rfl
theorem swL_dig (t : List UInt8) (p : Nat) (h : digB t = true) : digB (swL t p) = true := by
  unfold swL
  rw [digB_append, digB_take _ _ h]
  have := digB_drop t (p + 2) h
  simp only [digB, List.all_cons, Bool.true_and, dgB_at t _ h] at this ⊢
  exact this
theorem swL_same (t : List UInt8) (p : Nat) (hp : p + 1 < t.length) (h : t.getD p 48 = t.getD (p + 1) 48) : swL t p = t := by
  unfold swL
  have e1 : t.drop p = t.getD p 48 :: t.getD (p + 1) 48 :: t.drop (p + 2) := by
    rw [List.drop_eq_getElem_cons (by omega : p < t.length), List.drop_eq_getElem_cons hp]
    simp [List.getD, List.getElem?_eq_getElem (show p < t.length by omega), List.getElem?_eq_getElem hp]
  conv => rhs; rw [← List.take_append_drop p t, e1]
  rw [h]
set_option maxHeartbeats 1000000 in
theorem slSwap_any (s : ByteArray) (p : Nat) (w : World) (hs : s.size ≤ 1000000) (hp : p + 1 < s.size) :
    Calls Try.prog 28 #[.string s, .int .i64 p] w fun e w' => e = .returned (.string (swS s p)) ∧ Below w.heap.size w w' := by
  have z1 : (s.extract 0 p).size = p := by rw [ByteArray.size_extract]; omega
  have z2 : (s.extract (p + 1) (p + 2)).size = 1 := by rw [ByteArray.size_extract]; omega
  have z3 : (s.extract p (p + 1)).size = 1 := by rw [ByteArray.size_extract]; omega
  have z4 : (s.extract (p + 2) s.size).size = s.size - (p + 2) := by rw [ByteArray.size_extract]; omega
  have z12 : (s.extract 0 p ++ s.extract (p + 1) (p + 2)).size = p + 1 := by rw [ByteArray.size_append, z1, z2]
  have z123 : (s.extract 0 p ++ s.extract (p + 1) (p + 2) ++ s.extract p (p + 1)).size = p + 2 := by rw [ByteArray.size_append, z12, z3]
  have k1 : ¬ 9223372036854775807 < (s.extract 0 p).size + (s.extract (p + 1) (p + 2)).size := by rw [z1, z2]; omega
  have k2 : ¬ 9223372036854775807 < (s.extract 0 p ++ s.extract (p + 1) (p + 2)).size + (s.extract p (p + 1)).size := by rw [z12, z3]; omega
  have k3 : ¬ 9223372036854775807 < (s.extract 0 p ++ s.extract (p + 1) (p + 2) ++ s.extract p (p + 1)).size + (s.extract (p + 2) s.size).size := by rw [z123, z4]; omega
  have w1 : IntKind.i64.wrap ((p : Int) + 1) = (p : Int) + 1 := IntWalk.i64_in _ (by omega)
  have w2 : IntKind.i64.wrap ((p : Int) + 2) = (p : Int) + 2 := IntWalk.i64_in _ (by omega)
  have h0 : (0 : Int) ≤ (p : Int) := by omega
  have h1 : (p : Int) ≤ (s.size : Int) := by omega
  have h2 : (p : Int) + 1 ≤ (s.size : Int) := by omega
  have h3 : (p : Int) + 2 ≤ (s.size : Int) := by omega
  have h4 : (p : Int) ≤ (p : Int) + 1 := by omega
  have h5 : (p : Int) + 1 ≤ (p : Int) + 2 := by omega
  have h6 : (0 : Int) ≤ (p : Int) + 1 := by omega
  have h7 : (0 : Int) ≤ (p : Int) + 2 := by omega
  have t1 : ((p : Int) + 1).toNat = p + 1 := by omega
  have t2 : ((p : Int) + 2).toNat = p + 2 := by omega
  have HZ : Hid (s.extract 0 p ++ s.extract (p + 1) (p + 2) ++ s.extract p (p + 1) ++ s.extract (p + 2) s.size = swS s p) := rfl
  clear z1 z2 z3 z4 z12 z123
  go_enter Try.func28, Try.ntmps28
  go_wp2
  go_quiet (fail)
  go_wp2
  go_ret
  exact ⟨by first | rfl | rw [← HZ.out], below_drewN (Below.refl _ _) _⟩
set_option maxHeartbeats 1000000 in
theorem withSwap_any (s : ByteArray) (p : Nat) (w : World) (hs : s.size ≤ 1000000) (hp : p + 1 < s.size) :
    Calls Try.prog 32 #[.string s, .int .i64 p] w fun e w' => e = .returned (.string (swS s p)) ∧ Below w.heap.size w w' := by
  have z1 : (s.extract 0 p).size = p := by rw [ByteArray.size_extract]; omega
  have z2 : (s.extract (p + 1) (p + 2)).size = 1 := by rw [ByteArray.size_extract]; omega
  have z3 : (s.extract p (p + 1)).size = 1 := by rw [ByteArray.size_extract]; omega
  have z4 : (s.extract (p + 2) s.size).size = s.size - (p + 2) := by rw [ByteArray.size_extract]; omega
  have z12 : (s.extract 0 p ++ s.extract (p + 1) (p + 2)).size = p + 1 := by rw [ByteArray.size_append, z1, z2]
  have z123 : (s.extract 0 p ++ s.extract (p + 1) (p + 2) ++ s.extract p (p + 1)).size = p + 2 := by rw [ByteArray.size_append, z12, z3]
  have k1 : ¬ 9223372036854775807 < (s.extract 0 p).size + (s.extract (p + 1) (p + 2)).size := by rw [z1, z2]; omega
  have k2 : ¬ 9223372036854775807 < (s.extract 0 p ++ s.extract (p + 1) (p + 2)).size + (s.extract p (p + 1)).size := by rw [z12, z3]; omega
  have k3 : ¬ 9223372036854775807 < (s.extract 0 p ++ s.extract (p + 1) (p + 2) ++ s.extract p (p + 1)).size + (s.extract (p + 2) s.size).size := by rw [z123, z4]; omega
  have w1 : IntKind.i64.wrap ((p : Int) + 1) = (p : Int) + 1 := IntWalk.i64_in _ (by omega)
  have w2 : IntKind.i64.wrap ((p : Int) + 2) = (p : Int) + 2 := IntWalk.i64_in _ (by omega)
  have h0 : (0 : Int) ≤ (p : Int) := by omega
  have h1 : (p : Int) ≤ (s.size : Int) := by omega
  have h2 : (p : Int) + 1 ≤ (s.size : Int) := by omega
  have h3 : (p : Int) + 2 ≤ (s.size : Int) := by omega
  have h4 : (p : Int) ≤ (p : Int) + 1 := by omega
  have h5 : (p : Int) + 1 ≤ (p : Int) + 2 := by omega
  have h6 : (0 : Int) ≤ (p : Int) + 1 := by omega
  have h7 : (0 : Int) ≤ (p : Int) + 2 := by omega
  have t1 : ((p : Int) + 1).toNat = p + 1 := by omega
  have t2 : ((p : Int) + 2).toNat = p + 2 := by omega
  have HZ : Hid (s.extract 0 p ++ s.extract (p + 1) (p + 2) ++ s.extract p (p + 1) ++ s.extract (p + 2) s.size = swS s p) := rfl
  clear z1 z2 z3 z4 z12 z123
  go_enter Try.func32, Try.ntmps32
  go_wp2
  go_quiet (fail)
  go_wp2
  go_ret
  exact ⟨by first | rfl | rw [← HZ.out], below_drewN (Below.refl _ _) _⟩
end Go.Proofs.Ytleifibbdjplbab
