/-
  A digit put in a place of a text, numbers below a hundred written out.
-/
import Derived.Test.YtdjcgddcgjbboaaDoorSlNum
import Derived.Test.YtdjcgddcgjbboaaDoorShelf
namespace Go.Proofs.YtdjcgddcgjbboaaDoor
open Go.RowKit

/-- The sign of a digit. -/
def dc (d : Nat) : UInt8 := UInt8.ofNat (48 + d)
theorem dc_nat (d : Nat) (h : d ≤ 9) : ((dc d).toNat : Int) = 48 + (d : Int) := by unfold dc; rw [u8_dig d h]; omega
/-- A text with another digit at a place. -/
def putS (s : ByteArray) (p d : Nat) : ByteArray := s.extract 0 p ++ ⟨#[dc d]⟩ ++ s.extract (p + 1) s.size
theorem putS_list (s : ByteArray) (p d : Nat) : (putS s p d).data.toList = putD s.data.toList p d := by
  have e : ∀ a b, (s.extract a b).data.toList = (s.data.toList.drop a).take (b - a) := fun a b => by simp [ByteArray.data_extract, Array.toList_extract, List.extract_eq_take_drop]
  unfold putS putD
  simp only [ByteArray.data_append, Array.toList_append, e]
  rw [List.drop_zero, Nat.sub_zero, List.take_of_length_le (by simp : (s.data.toList.drop (p + 1)).length ≤ s.size - (p + 1))]
  simp [dc]
theorem putS_size (s : ByteArray) (p d : Nat) (hp : p < s.size) : (putS s p d).size = s.size := by
  have h := putD_len s.data.toList p d (by simpa using hp)
  rw [← putS_list s p d] at h
  simpa using h
theorem dec_dig (d : Nat) (h : d ≤ 9) : Lib.decDigits d = [dc d] := by
  rw [Lib.decDigits, dif_pos (by omega)]; rfl
theorem itoa_d (d : Nat) (w : World) (h : d ≤ 9) : Calls Tryd.prog 54 #[.int .i64 d] w fun e w' => e = .returned (.string ⟨#[dc d]⟩) ∧ Below w.heap.size w w' := by
  refine (Tryd.strconv_Itoa_small d (by omega) w).mono ?_
  rintro e w' ⟨rfl, rfl⟩
  rw [dec_dig d h]
  exact ⟨rfl, Below.refl _ _⟩
set_option maxRecDepth 100000 in
theorem l1Num_d (d : Nat) (w : World) (h9 : d ≤ 9) :
    Calls Tryd.prog 66 #[.int .i64 d] w fun e w' => e = .returned (.string ⟨#[dc d]⟩) ∧ Below w.heap.size w w' := by
  have hcv : (convert 93 9 (.slice (some ⟨w.heap.size, 0, none⟩) 1 1)).run Tryd.prog (w.alloc (.cells #[.int .u8 (48 + (d : Int))] 5)) = .ok (.string ⟨[dc d].toArray⟩) (w.alloc (.cells #[.int .u8 (48 + (d : Int))] 5)) :=
    run_convert_bytes_back (P := Tryd.prog) (w.alloc (.cells #[.int .u8 (48 + (d : Int))] 5)) 93 9 5 ⟨w.heap.size, 0, none⟩ 1 [dc d] Tryd.underlying93 Tryd.underlying5 Tryd.underlying9 (by
      intro j hj
      match j, hj with
      | 0, _ => simp [Addr.add, dc_nat d h9])
  go_enter Tryd.func66, Tryd.ntmps66
  go_wp2
  go_ret
  exact ⟨rfl, (Below.refl _ _).alloc (Nat.le_refl _) _⟩
set_option maxHeartbeats 1000000 in
theorem withDigit_any (s : ByteArray) (p d : Nat) (w : World) (hs : s.size ≤ 1000000) (hp : p < s.size) (hd : d ≤ 9) :
    Calls Tryd.prog 45 #[.string s, .int .i64 p, .int .i64 d] w fun e w' => e = .returned (.string (putS s p d)) ∧ Below w.heap.size w w' := by
  have z1 : (s.extract 0 p).size = p := by rw [ByteArray.size_extract]; omega
  have z2 : (⟨#[dc d]⟩ : ByteArray).size = 1 := rfl
  have z4 : (s.extract (p + 1) s.size).size = s.size - (p + 1) := by rw [ByteArray.size_extract]; omega
  have z12 : (s.extract 0 p ++ ⟨#[dc d]⟩).size = p + 1 := by rw [ByteArray.size_append, z1, z2]
  have k1 : ¬ 9223372036854775807 < (s.extract 0 p).size + (⟨#[dc d]⟩ : ByteArray).size := by rw [z1, z2]; omega
  have k1' : ¬ 9223372036854775807 < (s.extract 0 p).size + 1 := by rw [z1]; omega
  have k2 : ¬ 9223372036854775807 < (s.extract 0 p ++ ⟨#[dc d]⟩).size + (s.extract (p + 1) s.size).size := by rw [z12, z4]; omega
  have h0 : (0 : Int) ≤ (p : Int) := by omega
  have h1 : (p : Int) ≤ (s.size : Int) := by omega
  obtain ⟨pp, hpp⟩ : ∃ pp, pp = p + 1 := ⟨_, rfl⟩
  rw [← hpp] at k2
  have hsum : (p : Int) + 1 = (pp : Int) := by omega
  have hwk : IntKind.i64.wrap (pp : Int) = (pp : Int) := IntWalk.i64_in _ (by omega)
  have hwr : IntKind.i64.wrap ((p : Int) + 1) = (pp : Int) := by rw [hsum]; exact hwk
  have h3 : (0 : Int) ≤ (pp : Int) := by omega
  have h4 : (pp : Int) ≤ (s.size : Int) := by omega
  have HZ : Hid (s.extract 0 p ++ ⟨#[dc d]⟩ ++ s.extract pp s.size = putS s p d) := by show _ = _; rw [hpp]; rfl
  clear z1 z2 z4 z12 hpp
  go_enter Tryd.func45, Tryd.ntmps45
  go_wp2
  go_region_with (go_at_call 54; (with_reducible refine (itoa_d d _ hd).mono ?_); rintro e w1 ⟨rfl, b1⟩; have B1 : Below w.heap.size w w1 := chain (w := w) (by go_grown) b1)
  all_goals go_wp2
  all_goals
    go_ret
    exact ⟨by rw [← HZ.out]; rfl, by first | exact B1 | exact below_drw B1⟩
set_option maxHeartbeats 1000000 in
theorem slPut_any (s : ByteArray) (p d : Nat) (w : World) (hs : s.size ≤ 1000000) (hp : p < s.size) (hd : d ≤ 9) :
    Calls Tryd.prog 39 #[.string s, .int .i64 p, .int .i64 d] w fun e w' => e = .returned (.string (putS s p d)) ∧ Below w.heap.size w w' := by
  have z1 : (s.extract 0 p).size = p := by rw [ByteArray.size_extract]; omega
  have z2 : (⟨#[dc d]⟩ : ByteArray).size = 1 := rfl
  have z4 : (s.extract (p + 1) s.size).size = s.size - (p + 1) := by rw [ByteArray.size_extract]; omega
  have z12 : (s.extract 0 p ++ ⟨#[dc d]⟩).size = p + 1 := by rw [ByteArray.size_append, z1, z2]
  have k1 : ¬ 9223372036854775807 < (s.extract 0 p).size + (⟨#[dc d]⟩ : ByteArray).size := by rw [z1, z2]; omega
  have k1' : ¬ 9223372036854775807 < (s.extract 0 p).size + 1 := by rw [z1]; omega
  have k2 : ¬ 9223372036854775807 < (s.extract 0 p ++ ⟨#[dc d]⟩).size + (s.extract (p + 1) s.size).size := by rw [z12, z4]; omega
  have h0 : (0 : Int) ≤ (p : Int) := by omega
  have h1 : (p : Int) ≤ (s.size : Int) := by omega
  obtain ⟨pp, hpp⟩ : ∃ pp, pp = p + 1 := ⟨_, rfl⟩
  rw [← hpp] at k2
  have hsum : (p : Int) + 1 = (pp : Int) := by omega
  have hwk : IntKind.i64.wrap (pp : Int) = (pp : Int) := IntWalk.i64_in _ (by omega)
  have hwr : IntKind.i64.wrap ((p : Int) + 1) = (pp : Int) := by rw [hsum]; exact hwk
  have h3 : (0 : Int) ≤ (pp : Int) := by omega
  have h4 : (pp : Int) ≤ (s.size : Int) := by omega
  have HZ : Hid (s.extract 0 p ++ ⟨#[dc d]⟩ ++ s.extract pp s.size = putS s p d) := by show _ = _; rw [hpp]; rfl
  clear z1 z2 z4 z12 hpp
  go_enter Tryd.func39, Tryd.ntmps39
  go_wp2
  go_region_with (go_at_call 66; (with_reducible refine (l1Num_d d _ hd).mono ?_); rintro e w1 ⟨rfl, b1⟩; have B1 : Below w.heap.size w w1 := chain (w := w) (by go_grown) b1)
  all_goals go_wp2
  all_goals
    go_ret
    exact ⟨by rw [← HZ.out]; rfl, by first | exact B1 | exact below_drw B1⟩
end Go.Proofs.YtdjcgddcgjbboaaDoor
