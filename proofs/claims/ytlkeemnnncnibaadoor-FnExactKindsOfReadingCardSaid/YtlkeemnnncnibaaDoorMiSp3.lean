/-
  Readings: the kinds, as the model tells them.
-/
import Derived.Test.YtlkeemnnncnibaaDoorMiSp2
namespace Go.Proofs.YtlkeemnnncnibaaDoor
open Go.RowKit

theorem up_snoc (s : ByteArray) (k j : Nat) (hj : j + 1 + k = s.size) (hjs : j < s.size) : (upL s.data.toList).take (k + 1) = (upL s.data.toList).take k ++ [upc (s[j]'hjs)] := by
  have hk : k < s.size := by omega
  unfold upL
  rw [← List.map_take, ← List.map_take]
  have := rv_snoc s k hk
  unfold rv at this
  have e : s.size - 1 - k = j := by omega
  rw [this, List.map_append]
  congr 1
  simp only [e]
  rfl
theorem up_all (s : ByteArray) : (upL s.data.toList).take s.size = upL s.data.toList := List.take_of_length_le (by simp [upL])
/-- The last ones can be read upside down. -/
def uEnd (s : ByteArray) (k : Nat) : Bool := upB (s.data.toList.drop (s.size - k))
theorem uEnd_succ (s : ByteArray) (k j : Nat) (hj : j + 1 + k = s.size) (hjs : j < s.size) : uEnd s (k + 1) = (upD (s[j]'hjs) && uEnd s k) := by
  unfold uEnd upB
  rw [show s.size - (k + 1) = j by omega, List.drop_eq_getElem_cons (by simp; omega), show s.size - k = j + 1 by omega]
  rfl
theorem uEnd_zero (s : ByteArray) : uEnd s 0 = true := by
  unfold uEnd
  rw [Nat.sub_zero, List.drop_eq_nil_of_le (by simp)]; rfl
theorem uEnd_all (s : ByteArray) : uEnd s s.size = upB s.data.toList := by unfold uEnd; simp
theorem uEnd_no (s : ByteArray) (k : Nat) (h : uEnd s k = false) : upB s.data.toList = false := by
  unfold uEnd upB at h
  unfold upB
  rw [← List.take_append_drop (s.size - k) s.data.toList, List.all_append, h]; simp
/-- What is read upside down, if there is such. -/
def upA (s : ByteArray) : ByteArray := if upB s.data.toList then ⟨(upL s.data.toList).toArray⟩ else ⟨#[]⟩
set_option maxHeartbeats 4000000 in
theorem miUpside_any (s : ByteArray) (w : World) (hs : s.size ≤ 1000) (hd : digB s.data.toList = true) :
    Calls Tryd.prog 27 #[.string s] w fun e w' => e = .returned (.tuple #[.string (upA s), .bool (upB s.data.toList)]) ∧ w = w' := by
  have HD := Lib.hid hd
  clear hd
  go_enter Tryd.func27, Tryd.ntmps27
  go_wp2
  go_loop [4, 5] (fun t i => ∃ k : Nat, k ≤ s.size ∧ i = .int .i64 ((s.size : Int) - 1 - k) ∧ t = .string ⟨((upL s.data.toList).take k).toArray⟩ ∧ Hid (uEnd s k = true)) (fun _ i => (intOf i + 1).toNat)
  case atStart => exact ⟨0, Nat.zero_le _, by simp, rfl, uEnd_zero s⟩
  case round =>
    obtain ⟨k, hk, rfl, rfl, HU⟩ := hrel
    by_cases hlt : k < s.size
    · obtain ⟨j, hj⟩ : ∃ j, j + 1 + k = s.size := ⟨s.size - 1 - k, by omega⟩
      have hji : (s.size : Int) - 1 - (k : Int) = (j : Int) := by omega
      have hjs : j < s.size := by omega
      have HST := Lib.hid (up_snoc s k j hj hjs)
      have HUS := Lib.hid (uEnd_succ s k j hj hjs)
      have HJ : Hid ((j : Int) - 1 = (s.size : Int) - 1 - ((k + 1 : Nat) : Int)) := by show _ = _; omega
      have HK1 : Hid (k + 1 ≤ s.size) := by show _ ≤ _; omega
      have HJ2 : Hid ((j : Int) - 1 + 1 < (j : Int) + 1) := by show _ < _; omega
      have hdg := digB_get s j hjs HD.out
      obtain ⟨u, hu, hsu⟩ : ∃ u, u ≤ 9 ∧ s[j] = dc u := dc_of ((dgB_iff _).2 hdg)
      have hsn : (s[j].toNat : Int) = 48 + (u : Int) := by rw [hsu, dc_nat hu]; omega
      have HSU := Lib.hid hsu
      have HBB : Hid ((⟨((upL s.data.toList).take k).toArray⟩ : ByteArray).size ≤ 1000) := by show _ ≤ _; rw [sz_of, List.length_take]; omega
      obtain ⟨B, hB⟩ : ∃ B : ByteArray, B = ⟨((upL s.data.toList).take k).toArray⟩ := ⟨_, rfl⟩
      have HB := Lib.hid hB
      rw [← hB] at HBB ⊢
      have hBz := HBB.out
      rw [hji]
      clear hB hj hji hdg hsu hk hlt
      have hcase : (u = 0 ∨ u = 1 ∨ u = 8) ∨ u = 6 ∨ u = 9 ∨ (u ≠ 0 ∧ u ≠ 1 ∧ u ≠ 8 ∧ u ≠ 6 ∧ u ≠ 9) := by omega
      have HC : Hid (upc (dc u) = dc (ups u) ∧ upD (dc u) = decide (ups u ≤ 9)) := ⟨upc_dc hu, upD_dc hu⟩
      rcases hcase with h | h | h | h
      · have HX : Hid (B ++ s.extract j (j + 1) = ⟨((upL s.data.toList).take (k + 1)).toArray⟩ ∧ uEnd s (k + 1) = true) := by
          have e : ups u = u := by rcases h with h | h | h <;> subst h <;> rfl
          refine ⟨?_, ?_⟩
          · rw [HB.out, str_snoc _ s j hjs, HST.out, HSU.out, HC.out.1, e]
          · rw [HUS.out, HSU.out, HC.out.2, HU.out, e]; simp; omega
        rcases h with h | h | h
        all_goals
          subst h
          go_wp2
          go_round
          case rel => exact ⟨k + 1, HK1.out, val_int HJ.out, by rw [HX.out.1], HX.out.2⟩
          case measure => simp [intOf] <;> omega
      · subst h
        have HX : Hid (B ++ ⟨#[57]⟩ = ⟨((upL s.data.toList).take (k + 1)).toArray⟩ ∧ uEnd s (k + 1) = true) := by
          refine ⟨?_, ?_⟩
          · rw [HB.out, HST.out, HSU.out, HC.out.1, ← str_two]; rfl
          · rw [HUS.out, HSU.out, HC.out.2, HU.out]; rfl
        go_wp2
        go_round
        case rel => exact ⟨k + 1, HK1.out, val_int HJ.out, by rw [HX.out.1], HX.out.2⟩
        case measure => simp [intOf] <;> omega
      · subst h
        have HX : Hid (B ++ ⟨#[54]⟩ = ⟨((upL s.data.toList).take (k + 1)).toArray⟩ ∧ uEnd s (k + 1) = true) := by
          refine ⟨?_, ?_⟩
          · rw [HB.out, HST.out, HSU.out, HC.out.1, ← str_two]; rfl
          · rw [HUS.out, HSU.out, HC.out.2, HU.out]; rfl
        go_wp2
        go_round
        case rel => exact ⟨k + 1, HK1.out, val_int HJ.out, by rw [HX.out.1], HX.out.2⟩
        case measure => simp [intOf] <;> omega
      · have HX : Hid (upB s.data.toList = false) := by
          refine uEnd_no s (k + 1) ?_
          have e : ups u = 10 := by unfold ups; rw [if_neg (by omega), if_neg (by omega), if_neg (by omega)]
          rw [HUS.out, HSU.out, HC.out.2, e]; rfl
        have HA : Hid (upA s = ⟨#[]⟩) := by show _ = _; unfold upA; rw [HX.out]; rfl
        obtain ⟨h0, h1, h8, h6, h9⟩ := h
        go_wp2
        go_ret2
        exact ⟨ret_sb HA.out.symm HX.out.symm, rfl⟩
    · have hks : k = s.size := by omega
      have HX : Hid (upB s.data.toList = true) := by show _ = _; rw [← uEnd_all, ← hks]; exact HU.out
      have HA : Hid (upA s = ⟨((upL s.data.toList).take k).toArray⟩) := by show _ = _; unfold upA; rw [HX.out, hks, up_all]; rfl
      clear hks
      go_wp2
      go_ret2
      exact ⟨ret_sb HA.out.symm HX.out.symm, rfl⟩
end Go.Proofs.YtlkeemnnncnibaaDoor
