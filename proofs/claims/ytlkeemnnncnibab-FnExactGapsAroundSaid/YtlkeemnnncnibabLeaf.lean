/-
  Contracts of the leaf functions of chapter 1: sizes, digits, sums of digits.
-/
import Derived.Test.YtlkeemnnncnibabRows
import Derived.Test.YtlkeemnnncnibabMath
import Derived.WalkKit
import Derived.ProofKit
import Derived.Handy
import Derived.Lib.Hide
namespace Go.Proofs.Ytlkeemnnncnibab
open Go.RowKit

theorem ret_int {k : IntKind} {a b : Int} (h : a = b) : Ending.returned (.int k a) = .returned (.int k b) := by rw [h]
theorem ret_bool {a b : Bool} (h : a = b) : Ending.returned (.bool a) = .returned (.bool b) := by rw [h]
theorem val_int {k : IntKind} {a b : Int} (h : a = b) : Value.int k a = .int k b := by rw [h]

theorem in_any (n lo hi : Int) (w : World) :
    Calls Try.prog 31 #[.int .i64 n, .int .i64 lo, .int .i64 hi] w fun e w' => e = .returned (.bool (decide (lo ≤ n ∧ n ≤ hi))) ∧ w = w' := by
  by_cases h1 : lo ≤ n <;> by_cases h2 : n ≤ hi
  all_goals
    go_enter Try.func31, Try.ntmps31
    go_wp2
    go_ret
    exact ⟨by simp [h1, h2], rfl⟩

theorem isSize_any (d : Int) (w : World) :
    Calls Try.prog 83 #[.int .i64 d] w fun e w' => e = .returned (.bool (szB d)) ∧ w = w' := by
  by_cases h1 : 2 ≤ d <;> by_cases h2 : d ≤ 12 <;> by_cases h3 : d % 2 = 0
  all_goals
    go_enter Try.func83, Try.ntmps83
    go_wp2
    go_ret
    exact ⟨by simp [szB, h1, h2, h3], rfl⟩

theorem tkSize_any (d : Int) (w : World) :
    Calls Try.prog 65 #[.int .i64 d] w fun e w' => e = .returned (.bool (szB d)) ∧ w = w' := by
  by_cases h1 : 2 ≤ d <;> by_cases h2 : d ≤ 12 <;> by_cases h3 : d % 2 = 0
  all_goals
    go_enter Try.func65, Try.ntmps65
    go_wp2
    go_ret
    exact ⟨by simp [szB, h1, h2, h3], rfl⟩

theorem isDigits_any (s : ByteArray) (w : World) (hs : s.size ≤ maxLen) :
    Calls Try.prog 76 #[.string s] w fun e w' => e = .returned (.bool (digB s.data.toList)) ∧ w = w' := by
  unfold maxLen at hs
  go_enter Try.func76, Try.ntmps76
  go_wp2
  go_loop [6] (fun i => ∃ k : Nat, k ≤ s.size ∧ i = .int .i64 k ∧ digB (s.data.toList.take k) = true) (fun i => s.size - (intOf i).toNat)
  case atStart => exact ⟨0, Nat.zero_le _, rfl, by simp [digB]⟩
  case round =>
    obtain ⟨k, hk, rfl, hd⟩ := hrel
    have HD := Lib.hid hd; clear hd
    by_cases hlt : k < s.size
    · by_cases hc : 48 ≤ (s[k].toNat : Int) ∧ (s[k].toNat : Int) ≤ 57
      · obtain ⟨hc1, hc2⟩ := hc
        go_wp2
        go_round
        case rel => exact ⟨k + 1, by omega, by go_num, by rw [take_snoc s k hlt, digB_snoc, HD.out, (dgB_iff _).2 ⟨hc1, hc2⟩]; rfl⟩
        case measure => simp [intOf]; omega
      · have hno : digB s.data.toList = false := digB_no s k hlt (by simp [dgB]; omega)
        have HN := Lib.hid hno; clear hno
        by_cases hc1 : (s[k].toNat : Int) < 48
        all_goals
          go_wp2
          go_ret
          exact ⟨ret_bool HN.out.symm, rfl⟩
    · go_wp2
      go_ret
      exact ⟨ret_bool (by rw [← take_all, ← HD.out, show k = s.size by omega]), rfl⟩

theorem tkGood_any (s : ByteArray) (w : World) (hs : s.size ≤ maxLen) :
    Calls Try.prog 45 #[.string s] w fun e w' => e = .returned (.bool (goodB s)) ∧ w = w' := by
  unfold maxLen at hs
  by_cases hz : szB s.size = true
  · have hgd : goodB s = digB s.data.toList := by simp [goodB, hz]
    have HG := Lib.hid hgd; clear hgd
    go_enter Try.func45, Try.ntmps45
    go_wp2_with (go_at_call 65; refine (tkSize_any _ _).mono ?_; rintro e w' ⟨rfl, rfl⟩)
    go_loop [3] (fun i => ∃ k : Nat, k ≤ s.size ∧ i = .int .i64 k ∧ digB (s.data.toList.take k) = true) (fun i => s.size - (intOf i).toNat)
    case atStart => exact ⟨0, Nat.zero_le _, rfl, by simp [digB]⟩
    case round =>
      obtain ⟨k, hk, rfl, hd⟩ := hrel
      have HD := Lib.hid hd; clear hd
      by_cases hlt : k < s.size
      · by_cases hc : 48 ≤ (s[k].toNat : Int) ∧ (s[k].toNat : Int) ≤ 57
        · obtain ⟨hc1, hc2⟩ := hc
          go_wp2
          go_round
          case rel => exact ⟨k + 1, by omega, by go_num, by rw [take_snoc s k hlt, digB_snoc, HD.out, (dgB_iff _).2 ⟨hc1, hc2⟩]; rfl⟩
          case measure => simp [intOf]; omega
        · have hno : digB s.data.toList = false := digB_no s k hlt (by simp [dgB]; omega)
          have HN := Lib.hid hno; clear hno
          by_cases hc1 : (s[k].toNat : Int) < 48
          all_goals
            go_wp2
            go_ret
            exact ⟨ret_bool (by rw [HG.out, HN.out]), rfl⟩
      · go_wp2
        go_ret
        exact ⟨ret_bool (by rw [HG.out, ← take_all, ← HD.out, show k = s.size by omega]), rfl⟩
  · have hz' : szB s.size = false := by simpa using hz
    have hgd : goodB s = false := by simp [goodB, hz']
    have HG := Lib.hid hgd; clear hgd hz
    go_enter Try.func45, Try.ntmps45
    go_wp2_with (go_at_call 65; refine (tkSize_any _ _).mono ?_; rintro e w' ⟨rfl, rfl⟩)
    go_ret
    exact ⟨ret_bool HG.out.symm, rfl⟩

theorem tkSum_any (s : ByteArray) (w : World) (hs : s.size ≤ 1000) (hd : digB s.data.toList = true) :
    Calls Try.prog 88 #[.string s] w fun e w' => e = .returned (.int .i64 (dsum s.data.toList)) ∧ w = w' := by
  have HD := Lib.hid hd; clear hd
  go_enter Try.func88, Try.ntmps88
  go_wp2
  go_loop [3, 4] (fun t i => ∃ k : Nat, k ≤ s.size ∧ i = .int .i64 k ∧ t = .int .i64 (dsum (s.data.toList.take k))) (fun _ i => s.size - (intOf i).toNat)
  case atStart => exact ⟨0, Nat.zero_le _, rfl, rfl⟩
  case round =>
    obtain ⟨k, hk, rfl, rfl⟩ := hrel
    have hb := dsum_bd (s.data.toList.take k) (digB_take _ _ HD.out)
    have hl : (s.data.toList.take k).length ≤ k := List.length_take_le _ _
    obtain ⟨hb1, hb2⟩ := hb
    by_cases hlt : k < s.size
    · have hc := digB_get s k hlt HD.out
      obtain ⟨hc1, hc2⟩ := hc
      go_wp2
      go_round
      case rel => exact ⟨k + 1, by omega, by go_num, val_int (by rw [take_snoc s k hlt, dsum_snoc, dv])⟩
      case measure => simp [intOf]; omega
    · go_wp2
      go_ret
      exact ⟨ret_int (by rw [show k = s.size by omega, take_all]), rfl⟩
end Go.Proofs.Ytlkeemnnncnibab
