/-
  Readings: the leaf functions of both sides.
-/
import Derived.Test.YtlkeemnnncnibaaDoorRows
import Derived.Test.YtlkeemnnncnibaaDoorMiTie
import Derived.WalkKit
import Derived.ProofKit
import Derived.Handy
import Derived.Lib.Hide
import Derived.Below
import Derived.WalkSpells
import Derived.WalkSmall
import Derived.Deep.QuietTactic
import Derived.BigQuiet
import Derived.Deep.RegionWith
import Derived.Deep.DrawnRows
import Derived.Shelf.Abstract
import Derived.WalkLawsBesides
namespace Go.Proofs.YtlkeemnnncnibaaDoor
open Go.RowKit

theorem ret_int {k : IntKind} {a b : Int} (h : a = b) : Ending.returned (.int k a) = .returned (.int k b) := by rw [h]
theorem ret_bool {a b : Bool} (h : a = b) : Ending.returned (.bool a) = .returned (.bool b) := by rw [h]
theorem ret_str {a b : ByteArray} (h : a = b) : Ending.returned (.string a) = .returned (.string b) := by rw [h]
theorem ret_ib {a b : Int} {p q : Bool} (h : a = b) (h2 : p = q) : Ending.returned (.tuple #[.int .i64 a, .bool p]) = .returned (.tuple #[.int .i64 b, .bool q]) := by rw [h, h2]
theorem ret_sb {a b : ByteArray} {p q : Bool} (h : a = b) (h2 : p = q) : Ending.returned (.tuple #[.string a, .bool p]) = .returned (.tuple #[.string b, .bool q]) := by rw [h, h2]
theorem val_int {k : IntKind} {a b : Int} (h : a = b) : Value.int k a = .int k b := by rw [h]
theorem val_str {l m : List UInt8} (h : l = m) : Value.string ⟨l.toArray⟩ = .string ⟨m.toArray⟩ := by rw [h]
theorem chain {w a b : World} (h : Below w.heap.size w a) (k : Below a.heap.size a b) : Below w.heap.size w b := h.trans (k.mono h.size)
theorem str_two (l m : List UInt8) : (⟨l.toArray⟩ : ByteArray) ++ ⟨m.toArray⟩ = ⟨(l ++ m).toArray⟩ := by
  apply ByteArray.ext
  simp [ByteArray.data_append]
theorem lst (s : ByteArray) : (⟨s.data.toList.toArray⟩ : ByteArray) = s := by
  apply ByteArray.ext; simp
theorem mk_of (s : ByteArray) : ∃ t : List UInt8, s = ⟨t.toArray⟩ := ⟨s.data.toList, (lst s).symm⟩
theorem toL (t : List UInt8) : (⟨t.toArray⟩ : ByteArray).toList = t := by
  exact Go.ByteArray.toList_mk t
theorem sz_of (t : List UInt8) : (⟨t.toArray⟩ : ByteArray).size = t.length := by simp [ByteArray.size]

theorem in_any (n lo hi : Int) (w : World) :
    Calls Tryd.prog 10 #[.int .i64 n, .int .i64 lo, .int .i64 hi] w fun e w' => e = .returned (.bool (decide (lo ≤ n ∧ n ≤ hi))) ∧ w = w' := by
  by_cases h1 : lo ≤ n <;> by_cases h2 : n ≤ hi
  all_goals
    go_enter Tryd.func10, Tryd.ntmps10
    go_wp2
    go_ret
    exact ⟨by simp [h1, h2], rfl⟩
theorem in_b (n lo hi : Int) (b : Bool) (w : World) (h : decide (lo ≤ n ∧ n ≤ hi) = b) :
    Calls Tryd.prog 10 #[.int .i64 n, .int .i64 lo, .int .i64 hi] w fun e w' => e = .returned (.bool b) ∧ w = w' := by
  rw [← h]; exact in_any n lo hi w
/-- There is a number of digits. -/
def zB (n : Int) : Bool := decide (1 ≤ n ∧ n ≤ 9)
/-- There is a reading. -/
def rdB (s : ByteArray) : Bool := zB s.size && digB s.data.toList
theorem rdB_iff (s : ByteArray) : rdB s = true ↔ 1 ≤ s.size ∧ s.size ≤ 9 ∧ digB s.data.toList = true := by
  unfold rdB zB
  rw [Bool.and_eq_true, decide_eq_true_iff]
  constructor
  · rintro ⟨h1, h2⟩; exact ⟨by omega, by omega, h2⟩
  · rintro ⟨h1, h2, h3⟩; exact ⟨by omega, h3⟩
theorem zB_b (n : Int) : zB n = decide (1 ≤ n ∧ n ≤ 9) := rfl
theorem isDigits_any (s : ByteArray) (w : World) (hs : s.size ≤ maxLen) :
    Calls Tryd.prog 34 #[.string s] w fun e w' => e = .returned (.bool (digB s.data.toList)) ∧ w = w' := by
  unfold maxLen at hs
  go_enter Tryd.func34, Tryd.ntmps34
  go_wp2
  go_loop [6] (fun i => ∃ k : Nat, k ≤ s.size ∧ i = .int .i64 k ∧ digB (s.data.toList.take k) = true) (fun i => s.size - (intOf i).toNat)
  case atStart => exact ⟨0, Nat.zero_le _, rfl, by simp [digB]⟩
  case round =>
    obtain ⟨k, hk, rfl, hd⟩ := hrel
    have HD := Lib.hid hd; clear hd
    by_cases hlt : k < s.size
    · by_cases hc : 48 ≤ (s[k].toNat : Int) ∧ (s[k].toNat : Int) ≤ 57
      · obtain ⟨hc1, hc2⟩ := hc
        go_wp2
        go_round
        case rel => exact ⟨k + 1, by omega, by go_num, by rw [take_snoc s k hlt, digB_snoc, HD.out, (dgB_iff _).2 ⟨hc1, hc2⟩]; rfl⟩
        case measure => simp [intOf]; omega
      · have hno : digB s.data.toList = false := digB_no s k hlt (by simp [dgB]; omega)
        have HN := Lib.hid hno; clear hno
        by_cases hc1 : (s[k].toNat : Int) < 48
        all_goals
          go_wp2
          go_ret
          exact ⟨ret_bool HN.out.symm, rfl⟩
    · go_wp2
      go_ret
      exact ⟨ret_bool (by rw [← take_all, ← HD.out, show k = s.size by omega]), rfl⟩
theorem iIsReading_any (s : ByteArray) (w : World) (hs : s.size ≤ maxLen) :
    Calls Tryd.prog 14 #[.string s] w fun e w' => e = .returned (.bool (rdB s)) ∧ w = w' := by
  have hk : ∀ W, Calls Tryd.prog 21 #[.string s, .int .i64 1, .int .i64 9] W fun e w' => e = .returned (.bool (rdB s)) ∧ W = w' := by
    intro W
    by_cases h1 : 1 ≤ (s.size : Int)
    · by_cases h2 : (s.size : Int) ≤ 9
      · have HR : Hid (rdB s = digB s.data.toList) := by show _ = _; unfold rdB zB; rw [decide_eq_true ⟨h1, h2⟩]; rfl
        go_enter Tryd.func21, Tryd.ntmps21
        go_wp2_with (go_at_call 34; refine (isDigits_any s _ hs).mono ?_; rintro e w' ⟨rfl, rfl⟩)
        go_ret
        exact ⟨ret_bool HR.out.symm, rfl⟩
      · have HR : Hid (rdB s = false) := by show _ = _; unfold rdB zB; rw [decide_eq_false (fun h => h2 h.2)]; rfl
        go_enter Tryd.func21, Tryd.ntmps21
        go_wp2
        go_ret
        exact ⟨ret_bool HR.out.symm, rfl⟩
    · have HR : Hid (rdB s = false) := by show _ = _; unfold rdB zB; rw [decide_eq_false (fun h => h1 h.1)]; rfl
      go_enter Tryd.func21, Tryd.ntmps21
      go_wp2
      go_ret
      exact ⟨ret_bool HR.out.symm, rfl⟩
  have HK := Lib.hid hk
  go_enter Tryd.func14, Tryd.ntmps14
  go_wp2_with (go_at_call 21; refine (HK.out _).mono ?_; rintro e w' ⟨rfl, rfl⟩)
  go_ret
  exact ⟨rfl, rfl⟩
theorem miGood_any (s : ByteArray) (w : World) (hs : s.size ≤ maxLen) :
    Calls Tryd.prog 9 #[.string s] w fun e w' => e = .returned (.bool (rdB s)) ∧ w = w' := by
  unfold maxLen at hs
  by_cases hz : 1 ≤ (s.size : Int) ∧ (s.size : Int) ≤ 9
  · have HZ : Hid (decide (1 ≤ (s.size : Int) ∧ (s.size : Int) ≤ 9) = true) := decide_eq_true hz
    have HG : Hid (rdB s = digB s.data.toList) := by show _ = _; unfold rdB zB; rw [decide_eq_true hz]; rfl
    clear hz
    go_enter Tryd.func9, Tryd.ntmps9
    go_wp2_with (go_at_call 10; refine (in_b _ _ _ true _ HZ.out).mono ?_; rintro e w' ⟨rfl, rfl⟩)
    go_loop [3] (fun i => ∃ k : Nat, k ≤ s.size ∧ i = .int .i64 k ∧ digB (s.data.toList.take k) = true) (fun i => s.size - (intOf i).toNat)
    case atStart => exact ⟨0, Nat.zero_le _, rfl, by simp [digB]⟩
    case round =>
      obtain ⟨k, hk, rfl, hd⟩ := hrel
      have HD := Lib.hid hd; clear hd
      by_cases hlt : k < s.size
      · by_cases hc : 48 ≤ (s[k].toNat : Int) ∧ (s[k].toNat : Int) ≤ 57
        · obtain ⟨hc1, hc2⟩ := hc
          go_wp2
          go_round
          case rel => exact ⟨k + 1, by omega, by go_num, by rw [take_snoc s k hlt, digB_snoc, HD.out, (dgB_iff _).2 ⟨hc1, hc2⟩]; rfl⟩
          case measure => simp [intOf]; omega
        · have hno : digB s.data.toList = false := digB_no s k hlt (by simp [dgB]; omega)
          have HN := Lib.hid hno; clear hno
          by_cases hc1 : (s[k].toNat : Int) < 48
          all_goals
            go_wp2
            go_ret
            exact ⟨ret_bool (by rw [HG.out, HN.out]), rfl⟩
      · go_wp2
        go_ret
        exact ⟨ret_bool (by rw [HG.out, ← take_all, ← HD.out, show k = s.size by omega]), rfl⟩
  · have HZ : Hid (decide (1 ≤ (s.size : Int) ∧ (s.size : Int) ≤ 9) = false) := decide_eq_false hz
    have HG : Hid (rdB s = false) := by show _ = _; unfold rdB zB; rw [decide_eq_false hz]; rfl
    clear hz
    go_enter Tryd.func9, Tryd.ntmps9
    go_wp2_with (go_at_call 10; refine (in_b _ _ _ false _ HZ.out).mono ?_; rintro e w' ⟨rfl, rfl⟩)
    go_ret
    exact ⟨ret_bool HG.out.symm, rfl⟩
theorem nu_9 (l : List UInt8) (hl : l.length ≤ 12) (hd : digB l = true) : nu l < 1000000000000 := by
  have h := nu_lt l.length l rfl hd
  have hp : (10 : Nat) ^ l.length ≤ 10 ^ 12 := Nat.pow_le_pow_right (by omega) hl
  omega
theorem numberIn_any (s : ByteArray) (w : World) (hs : s.size ≤ 12) (hd : digB s.data.toList = true) :
    Calls Tryd.prog 23 #[.string s] w fun e w' => e = .returned (.int .i64 (nu s.data.toList : Nat)) ∧ w = w' := by
  have HD := Lib.hid hd; clear hd
  go_enter Tryd.func23, Tryd.ntmps23
  go_wp2
  go_loop [3, 7] (fun t i => ∃ (k S : Nat), k ≤ s.size ∧ i = .int .i64 k ∧ t = .int .i64 S ∧ Hid (S = nu (s.data.toList.take k))) (fun _ i => s.size - (intOf i).toNat)
  case atStart => exact ⟨0, 0, Nat.zero_le _, rfl, rfl, rfl⟩
  case round =>
    obtain ⟨k, S, hk, rfl, rfl, HS⟩ := hrel
    have hb : S < 1000000000000 := by rw [HS.out]; exact nu_9 _ (by have := List.length_take_le k s.data.toList; omega) (digB_take _ _ HD.out)
    by_cases hlt : k < s.size
    · have hc := digB_get s k hlt HD.out
      obtain ⟨hc1, hc2⟩ := hc
      have HN : Hid ((S : Int) * 10 + ((s[k].toNat : Int) - 48) = ((S * 10 + (s[k].toNat - 48) : Nat) : Int)) := by show _ = _; omega
      have HT : Hid (S * 10 + (s[k].toNat - 48) = nu (s.data.toList.take (k + 1))) := by show _ = _; rw [take_snoc s k hlt, nu_snoc, ← HS.out]
      go_wp2
      go_round
      case rel => exact ⟨k + 1, S * 10 + (s[k].toNat - 48), by omega, by go_num, val_int HN.out, HT⟩
      case measure => simp [intOf]; omega
    · have HR : Hid ((S : Int) = (nu s.data.toList : Nat)) := by show _ = _; rw [HS.out, show k = s.size by omega, take_all]
      go_wp2
      go_ret
      exact ⟨ret_int HR.out, rfl⟩
theorem tkNumber_any (s : ByteArray) (w : World) (hs : s.size ≤ 12) (hd : digB s.data.toList = true) :
    Calls Tryd.prog 12 #[.string s] w fun e w' => e = .returned (.int .i64 (nu s.data.toList : Nat)) ∧ w = w' := by
  have HD := Lib.hid hd; clear hd
  go_enter Tryd.func12, Tryd.ntmps12
  go_wp2
  go_loop [3, 4] (fun t i => ∃ (k S : Nat), k ≤ s.size ∧ i = .int .i64 k ∧ t = .int .i64 S ∧ Hid (S = nu (s.data.toList.take k))) (fun _ i => s.size - (intOf i).toNat)
  case atStart => exact ⟨0, 0, Nat.zero_le _, rfl, rfl, rfl⟩
  case round =>
    obtain ⟨k, S, hk, rfl, rfl, HS⟩ := hrel
    have hb : S < 1000000000000 := by rw [HS.out]; exact nu_9 _ (by have := List.length_take_le k s.data.toList; omega) (digB_take _ _ HD.out)
    by_cases hlt : k < s.size
    · have hc := digB_get s k hlt HD.out
      obtain ⟨hc1, hc2⟩ := hc
      have HN : Hid ((S : Int) * 10 + ((s[k].toNat : Int) - 48) = ((S * 10 + (s[k].toNat - 48) : Nat) : Int)) := by show _ = _; omega
      have HT : Hid (S * 10 + (s[k].toNat - 48) = nu (s.data.toList.take (k + 1))) := by show _ = _; rw [take_snoc s k hlt, nu_snoc, ← HS.out]
      go_wp2
      go_round
      case rel => exact ⟨k + 1, S * 10 + (s[k].toNat - 48), by omega, by go_num, val_int HN.out, HT⟩
      case measure => simp [intOf]; omega
    · have HR : Hid ((S : Int) = (nu s.data.toList : Nat)) := by show _ = _; rw [HS.out, show k = s.size by omega, take_all]
      go_wp2
      go_ret
      exact ⟨ret_int HR.out, rfl⟩
theorem miAll_any (n : Nat) (w : World) (hn : n ≤ 12) :
    Calls Tryd.prog 13 #[.int .i64 n] w fun e w' => e = .returned (.int .i64 ((10 ^ n : Nat) : Int)) ∧ w = w' := by
  have : n = 0 ∨ n = 1 ∨ n = 2 ∨ n = 3 ∨ n = 4 ∨ n = 5 ∨ n = 6 ∨ n = 7 ∨ n = 8 ∨ n = 9 ∨ n = 10 ∨ n = 11 ∨ n = 12 := by omega
  have hpw : ∀ k : Nat, k ≤ 12 → 1 ≤ 10 ^ k ∧ 10 ^ k ≤ 1000000000000 := by
    intro k hk
    exact ⟨Nat.pos_of_ne_zero (by simp), Nat.le_trans (Nat.pow_le_pow_right (by omega) hk) (by decide)⟩
  go_enter Tryd.func13, Tryd.ntmps13
  go_wp2
  go_loop [0, 3] (fun d t => ∃ (k P : Nat), k ≤ n ∧ d = .int .i64 ((n : Int) - (k : Int)) ∧ t = .int .i64 P ∧ Hid (P = 10 ^ k)) (fun d _ => (intOf d).toNat)
  case atStart => exact ⟨0, 1, Nat.zero_le _, by simp, rfl, rfl⟩
  case round =>
    obtain ⟨k, P, hk, rfl, rfl, HP⟩ := hrel
    have hb : P ≤ 1000000000000 := by rw [HP.out]; exact (hpw k (by omega)).2
    by_cases hlt : k < n
    · have HJ : Hid ((n : Int) - (k : Int) - 1 = (n : Int) - ((k + 1 : Nat) : Int)) := by show _ = _; omega
      go_wp2
      go_round
      case rel => exact ⟨k + 1, P * 10, by omega, val_int HJ.out, val_int (by omega), by show _ = _; rw [HP.out, Nat.pow_succ]⟩
      case measure => simp [intOf]; omega
    · have HR : Hid ((P : Int) = ((10 ^ n : Nat) : Int)) := by show _ = _; rw [HP.out, show k = n by omega]
      go_wp2
      go_ret
      exact ⟨ret_int HR.out, rfl⟩
end Go.Proofs.YtlkeemnnncnibaaDoor
