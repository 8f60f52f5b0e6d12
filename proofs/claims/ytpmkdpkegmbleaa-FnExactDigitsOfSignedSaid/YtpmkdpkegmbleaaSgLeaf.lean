/-
  Contracts of the leaf functions of chapter 2: signs, digits, numbers.
-/
import Derived.Test.YtpmkdpkegmbleaaRows
import Derived.Test.YtpmkdpkegmbleaaSgMath3
import Derived.WalkKit
import Derived.ProofKit
import Derived.Handy
import Derived.Lib.Hide
import Derived.WalkSmall
import Derived.Deep.QuietTactic
import Derived.BigQuiet
import Derived.Deep.RegionWith
import Derived.Deep.DrawnRows
import Derived.Outline
import Derived.WalkSpells
namespace Go.Proofs.Ytpmkdpkegmbleaa
open Go.RowKit

theorem ret_int {k : IntKind} {a b : Int} (h : a = b) : Ending.returned (.int k a) = .returned (.int k b) := by rw [h]
theorem ret_bool {a b : Bool} (h : a = b) : Ending.returned (.bool a) = .returned (.bool b) := by rw [h]
theorem ret_ib {k : IntKind} {a b : Int} {p q : Bool} (h : a = b) (h2 : p = q) : Ending.returned (.tuple #[.int k a, .bool p]) = .returned (.tuple #[.int k b, .bool q]) := by rw [h, h2]
theorem ret_sb2 {a b : ByteArray} {p q : Bool} (h : a = b) (h2 : p = q) : Ending.returned (.tuple #[.string a, .bool p]) = .returned (.tuple #[.string b, .bool q]) := by rw [h, h2]
theorem val_int {k : IntKind} {a b : Int} (h : a = b) : Value.int k a = .int k b := by rw [h]
theorem val_bool {a b : Bool} (h : a = b) : Value.bool a = .bool b := by rw [h]
theorem val_str {l m : List UInt8} (h : l = m) : Value.string ⟨l.toArray⟩ = .string ⟨m.toArray⟩ := by rw [h]
theorem chain {w a b : World} (h : Below w.heap.size w a) (k : Below a.heap.size a b) : Below w.heap.size w b := h.trans (k.mono h.size)

theorem in_any (n lo hi : Int) (w : World) :
    Calls Try.prog 20 #[.int .i64 n, .int .i64 lo, .int .i64 hi] w fun e w' => e = .returned (.bool (decide (lo ≤ n ∧ n ≤ hi))) ∧ w = w' := by
  by_cases h1 : lo ≤ n <;> by_cases h2 : n ≤ hi
  all_goals
    go_enter Try.func20, Try.ntmps20
    go_wp2
    go_ret
    exact ⟨by simp [h1, h2], rfl⟩
theorem isDigits_any (s : ByteArray) (w : World) (hs : s.size ≤ maxLen) :
    Calls Try.prog 16 #[.string s] w fun e w' => e = .returned (.bool (digB s.data.toList)) ∧ w = w' := by
  unfold maxLen at hs
  go_enter Try.func16, Try.ntmps16
  go_wp2
  go_loop [6] (fun i => ∃ k : Nat, k ≤ s.size ∧ i = .int .i64 k ∧ digB (s.data.toList.take k) = true) (fun i => s.size - (intOf i).toNat)
  case atStart => exact ⟨0, Nat.zero_le _, rfl, by simp [digB]⟩
  case round =>
    obtain ⟨k, hk, rfl, hd⟩ := hrel
    have HD := Lib.hid hd; clear hd
    by_cases hlt : k < s.size
    · by_cases hc : 48 ≤ (s[k].toNat : Int) ∧ (s[k].toNat : Int) ≤ 57
      · obtain ⟨hc1, hc2⟩ := hc
        go_wp2
        go_round
        case rel => exact ⟨k + 1, by omega, by go_num, by rw [take_snoc s k hlt, digB_snoc, HD.out, (dgB_iff _).2 ⟨hc1, hc2⟩]; rfl⟩
        case measure => simp [intOf]; omega
      · have hno : digB s.data.toList = false := digB_no s k hlt (by simp [dgB]; omega)
        have HN := Lib.hid hno; clear hno
        by_cases hc1 : (s[k].toNat : Int) < 48
        all_goals
          go_wp2
          go_ret
          exact ⟨ret_bool HN.out.symm, rfl⟩
    · go_wp2
      go_ret
      exact ⟨ret_bool (by rw [← take_all, ← HD.out, show k = s.size by omega]), rfl⟩
theorem sgB_no {c : UInt8} (h1 : ¬ (c.toNat : Int) = 42) (h2 : ¬ (c.toNat : Int) = 43) (h3 : ¬ (c.toNat : Int) = 45) : sgB c = false := by
  cases e : sgB c with
  | false => rfl
  | true => rcases (sgB_iff c).1 e with h | h | h <;> contradiction
theorem isSign_any (c : UInt8) (w : World) :
    Calls Try.prog 17 #[.int .u8 (c.toNat : Int)] w fun e w' => e = .returned (.bool (sgB c)) ∧ w = w' := by
  by_cases h1 : (c.toNat : Int) = 42
  · have H := Lib.hid ((sgB_iff c).2 (.inl h1))
    go_enter Try.func17, Try.ntmps17
    go_wp2
    go_ret
    exact ⟨ret_bool H.out.symm, rfl⟩
  · by_cases h2 : (c.toNat : Int) = 43
    · have H := Lib.hid ((sgB_iff c).2 (.inr (.inl h2)))
      go_enter Try.func17, Try.ntmps17
      go_wp2
      go_ret
      exact ⟨ret_bool H.out.symm, rfl⟩
    · by_cases h3 : (c.toNat : Int) = 45
      · have H := Lib.hid ((sgB_iff c).2 (.inr (.inr h3)))
        go_enter Try.func17, Try.ntmps17
        go_wp2
        go_ret
        exact ⟨ret_bool H.out.symm, rfl⟩
      · have H := Lib.hid (sgB_no h1 h2 h3)
        go_enter Try.func17, Try.ntmps17
        go_wp2
        go_ret
        exact ⟨ret_bool (by rw [H.out]; simp [h1, h2, h3]), rfl⟩
theorem sgSign_any (c : UInt8) (w : World) :
    Calls Try.prog 14 #[.int .u8 (c.toNat : Int)] w fun e w' => e = .returned (.bool (sgB c)) ∧ w = w' := by
  by_cases h1 : (c.toNat : Int) = 42
  · have H := Lib.hid ((sgB_iff c).2 (.inl h1))
    go_enter Try.func14, Try.ntmps14
    go_wp2
    go_ret
    exact ⟨ret_bool H.out.symm, rfl⟩
  · by_cases h2 : (c.toNat : Int) = 43
    · have H := Lib.hid ((sgB_iff c).2 (.inr (.inl h2)))
      go_enter Try.func14, Try.ntmps14
      go_wp2
      go_ret
      exact ⟨ret_bool H.out.symm, rfl⟩
    · by_cases h3 : (c.toNat : Int) = 45
      · have H := Lib.hid ((sgB_iff c).2 (.inr (.inr h3)))
        go_enter Try.func14, Try.ntmps14
        go_wp2
        go_ret
        exact ⟨ret_bool H.out.symm, rfl⟩
      · have H := Lib.hid (sgB_no h1 h2 h3)
        go_enter Try.func14, Try.ntmps14
        go_wp2
        go_ret
        exact ⟨ret_bool (by rw [H.out]; simp [h1, h2, h3]), rfl⟩
theorem sgDigits_any (s : ByteArray) (w : World) (hs : s.size ≤ maxLen) :
    Calls Try.prog 15 #[.string s] w fun e w' => e = .returned (.bool (dgsB s.data.toList)) ∧ w = w' := by
  unfold maxLen at hs
  have hl : s.data.toList.length = s.size := by simp
  by_cases hz : 1 ≤ (s.size : Int) ∧ (s.size : Int) ≤ 7
  · have hgd : dgsB s.data.toList = digB s.data.toList := by unfold dgsB; rw [hl, decide_eq_true hz]; rfl
    have HG := Lib.hid hgd; clear hgd hl
    have hdz : decide (1 ≤ (s.size : Int) ∧ (s.size : Int) ≤ 7) = true := decide_eq_true hz
    go_enter Try.func15, Try.ntmps15
    go_wp2_with (go_at_call 20; refine (in_any _ _ _ _).mono ?_; rintro e w' ⟨rfl, rfl⟩)
    go_loop [3] (fun i => ∃ k : Nat, k ≤ s.size ∧ i = .int .i64 k ∧ digB (s.data.toList.take k) = true) (fun i => s.size - (intOf i).toNat)
    case atStart => exact ⟨0, Nat.zero_le _, rfl, by simp [digB]⟩
    case round =>
      obtain ⟨k, hk, rfl, hd⟩ := hrel
      have HD := Lib.hid hd; clear hd
      by_cases hlt : k < s.size
      · by_cases hc : 48 ≤ (s[k].toNat : Int) ∧ (s[k].toNat : Int) ≤ 57
        · obtain ⟨hc1, hc2⟩ := hc
          go_wp2
          go_round
          case rel => exact ⟨k + 1, by omega, by go_num, by rw [take_snoc s k hlt, digB_snoc, HD.out, (dgB_iff _).2 ⟨hc1, hc2⟩]; rfl⟩
          case measure => simp [intOf]; omega
        · have hno : digB s.data.toList = false := digB_no s k hlt (by simp [dgB]; omega)
          have HN := Lib.hid hno; clear hno
          by_cases hc1 : (s[k].toNat : Int) < 48
          all_goals
            go_wp2
            go_ret
            exact ⟨ret_bool (by rw [HG.out, HN.out]), rfl⟩
      · go_wp2
        go_ret
        exact ⟨ret_bool (by rw [HG.out, ← take_all, ← HD.out, show k = s.size by omega]), rfl⟩
  · have hgd : dgsB s.data.toList = false := by unfold dgsB; rw [hl, decide_eq_false hz]; rfl
    have HG := Lib.hid hgd; clear hgd hl
    have hdz : decide (1 ≤ (s.size : Int) ∧ (s.size : Int) ≤ 7) = false := decide_eq_false hz
    go_enter Try.func15, Try.ntmps15
    go_wp2_with (go_at_call 20; refine (in_any _ _ _ _).mono ?_; rintro e w' ⟨rfl, rfl⟩)
    go_ret
    exact ⟨ret_bool HG.out.symm, rfl⟩
end Go.Proofs.Ytpmkdpkegmbleaa
