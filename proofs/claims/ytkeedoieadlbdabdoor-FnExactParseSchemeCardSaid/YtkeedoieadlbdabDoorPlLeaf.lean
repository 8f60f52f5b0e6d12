/-
  Contracts of the model's leaves of chapter 3, and of the law's helpers over schemes.
-/
import Derived.Test.YtkeedoieadlbdabDoorPlSl
namespace Go.Proofs.YtkeedoieadlbdabDoor
open Go.RowKit

theorem in_any (n lo hi : Int) (w : World) :
    Calls Tryd.prog 24 #[.int .i64 n, .int .i64 lo, .int .i64 hi] w fun e w' => e = .returned (.bool (decide (lo ≤ n ∧ n ≤ hi))) ∧ w = w' := by
  by_cases h1 : lo ≤ n <;> by_cases h2 : n ≤ hi
  all_goals
    go_enter Tryd.func24, Tryd.ntmps24
    go_wp2
    go_ret
    exact ⟨by simp [h1, h2], rfl⟩
theorem plSign_any (c : UInt8) (w : World) :
    Calls Tryd.prog 33 #[.int .u8 (c.toNat : Int)] w fun e w' => e = .returned (.bool (psB c)) ∧ w = w' := by
  have HB : Hid (∀ b, (psB c = true ↔ b = true) → psB c = b) := fun b h => Bool.eq_iff_iff.2 h
  have HP := Lib.hid (psB_iff c)
  by_cases h1 : 65 ≤ (c.toNat : Int) <;> by_cases h2 : (c.toNat : Int) ≤ 90 <;> by_cases h3 : 48 ≤ (c.toNat : Int) <;> by_cases h4 : (c.toNat : Int) ≤ 57
  all_goals
    go_enter Tryd.func33, Tryd.ntmps33
    go_wp2
    go_ret
    exact ⟨ret_bool (HB.out _ (by rw [HP.out]; simp [h1, h2, h3, h4])).symm, rfl⟩
theorem plSigns_any (s : ByteArray) (lo hi : Int) (w : World) (hs : s.size ≤ maxLen) :
    Calls Tryd.prog 25 #[.string s, .int .i64 lo, .int .i64 hi] w fun e w' => e = .returned (.bool (szsB s.data.toList lo hi)) ∧ w = w' := by
  unfold maxLen at hs
  have hl : s.data.toList.length = s.size := by simp
  by_cases hz : lo ≤ (s.size : Int) ∧ (s.size : Int) ≤ hi
  · have hgd : szsB s.data.toList lo hi = pssB s.data.toList := by unfold szsB; rw [hl, decide_eq_true hz]; rfl
    have HG := Lib.hid hgd; clear hgd hl
    have hdz : decide (lo ≤ (s.size : Int) ∧ (s.size : Int) ≤ hi) = true := decide_eq_true hz
    clear hz
    go_enter Tryd.func25, Tryd.ntmps25
    go_wp2_with (go_at_call 24; refine (in_any _ _ _ _).mono ?_; rintro e w' ⟨rfl, rfl⟩)
    go_loop [7] (fun i => ∃ k : Nat, k ≤ s.size ∧ i = .int .i64 k ∧ pssB (s.data.toList.take k) = true) (fun i => s.size - (intOf i).toNat)
    case atStart => exact ⟨0, Nat.zero_le _, rfl, by simp [pssB]⟩
    case round =>
      obtain ⟨k, hk, rfl, hd⟩ := hrel
      have HD := Lib.hid hd; clear hd
      by_cases hlt : k < s.size
      · cases hc : psB s[k] with
        | true =>
          have HC := Lib.hid hc
          have hb : ∀ w, Calls Tryd.prog 33 #[.int .u8 (s[k].toNat : Int)] w fun e w' => e = .returned (.bool true) ∧ w = w' := fun w => by rw [← hc]; exact plSign_any _ w
          clear hc
          go_wp2_with (go_at_call 33; refine (hb _).mono ?_; rintro e w' ⟨rfl, rfl⟩)
          go_round
          case rel => exact ⟨k + 1, by omega, by go_num, pss_take s k hlt HD.out HC.out⟩
          case measure => simp [intOf]; omega
        | false =>
          have HN := Lib.hid (pss_no s k hlt hc)
          have hb : ∀ w, Calls Tryd.prog 33 #[.int .u8 (s[k].toNat : Int)] w fun e w' => e = .returned (.bool false) ∧ w = w' := fun w => by rw [← hc]; exact plSign_any _ w
          clear hc
          go_wp2_with (go_at_call 33; refine (hb _).mono ?_; rintro e w' ⟨rfl, rfl⟩)
          go_ret
          exact ⟨ret_bool (by rw [HG.out, HN.out]), rfl⟩
      · go_wp2
        go_ret
        exact ⟨ret_bool (by rw [HG.out, ← take_all, ← HD.out, show k = s.size by omega]), rfl⟩
  · have hgd : szsB s.data.toList lo hi = false := by unfold szsB; rw [hl, decide_eq_false hz]; rfl
    have HG := Lib.hid hgd; clear hgd hl
    have hdz : decide (lo ≤ (s.size : Int) ∧ (s.size : Int) ≤ hi) = false := decide_eq_false hz
    clear hz
    go_enter Tryd.func25, Tryd.ntmps25
    go_wp2_with (go_at_call 24; refine (in_any _ _ _ _).mono ?_; rintro e w' ⟨rfl, rfl⟩)
    go_ret
    exact ⟨ret_bool HG.out.symm, rfl⟩
end Go.Proofs.YtkeedoieadlbdabDoor
