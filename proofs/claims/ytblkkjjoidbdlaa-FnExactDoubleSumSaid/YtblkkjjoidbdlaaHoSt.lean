/-
  Streets, sums and roots: contracts.
-/
import Derived.Test.YtblkkjjoidbdlaaHoLeaf
namespace Go.Proofs.Ytblkkjjoidbdlaa
open Go.RowKit

theorem hoStreet_any (a b : Int) (w : World) :
    Calls Try.prog 18 #[.int .i64 a, .int .i64 b] w fun e w' => e = .returned (.bool (stB a b)) ∧ w = w' := by
  by_cases h1 : 1 ≤ b ∧ b ≤ 1000000
  · have hd : decide (1 ≤ b ∧ b ≤ 1000000) = true := by simpa using h1
    have HS : Hid ((decide (1 ≤ a) && decide (a ≤ b)) = stB a b) := by show _ = _; unfold stB; rw [← Bool.decide_and, decide_eq_decide]; omega
    clear h1
    go_enter Try.func18, Try.ntmps18
    go_wp2_with (go_at_call 28; refine (in_any _ _ _ _).mono ?_; rintro e w' ⟨rfl, rfl⟩)
    go_ret
    exact ⟨ret_bool HS.out, rfl⟩
  · have hd : decide (1 ≤ b ∧ b ≤ 1000000) = false := by simpa using h1
    have HS : Hid (false = stB a b) := by show _ = _; unfold stB; symm; rw [decide_eq_false_iff_not]; omega
    clear h1
    go_enter Try.func18, Try.ntmps18
    go_wp2_with (go_at_call 28; refine (in_any _ _ _ _).mono ?_; rintro e w' ⟨rfl, rfl⟩)
    go_ret
    exact ⟨ret_bool HS.out, rfl⟩
theorem isStreet_any (a b : Int) (w : World) :
    Calls Try.prog 20 #[.int .i64 a, .int .i64 b] w fun e w' => e = .returned (.bool (stB a b)) ∧ w = w' := by
  cases h1 : houB a <;> cases h2 : houB b <;> by_cases h3 : a ≤ b
  all_goals
    have HS : Hid ((houB a && houB b && decide (a ≤ b)) = stB a b) := by
      show _ = _
      rw [Bool.eq_iff_iff, stB_iff]; simp only [Bool.and_eq_true, houB_iff, decide_eq_true_eq]; omega
    have k3 : decide (a ≤ b) = decide (a ≤ b) := rfl
    first | (have k4 : decide (a ≤ b) = true := by simpa using h3) | (have k4 : decide (a ≤ b) = false := by simpa using h3)
    have HT := HS.out
    rw [h1, h2, k4] at HT
    have HT' := Lib.hid HT
    clear HT HS k3
    go_enter Try.func20, Try.ntmps20
    go_wp2_with (go_at_call 32; refine (isHouse_any _ _).mono ?_; rintro e w' ⟨rfl, rfl⟩)
    go_ret
    exact ⟨ret_bool HT'.out, rfl⟩
/-- The model's sum. -/
theorem hoSum_any (a b : Int) (w : World) (ha : 0 ≤ a) (ha' : a ≤ 2000000) (hb : a - 1 ≤ b) (hb' : b ≤ 2000000) :
    Calls Try.prog 27 #[.int .i64 a, .int .i64 b] w fun e w' => e = .returned (.int .i64 (sm a b)) ∧ w = w' := by
  by_cases h : b < a
  · have HZ : Hid (0 = sm a b) := by show _ = _; rw [show b = a - 1 by omega, sm_none]
    go_enter Try.func27, Try.ntmps27
    go_wp2
    go_ret
    exact ⟨ret_int HZ.out, rfl⟩
  · have HZ := Lib.hid (sm_comm a b)
    have hp := prod_bd a b ha hb hb'
    rw [Int.mul_comm] at hp
    obtain ⟨hp1, hp2⟩ := hp
    go_enter Try.func27, Try.ntmps27
    go_wp2
    go_ret
    exact ⟨ret_int HZ.out, rfl⟩
/-- The model's root. -/
theorem hoRoot_any (n : Int) (w : World) (h0 : 0 ≤ n) (h1 : n ≤ 8000000000000) :
    Calls Try.prog 33 #[.int .i64 n] w fun e w' => (∃ r : Int, 0 ≤ r ∧ r ≤ 3000000 ∧ r * r ≤ n ∧ n < (r + 1) * (r + 1) ∧ e = .returned (.int .i64 r)) ∧ w = w' := by
  go_enter Try.func33, Try.ntmps33
  go_wp2
  go_loop [3, 4] (fun l h => ∃ lo hi : Int, l = .int .i64 lo ∧ h = .int .i64 hi ∧ 0 ≤ lo ∧ lo ≤ hi ∧ hi ≤ 3000000 ∧ lo * lo ≤ n ∧ n < (hi + 1) * (hi + 1)) (fun l h => (intOf h - intOf l).toNat)
  case atStart => exact ⟨0, 3000000, rfl, rfl, by omega, by omega, by omega, by omega, by omega⟩
  case round =>
    obtain ⟨lo, hi, rfl, rfl, hlo, hlh, hhi, hl, hh⟩ := hrel
    have HL := Lib.hid hl
    have HH := Lib.hid hh
    clear hl hh
    by_cases hlt : lo < hi
    · obtain ⟨m, hm⟩ : ∃ m, m = (lo + hi + 1) / 2 := ⟨_, rfl⟩
      have hm1 : lo < m := by omega
      have hm2 : m ≤ hi := by omega
      have hp1 := sq_nn m
      have hp2 : m * m ≤ 9000000000000 := sq_le (b := 3000000) (by omega) (by omega)
      have hr : ((lo + hi + 1) / 2 : Int) = m := hm.symm
      clear hm
      by_cases hc : m * m ≤ n
      · go_wp2
        go_round
        case rel => exact ⟨m, hi, val_int hr, rfl, by omega, by omega, by omega, by omega, HH.out⟩
        case measure => simp [intOf]; omega
      · have hc' : n < m * m := by omega
        go_wp2
        go_round
        case rel => exact ⟨lo, m - 1, rfl, rfl, by omega, by omega, by omega, HL.out, by rw [show m - 1 + 1 = m by omega]; exact hc'⟩
        case measure => simp [intOf]; omega
    · go_wp2
      go_ret
      exact ⟨⟨lo, by omega, by omega, HL.out, by rw [show lo = hi by omega]; exact HH.out, rfl⟩, rfl⟩
end Go.Proofs.Ytblkkjjoidbdlaa
