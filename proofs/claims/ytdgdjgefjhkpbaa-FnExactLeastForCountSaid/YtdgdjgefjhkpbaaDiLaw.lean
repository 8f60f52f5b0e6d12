/-
  The laws of CountDigit, LeastForCount and SumOfDigitsUpTo.
-/
import Derived.Test.YtdgdjgefjhkpbaaDiCup
import Derived.Test.YtdgdjgefjhkpbaaDiLw
namespace Go.Proofs.Ytdgdjgefjhkpbaa
open Go.RowKit

set_option maxHeartbeats 1000000 in
theorem diCount_any (n d : Int) (w : World) (h0 : 0 ≤ n) (h1 : n ≤ 1000000000000) (hd : 0 ≤ d ∧ d ≤ 9) :
    Calls Try.prog 38 #[.int .i64 n, .int .i64 d] w fun e w' => e = .returned (.int .i64 (cn d n)) ∧ Below w.heap.size w w' := by
  have HD := Lib.hid hd
  obtain ⟨hd0, hd1⟩ := hd
  go_enter Try.func38, Try.ntmps38
  go_wp2
  go_loopw [5, 6] (fun s t wr => ∃ (j : Nat) (T S : Int), j ≤ 13 ∧ Hid (T = tn j) ∧ Hid (S = cp d n j) ∧ s = .int .i64 S ∧ t = .int .i64 T ∧ Below w.heap.size w wr) (fun _ t _ => (10000000000000 - intOf t).toNat)
  case atStart => exact ⟨0, 1, 0, by omega, rfl, rfl, rfl, rfl, Below.refl _ _⟩
  case round =>
    obtain ⟨j, T, S, hj, HT, HS, rfl, rfl, hb⟩ := hrel
    have hT1 : 1 ≤ T := by rw [HT.out]; exact tn_pos j
    have hSb : 0 ≤ S ∧ S ≤ 13000000000000 := by rw [HS.out]; exact cp_13 h0 h1 HD.out hj
    obtain ⟨hS0, hS1⟩ := hSb
    by_cases hlt : T ≤ n
    · have hj13 : j < 13 := tn_lt (n := n) (by rw [← HT.out]; exact hlt) h1
      have HT' : Hid (T * 10 = tn (j + 1)) := by show _ = _; rw [tn_succ, HT.out]
      have hm := ca_model hT1 hlt HD.out
      have HS' : Hid (S + ca n T d = cp d n (j + 1)) := by show _ = _; rw [cp_go (by rw [← HT.out]; exact hlt), HS.out, HT.out]
      have hq := quo_bd h0 hT1
      rw [Int.mul_comm 10 T] at hq
      obtain ⟨hq1, hq2⟩ := hq
      have hq3 : 0 ≤ n / (T * 10) := Int.ediv_nonneg h0 (by omega)
      have hq4 : n / (T * 10) ≤ n := Int.ediv_le_self _ h0
      have ho0 : 0 ≤ n / T := Int.ediv_nonneg h0 (by omega)
      have ho4 : n / T ≤ n := Int.ediv_le_self _ h0
      have ho1 := Int.emod_nonneg (n / T) (show (10 : Int) ≠ 0 by omega)
      have ho2 := Int.emod_lt_of_pos (n / T) (show (0 : Int) < 10 by omega)
      have hb1 := Int.emod_nonneg n (show T ≠ 0 by omega)
      have hb2 := Int.emod_lt_of_pos n (show 0 < T by omega)
      by_cases hz : d = 0
      · subst hz
        by_cases hqz : n / (T * 10) = 0
        · rw [if_pos ⟨rfl, hqz⟩] at hm
          have HM := Lib.hid hm
          have hlz : n / (T * 10) - 1 < 0 := by omega
          clear hm
          go_wp2
          go_region
          all_goals go_wp2
          all_goals go_roundw
          all_goals first | (simp [intOf]; omega; done) | skip
          all_goals exact ⟨j + 1, T * 10, S, by omega, HT', by show _ = _; rw [← HS'.out, HM.out]; omega, rfl, rfl, by go_grown⟩
        · rw [if_neg (fun h => hqz h.2), if_pos rfl] at hm
          have hlz : ¬ n / (T * 10) - 1 < 0 := by omega
          have hpz : (n / (T * 10) - 1) * T = n / (T * 10) * T - T := by rw [Int.sub_mul]; omega
          have hpp : 0 ≤ (n / (T * 10) - 1) * T := Int.mul_nonneg (by omega) (by omega)
          have hpq : (n / (T * 10) - 1) * T ≤ 1000000000000 := by omega
          clear hpz
          by_cases hlo : 0 < n / T % 10
          · rw [if_pos hlo] at hm
            have HM := Lib.hid hm
            clear hm
            go_wp2
            go_region
            all_goals go_wp2
            all_goals go_roundw
            all_goals first | (simp [intOf]; omega; done) | skip
            all_goals exact ⟨j + 1, T * 10, _, by omega, HT', by show _ = _; rw [← HS'.out, HM.out]; omega, rfl, rfl, by go_grown⟩
          · by_cases hoe : n / T % 10 = 0
            · rw [if_neg hlo, if_pos hoe] at hm
              have HM := Lib.hid hm
              have hoe' : (n / T % 10 == 0) = true := by simp; omega
              clear hm
              go_wp2
              go_region
              all_goals go_wp2
              all_goals go_roundw
              all_goals first | (simp [intOf]; omega; done) | skip
              all_goals exact ⟨j + 1, T * 10, _, by omega, HT', by show _ = _; rw [← HS'.out, HM.out]; omega, rfl, rfl, by go_grown⟩
            · rw [if_neg hlo, if_neg hoe] at hm
              have HM := Lib.hid hm
              have hoe' : (n / T % 10 == 0) = false := by simp; omega
              clear hm
              go_wp2
              go_region
              all_goals go_wp2
              all_goals go_roundw
              all_goals first | (simp [intOf]; omega; done) | skip
              all_goals exact ⟨j + 1, T * 10, _, by omega, HT', by show _ = _; rw [← HS'.out, HM.out]; omega, rfl, rfl, by go_grown⟩
      · have hz' : (d == 0) = false := by simp; omega
        rw [if_neg (fun h => hz h.1), if_neg hz, Int.sub_zero] at hm
        have hlz : ¬ n / (T * 10) < 0 := by omega
        by_cases hlo : d < n / T % 10
        · rw [if_pos hlo] at hm
          have HM := Lib.hid hm
          clear hm
          go_wp2
          go_region
          all_goals go_wp2
          all_goals go_roundw
          all_goals first | (simp [intOf]; omega; done) | skip
          all_goals exact ⟨j + 1, T * 10, _, by omega, HT', by show _ = _; rw [← HS'.out, HM.out]; omega, rfl, rfl, by go_grown⟩
        · by_cases hoe : n / T % 10 = d
          · rw [if_neg hlo, if_pos hoe] at hm
            have HM := Lib.hid hm
            have hoe' : (n / T % 10 == d) = true := by simp; omega
            clear hm
            go_wp2
            go_region
            all_goals go_wp2
            all_goals go_roundw
            all_goals first | (simp [intOf]; omega; done) | skip
            all_goals exact ⟨j + 1, T * 10, _, by omega, HT', by show _ = _; rw [← HS'.out, HM.out]; omega, rfl, rfl, by go_grown⟩
          · rw [if_neg hlo, if_neg hoe] at hm
            have HM := Lib.hid hm
            have hoe' : (n / T % 10 == d) = false := by simp; omega
            clear hm
            go_wp2
            go_region
            all_goals go_wp2
            all_goals go_roundw
            all_goals first | (simp [intOf]; omega; done) | skip
            all_goals exact ⟨j + 1, T * 10, _, by omega, HT', by show _ = _; rw [← HS'.out, HM.out]; omega, rfl, rfl, by go_grown⟩
    · have HR : Hid (S = cn d n) := by show _ = _; rw [HS.out]; exact cp_all (by rw [← HT.out]; omega) hj
      go_wp2
      go_ret
      exact ⟨ret_int HR.out, hb⟩
end Go.Proofs.Ytdgdjgefjhkpbaa
