/-
  The loop of LuckyDigits in the model.
-/
import Derived.Test.YtapeohnjjmokkabLdigA
import Derived.Test.YtapeohnjjmokkabApp
namespace Go.Proofs.Ytapeohnjjmokkab
open Go.RowKit

attribute [local go_sem ↓] Go.wp_at_zero Go.wp_at_succ
set_option maxHeartbeats 1000000 in
theorem sLd_yes (s : ByteArray) (w : World) (hm : s.size ≤ maxLen) (hg : goodB s = true) :
    Calls Try.prog 28 #[.string s] w fun e w' => ∃ v, e = .returned (.tuple #[v, .bool true]) ∧ Ints w.heap.size (ldig s) v w' ∧ Below w.heap.size w w' := by
  obtain ⟨i0, hi, hz0, hz1, hz2⟩ := info_parts (show (Try.prog.info? 3).map (fun i => (i.zero, i.size, i.bytes)) = some (some (.int .i64 0), 1, 8) by kernel_rfl)
  have hs := good_sz hg
  obtain ⟨hs1, hs2, _⟩ := hs
  go_enter Try.func28, Try.ntmps28
  go_wp2_with (first | (go_at_call 30; go_must ((with_reducible refine (tkGood_any _ _ hm).mono ?_); rintro e w' ⟨rfl, rfl⟩)))
  go_loopw [4, 5] (fun vv iv wr => ∃ (d : Nat) (xs : List Int), d ≤ 10 ∧ iv = .int .i64 d ∧ Hid (xs = ldTo s d) ∧ Ints w.heap.size xs vv wr ∧ Below w.heap.size w wr) (fun _ iv _ => 10 - (intOf iv).toNat)
  case atStart => exact ⟨0, [], by omega, rfl, by show _ = _; rw [ldTo, if_neg (by omega)], Ints.nil _ _, Below.refl _ _⟩
  case round =>
    obtain ⟨d, xs, hd, rfl, hxs, hI, hbl⟩ := hrel
    have hxl : xs.length ≤ 1 := by rw [hxs.out]; exact ldTo_len s d
    have hsz := hbl.size
    have HI := Lib.hid hI
    clear hI
    by_cases hd10 : d < 10
    · have hd9 : d ≤ 9 := by omega
      have HG := Lib.hid (repl_good s d hd9 hg)
      have HL := Lib.hid (repl_lucky s d hd9 hg)
      have hb1 : (0 : Int) ≤ (s.size : Int) - 1 := by omega
      have hb2 : (s.size : Int) - 1 ≤ (s.size : Int) := by omega
      have hnb : ¬ 9223372036854775807 < s.size - 1 + 1 := by omega
      have hw1 : IntKind.i64.wrap ((s.size : Int) - 1) = (s.size : Int) - 1 := IntWalk.i64_in _ (by omega)
      by_cases hw : wish s = (d : Int)
      · have hdec : decide (wish s = (d : Int)) = true := by simpa using hw
        have HW := Lib.hid hw
        clear hw
        go_wp2_with fail
        go_region_with (first | (go_at_call 44; go_must ((with_reducible refine (l1Num_d9 d _ hd9).mono ?_); rintro e w2 ⟨rfl, hb2⟩; have H2 := chain (w := w) (by go_grown) hb2; have I2 := Lib.hid ((show Ints _ _ _ wr.drew from HI.out).below hb2); clear hb2)) | (go_at_call 36; go_must ((with_reducible refine (tkL_repl s d _ hd9 hg).mono ?_); rintro e w3 ⟨rfl, hb3⟩; have H3 := chain H2 hb3; have I3 := Lib.hid (I2.out.below hb3); clear hb3)))
        all_goals clear hw1
        all_goals go_wp2_with (at_builtin; refine wpList_append_int _ rfl _ _ rfl w.heap.size xs _ rfl (I3.out.alloc _) w3.heap.size (d : Int) rfl (by simp) (by omega) (by have hs4 := H3.size; rw [World.size_alloc]; omega) ?_; intro v' w4 hI4 hg4 _)
        all_goals
          have hb4 : Below w.heap.size w w4 := (H3.alloc H3.size _).trans hg4
          have HP := Lib.hid hI4
          clear hI4 hg4
          go_wp2
          go_roundw
          case rel => exact ⟨d + 1, _, by omega, by go_num, by show _ = _; rw [hxs.out, ldTo_hit s d HW.out], HP.out, hb4⟩
          case measure => simp [intOf]; omega
      · have hdec : decide (wish s = (d : Int)) = false := by simpa using hw
        have HW := Lib.hid hw
        clear hw
        go_wp2_with fail
        go_region_with (first | (go_at_call 44; go_must ((with_reducible refine (l1Num_d9 d _ hd9).mono ?_); rintro e w2 ⟨rfl, hb2⟩; have H2 := chain (w := w) (by go_grown) hb2; have I2 := Lib.hid ((show Ints _ _ _ wr.drew from HI.out).below hb2); clear hb2)) | (go_at_call 36; go_must ((with_reducible refine (tkL_repl s d _ hd9 hg).mono ?_); rintro e w3 ⟨rfl, hb3⟩; have H3 := chain H2 hb3; have I3 := Lib.hid (I2.out.below hb3); clear hb3)))
        all_goals clear hw1
        all_goals go_wp2
        all_goals
          go_roundw
          case rel => exact ⟨d + 1, _, by omega, by go_num, by show _ = _; rw [hxs.out, ldTo_miss s d HW.out], I3.out, H3⟩
          case measure => simp [intOf]; omega
    · have hE : xs = ldig s := by rw [hxs.out, show d = 10 by omega, ldTo_ten s hg]
      have HE := Lib.hid hE
      clear hE
      go_wp2
      go_ret2
      exact ⟨_, rfl, by rw [← HE.out]; exact HI.out, hbl⟩
end Go.Proofs.Ytapeohnjjmokkab
