/-
  The laws of StreetOfSum and MissingHouse.
-/
import Derived.Test.YtblkkjjoidbdlaaHoLfs
namespace Go.Proofs.Ytblkkjjoidbdlaa
open Go.RowKit

theorem sStr_yes (s : Int) (w : World) (hs : houB s = true) :
    Calls Try.prog 10 #[.int .i64 s] w fun e w' => (∃ l : Int, Reach 1 s l ∧ ((sm 1 l = s ∧ e = .returned (.tuple #[.int .i64 l, .bool true])) ∨ (sm 1 l ≠ s ∧ e = .returned (.tuple #[.int .i64 0, .bool false])))) ∧ w = w' := by
  obtain ⟨h3, h4⟩ := (houB_iff s).1 hs
  go_enter Try.func10, Try.ntmps10
  go_wp2_with (go_at_call 26; refine (hoAsked_any _ _).mono ?_; rintro e w' ⟨rfl, rfl⟩)
  go_loop [4] (fun v => ∃ l : Int, v = .int .i64 l ∧ 1 ≤ l ∧ l ≤ 1000000 ∧ Hid (l = 1 ∨ sm 1 (l - 1) < s)) (fun v => (1000000 - intOf v).toNat)
  case atStart => exact ⟨1, rfl, Int.le_refl _, by omega, (.inl rfl : (1 : Int) = 1 ∨ sm 1 (1 - 1) < s)⟩
  case round =>
    obtain ⟨l, rfl, hl1, hl2, HL⟩ := hrel
    by_cases hlt : sm 1 l < s
    · have hll : l + 1 ≤ 1000000 := by have := sm_ge 1 l (by omega) hl1; omega
      have HLT := Lib.hid hlt
      go_wp2_with (go_at_call 27; refine (hoSum_any _ _ _ (by omega) (by omega) (by omega) (by omega)).mono ?_; rintro e w' ⟨rfl, rfl⟩)
      go_round
      case rel => exact ⟨l + 1, rfl, by omega, hll, by show _ ∨ _; rw [show l + 1 - 1 = l by omega]; exact .inr HLT.out⟩
      case measure => simp [intOf]; omega
    · have HLT : Hid (s ≤ sm 1 l) := by show _ ≤ _; omega
      by_cases heq : sm 1 l = s
      · have hgt : ¬ s < sm 1 l := by omega
        have HEQ := Lib.hid heq
        clear heq
        go_wp2_with (go_at_call 27; refine (hoSum_any _ _ _ (by omega) (by omega) (by omega) (by omega)).mono ?_; rintro e w' ⟨rfl, rfl⟩)
        go_ret2
        exact ⟨⟨l, ⟨hl1, HLT.out, HL.out⟩, .inl ⟨HEQ.out, rfl⟩⟩, rfl⟩
      · have hgt : s < sm 1 l := by omega
        have HEQ := Lib.hid heq
        clear heq
        go_wp2_with (go_at_call 27; refine (hoSum_any _ _ _ (by omega) (by omega) (by omega) (by omega)).mono ?_; rintro e w' ⟨rfl, rfl⟩)
        go_ret2
        exact ⟨⟨l, ⟨hl1, HLT.out, HL.out⟩, .inr ⟨HEQ.out, rfl⟩⟩, rfl⟩
theorem sStr_no (s : Int) (w : World) (hs : houB s = false) :
    Calls Try.prog 10 #[.int .i64 s] w fun e w' => e = .returned (.tuple #[.int .i64 0, .bool false]) ∧ w = w' := by
  go_enter Try.func10, Try.ntmps10
  go_wp2_with (go_at_call 26; refine (hoAsked_any _ _).mono ?_; rintro e w' ⟨rfl, rfl⟩)
  go_ret2
  exact ⟨rfl, rfl⟩
theorem lfsB_one (s : Int) : lfsB 1 s = houB s := by unfold lfsB; rw [show houB 1 = true from rfl, Bool.true_and]
theorem iStr_yes (s : Int) (w : World) (hs : houB s = true) :
    Calls Try.prog 11 #[.int .i64 s] w fun e w' => (∃ l : Int, Reach 1 s l ∧ ((sm 1 l = s ∧ e = .returned (.tuple #[.int .i64 l, .bool true])) ∨ (sm 1 l ≠ s ∧ e = .returned (.tuple #[.int .i64 0, .bool false])))) ∧ Below w.heap.size w w' := by
  have HB : Hid (lfsB 1 s = true) := by show _ = _; rw [lfsB_one, hs]
  go_enter Try.func11, Try.ntmps11
  go_wp2_with fail
  refine (iLfs_yes 1 s _ HB.out).mono ?_
  rintro e w1 ⟨⟨l, rfl, hr, hl⟩, b1⟩
  have hl1 : 1 ≤ l := hr.1
  have HR := Lib.hid hr
  clear hr
  by_cases heq : sm 1 l = s
  · have HEQ := Lib.hid heq
    have hq : (sm 1 l == s) = true := by simpa using heq
    clear heq
    go_wp2_with (go_at_call 22; refine (sumOf_any 1 l _ (by omega) (by omega) (by omega) (by omega)).mono ?_; rintro e w2 ⟨rfl, b2⟩)
    go_ret2
    exact ⟨⟨l, HR.out, .inl ⟨HEQ.out, rfl⟩⟩, b1.trans (b2.mono b1.size)⟩
  · have HEQ := Lib.hid heq
    have hq : (sm 1 l == s) = false := by simpa using heq
    clear heq
    go_wp2_with (go_at_call 22; refine (sumOf_any 1 l _ (by omega) (by omega) (by omega) (by omega)).mono ?_; rintro e w2 ⟨rfl, b2⟩)
    go_ret2
    exact ⟨⟨l, HR.out, .inr ⟨HEQ.out, rfl⟩⟩, b1.trans (b2.mono b1.size)⟩
theorem iStr_no (s : Int) (w : World) (hs : houB s = false) :
    Calls Try.prog 11 #[.int .i64 s] w fun e w' => e = .returned (.tuple #[.int .i64 0, .bool false]) ∧ Below w.heap.size w w' := by
  have HB : Hid (lfsB 1 s = false) := by show _ = _; rw [lfsB_one, hs]
  go_enter Try.func11, Try.ntmps11
  go_wp2_with (go_at_call 15; refine (iLfs_no 1 s _ HB.out).mono ?_; rintro e w1 ⟨rfl, b1⟩)
  go_ret2
  exact ⟨rfl, b1⟩
theorem FnExactStreetOfSum_law (s : Int) (_h0 : (Lit.int .i64 s).wf = true) (w : World) :
    Calls Try.prog 4 #[.int .i64 s] w fun e w' => e = .returned (.bool true) ∧ Below w.heap.size w w' := by
  cases hs : houB s with
  | true =>
    go_enter Try.func4, Try.ntmps4
    go_wp2_with fail
    refine (sStr_yes _ _ hs).mono ?_
    rintro e w' ⟨⟨l, hr, hc⟩, rfl⟩
    rcases hc with ⟨hq, rfl⟩ | ⟨hq, rfl⟩
    · go_wp2_with fail
      refine (iStr_yes _ _ hs).mono ?_
      rintro e w1 ⟨⟨m, hr2, hc2⟩, b1⟩
      have e0 := hr.uniq (Int.le_refl _) hr2
      subst e0
      rcases hc2 with ⟨hq2, rfl⟩ | ⟨hq2, rfl⟩
      · clear hq hq2
        go_wp2
        go_ret
        exact ⟨rfl, b1⟩
      · exact absurd hq hq2
    · go_wp2_with fail
      refine (iStr_yes _ _ hs).mono ?_
      rintro e w1 ⟨⟨m, hr2, hc2⟩, b1⟩
      have e0 := hr.uniq (Int.le_refl _) hr2
      subst e0
      rcases hc2 with ⟨hq2, rfl⟩ | ⟨hq2, rfl⟩
      · exact absurd hq2 hq
      · clear hq hq2
        go_wp2
        go_ret
        exact ⟨rfl, b1⟩
  | false =>
    go_enter Try.func4, Try.ntmps4
    go_wp2_with (first | (go_at_call 10; go_must ((with_reducible refine (sStr_no _ _ hs).mono ?_); rintro e w' ⟨rfl, rfl⟩)) | (go_at_call 11; go_must ((with_reducible refine (iStr_no _ _ hs).mono ?_); rintro e w1 ⟨rfl, b1⟩)))
    go_ret
    exact ⟨rfl, b1⟩
theorem sMis_yes (s : Int) (w : World) (hs : houB s = true) :
    Calls Try.prog 12 #[.int .i64 s] w fun e w' => (∃ l : Int, Reach 1 (s + 1) l ∧ e = .returned (.tuple #[.int .i64 l, .int .i64 (sm 1 l - s), .bool true])) ∧ w = w' := by
  obtain ⟨h3, h4⟩ := (houB_iff s).1 hs
  go_enter Try.func12, Try.ntmps12
  go_wp2_with (go_at_call 26; refine (hoAsked_any _ _).mono ?_; rintro e w' ⟨rfl, rfl⟩)
  go_loop [5] (fun v => ∃ l : Int, v = .int .i64 l ∧ 2 ≤ l ∧ l ≤ 1000001 ∧ Hid (sm 1 (l - 1) ≤ s)) (fun v => (1000001 - intOf v).toNat)
  case atStart => exact ⟨2, rfl, Int.le_refl _, by omega, by show sm 1 (2 - 1) ≤ s; rw [show (2 : Int) - 1 = 1 by omega, sm_one]; exact h3⟩
  case round =>
    obtain ⟨l, rfl, hl1, hl2, HL⟩ := hrel
    have hc := HL.out
    have hsb := sm_bd 1 l (by omega) (by omega) (by omega)
    obtain ⟨hs1, hs2⟩ := hsb
    by_cases hlt : sm 1 l ≤ s
    · have hll : l + 1 ≤ 1000001 := by have := sm_ge 1 l (by omega) (by omega); omega
      have HLT := Lib.hid hlt
      have hd : decide (1 ≤ sm 1 l - s ∧ sm 1 l - s ≤ l) = false := by rw [decide_eq_false_iff_not]; omega
      clear hlt
      go_wp2_with (first | (go_at_call 27; refine (hoSum_any _ _ _ (by omega) (by omega) (by omega) (by omega)).mono ?_; rintro e w' ⟨rfl, rfl⟩) | (go_at_call 28; refine (in_any _ _ _ _).mono ?_; rintro e w' ⟨rfl, rfl⟩))
      go_round
      case rel => exact ⟨l + 1, rfl, by omega, hll, by show _ ≤ _; rw [show l + 1 - 1 = l by omega]; exact HLT.out⟩
      case measure => simp [intOf]; omega
    · have HLT : Hid (s + 1 ≤ sm 1 l) := by show _ ≤ _; omega
      have hsc : sm 1 l = sm 1 (l - 1) + l := by
        have h : sm 1 (l - 1 + 1) = sm 1 (l - 1) + (l - 1 + 1) := sm_succ 1 (l - 1)
        rwa [show l - 1 + 1 = l by omega] at h
      have hd : decide (1 ≤ sm 1 l - s ∧ sm 1 l - s ≤ l) = true := by rw [decide_eq_true_eq]; omega
      clear hsc hlt
      go_wp2_with (first | (go_at_call 27; refine (hoSum_any _ _ _ (by omega) (by omega) (by omega) (by omega)).mono ?_; rintro e w' ⟨rfl, rfl⟩) | (go_at_call 28; refine (in_any _ _ _ _).mono ?_; rintro e w' ⟨rfl, rfl⟩))
      go_ret3
      exact ⟨⟨l, ⟨by omega, HLT.out, .inr (by have := HL.out; omega)⟩, rfl⟩, rfl⟩
theorem sMis_no (s : Int) (w : World) (hs : houB s = false) :
    Calls Try.prog 12 #[.int .i64 s] w fun e w' => e = .returned (.tuple #[.int .i64 0, .int .i64 0, .bool false]) ∧ w = w' := by
  go_enter Try.func12, Try.ntmps12
  go_wp2_with (go_at_call 26; refine (hoAsked_any _ _).mono ?_; rintro e w' ⟨rfl, rfl⟩)
  go_ret3
  exact ⟨rfl, rfl⟩
theorem iMis_yes (s : Int) (w : World) (hs : houB s = true) :
    Calls Try.prog 13 #[.int .i64 s] w fun e w' => (∃ l : Int, Reach 1 (s + 1) l ∧ e = .returned (.tuple #[.int .i64 l, .int .i64 (sm 1 l - s), .bool true])) ∧ Below w.heap.size w w' := by
  obtain ⟨h3, h4⟩ := (houB_iff s).1 hs
  have HT := Lib.hid (sm_top (s + 1) (by omega))
  go_enter Try.func13, Try.ntmps13
  go_wp2_with (go_at_call 29; refine (isRunSum_any _ _).mono ?_; rintro e w' ⟨rfl, rfl⟩)
  refine (lastForSum_any 1 (s + 1) _ rfl HT.out).mono ?_
  rintro e w1 ⟨⟨l, rfl, hr, hl⟩, b1⟩
  have hl1 : 1 ≤ l := hr.1
  have hsb := sm_bd 1 l (by omega) (by omega) (by omega)
  obtain ⟨hs1, hs2⟩ := hsb
  have HR := Lib.hid hr
  clear hr
  go_wp2_with (go_at_call 22; refine (sumOf_any 1 l _ (by omega) (by omega) (by omega) (by omega)).mono ?_; rintro e w2 ⟨rfl, b2⟩)
  go_ret3
  exact ⟨⟨l, HR.out, rfl⟩, b1.trans (b2.mono b1.size)⟩
theorem iMis_no (s : Int) (w : World) (hs : houB s = false) :
    Calls Try.prog 13 #[.int .i64 s] w fun e w' => e = .returned (.tuple #[.int .i64 0, .int .i64 0, .bool false]) ∧ Below w.heap.size w w' := by
  go_enter Try.func13, Try.ntmps13
  go_wp2_with (go_at_call 29; refine (isRunSum_any _ _).mono ?_; rintro e w' ⟨rfl, rfl⟩)
  go_ret3
  exact ⟨rfl, Below.refl _ _⟩
theorem FnExactMissingHouse_law (s : Int) (_h0 : (Lit.int .i64 s).wf = true) (w : World) :
    Calls Try.prog 5 #[.int .i64 s] w fun e w' => e = .returned (.bool true) ∧ Below w.heap.size w w' := by
  cases hs : houB s with
  | true =>
    go_enter Try.func5, Try.ntmps5
    go_wp2_with fail
    refine (sMis_yes _ _ hs).mono ?_
    rintro e w' ⟨⟨l, hr, rfl⟩, rfl⟩
    go_wp2_with fail
    refine (iMis_yes _ _ hs).mono ?_
    rintro e w1 ⟨⟨m, hr2, rfl⟩, b1⟩
    have e0 := hr.uniq (Int.le_refl _) hr2
    subst e0
    clear hr hr2
    go_wp2
    go_ret
    exact ⟨rfl, b1⟩
  | false =>
    go_enter Try.func5, Try.ntmps5
    go_wp2_with (first | (go_at_call 12; go_must ((with_reducible refine (sMis_no _ _ hs).mono ?_); rintro e w' ⟨rfl, rfl⟩)) | (go_at_call 13; go_must ((with_reducible refine (iMis_no _ _ hs).mono ?_); rintro e w1 ⟨rfl, b1⟩)))
    go_ret
    exact ⟨rfl, b1⟩
end Go.Proofs.Ytblkkjjoidbdlaa
