/-
  The laws of OppositeOdd, OppositeAround and MiddleHouse.
-/
import Derived.Test.YtjjegpoimnkknabHoSt
namespace Go.Proofs.Ytjjegpoimnkknab
open Go.RowKit

/-- The opposite house, and whether there is one. -/
def ooA (h : Int) : Int := if houB h = true then (if h % 2 = 0 then h - 1 else h + 1) else 0
theorem sOo_any (h : Int) (w : World) :
    Calls Try.prog 12 #[.int .i64 h] w fun e w' => e = .returned (.tuple #[.int .i64 (ooA h), .bool (houB h)]) ∧ w = w' := by
  cases hs : houB h with
  | true =>
    obtain ⟨k1, k2⟩ := (houB_iff h).1 hs
    by_cases hm : h % 2 = 0
    · have HZ : Hid (h - 1 = ooA h) := by show _ = _; rw [ooA, if_pos hs, if_pos hm]
      go_enter Try.func12, Try.ntmps12
      go_wp2_with (first | (go_at_call 27; refine (hoMost_any _ _).mono ?_; rintro e w' ⟨rfl, rfl⟩))
      go_ret2
      exact ⟨ret_ib HZ.out rfl, rfl⟩
    · have HZ : Hid (h + 1 = ooA h) := by show _ = _; rw [ooA, if_pos hs, if_neg hm]
      have hm1 : h % 2 = 1 := by omega
      have hne : ¬ h = 1000000 := by omega
      clear hm
      go_enter Try.func12, Try.ntmps12
      go_wp2_with (first | (go_at_call 27; refine (hoMost_any _ _).mono ?_; rintro e w' ⟨rfl, rfl⟩))
      go_ret2
      exact ⟨ret_ib HZ.out rfl, rfl⟩
  | false =>
    have HZ : Hid (0 = ooA h) := by show _ = _; rw [ooA, if_neg (by rw [hs]; simp)]
    go_enter Try.func12, Try.ntmps12
    go_wp2_with (first | (go_at_call 27; refine (hoMost_any _ _).mono ?_; rintro e w' ⟨rfl, rfl⟩))
    go_ret2
    exact ⟨ret_ib HZ.out rfl, rfl⟩
theorem iOo_any (h : Int) (w : World) :
    Calls Try.prog 13 #[.int .i64 h] w fun e w' => e = .returned (.tuple #[.int .i64 (ooA h), .bool (houB h)]) ∧ w = w' := by
  cases hs : houB h with
  | true =>
    obtain ⟨k1, k2⟩ := (houB_iff h).1 hs
    by_cases hm : h % 2 = 0
    · have HZ : Hid (h - 1 = ooA h) := by show _ = _; rw [ooA, if_pos hs, if_pos hm]
      have hb : houB (h - 1) = true := (houB_iff _).2 (by omega)
      go_enter Try.func13, Try.ntmps13
      go_wp2_with (first | (go_at_call 30; refine (isHouse_any _ _).mono ?_; rintro e w' ⟨rfl, rfl⟩))
      go_ret2
      exact ⟨ret_ib HZ.out rfl, rfl⟩
    · have HZ : Hid (h + 1 = ooA h) := by show _ = _; rw [ooA, if_pos hs, if_neg hm]
      have hb : houB (h + 1) = true := (houB_iff _).2 (by omega)
      have hm1 : h % 2 = 1 := by omega
      clear hm
      go_enter Try.func13, Try.ntmps13
      go_wp2_with (first | (go_at_call 30; refine (isHouse_any _ _).mono ?_; rintro e w' ⟨rfl, rfl⟩))
      go_ret2
      exact ⟨ret_ib HZ.out rfl, rfl⟩
  | false =>
    have HZ : Hid (0 = ooA h) := by show _ = _; rw [ooA, if_neg (by rw [hs]; simp)]
    go_enter Try.func13, Try.ntmps13
    go_wp2_with (first | (go_at_call 30; refine (isHouse_any _ _).mono ?_; rintro e w' ⟨rfl, rfl⟩))
    all_goals go_ret2
    all_goals exact ⟨ret_ib HZ.out rfl, rfl⟩
theorem FnExactOppositeOdd_law (h : Int) (_h0 : (Lit.int .i64 h).wf = true) (w : World) :
    Calls Try.prog 4 #[.int .i64 h] w fun e w' => e = .returned (.bool true) ∧ Below w.heap.size w w' := by
  go_enter Try.func4, Try.ntmps4
  go_wp2_with (first | (go_at_call 12; go_must ((with_reducible refine (sOo_any _ _).mono ?_); rintro e w' ⟨rfl, rfl⟩)) | (go_at_call 13; go_must ((with_reducible refine (iOo_any _ _).mono ?_); rintro e w1 ⟨rfl, rfl⟩)))
  go_ret
  exact ⟨rfl, Below.refl _ _⟩

theorem ret_iib' {a b c d : Int} {p q : Bool} (h : a = b) (k : c = d) (g : p = q) : Ending.returned (.tuple #[.int .i64 a, .int .i64 c, .bool p]) = .returned (.tuple #[.int .i64 b, .int .i64 d, .bool q]) := by rw [h, k, g]
/-- The mean number. -/
def midN (a b : Int) : Int := if stB a b = true then (if (a + b) % 2 = 0 then (a + b) / 2 else a + b) else 0
def midD (a b : Int) : Int := if stB a b = true then (if (a + b) % 2 = 0 then 1 else 2) else 0
theorem sMid_any (a b : Int) (w : World) :
    Calls Try.prog 25 #[.int .i64 a, .int .i64 b] w fun e w' => e = .returned (.tuple #[.int .i64 (midN a b), .int .i64 (midD a b), .bool (stB a b)]) ∧ w = w' := by
  cases hs : stB a b with
  | true =>
    obtain ⟨k1, k2, k3⟩ := (stB_iff a b).1 hs
    by_cases hm : (a + b) % 2 = 0
    · have HN : Hid ((a + b) / 2 = midN a b) := by show _ = _; rw [midN, if_pos hs, if_pos hm]
      have HD : Hid (1 = midD a b) := by show _ = _; rw [midD, if_pos hs, if_pos hm]
      go_enter Try.func25, Try.ntmps25
      go_wp2_with (first | (go_at_call 35; refine (hoStreet_any _ _ _).mono ?_; rintro e w' ⟨rfl, rfl⟩))
      go_ret3
      exact ⟨ret_iib' HN.out HD.out rfl, rfl⟩
    · have HN : Hid (a + b = midN a b) := by show _ = _; rw [midN, if_pos hs, if_neg hm]
      have HD : Hid (2 = midD a b) := by show _ = _; rw [midD, if_pos hs, if_neg hm]
      have hm1 : (a + b) % 2 = 1 := by omega
      clear hm
      go_enter Try.func25, Try.ntmps25
      go_wp2_with (first | (go_at_call 35; refine (hoStreet_any _ _ _).mono ?_; rintro e w' ⟨rfl, rfl⟩))
      go_ret3
      exact ⟨ret_iib' HN.out HD.out rfl, rfl⟩
  | false =>
    have HN : Hid (0 = midN a b) := by show _ = _; rw [midN, if_neg (by rw [hs]; simp)]
    have HD : Hid (0 = midD a b) := by show _ = _; rw [midD, if_neg (by rw [hs]; simp)]
    go_enter Try.func25, Try.ntmps25
    go_wp2_with (first | (go_at_call 35; refine (hoStreet_any _ _ _).mono ?_; rintro e w' ⟨rfl, rfl⟩))
    go_ret3
    exact ⟨ret_iib' HN.out HD.out rfl, rfl⟩
theorem iMid_any (a b : Int) (w : World) :
    Calls Try.prog 26 #[.int .i64 a, .int .i64 b] w fun e w' => e = .returned (.tuple #[.int .i64 (midN a b), .int .i64 (midD a b), .bool (stB a b)]) ∧ w = w' := by
  cases hs : stB a b with
  | true =>
    obtain ⟨k1, k2, k3⟩ := (stB_iff a b).1 hs
    by_cases hm : (a + b) % 2 = 0
    · have HN : Hid ((a + b) / 2 = midN a b) := by show _ = _; rw [midN, if_pos hs, if_pos hm]
      have HD : Hid (1 = midD a b) := by show _ = _; rw [midD, if_pos hs, if_pos hm]
      go_enter Try.func26, Try.ntmps26
      go_wp2_with (first | (go_at_call 37; refine (isStreet_any _ _ _).mono ?_; rintro e w' ⟨rfl, rfl⟩))
      go_ret3
      exact ⟨ret_iib' HN.out HD.out rfl, rfl⟩
    · have HN : Hid (a + b = midN a b) := by show _ = _; rw [midN, if_pos hs, if_neg hm]
      have HD : Hid (2 = midD a b) := by show _ = _; rw [midD, if_pos hs, if_neg hm]
      have hm1 : (a + b) % 2 = 1 := by omega
      clear hm
      go_enter Try.func26, Try.ntmps26
      go_wp2_with (first | (go_at_call 37; refine (isStreet_any _ _ _).mono ?_; rintro e w' ⟨rfl, rfl⟩))
      go_ret3
      exact ⟨ret_iib' HN.out HD.out rfl, rfl⟩
  | false =>
    have HN : Hid (0 = midN a b) := by show _ = _; rw [midN, if_neg (by rw [hs]; simp)]
    have HD : Hid (0 = midD a b) := by show _ = _; rw [midD, if_neg (by rw [hs]; simp)]
    go_enter Try.func26, Try.ntmps26
    go_wp2_with (first | (go_at_call 37; refine (isStreet_any _ _ _).mono ?_; rintro e w' ⟨rfl, rfl⟩))
    go_ret3
    exact ⟨ret_iib' HN.out HD.out rfl, rfl⟩
theorem FnExactMiddleHouse_law (a b : Int) (_h0 : (Lit.int .i64 a).wf = true) (_h1 : (Lit.int .i64 b).wf = true) (w : World) :
    Calls Try.prog 9 #[.int .i64 a, .int .i64 b] w fun e w' => e = .returned (.bool true) ∧ Below w.heap.size w w' := by
  go_enter Try.func9, Try.ntmps9
  go_wp2_with (first | (go_at_call 25; go_must ((with_reducible refine (sMid_any _ _ _).mono ?_); rintro e w' ⟨rfl, rfl⟩)) | (go_at_call 26; go_must ((with_reducible refine (iMid_any _ _ _).mono ?_); rintro e w1 ⟨rfl, rfl⟩)))
  go_ret
  exact ⟨rfl, Below.refl _ _⟩

/-- Whether there is an opposite house around. -/
def oaB (n h : Int) : Bool := hofB 1 n h && decide (n % 2 = 0)
def oaA (n h : Int) : Int := if oaB n h = true then n + 1 - h else 0
theorem sOa_any (n h : Int) (w : World) :
    Calls Try.prog 14 #[.int .i64 n, .int .i64 h] w fun e w' => e = .returned (.tuple #[.int .i64 (oaA n h), .bool (oaB n h)]) ∧ w = w' := by
  cases hs : houB n with
  | true =>
    obtain ⟨k1, k2⟩ := (houB_iff n).1 hs
    by_cases hm : n % 2 = 0
    · cases hh : hofB 1 n h with
      | true =>
        obtain ⟨_, _, _, k3, k4⟩ := (hofB_iff 1 n h).1 hh
        have hb : oaB n h = true := by simp [oaB, hh, hm]
        have HZ : Hid (n + 1 - h = oaA n h) := by show _ = _; rw [oaA, if_pos hb]
        have hd : decide (1 ≤ h ∧ h ≤ n) = true := by simp; omega
        go_enter Try.func14, Try.ntmps14
        go_wp2_with (first | (go_at_call 27; refine (hoMost_any _ _).mono ?_; rintro e w' ⟨rfl, rfl⟩) | (go_at_call 33; refine (in_any _ _ _ _).mono ?_; rintro e w' ⟨rfl, rfl⟩))
        go_ret2
        exact ⟨ret_ib HZ.out hb.symm, rfl⟩
      | false =>
        have hb : oaB n h = false := by simp [oaB, hh]
        have HZ : Hid (0 = oaA n h) := by show _ = _; rw [oaA, if_neg (by rw [hb]; simp)]
        have hd : decide (1 ≤ h ∧ h ≤ n) = false := by
          rw [decide_eq_false_iff_not]; intro k
          have : hofB 1 n h = true := (hofB_iff 1 n h).2 (by omega)
          rw [hh] at this; cases this
        go_enter Try.func14, Try.ntmps14
        go_wp2_with (first | (go_at_call 27; refine (hoMost_any _ _).mono ?_; rintro e w' ⟨rfl, rfl⟩) | (go_at_call 33; refine (in_any _ _ _ _).mono ?_; rintro e w' ⟨rfl, rfl⟩))
        go_ret2
        exact ⟨ret_ib HZ.out hb.symm, rfl⟩
    · have hb : oaB n h = false := by simp [oaB, hm]
      have HZ : Hid (0 = oaA n h) := by show _ = _; rw [oaA, if_neg (by rw [hb]; simp)]
      have hm1 : n % 2 = 1 := by omega
      clear hm
      go_enter Try.func14, Try.ntmps14
      go_wp2_with (first | (go_at_call 27; refine (hoMost_any _ _).mono ?_; rintro e w' ⟨rfl, rfl⟩) | (go_at_call 33; refine (in_any _ _ _ _).mono ?_; rintro e w' ⟨rfl, rfl⟩))
      go_ret2
      exact ⟨ret_ib HZ.out hb.symm, rfl⟩
  | false =>
    have hb : oaB n h = false := by
      cases hh : hofB 1 n h with
      | false => simp [oaB, hh]
      | true =>
        have := (hofB_iff 1 n h).1 hh
        have : houB n = true := (houB_iff n).2 (by omega)
        rw [hs] at this; cases this
    have HZ : Hid (0 = oaA n h) := by show _ = _; rw [oaA, if_neg (by rw [hb]; simp)]
    go_enter Try.func14, Try.ntmps14
    go_wp2_with (first | (go_at_call 27; refine (hoMost_any _ _).mono ?_; rintro e w' ⟨rfl, rfl⟩) | (go_at_call 33; refine (in_any _ _ _ _).mono ?_; rintro e w' ⟨rfl, rfl⟩))
    go_ret2
    exact ⟨ret_ib HZ.out hb.symm, rfl⟩
theorem iOa_any (n h : Int) (w : World) :
    Calls Try.prog 15 #[.int .i64 n, .int .i64 h] w fun e w' => e = .returned (.tuple #[.int .i64 (oaA n h), .bool (oaB n h)]) ∧ w = w' := by
  cases hh : hofB 1 n h with
  | true =>
    obtain ⟨k1, k2, k3, k4, k5⟩ := (hofB_iff 1 n h).1 hh
    by_cases hm : n % 2 = 0
    · have hb : oaB n h = true := by simp [oaB, hh, hm]
      have HZ : Hid (n + 1 - h = oaA n h) := by show _ = _; rw [oaA, if_pos hb]
      go_enter Try.func15, Try.ntmps15
      go_wp2_with (first | (go_at_call 34; refine (isHouseOf_any _ _ _ _).mono ?_; rintro e w' ⟨rfl, rfl⟩))
      go_ret2
      exact ⟨ret_ib HZ.out hb.symm, rfl⟩
    · have hb : oaB n h = false := by simp [oaB, hm]
      have HZ : Hid (0 = oaA n h) := by show _ = _; rw [oaA, if_neg (by rw [hb]; simp)]
      have hm1 : n % 2 = 1 := by omega
      clear hm
      go_enter Try.func15, Try.ntmps15
      go_wp2_with (first | (go_at_call 34; refine (isHouseOf_any _ _ _ _).mono ?_; rintro e w' ⟨rfl, rfl⟩))
      go_ret2
      exact ⟨ret_ib HZ.out hb.symm, rfl⟩
  | false =>
    have hb : oaB n h = false := by simp [oaB, hh]
    have HZ : Hid (0 = oaA n h) := by show _ = _; rw [oaA, if_neg (by rw [hb]; simp)]
    go_enter Try.func15, Try.ntmps15
    go_wp2_with (first | (go_at_call 34; refine (isHouseOf_any _ _ _ _).mono ?_; rintro e w' ⟨rfl, rfl⟩))
    go_ret2
    exact ⟨ret_ib HZ.out hb.symm, rfl⟩
theorem FnExactOppositeAround_law (n h : Int) (_h0 : (Lit.int .i64 n).wf = true) (_h1 : (Lit.int .i64 h).wf = true) (w : World) :
    Calls Try.prog 5 #[.int .i64 n, .int .i64 h] w fun e w' => e = .returned (.bool true) ∧ Below w.heap.size w w' := by
  go_enter Try.func5, Try.ntmps5
  go_wp2_with (first | (go_at_call 14; go_must ((with_reducible refine (sOa_any _ _ _).mono ?_); rintro e w' ⟨rfl, rfl⟩)) | (go_at_call 15; go_must ((with_reducible refine (iOa_any _ _ _).mono ?_); rintro e w1 ⟨rfl, rfl⟩)))
  go_ret
  exact ⟨rfl, Below.refl _ _⟩
end Go.Proofs.Ytjjegpoimnkknab
