/-
  The laws of SumLeft and SumRight.
-/
import Derived.Test.YtjjegpoimnkknaaHoSum
namespace Go.Proofs.Ytjjegpoimnkknaa
open Go.RowKit

/-- What SumLeft answers. -/
def lfA (a b h : Int) : Int := if hofB a b h = true then sm a (h - 1) else 0
theorem sLeft_any (a b h : Int) (w : World) :
    Calls Try.prog 24 #[.int .i64 a, .int .i64 b, .int .i64 h] w fun e w' => e = .returned (.tuple #[.int .i64 (lfA a b h), .bool (hofB a b h)]) ∧ w = w' := by
  cases hs : hofB a b h with
  | true =>
    obtain ⟨k1, k2, k3, k4, k5⟩ := (hofB_iff a b h).1 hs
    have HZ : Hid (sm a (h - 1) = lfA a b h) := by show _ = _; rw [lfA, if_pos hs]
    go_enter Try.func24, Try.ntmps24
    go_wp2_with (first | (go_at_call 55; refine (hoHouse_any _ _ _ _).mono ?_; rintro e w' ⟨rfl, rfl⟩) | (go_at_call 56; refine (hoSum_any _ _ _ (by omega) (by omega) (by omega) (by omega)).mono ?_; rintro e w' ⟨rfl, rfl⟩))
    go_ret2
    exact ⟨ret_ib HZ.out rfl, rfl⟩
  | false =>
    have HZ : Hid (0 = lfA a b h) := by show _ = _; rw [lfA, if_neg (by rw [hs]; simp)]
    go_enter Try.func24, Try.ntmps24
    go_wp2_with (first | (go_at_call 55; refine (hoHouse_any _ _ _ _).mono ?_; rintro e w' ⟨rfl, rfl⟩))
    go_ret2
    exact ⟨ret_ib HZ.out rfl, rfl⟩
theorem iLeft_any (a b h : Int) (w : World) :
    Calls Try.prog 25 #[.int .i64 a, .int .i64 b, .int .i64 h] w fun e w' => e = .returned (.tuple #[.int .i64 (lfA a b h), .bool (hofB a b h)]) ∧ Below w.heap.size w w' := by
  cases hs : hofB a b h with
  | true =>
    obtain ⟨k1, k2, k3, k4, k5⟩ := (hofB_iff a b h).1 hs
    have HZ : Hid (sm a (h - 1) = lfA a b h) := by show _ = _; rw [lfA, if_pos hs]
    go_enter Try.func25, Try.ntmps25
    go_wp2_with (first | (go_at_call 57; refine (isHouseOf_any _ _ _ _).mono ?_; rintro e w' ⟨rfl, rfl⟩) | (go_at_call 46; refine (sumOf_any _ _ _ (by omega) (by omega) (by omega) (by omega)).mono ?_; rintro e w1 ⟨rfl, b1⟩))
    go_ret2
    exact ⟨ret_ib HZ.out rfl, b1⟩
  | false =>
    have HZ : Hid (0 = lfA a b h) := by show _ = _; rw [lfA, if_neg (by rw [hs]; simp)]
    go_enter Try.func25, Try.ntmps25
    go_wp2_with (first | (go_at_call 57; refine (isHouseOf_any _ _ _ _).mono ?_; rintro e w' ⟨rfl, rfl⟩))
    go_ret2
    exact ⟨ret_ib HZ.out rfl, Below.refl _ _⟩
theorem FnExactSumLeft_law (a b h : Int) (_h0 : (Lit.int .i64 a).wf = true) (_h1 : (Lit.int .i64 b).wf = true) (_h2 : (Lit.int .i64 h).wf = true) (w : World) :
    Calls Try.prog 6 #[.int .i64 a, .int .i64 b, .int .i64 h] w fun e w' => e = .returned (.bool true) ∧ Below w.heap.size w w' := by
  go_enter Try.func6, Try.ntmps6
  go_wp2_with (first | (go_at_call 24; go_must ((with_reducible refine (sLeft_any _ _ _ _).mono ?_); rintro e w' ⟨rfl, rfl⟩)) | (go_at_call 25; go_must ((with_reducible refine (iLeft_any _ _ _ _).mono ?_); rintro e w1 ⟨rfl, b1⟩)))
  go_ret
  exact ⟨rfl, b1⟩

/-- What SumRight answers. -/
def rtA (a b h : Int) : Int := if hofB a b h = true then sm (h + 1) b else 0
theorem sRight_any (a b h : Int) (w : World) :
    Calls Try.prog 26 #[.int .i64 a, .int .i64 b, .int .i64 h] w fun e w' => e = .returned (.tuple #[.int .i64 (rtA a b h), .bool (hofB a b h)]) ∧ w = w' := by
  cases hs : hofB a b h with
  | true =>
    obtain ⟨k1, k2, k3, k4, k5⟩ := (hofB_iff a b h).1 hs
    have HZ : Hid (sm (h + 1) b = rtA a b h) := by show _ = _; rw [rtA, if_pos hs]
    go_enter Try.func26, Try.ntmps26
    go_wp2_with (first | (go_at_call 55; refine (hoHouse_any _ _ _ _).mono ?_; rintro e w' ⟨rfl, rfl⟩) | (go_at_call 56; refine (hoSum_any _ _ _ (by omega) (by omega) (by omega) (by omega)).mono ?_; rintro e w' ⟨rfl, rfl⟩))
    go_ret2
    exact ⟨ret_ib HZ.out rfl, rfl⟩
  | false =>
    have HZ : Hid (0 = rtA a b h) := by show _ = _; rw [rtA, if_neg (by rw [hs]; simp)]
    go_enter Try.func26, Try.ntmps26
    go_wp2_with (first | (go_at_call 55; refine (hoHouse_any _ _ _ _).mono ?_; rintro e w' ⟨rfl, rfl⟩))
    go_ret2
    exact ⟨ret_ib HZ.out rfl, rfl⟩
theorem iRight_any (a b h : Int) (w : World) :
    Calls Try.prog 27 #[.int .i64 a, .int .i64 b, .int .i64 h] w fun e w' => e = .returned (.tuple #[.int .i64 (rtA a b h), .bool (hofB a b h)]) ∧ Below w.heap.size w w' := by
  cases hs : hofB a b h with
  | true =>
    obtain ⟨k1, k2, k3, k4, k5⟩ := (hofB_iff a b h).1 hs
    have HZ : Hid (sm (h + 1) b = rtA a b h) := by show _ = _; rw [rtA, if_pos hs]
    go_enter Try.func27, Try.ntmps27
    go_wp2_with (first | (go_at_call 57; refine (isHouseOf_any _ _ _ _).mono ?_; rintro e w' ⟨rfl, rfl⟩) | (go_at_call 46; refine (sumOf_any _ _ _ (by omega) (by omega) (by omega) (by omega)).mono ?_; rintro e w1 ⟨rfl, b1⟩))
    go_ret2
    exact ⟨ret_ib HZ.out rfl, b1⟩
  | false =>
    have HZ : Hid (0 = rtA a b h) := by show _ = _; rw [rtA, if_neg (by rw [hs]; simp)]
    go_enter Try.func27, Try.ntmps27
    go_wp2_with (first | (go_at_call 57; refine (isHouseOf_any _ _ _ _).mono ?_; rintro e w' ⟨rfl, rfl⟩))
    go_ret2
    exact ⟨ret_ib HZ.out rfl, Below.refl _ _⟩
theorem FnExactSumRight_law (a b h : Int) (_h0 : (Lit.int .i64 a).wf = true) (_h1 : (Lit.int .i64 b).wf = true) (_h2 : (Lit.int .i64 h).wf = true) (w : World) :
    Calls Try.prog 7 #[.int .i64 a, .int .i64 b, .int .i64 h] w fun e w' => e = .returned (.bool true) ∧ Below w.heap.size w w' := by
  go_enter Try.func7, Try.ntmps7
  go_wp2_with (first | (go_at_call 26; go_must ((with_reducible refine (sRight_any _ _ _ _).mono ?_); rintro e w' ⟨rfl, rfl⟩)) | (go_at_call 27; go_must ((with_reducible refine (iRight_any _ _ _ _).mono ?_); rintro e w1 ⟨rfl, b1⟩)))
  go_ret
  exact ⟨rfl, b1⟩
end Go.Proofs.Ytjjegpoimnkknaa
