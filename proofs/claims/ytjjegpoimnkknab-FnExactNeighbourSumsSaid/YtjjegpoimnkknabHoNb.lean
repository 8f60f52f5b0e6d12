/-
  The law of NeighbourSums.
-/
import Derived.Test.YtjjegpoimnkknabHoSmall
namespace Go.Proofs.Ytjjegpoimnkknab
open Go.RowKit

/-- One neighbour's number, and whether it is one. -/
def nbN (n x : Int) : Int := if 1 ≤ x ∧ x ≤ n then x else 0
def nbC (n x : Int) : Int := if 1 ≤ x ∧ x ≤ n then 1 else 0
theorem nbN_bd (n x : Int) (h : n ≤ 1000000) : 0 ≤ nbN n x ∧ nbN n x ≤ 1000000 := by unfold nbN; split <;> omega
theorem nbC_bd (n x : Int) : 0 ≤ nbC n x ∧ nbC n x ≤ 1 := by unfold nbC; split <;> omega
/-- The sums behind so many looks. -/
def nsS (n h k : Int) : Int := if k = 0 then 0 else if k = 1 then nbN n (h - 1) else nbN n (h - 1) + nbN n (h + 1)
def nsM (n h k : Int) : Int := if k = 0 then 0 else if k = 1 then nbC n (h - 1) else nbC n (h - 1) + nbC n (h + 1)
def nsB (n h : Int) : Bool := hofB 1 n h && decide (2 ≤ n)
def nsAS (n h : Int) : Int := if nsB n h = true then nsS n h 2 else 0
def nsAM (n h : Int) : Int := if nsB n h = true then nsM n h 2 else 0
theorem ns_step (n h x k : Int) (hk : k = 0 ∧ x = h - 1 ∨ k = 1 ∧ x = h + 1) : nsS n h (k + 1) = nsS n h k + nbN n x ∧ nsM n h (k + 1) = nsM n h k + nbC n x := by
  rcases hk with ⟨rfl, rfl⟩ | ⟨rfl, rfl⟩ <;> simp [nsS, nsM]
theorem ns_bd (n h k : Int) (hn : n ≤ 1000000) : 0 ≤ nsS n h k ∧ nsS n h k ≤ 2000000 ∧ 0 ≤ nsM n h k ∧ nsM n h k ≤ 2 := by
  have a := nbN_bd n (h - 1) hn
  have b := nbN_bd n (h + 1) hn
  have c := nbC_bd n (h - 1)
  have d := nbC_bd n (h + 1)
  unfold nsS nsM
  split <;> (try split) <;> omega
theorem nsB_yes {n h : Int} (hb : nsB n h = true) : 1 ≤ h ∧ h ≤ n ∧ 2 ≤ n ∧ n ≤ 1000000 ∧ hofB 1 n h = true := by
  unfold nsB at hb
  simp only [Bool.and_eq_true, decide_eq_true_eq] at hb
  have := (hofB_iff 1 n h).1 hb.1
  exact ⟨by omega, by omega, by omega, by omega, hb.1⟩
theorem nb_yes {n x : Int} (h : 1 ≤ x ∧ x ≤ n) : nbN n x = x ∧ nbC n x = 1 := by unfold nbN nbC; rw [if_pos h, if_pos h]; exact ⟨rfl, rfl⟩
theorem nb_no {n x : Int} (h : ¬ (1 ≤ x ∧ x ≤ n)) : nbN n x = 0 ∧ nbC n x = 0 := by unfold nbN nbC; rw [if_neg h, if_neg h]; exact ⟨rfl, rfl⟩
set_option maxHeartbeats 1000000 in
theorem sNs_yes (n h : Int) (w : World) (hb : nsB n h = true) :
    Calls Try.prog 16 #[.int .i64 n, .int .i64 h] w fun e w' => e = .returned (.tuple #[.int .i64 (nsAS n h), .int .i64 (nsAM n h), .bool true]) ∧ Below w.heap.size w w' := by
  obtain ⟨h1, h2, hn1, hn2, hof⟩ := nsB_yes hb
  have HZ : Hid (nsS n h 2 = nsAS n h ∧ nsM n h 2 = nsAM n h) := by show _ ∧ _; unfold nsAS nsAM; rw [if_pos hb, if_pos hb]; exact ⟨rfl, rfl⟩
  have hd0 : decide (1 ≤ h ∧ h ≤ n) = true := by simp; omega
  have hm0 : houB n = true := (houB_iff n).2 (by omega)
  have hn11 : (n == 1) = false := by simp; omega
  clear hb
  go_enter Try.func16, Try.ntmps16
  go_wp2_with (first | (go_at_call 27; refine (hoMost_any _ _).mono ?_; rintro e w' ⟨rfl, rfl⟩) | (go_at_call 33; refine (in_any _ _ _ _).mono ?_; rintro e w' ⟨rfl, rfl⟩))
  go_loop [7, 8, 30] (fun s m i => ∃ k S M : Int, 0 ≤ k ∧ k ≤ 2 ∧ s = .int .i64 S ∧ m = .int .i64 M ∧ i = .int .i64 k ∧ Hid (S = nsS n h k ∧ M = nsM n h k)) (fun _ _ i => (2 - intOf i).toNat)
  case atStart => exact ⟨0, 0, 0, Int.le_refl _, by omega, rfl, rfl, rfl, ⟨rfl, rfl⟩⟩
  case round =>
    obtain ⟨k, S, M, hk0, hk2, rfl, rfl, rfl, HS⟩ := hrel
    rcases (by omega : k = 0 ∨ k = 1 ∨ k = 2) with rfl | rfl | rfl
    · have hst := ns_step n h (h - 1) 0 (by omega)
      have hbd := ns_bd n h 0 hn2
      rw [← HS.out.1, ← HS.out.2] at hst hbd
      obtain ⟨q1, q2, q3, q4⟩ := hbd
      by_cases hc : 1 ≤ h - 1 ∧ h - 1 ≤ n
      · have hd : decide (1 ≤ h - 1 ∧ h - 1 ≤ n) = true := by simp only [decide_eq_true_eq]; exact hc
        rw [(nb_yes hc).1, (nb_yes hc).2] at hst
        have HST := Lib.hid hst
        clear hst
        go_wp2_with (go_at_call 33; refine (in_any _ _ _ _).mono ?_; rintro e w' ⟨rfl, rfl⟩)
        go_round
        case rel => first | exact ⟨0 + 1, S + (h - 1), M + 1, by omega, by omega, by go_num, by go_num, by go_num, ⟨HST.out.1.symm, HST.out.2.symm⟩⟩ | (refine ⟨trivial, ?_⟩; (repeat apply Exists.intro); exact ⟨⟨0 + 1, S + (h - 1), M + 1, by omega, by omega, by go_num, by go_num, by go_num, ⟨HST.out.1.symm, HST.out.2.symm⟩⟩, rfl⟩)
        case measure => simp [intOf]
      · have hd : decide (1 ≤ h - 1 ∧ h - 1 ≤ n) = false := by simp only [decide_eq_false_iff_not]; exact hc
        rw [(nb_no hc).1, (nb_no hc).2, Int.add_zero, Int.add_zero] at hst
        have HST := Lib.hid hst
        clear hst
        go_wp2_with (go_at_call 33; refine (in_any _ _ _ _).mono ?_; rintro e w' ⟨rfl, rfl⟩)
        go_round
        case rel => first | exact ⟨0 + 1, S, M, by omega, by omega, rfl, rfl, by go_num, ⟨HST.out.1.symm, HST.out.2.symm⟩⟩ | (refine ⟨trivial, ?_⟩; (repeat apply Exists.intro); exact ⟨⟨0 + 1, S, M, by omega, by omega, rfl, rfl, by go_num, ⟨HST.out.1.symm, HST.out.2.symm⟩⟩, rfl⟩)
        case measure => simp [intOf]
    · have hst := ns_step n h (h + 1) 1 (by omega)
      have hbd := ns_bd n h 1 hn2
      rw [← HS.out.1, ← HS.out.2] at hst hbd
      obtain ⟨q1, q2, q3, q4⟩ := hbd
      by_cases hc : 1 ≤ h + 1 ∧ h + 1 ≤ n
      · have hd : decide (1 ≤ h + 1 ∧ h + 1 ≤ n) = true := by simp only [decide_eq_true_eq]; exact hc
        rw [(nb_yes hc).1, (nb_yes hc).2] at hst
        have HST := Lib.hid hst
        clear hst
        go_wp2_with (go_at_call 33; refine (in_any _ _ _ _).mono ?_; rintro e w' ⟨rfl, rfl⟩)
        go_round
        case rel => first | exact ⟨1 + 1, S + (h + 1), M + 1, by omega, by omega, by go_num, by go_num, by go_num, ⟨HST.out.1.symm, HST.out.2.symm⟩⟩ | (refine ⟨trivial, ?_⟩; (repeat apply Exists.intro); exact ⟨⟨1 + 1, S + (h + 1), M + 1, by omega, by omega, by go_num, by go_num, by go_num, ⟨HST.out.1.symm, HST.out.2.symm⟩⟩, rfl⟩)
        case measure => simp [intOf]
      · have hd : decide (1 ≤ h + 1 ∧ h + 1 ≤ n) = false := by simp only [decide_eq_false_iff_not]; exact hc
        rw [(nb_no hc).1, (nb_no hc).2, Int.add_zero, Int.add_zero] at hst
        have HST := Lib.hid hst
        clear hst
        go_wp2_with (go_at_call 33; refine (in_any _ _ _ _).mono ?_; rintro e w' ⟨rfl, rfl⟩)
        go_round
        case rel => first | exact ⟨1 + 1, S, M, by omega, by omega, rfl, rfl, by go_num, ⟨HST.out.1.symm, HST.out.2.symm⟩⟩ | (refine ⟨trivial, ?_⟩; (repeat apply Exists.intro); exact ⟨⟨1 + 1, S, M, by omega, by omega, rfl, rfl, by go_num, ⟨HST.out.1.symm, HST.out.2.symm⟩⟩, rfl⟩)
        case measure => simp [intOf]
    · go_wp2
      go_ret3
      exact ⟨ret_iib' (HS.out.1.trans HZ.out.1) (HS.out.2.trans HZ.out.2) rfl, by go_grown⟩
set_option maxHeartbeats 1000000 in
theorem iNs_yes (n h : Int) (w : World) (hb : nsB n h = true) :
    Calls Try.prog 17 #[.int .i64 n, .int .i64 h] w fun e w' => e = .returned (.tuple #[.int .i64 (nsAS n h), .int .i64 (nsAM n h), .bool true]) ∧ Below w.heap.size w w' := by
  obtain ⟨h1, h2, hn1, hn2, hof⟩ := nsB_yes hb
  have HZ : Hid (nsS n h 2 = nsAS n h ∧ nsM n h 2 = nsAM n h) := by show _ ∧ _; unfold nsAS nsAM; rw [if_pos hb, if_pos hb]; exact ⟨rfl, rfl⟩
  have i0 : ∀ w, (Instr.index 36 (.agg #[.int .i64 (h - 1), .int .i64 (h + 1)]) (.int .i64 0)).run Try.prog w = .ok (.int .i64 (h - 1)) w := fun _ => by kernel_rfl
  have i1 : ∀ w, (Instr.index 36 (.agg #[.int .i64 (h - 1), .int .i64 (h + 1)]) (.int .i64 1)).run Try.prog w = .ok (.int .i64 (h + 1)) w := fun _ => by kernel_rfl
  have hn11 : (n == 1) = false := by simp; omega
  clear hb
  go_enter Try.func17, Try.ntmps17
  go_wp2_with (go_at_call 34; refine (isHouseOf_any _ _ _ _).mono ?_; rintro e w' ⟨rfl, rfl⟩)
  go_loop [7, 8, 24] (fun s m i => ∃ k S M : Int, 0 ≤ k ∧ k ≤ 2 ∧ s = .int .i64 S ∧ m = .int .i64 M ∧ i = .int .i64 k ∧ Hid (S = nsS n h k ∧ M = nsM n h k)) (fun _ _ i => (2 - intOf i).toNat)
  case atStart => exact ⟨0, 0, 0, Int.le_refl _, by omega, rfl, rfl, rfl, ⟨rfl, rfl⟩⟩
  case round =>
    obtain ⟨k, S, M, hk0, hk2, rfl, rfl, rfl, HS⟩ := hrel
    rcases (by omega : k = 0 ∨ k = 1 ∨ k = 2) with rfl | rfl | rfl
    · have hst := ns_step n h (h - 1) 0 (by omega)
      have hbd := ns_bd n h 0 hn2
      rw [← HS.out.1, ← HS.out.2] at hst hbd
      obtain ⟨q1, q2, q3, q4⟩ := hbd
      by_cases hc : 1 ≤ h - 1 ∧ h - 1 ≤ n
      · have hd : hofB 1 n (h - 1) = true := (hofB_iff _ _ _).2 (by omega)
        rw [(nb_yes hc).1, (nb_yes hc).2] at hst
        have HST := Lib.hid hst
        clear hst
        go_wp2_with (go_at_call 34; refine (isHouseOf_any _ _ _ _).mono ?_; rintro e w' ⟨rfl, rfl⟩)
        go_round
        case rel => first | exact ⟨0 + 1, S + (h - 1), M + 1, by omega, by omega, by go_num, by go_num, by go_num, ⟨HST.out.1.symm, HST.out.2.symm⟩⟩ | (refine ⟨trivial, ?_⟩; (repeat apply Exists.intro); exact ⟨⟨0 + 1, S + (h - 1), M + 1, by omega, by omega, by go_num, by go_num, by go_num, ⟨HST.out.1.symm, HST.out.2.symm⟩⟩, rfl⟩)
        case measure => simp [intOf]
      · have hd : hofB 1 n (h - 1) = false := by
          cases e : hofB 1 n (h - 1) with
          | false => rfl
          | true => exact absurd (by have := (hofB_iff _ _ _).1 e; omega) hc
        rw [(nb_no hc).1, (nb_no hc).2, Int.add_zero, Int.add_zero] at hst
        have HST := Lib.hid hst
        clear hst
        go_wp2_with (go_at_call 34; refine (isHouseOf_any _ _ _ _).mono ?_; rintro e w' ⟨rfl, rfl⟩)
        go_round
        case rel => first | exact ⟨0 + 1, S, M, by omega, by omega, rfl, rfl, by go_num, ⟨HST.out.1.symm, HST.out.2.symm⟩⟩ | (refine ⟨trivial, ?_⟩; (repeat apply Exists.intro); exact ⟨⟨0 + 1, S, M, by omega, by omega, rfl, rfl, by go_num, ⟨HST.out.1.symm, HST.out.2.symm⟩⟩, rfl⟩)
        case measure => simp [intOf]
    · have hst := ns_step n h (h + 1) 1 (by omega)
      have hbd := ns_bd n h 1 hn2
      rw [← HS.out.1, ← HS.out.2] at hst hbd
      obtain ⟨q1, q2, q3, q4⟩ := hbd
      by_cases hc : 1 ≤ h + 1 ∧ h + 1 ≤ n
      · have hd : hofB 1 n (h + 1) = true := (hofB_iff _ _ _).2 (by omega)
        rw [(nb_yes hc).1, (nb_yes hc).2] at hst
        have HST := Lib.hid hst
        clear hst
        go_wp2_with (go_at_call 34; refine (isHouseOf_any _ _ _ _).mono ?_; rintro e w' ⟨rfl, rfl⟩)
        go_round
        case rel => first | exact ⟨1 + 1, S + (h + 1), M + 1, by omega, by omega, by go_num, by go_num, by go_num, ⟨HST.out.1.symm, HST.out.2.symm⟩⟩ | (refine ⟨trivial, ?_⟩; (repeat apply Exists.intro); exact ⟨⟨1 + 1, S + (h + 1), M + 1, by omega, by omega, by go_num, by go_num, by go_num, ⟨HST.out.1.symm, HST.out.2.symm⟩⟩, rfl⟩)
        case measure => simp [intOf]
      · have hd : hofB 1 n (h + 1) = false := by
          cases e : hofB 1 n (h + 1) with
          | false => rfl
          | true => exact absurd (by have := (hofB_iff _ _ _).1 e; omega) hc
        rw [(nb_no hc).1, (nb_no hc).2, Int.add_zero, Int.add_zero] at hst
        have HST := Lib.hid hst
        clear hst
        go_wp2_with (go_at_call 34; refine (isHouseOf_any _ _ _ _).mono ?_; rintro e w' ⟨rfl, rfl⟩)
        go_round
        case rel => first | exact ⟨1 + 1, S, M, by omega, by omega, rfl, rfl, by go_num, ⟨HST.out.1.symm, HST.out.2.symm⟩⟩ | (refine ⟨trivial, ?_⟩; (repeat apply Exists.intro); exact ⟨⟨1 + 1, S, M, by omega, by omega, rfl, rfl, by go_num, ⟨HST.out.1.symm, HST.out.2.symm⟩⟩, rfl⟩)
        case measure => simp [intOf]
    · go_wp2
      go_ret3
      exact ⟨ret_iib' (HS.out.1.trans HZ.out.1) (HS.out.2.trans HZ.out.2) rfl, Below.refl _ _⟩

theorem sNs_no (n h : Int) (w : World) (hb : nsB n h = false) :
    Calls Try.prog 16 #[.int .i64 n, .int .i64 h] w fun e w' => e = .returned (.tuple #[.int .i64 0, .int .i64 0, .bool false]) ∧ Below w.heap.size w w' := by
  cases hm : houB n with
  | false =>
    go_enter Try.func16, Try.ntmps16
    go_wp2_with (first | (go_at_call 27; refine (hoMost_any _ _).mono ?_; rintro e w' ⟨rfl, rfl⟩) | (go_at_call 33; refine (in_any _ _ _ _).mono ?_; rintro e w' ⟨rfl, rfl⟩))
    go_ret3
    exact ⟨rfl, Below.refl _ _⟩
  | true =>
    obtain ⟨k1, k2⟩ := (houB_iff n).1 hm
    by_cases h1 : n = 1
    · have hq : (n == 1) = true := by simpa using h1
      go_enter Try.func16, Try.ntmps16
      go_wp2_with (first | (go_at_call 27; refine (hoMost_any _ _).mono ?_; rintro e w' ⟨rfl, rfl⟩) | (go_at_call 33; refine (in_any _ _ _ _).mono ?_; rintro e w' ⟨rfl, rfl⟩))
      go_ret3
      exact ⟨rfl, Below.refl _ _⟩
    · have hd : decide (1 ≤ h ∧ h ≤ n) = false := by
        rw [decide_eq_false_iff_not]; intro k
        have e1 : hofB 1 n h = true := (hofB_iff 1 n h).2 (by omega)
        have e2 : nsB n h = true := by unfold nsB; rw [e1]; simp; omega
        rw [hb] at e2; cases e2
      go_enter Try.func16, Try.ntmps16
      go_wp2_with (first | (go_at_call 27; refine (hoMost_any _ _).mono ?_; rintro e w' ⟨rfl, rfl⟩) | (go_at_call 33; refine (in_any _ _ _ _).mono ?_; rintro e w' ⟨rfl, rfl⟩))
      go_ret3
      exact ⟨rfl, Below.refl _ _⟩
theorem iNs_no (n h : Int) (w : World) (hb : nsB n h = false) :
    Calls Try.prog 17 #[.int .i64 n, .int .i64 h] w fun e w' => e = .returned (.tuple #[.int .i64 0, .int .i64 0, .bool false]) ∧ Below w.heap.size w w' := by
  cases hm : hofB 1 n h with
  | false =>
    go_enter Try.func17, Try.ntmps17
    go_wp2_with (go_at_call 34; refine (isHouseOf_any _ _ _ _).mono ?_; rintro e w' ⟨rfl, rfl⟩)
    go_ret3
    exact ⟨rfl, Below.refl _ _⟩
  | true =>
    have h2 : n < 2 := by
      unfold nsB at hb
      rw [hm] at hb
      simp at hb
      omega
    go_enter Try.func17, Try.ntmps17
    go_wp2_with (go_at_call 34; refine (isHouseOf_any _ _ _ _).mono ?_; rintro e w' ⟨rfl, rfl⟩)
    go_ret3
    exact ⟨rfl, Below.refl _ _⟩
theorem FnExactNeighbourSums_law (n h : Int) (_h0 : (Lit.int .i64 n).wf = true) (_h1 : (Lit.int .i64 h).wf = true) (w : World) :
    Calls Try.prog 6 #[.int .i64 n, .int .i64 h] w fun e w' => e = .returned (.bool true) ∧ Below w.heap.size w w' := by
  cases hb : nsB n h with
  | true =>
    go_enter Try.func6, Try.ntmps6
    go_wp2_with (first | (go_at_call 16; go_must ((with_reducible refine (sNs_yes _ _ _ hb).mono ?_); rintro e w0 ⟨rfl, b0⟩)) | (go_at_call 17; go_must ((with_reducible refine (iNs_yes _ _ _ hb).mono ?_); rintro e w1 ⟨rfl, b1⟩)))
    go_ret
    exact ⟨rfl, chain b0 b1⟩
  | false =>
    go_enter Try.func6, Try.ntmps6
    go_wp2_with (first | (go_at_call 16; go_must ((with_reducible refine (sNs_no _ _ _ hb).mono ?_); rintro e w0 ⟨rfl, b0⟩)) | (go_at_call 17; go_must ((with_reducible refine (iNs_no _ _ _ hb).mono ?_); rintro e w1 ⟨rfl, b1⟩)))
    go_ret
    exact ⟨rfl, chain b0 b1⟩
end Go.Proofs.Ytjjegpoimnkknab
