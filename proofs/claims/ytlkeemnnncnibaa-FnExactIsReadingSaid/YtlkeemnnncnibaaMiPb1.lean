/-
  Readings: the laws of IsReading, MilesTo, MirroredOfRank and RankOfMirrored.
-/
import Derived.Test.YtlkeemnnncnibaaMiIm9
import Derived.Test.YtlkeemnnncnibaaMiSp1
namespace Go.Proofs.Ytlkeemnnncnibaa
open Go.RowKit

theorem sIsReading_any (s : ByteArray) (w : World) (hs : s.size ≤ maxLen) :
    Calls Try.prog 13 #[.string s] w fun e w' => e = .returned (.bool (rdB s)) ∧ Below w.heap.size w w' := by
  go_enter Try.func13, Try.ntmps13
  go_wp2_with (go_at_call 33; refine (miGood_any s _ hs).mono ?_; rintro e w' ⟨rfl, rfl⟩)
  go_ret
  exact ⟨rfl, Below.refl _ _⟩
theorem below_of_eq {w w' : World} (h : w = w') : Below w.heap.size w w' := by subst h; exact Below.refl _ _
set_option maxHeartbeats 1000000 in
theorem FnExactIsReading_law (z0 : ByteArray) (hz0 : z0.size ≤ maxLen) (w : World) :
    Calls Try.prog 3 #[.string z0] w fun e w' => e = .returned (.bool true) ∧ Below w.heap.size w w' := by
  have hz0' := hz0
  unfold maxLen at hz0'
  have hs1 : ∀ W, Calls Try.prog 13 #[.string z0] W fun e w' => e = .returned (.bool (rdB z0)) ∧ Below W.heap.size W w' := fun W => sIsReading_any z0 W hz0
  have hi1 : ∀ W, Calls Try.prog 14 #[.string z0] W fun e w' => e = .returned (.bool (rdB z0)) ∧ Below W.heap.size W w' := fun W => (iIsReading_any z0 W hz0).mono (fun e w' h => ⟨h.1, below_of_eq h.2⟩)
  obtain ⟨A0, hA0⟩ : ∃ A0 : Bool, A0 = rdB z0 := ⟨_, rfl⟩
  rw [← hA0] at hs1 hi1
  have HS := Lib.hid hs1
  have HI := Lib.hid hi1
  clear hs1 hi1 hA0
  by_cases hb0 : (z0.size : Int) ≤ 1048576
  case neg =>
    go_enter Try.func3, Try.ntmps3
    go_wp2
    go_ret
    exact ⟨rfl, Below.refl _ _⟩
  case pos =>
    go_enter Try.func3, Try.ntmps3
    go_wp2_with (first | (go_at_call 13; (with_reducible refine (HS.out _).mono ?_); rintro e w1 ⟨rfl, b1⟩) | (go_at_call 14; (with_reducible refine (HI.out _).mono ?_); rintro e w2 ⟨rfl, b2⟩))
    go_ret
    exact ⟨rfl, chain b1 b2⟩
/-- There are two readings of as many digits. -/
def mtB (f t : ByteArray) : Bool := rdB f && rdB t && decide ((f.size : Int) = (t.size : Int))
def mtA (f t : ByteArray) : Int := if mtB f t then (mto f.data.toList t.data.toList : Nat) else 0
theorem mtA_no {f t : ByteArray} (h : mtB f t = false) : mtA f t = 0 := by unfold mtA; rw [h]; rfl
theorem mtA_yes {f t : ByteArray} (h : mtB f t = true) : mtA f t = (mto f.data.toList t.data.toList : Nat) := by unfold mtA; rw [h]; rfl
theorem len_of (s : ByteArray) : s.data.toList.length = s.size := by simp
theorem sMilesTo_any (f t : ByteArray) (w : World) (hf : f.size ≤ maxLen) (ht : t.size ≤ maxLen) :
    Calls Try.prog 15 #[.string f, .string t] w fun e w' => e = .returned (.tuple #[.int .i64 (mtA f t), .bool (mtB f t)]) ∧ Below w.heap.size w w' := by
  have HG1 := Lib.hid (fun W => miGood_any f W hf)
  have HG2 := Lib.hid (fun W => miGood_any t W ht)
  cases hb : mtB f t with
  | false =>
    have HA := Lib.hid (mtA_no hb)
    obtain ⟨x, hx⟩ : ∃ x, x = rdB f := ⟨_, rfl⟩
    obtain ⟨y, hy⟩ : ∃ y, y = rdB t := ⟨_, rfl⟩
    unfold mtB at hb
    rw [← hx] at hb HG1
    rw [← hy] at hb HG2
    clear hx hy hf ht
    cases x
    · clear hb
      go_enter Try.func15, Try.ntmps15
      go_wp2_with (go_at_call 33; (first | (with_reducible refine (HG1.out _).mono ?_) | (with_reducible refine (HG2.out _).mono ?_)); rintro e w' ⟨rfl, rfl⟩)
      go_ret2
      exact ⟨ret_ib HA.out.symm rfl, Below.refl _ _⟩
    · cases y
      · clear hb
        go_enter Try.func15, Try.ntmps15
        go_wp2_with (go_at_call 33; (first | (with_reducible refine (HG1.out _).mono ?_) | (with_reducible refine (HG2.out _).mono ?_)); rintro e w' ⟨rfl, rfl⟩)
        go_ret2
        exact ⟨ret_ib HA.out.symm rfl, Below.refl _ _⟩
      · have hz : ((f.size : Int) != (t.size : Int)) = true := by simpa using hb
        clear hb
        go_enter Try.func15, Try.ntmps15
        go_wp2_with (go_at_call 33; (first | (with_reducible refine (HG1.out _).mono ?_) | (with_reducible refine (HG2.out _).mono ?_)); rintro e w' ⟨rfl, rfl⟩)
        go_ret2
        exact ⟨ret_ib HA.out.symm rfl, Below.refl _ _⟩
  | true =>
    have HA := Lib.hid (mtA_yes hb)
    unfold mtB at hb
    simp only [Bool.and_eq_true, decide_eq_true_eq] at hb
    obtain ⟨⟨h1, h2⟩, h3⟩ := hb
    have hz : ((f.size : Int) != (t.size : Int)) = false := by simp [h3]
    rw [h1] at HG1
    rw [h2] at HG2
    obtain ⟨g1, g2, g3⟩ := (rdB_iff f).1 h1
    obtain ⟨g4, g5, g6⟩ := (rdB_iff t).1 h2
    have hm := fun W => miTo_any f.data.toList t.data.toList W (by rw [len_of]; exact g2) (by rw [len_of, len_of]; omega) g3 g6
    rw [lst, lst] at hm
    have HM := Lib.hid hm
    clear hm h1 h2 h3 g1 g2 g3 g4 g5 g6 hf ht
    go_enter Try.func15, Try.ntmps15
    go_wp2_with (first | (go_at_call 33; (first | (with_reducible refine (HG1.out _).mono ?_) | (with_reducible refine (HG2.out _).mono ?_)); rintro e w' ⟨rfl, rfl⟩) | (go_at_call 35; (with_reducible refine (HM.out _).mono ?_); rintro e w' ⟨rfl, rfl⟩))
    go_ret2
    exact ⟨ret_ib HA.out.symm rfl, Below.refl _ _⟩
theorem mlt_mto (f t : List UInt8) (hf : digB f = true) : mlt f t % 10 ^ f.length = mto f t := by
  unfold mlt mto
  have h := nu_lt f.length f rfl hf
  rw [Nat.mod_add_mod]
  congr 1; omega
set_option maxHeartbeats 1000000 in
theorem iMilesTo_any (f t : ByteArray) (w : World) (hf : f.size ≤ maxLen) (ht : t.size ≤ maxLen) :
    Calls Try.prog 16 #[.string f, .string t] w fun e w' => e = .returned (.tuple #[.int .i64 (mtA f t), .bool (mtB f t)]) ∧ Below w.heap.size w w' := by
  have HG1 := Lib.hid (fun W => iIsReading_any f W hf)
  have HG2 := Lib.hid (fun W => iIsReading_any t W ht)
  cases hb : mtB f t with
  | false =>
    have HA := Lib.hid (mtA_no hb)
    obtain ⟨x, hx⟩ : ∃ x, x = rdB f := ⟨_, rfl⟩
    obtain ⟨y, hy⟩ : ∃ y, y = rdB t := ⟨_, rfl⟩
    unfold mtB at hb
    rw [← hx] at hb HG1
    rw [← hy] at hb HG2
    clear hx hy hf ht
    cases x
    · clear hb
      go_enter Try.func16, Try.ntmps16
      go_wp2_with (go_at_call 14; (first | (with_reducible refine (HG1.out _).mono ?_) | (with_reducible refine (HG2.out _).mono ?_)); rintro e w' ⟨rfl, rfl⟩)
      go_ret2
      exact ⟨ret_ib HA.out.symm rfl, Below.refl _ _⟩
    · cases y
      · clear hb
        go_enter Try.func16, Try.ntmps16
        go_wp2_with (go_at_call 14; (first | (with_reducible refine (HG1.out _).mono ?_) | (with_reducible refine (HG2.out _).mono ?_)); rintro e w' ⟨rfl, rfl⟩)
        go_ret2
        exact ⟨ret_ib HA.out.symm rfl, Below.refl _ _⟩
      · have hz : ((f.size : Int) != (t.size : Int)) = true := by simpa using hb
        clear hb
        go_enter Try.func16, Try.ntmps16
        go_wp2_with (go_at_call 14; (first | (with_reducible refine (HG1.out _).mono ?_) | (with_reducible refine (HG2.out _).mono ?_)); rintro e w' ⟨rfl, rfl⟩)
        go_ret2
        exact ⟨ret_ib HA.out.symm rfl, Below.refl _ _⟩
  | true =>
    have HA := Lib.hid (mtA_yes hb)
    unfold mtB at hb
    simp only [Bool.and_eq_true, decide_eq_true_eq] at hb
    obtain ⟨⟨h1, h2⟩, h3⟩ := hb
    have hz : ((f.size : Int) != (t.size : Int)) = false := by simp [h3]
    rw [h1] at HG1
    rw [h2] at HG2
    obtain ⟨g1, g2, g3⟩ := (rdB_iff f).1 h1
    obtain ⟨g4, g5, g6⟩ := (rdB_iff t).1 h2
    have hm := fun W => milesLater_any f.data.toList t.data.toList W (by rw [len_of]; exact g1) (by rw [len_of]; exact g2) (by rw [len_of, len_of]; omega) g3 g6
    rw [lst, lst] at hm
    have HM := Lib.hid hm
    have HRd := Lib.hid (fun W => roundOf_any f.size W g1 g2)
    have hb1 := pow_bd f.size g2
    have hmm := mlt_mto f.data.toList t.data.toList g3
    rw [len_of] at hmm
    have hml : mlt f.data.toList t.data.toList ≤ 10 ^ f.size := by
      unfold mlt; rw [len_of]
      have := Nat.mod_lt (nu t.data.toList + 10 ^ f.size - nu f.data.toList - 1) (show 0 < 10 ^ f.size by omega)
      omega
    obtain ⟨R, hR⟩ : ∃ R, R = 10 ^ f.size := ⟨_, rfl⟩
    obtain ⟨M, hM⟩ : ∃ M, M = mlt f.data.toList t.data.toList := ⟨_, rfl⟩
    rw [← hR] at HRd hmm hml hb1
    rw [← hM] at HM hmm hml
    have HX : Hid ((M : Int) % (R : Int) = mtA f t) := by show _ = _; rw [HA.out, ← hmm]; omega
    have hR0 : (R : Int) ≠ 0 := by omega
    have hm0 : 0 ≤ (M : Int) % (R : Int) := Int.emod_nonneg _ (by omega)
    have hm1 : (M : Int) % (R : Int) < (R : Int) := Int.emod_lt_of_pos _ (by omega)
    clear hm hmm hM hR h1 h2 h3 g1 g2 g3 g4 g5 g6 hf ht
    go_enter Try.func16, Try.ntmps16
    go_wp2_with (first | (go_at_call 14; (first | (with_reducible refine (HG1.out _).mono ?_) | (with_reducible refine (HG2.out _).mono ?_)); rintro e w' ⟨rfl, rfl⟩) | (go_at_call 36; (with_reducible refine (HM.out _).mono ?_); rintro e w1 ⟨rfl, b1⟩) | (go_at_call 37; (with_reducible refine (HRd.out _).mono ?_); rintro e w2 ⟨rfl, b2⟩))
    go_ret2
    exact ⟨ret_ib HX.out rfl, chain b1 b2⟩
set_option maxHeartbeats 1000000 in
theorem FnExactMilesTo_law (z0 : ByteArray) (z1 : ByteArray) (hz0 : z0.size ≤ maxLen) (hz1 : z1.size ≤ maxLen) (w : World) :
    Calls Try.prog 4 #[.string z0, .string z1] w fun e w' => e = .returned (.bool true) ∧ Below w.heap.size w w' := by
  have hz0' := hz0
  unfold maxLen at hz0'
  have hz1' := hz1
  unfold maxLen at hz1'
  have hs1 : ∀ W, Calls Try.prog 15 #[.string z0, .string z1] W fun e w' => e = .returned (.tuple #[.int .i64 (mtA z0 z1), .bool (mtB z0 z1)]) ∧ Below W.heap.size W w' := fun W => sMilesTo_any z0 z1 W hz0 hz1
  have hi1 : ∀ W, Calls Try.prog 16 #[.string z0, .string z1] W fun e w' => e = .returned (.tuple #[.int .i64 (mtA z0 z1), .bool (mtB z0 z1)]) ∧ Below W.heap.size W w' := fun W => iMilesTo_any z0 z1 W hz0 hz1
  obtain ⟨A0, hA0⟩ : ∃ A0 : Int, A0 = mtA z0 z1 := ⟨_, rfl⟩
  obtain ⟨A1, hA1⟩ : ∃ A1 : Bool, A1 = mtB z0 z1 := ⟨_, rfl⟩
  rw [← hA0, ← hA1] at hs1 hi1
  have HS := Lib.hid hs1
  have HI := Lib.hid hi1
  clear hs1 hi1 hA0 hA1
  by_cases hb0 : (z0.size : Int) ≤ 1048576
  case neg =>
    go_enter Try.func4, Try.ntmps4
    go_wp2
    go_ret
    exact ⟨rfl, Below.refl _ _⟩
  case pos =>
    by_cases hb1 : (z1.size : Int) ≤ 1048576
    case neg =>
      go_enter Try.func4, Try.ntmps4
      go_wp2
      go_ret
      exact ⟨rfl, Below.refl _ _⟩
    case pos =>
      go_enter Try.func4, Try.ntmps4
      go_wp2_with (first | (go_at_call 15; (with_reducible refine (HS.out _).mono ?_); rintro e w1 ⟨rfl, b1⟩) | (go_at_call 16; (with_reducible refine (HI.out _).mono ?_); rintro e w2 ⟨rfl, b2⟩))
      go_ret
      exact ⟨rfl, chain b1 b2⟩
/-- There is a mirrored reading of such a rank. -/
def mrB (d r : Int) : Bool := zB d && decide (0 ≤ r) && decide (r < ((10 ^ ((d.toNat + 1) / 2) : Nat) : Int))
def mrA (d r : Int) : ByteArray := if mrB d r then ⟨(mirL d.toNat (dg ((d.toNat + 1) / 2) r.toNat)).toArray⟩ else ⟨#[]⟩
theorem mrA_no {d r : Int} (h : mrB d r = false) : mrA d r = ⟨#[]⟩ := by unfold mrA; rw [h]; rfl
theorem mrA_yes {d r : Int} (h : mrB d r = true) : mrA d r = ⟨(mirL d.toNat (dg ((d.toNat + 1) / 2) r.toNat)).toArray⟩ := by unfold mrA; rw [h]; rfl
set_option maxHeartbeats 1000000 in
theorem sMirroredOfRank_any (d r : Int) (w : World) :
    Calls Try.prog 27 #[.int .i64 d, .int .i64 r] w fun e w' => e = .returned (.tuple #[.string (mrA d r), .bool (mrB d r)]) ∧ Below w.heap.size w w' := by
  have HZ := Lib.hid (fun W => miSize_any d W)
  cases hz : zB d with
  | false =>
    have hb : mrB d r = false := by unfold mrB; rw [hz]; rfl
    have HA := Lib.hid (mrA_no hb)
    have HB := Lib.hid hb
    rw [hz] at HZ
    clear hb hz
    go_enter Try.func27, Try.ntmps27
    go_wp2_with (go_at_call 44; (with_reducible refine (HZ.out _).mono ?_); rintro e w' ⟨rfl, rfl⟩)
    go_ret2
    exact ⟨ret_sb HA.out.symm HB.out.symm, Below.refl _ _⟩
  | true =>
    rw [hz] at HZ
    have hd := hz
    unfold zB at hd
    rw [decide_eq_true_iff] at hd
    obtain ⟨n, hn⟩ : ∃ n : Nat, d = (n : Int) := ⟨d.toNat, by omega⟩
    subst hn
    have hn9 : n ≤ 9 := by omega
    obtain ⟨h, hh⟩ : ∃ h, h = (n + 1) / 2 := ⟨_, rfl⟩
    have hhi : ((n : Int) + 1) / 2 = (h : Int) := by omega
    have hall : ∀ W, Calls Try.prog 42 #[.int .i64 (((n : Int) + 1) / 2)] W fun e w' => e = .returned (.int .i64 ((10 ^ h : Nat) : Int)) ∧ W = w' := by intro W; rw [hhi]; exact miAll_any h W (by omega)
    obtain ⟨P, hP⟩ : ∃ P, P = 10 ^ h := ⟨_, rfl⟩
    have hPb : P ≤ 1000000000 := by rw [hP]; exact (pow_bd' h (by omega)).2
    have hB : mrB (n : Int) r = (decide (0 ≤ r) && decide (r < (P : Int))) := by
      unfold mrB
      rw [hz, show ((n : Int).toNat + 1) / 2 = h by omega, ← hP]; simp
    rw [← hP] at hall
    have HAL := Lib.hid hall
    by_cases h0 : r < 0
    · have hb : mrB (n : Int) r = false := by rw [hB, decide_eq_false (by omega)]; rfl
      have HA := Lib.hid (mrA_no hb)
      have HB := Lib.hid hb
      clear hb hB hz hall hP hhi hh
      go_enter Try.func27, Try.ntmps27
      go_wp2_with (go_at_call 44; (with_reducible refine (HZ.out _).mono ?_); rintro e w' ⟨rfl, rfl⟩)
      go_ret2
      exact ⟨ret_sb HA.out.symm HB.out.symm, Below.refl _ _⟩
    · by_cases h1 : (P : Int) ≤ r
      · have hb : mrB (n : Int) r = false := by rw [hB, decide_eq_false (show ¬ r < (P : Int) by omega)]; simp
        have HA := Lib.hid (mrA_no hb)
        have HB := Lib.hid hb
        clear hb hB hz hall hP hhi hh
        go_enter Try.func27, Try.ntmps27
        go_wp2_with (first | (go_at_call 44; (with_reducible refine (HZ.out _).mono ?_); rintro e w' ⟨rfl, rfl⟩) | (go_at_call 42; (with_reducible refine (HAL.out _).mono ?_); rintro e w' ⟨rfl, rfl⟩))
        go_ret2
        exact ⟨ret_sb HA.out.symm HB.out.symm, Below.refl _ _⟩
      · have hb : mrB (n : Int) r = true := by rw [hB, decide_eq_true (show r < (P : Int) by omega), decide_eq_true (show 0 ≤ r by omega)]; rfl
        have HA := Lib.hid (mrA_yes hb)
        have HB := Lib.hid hb
        have htx : ∀ W, Calls Try.prog 51 #[.int .i64 (((n : Int) + 1) / 2), .int .i64 r] W fun e w' => e = .returned (.string ⟨(dg h r.toNat).toArray⟩) ∧ Below W.heap.size W w' := by
          intro W; rw [hhi]; exact miText_any h r.toNat r W (by omega) (by omega) (by omega)
        have HTX := Lib.hid htx
        have HMM := Lib.hid (fun W => miMirrored_any n (dg h r.toNat) W (by omega) (by rw [dg_len, hh]))
        have HR : Hid (mrA (n : Int) r = ⟨(mirL n (dg h r.toNat)).toArray⟩) := by show _ = _; rw [HA.out, show ((n : Int).toNat + 1) / 2 = h by omega]; rfl
        clear hb hB hz hall hP hhi hh htx HA
        go_enter Try.func27, Try.ntmps27
        go_wp2_with (first | (go_at_call 44; (with_reducible refine (HZ.out _).mono ?_); rintro e w' ⟨rfl, rfl⟩) | (go_at_call 42; (with_reducible refine (HAL.out _).mono ?_); rintro e w' ⟨rfl, rfl⟩) | (go_at_call 51; (with_reducible refine (HTX.out _).mono ?_); rintro e w1 ⟨rfl, b1⟩) | (go_at_call 50; (with_reducible refine (HMM.out _).mono ?_); rintro e w2 ⟨rfl, b2⟩))
        go_ret2
        exact ⟨ret_sb HR.out.symm HB.out.symm, chain b1 b2⟩
set_option maxHeartbeats 1000000 in
theorem iMirroredOfRank_any (d r : Int) (w : World) :
    Calls Try.prog 28 #[.int .i64 d, .int .i64 r] w fun e w' => e = .returned (.tuple #[.string (mrA d r), .bool (mrB d r)]) ∧ Below w.heap.size w w' := by
  have HZ := Lib.hid (fun W => isDial_any d W)
  cases hz : zB d with
  | false =>
    have hb : mrB d r = false := by unfold mrB; rw [hz]; rfl
    have HA := Lib.hid (mrA_no hb)
    have HB := Lib.hid hb
    rw [hz] at HZ
    clear hb hz
    go_enter Try.func28, Try.ntmps28
    go_wp2_with (go_at_call 46; (with_reducible refine (HZ.out _).mono ?_); rintro e w' ⟨rfl, rfl⟩)
    go_ret2
    exact ⟨ret_sb HA.out.symm HB.out.symm, Below.refl _ _⟩
  | true =>
    rw [hz] at HZ
    have hd := hz
    unfold zB at hd
    rw [decide_eq_true_iff] at hd
    obtain ⟨n, hn⟩ : ∃ n : Nat, d = (n : Int) := ⟨d.toNat, by omega⟩
    subst hn
    have hn9 : n ≤ 9 := by omega
    have hcnt := mir_count n
    have hB : mrB (n : Int) r = (decide (0 ≤ r) && decide (r < ((10 ^ ((n + 1) / 2) : Nat) : Int))) := by
      unfold mrB
      rw [hz]; simp
    have hg := fun W => cnts_opp mir ⟨#[48, 49, 50, 51, 52, 53, 54, 55, 56, 57]⟩ n W tbl_mir hn9
    cases hb : mrB (n : Int) r with
    | false =>
      have HA := Lib.hid (mrA_no hb)
      rw [hB] at hb
      have hor : r < 0 ∨ ((10 ^ ((n + 1) / 2) : Nat) : Int) ≤ r := by
        simp only [Bool.and_eq_false_iff, decide_eq_false_iff_not] at hb
        omega
      have hr := fun W => rdRank_no _ _ _ (Io mir) n r W ent_count (hg W) hn9 (by rw [hcnt]; exact hor)
      have HR := Lib.hid hr
      clear hr hor hb hB hg hcnt hz
      go_enter Try.func28, Try.ntmps28
      go_wp2_with (first | (go_at_call 46; (with_reducible refine (HZ.out _).mono ?_); rintro e w' ⟨rfl, rfl⟩) | (go_at_call 48; (refine (HR.out _).mono ?_); rintro e w1 ⟨rfl, b1⟩))
      go_ret2
      exact ⟨ret_sb HA.out.symm rfl, b1⟩
    | true =>
      have HA := Lib.hid (mrA_yes hb)
      rw [hB] at hb
      simp only [Bool.and_eq_true, decide_eq_true_eq] at hb
      have hat := mir_at n r.toNat (by omega)
      have hr := fun W => rdRank_any _ _ _ (Io mir) n r.toNat _ r W ent_count (hg W) hn9 (by omega) hat
      have HX : Hid (mrA (n : Int) r = ⟨(mirL n (dg ((n + 1) / 2) r.toNat)).toArray⟩) := by show _ = _; rw [HA.out]; rfl
      have HR := Lib.hid hr
      clear hr hat hb hB hg hcnt hz HA
      go_enter Try.func28, Try.ntmps28
      go_wp2_with (first | (go_at_call 46; (with_reducible refine (HZ.out _).mono ?_); rintro e w' ⟨rfl, rfl⟩) | (go_at_call 48; (refine (HR.out _).mono ?_); rintro e w1 ⟨rfl, b1⟩))
      go_ret2
      exact ⟨ret_sb HX.out.symm rfl, b1⟩
set_option maxHeartbeats 1000000 in
theorem FnExactMirroredOfRank_law (p0 : Int) (p1 : Int) (_hp0 : (Lit.int .i64 p0).wf = true) (_hp1 : (Lit.int .i64 p1).wf = true) (w : World) :
    Calls Try.prog 10 #[.int .i64 p0, .int .i64 p1] w fun e w' => e = .returned (.bool true) ∧ Below w.heap.size w w' := by
  have hs1 : ∀ W, Calls Try.prog 27 #[.int .i64 p0, .int .i64 p1] W fun e w' => e = .returned (.tuple #[.string (mrA p0 p1), .bool (mrB p0 p1)]) ∧ Below W.heap.size W w' := fun W => sMirroredOfRank_any p0 p1 W
  have hi1 : ∀ W, Calls Try.prog 28 #[.int .i64 p0, .int .i64 p1] W fun e w' => e = .returned (.tuple #[.string (mrA p0 p1), .bool (mrB p0 p1)]) ∧ Below W.heap.size W w' := fun W => iMirroredOfRank_any p0 p1 W
  obtain ⟨A0, hA0⟩ : ∃ A0 : ByteArray, A0 = mrA p0 p1 := ⟨_, rfl⟩
  obtain ⟨A1, hA1⟩ : ∃ A1 : Bool, A1 = mrB p0 p1 := ⟨_, rfl⟩
  rw [← hA0, ← hA1] at hs1 hi1
  have HS := Lib.hid hs1
  have HI := Lib.hid hi1
  clear hs1 hi1 hA0 hA1
  go_enter Try.func10, Try.ntmps10
  go_wp2_with (first | (go_at_call 27; (with_reducible refine (HS.out _).mono ?_); rintro e w1 ⟨rfl, b1⟩) | (go_at_call 28; (with_reducible refine (HI.out _).mono ?_); rintro e w2 ⟨rfl, b2⟩))
  go_ret
  exact ⟨rfl, chain b1 b2⟩
end Go.Proofs.Ytlkeemnnncnibaa
