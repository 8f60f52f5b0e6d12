/-
  Least numbers: RestOfOnes of both sides, and its law.
-/
import Derived.Test.YtghjpanabphbpabLeLeaf
import Derived.Test.YtghjpanabphbpabLeRo
namespace Go.Proofs.Ytghjpanabphbpab
open Go.RowKit

set_option maxHeartbeats 400000 in
theorem restOfTen_any (m : Nat) (h1 : 1 ≤ m) (h2 : m ≤ 3600) (z : Nat) : ∀ w : World, z ≤ 1000000000000 →
    Calls Try.prog 24 #[.int .i64 z, .int .i64 m] w fun e w' => e = .returned (.int .i64 (10 ^ z % m : Nat)) ∧ w = w' := by
  induction z using Nat.strongRecOn with
  | _ z ih =>
    intro w hz
    have hm0 : (m : Int) ≠ 0 := by omega
    by_cases h0 : z = 0
    · subst h0
      have HX : Hid ((1 : Int) % (m : Int) = ((10 ^ 0 % m : Nat) : Int)) := by show _ = _; push_cast; rfl
      have g1 := Int.emod_nonneg 1 hm0
      have g2 := Int.emod_lt_of_pos 1 (show 0 < (m : Int) by omega)
      clear ih
      go_enter Try.func24, Try.ntmps24
      go_wp2
      go_ret
      exact ⟨ret_int HX.out, rfl⟩
    · obtain ⟨q, hq⟩ : ∃ q, q = z / 2 := ⟨_, rfl⟩
      have hlt := Nat.mod_lt (10 ^ q) (show m > 0 by omega)
      have hi := fun W => ih q (by omega) W (by omega)
      have hpw := pow_half z m
      rw [← hq] at hpw
      obtain ⟨h, hh⟩ : ∃ h, 10 ^ q % m = h := ⟨_, rfl⟩
      rw [hh] at hi hlt hpw
      have HI := Lib.hid hi
      have HQ : Hid ((z : Int) / 2 = (q : Int)) := by show _ = _; omega
      have hp : 0 ≤ (h : Int) * (h : Int) ∧ (h : Int) * (h : Int) ≤ 3600 * 3600 := ⟨Int.mul_nonneg (by omega) (by omega), Int.mul_le_mul (by omega) (by omega) (by omega) (by omega)⟩
      obtain ⟨hp0, hp1⟩ := hp
      have hz0 : ¬ (z : Int) = 0 := by omega
      by_cases hb : z % 2 = 0
      · rw [if_pos hb] at hpw
        have hb' : (z : Int) % 2 = 0 := by omega
        have HX : Hid ((h : Int) * (h : Int) % (m : Int) = ((10 ^ z % m : Nat) : Int)) := by show _ = _; rw [hpw]; push_cast; rfl
        have g1 := Int.emod_nonneg ((h : Int) * (h : Int)) hm0
        have g2 := Int.emod_lt_of_pos ((h : Int) * (h : Int)) (show 0 < (m : Int) by omega)
        clear ih hi hq hh hpw hb h0
        go_enter Try.func24, Try.ntmps24
        go_wp2_with (go_at_call 24; rw [HQ.out]; refine (HI.out _).mono ?_; rintro e w' ⟨rfl, rfl⟩)
        go_ret
        exact ⟨ret_int HX.out, rfl⟩
      · rw [if_neg hb] at hpw
        have hb' : (z : Int) % 2 = 1 := by omega
        have HX : Hid ((h : Int) * (h : Int) * 10 % (m : Int) = ((10 ^ z % m : Nat) : Int)) := by show _ = _; rw [hpw]; push_cast; rfl
        have g1 := Int.emod_nonneg ((h : Int) * (h : Int) * 10) hm0
        have g2 := Int.emod_lt_of_pos ((h : Int) * (h : Int) * 10) (show 0 < (m : Int) by omega)
        clear ih hi hq hh hpw hb h0
        go_enter Try.func24, Try.ntmps24
        go_wp2_with (go_at_call 24; rw [HQ.out]; refine (HI.out _).mono ?_; rintro e w' ⟨rfl, rfl⟩)
        go_ret
        exact ⟨ret_int HX.out, rfl⟩
/-- There is an answer; the answer. -/
def roB (n z : Int) : Bool := dvB n && decide (1 ≤ z) && decide (z ≤ 1000000000000)
def roA (n z : Int) : Int := if roB n z = true then (ro z.toNat % n.toNat : Nat) else 0
theorem roA_yes {n z : Int} (h : roB n z = true) : roA n z = (ro z.toNat % n.toNat : Nat) := by rw [roA, if_pos h]
theorem roA_no {n z : Int} (h : roB n z = false) : roA n z = 0 := by rw [roA, if_neg (by simp [h])]
set_option maxHeartbeats 400000 in
theorem iRo_any (n z : Int) (w : World) :
    Calls Try.prog 14 #[.int .i64 n, .int .i64 z] w fun e w' => e = .returned (.tuple #[.int .i64 (roA n z), .bool (roB n z)]) ∧ Below w.heap.size w w' := by
  have HZ := Lib.hid (fun W => isDivisor_any n W)
  cases hd : dvB n with
  | false =>
    have hb : roB n z = false := by unfold roB; rw [hd]; rfl
    have HA := Lib.hid (roA_no hb)
    have HB := Lib.hid hb
    rw [hd] at HZ
    clear hb hd
    go_enter Try.func14, Try.ntmps14
    go_wp2_with (go_at_call 18; (with_reducible refine (HZ.out _).mono ?_); rintro e w' ⟨rfl, rfl⟩)
    go_ret2
    exact ⟨ret_ib HA.out.symm HB.out.symm, Below.refl _ _⟩
  | true =>
    obtain ⟨d0, d1⟩ := (dvB_iff n).1 hd
    rw [hd] at HZ
    by_cases h1 : z < 1
    · have hb : roB n z = false := by unfold roB; rw [decide_eq_false (show ¬ 1 ≤ z by omega)]; simp
      have HA := Lib.hid (roA_no hb)
      have HB := Lib.hid hb
      clear hb hd
      go_enter Try.func14, Try.ntmps14
      go_wp2_with (go_at_call 18; (with_reducible refine (HZ.out _).mono ?_); rintro e w' ⟨rfl, rfl⟩)
      go_ret2
      exact ⟨ret_ib HA.out.symm HB.out.symm, Below.refl _ _⟩
    · by_cases h2 : 1000000000000 < z
      · have hb : roB n z = false := by unfold roB; rw [decide_eq_false (show ¬ z ≤ 1000000000000 by omega)]; simp
        have HA := Lib.hid (roA_no hb)
        have HB := Lib.hid hb
        clear hb hd
        go_enter Try.func14, Try.ntmps14
        go_wp2_with (go_at_call 18; (with_reducible refine (HZ.out _).mono ?_); rintro e w' ⟨rfl, rfl⟩)
        go_ret2
        exact ⟨ret_ib HA.out.symm HB.out.symm, Below.refl _ _⟩
      · have hb : roB n z = true := by unfold roB; rw [hd, decide_eq_true (show 1 ≤ z by omega), decide_eq_true (show z ≤ 1000000000000 by omega)]; rfl
        have HA := Lib.hid (roA_yes hb)
        have HB := Lib.hid hb
        have hr := ro_rest z.toNat (n := n.toNat) (by omega)
        have hrt := fun W => restOfTen_any (9 * n.toNat) (by omega) (by omega) z.toNat W (by omega)
        rw [show ((z.toNat : Nat) : Int) = z by omega, show ((9 * n.toNat : Nat) : Int) = 9 * n by omega, hr] at hrt
        have hlt := Nat.mod_lt (ro z.toNat) (show n.toNat > 0 by omega)
        obtain ⟨x, hx⟩ : ∃ x, ro z.toNat % n.toNat = x := ⟨_, rfl⟩
        rw [hx] at hrt HA hlt
        have hrt2 : ∀ W, Calls Try.prog 24 #[.int .i64 z, .int .i64 (9 * n)] W fun e w' => e = .returned (.int .i64 (9 * (x : Int) + 1)) ∧ W = w' := by
          intro W
          have := hrt W
          rwa [show ((9 * x + 1 : Nat) : Int) = 9 * (x : Int) + 1 by omega] at this
        have HR := Lib.hid hrt2
        have hx4 : x ≤ 400 := by omega
        have HE : Hid ((x : Int) = roA n z) := by show _ = _; rw [HA.out]
        clear hb hd hr hrt hrt2 hlt hx HA
        go_enter Try.func14, Try.ntmps14
        go_wp2_with (first | (go_at_call 18; (with_reducible refine (HZ.out _).mono ?_); rintro e w' ⟨rfl, rfl⟩) | (go_at_call 24; (with_reducible refine (HR.out _).mono ?_); rintro e w' ⟨rfl, rfl⟩))
        go_ret2
        exact ⟨ret_ib HE.out HB.out.symm, Below.refl _ _⟩
set_option maxHeartbeats 800000 in
theorem sRo_any (n z : Int) (w : World) :
    Calls Try.prog 13 #[.int .i64 n, .int .i64 z] w fun e w' => e = .returned (.tuple #[.int .i64 (roA n z), .bool (roB n z)]) ∧ Below w.heap.size w w' := by
  have HZ := Lib.hid (fun W => leDivisor_any n W)
  have hg := fun W => lprod_any z W
  cases hd : dvB n with
  | false =>
    have hb : roB n z = false := by unfold roB; rw [hd]; rfl
    have HA := Lib.hid (roA_no hb)
    have HB := Lib.hid hb
    rw [hd] at HZ
    clear hb hd hg
    go_enter Try.func13, Try.ntmps13
    go_wp2_with (go_at_call 15; (with_reducible refine (HZ.out _).mono ?_); rintro e w' ⟨rfl, rfl⟩)
    go_ret2
    exact ⟨ret_ib HA.out.symm HB.out.symm, Below.refl _ _⟩
  | true =>
    obtain ⟨d0, d1⟩ := (dvB_iff n).1 hd
    rw [hd] at HZ
    have hBB : roB n z = prB z := by unfold roB prB; rw [hd]; by_cases a : 1 ≤ z <;> by_cases b : z ≤ 1000000000000 <;> simp [a, b]
    cases hp : prB z with
    | false =>
      have hb : roB n z = false := by rw [hBB, hp]
      have HA := Lib.hid (roA_no hb)
      have HB := Lib.hid hb
      rw [hp] at hg
      have HG := Lib.hid hg
      clear hb hd hg hp hBB
      go_enter Try.func13, Try.ntmps13
      go_wp2_with (first | (go_at_call 15; (with_reducible refine (HZ.out _).mono ?_); rintro e w' ⟨rfl, rfl⟩) | (go_at_call 23; (with_reducible refine (HG.out _).mono ?_); rintro e w' ⟨rfl, rfl⟩))
      go_ret2
      exact ⟨ret_ib HA.out.symm HB.out.symm, Below.refl _ _⟩
    | true =>
      have hb : roB n z = true := by rw [hBB, hp]
      have HA := Lib.hid (roA_yes hb)
      have HB := Lib.hid hb
      obtain ⟨p0, p1⟩ := (prB_iff z).1 hp
      rw [hp] at hg
      have HG := Lib.hid hg
      obtain ⟨m, hm⟩ : ∃ m : Nat, n = (m : Int) := ⟨n.toNat, by omega⟩
      obtain ⟨Z, hZ⟩ : ∃ Z : Nat, z = (Z : Int) := ⟨z.toNat, by omega⟩
      subst hm; subst hZ
      rw [Int.toNat_natCast, Int.toNat_natCast] at HA
      have hm0 : (m : Int) ≠ 0 := by omega
      have hmp : m > 0 := by omega
      have g1 := Int.emod_nonneg 1 hm0
      have g2 := Int.emod_lt_of_pos 1 (show 0 < (m : Int) by omega)
      have g3 := Int.emod_nonneg 10 hm0
      have g4 := Int.emod_lt_of_pos 10 (show 0 < (m : Int) by omega)
      have HE1 : Hid ((1 : Int) % (m : Int) = ((ro 1 % m : Nat) : Int)) := by show _ = _; push_cast; rfl
      have HE2 : Hid ((10 : Int) % (m : Int) = ((10 ^ 1 % m : Nat) : Int)) := by show _ = _; push_cast; rfl
      clear hb hd hg hp hBB
      go_enter Try.func13, Try.ntmps13
      go_wp2_with (first | (go_at_call 15; (with_reducible refine (HZ.out _).mono ?_); rintro e w' ⟨rfl, rfl⟩) | (go_at_call 23; (with_reducible refine (HG.out _).mono ?_); rintro e w' ⟨rfl, rfl⟩))
      go_quiet (fail)
      go_wp2
      go_loopw [1, 6, 7, 8] (fun ov uv xv pv wr => ∃ l a o u x p : Nat, ov = .int .i64 o ∧ uv = .int .i64 u ∧ xv = .int .i64 x ∧ pv = .int .i64 p ∧ o ≤ 1000000000000 ∧ u < m ∧ x < m ∧ p < m ∧ Hid (Z = l + a * o ∧ u = ro l % m ∧ x = ro a % m ∧ p = 10 ^ a % m) ∧ Below w.heap.size w wr) (fun ov _ _ _ _ => (intOf ov).toNat)
      case atStart => exact ⟨0, 1, Z, 0, ro 1 % m, 10 ^ 1 % m, rfl, rfl, val_int HE1.out, val_int HE2.out, by omega, hmp, Nat.mod_lt _ hmp, Nat.mod_lt _ hmp, ⟨by omega, by simp [ro], rfl, rfl⟩, below_drewN (Below.refl _ _) _⟩
      case round =>
        obtain ⟨l, a, o, u, x, p, rfl, rfl, rfl, rfl, ho, hu, hx, hp, HK, hbl⟩ := hrel
        by_cases ho0 : o = 0
        · subst ho0
          have HE : Hid ((u : Int) = roA (m : Int) (Z : Int)) := by show _ = _; rw [HA.out, HK.out.2.1, HK.out.1]; simp
          go_wp2
          go_ret2
          exact ⟨ret_ib HE.out HB.out.symm, hbl⟩
        · have hop : 0 < (o : Int) := by omega
          have k1 : 0 ≤ (x : Int) * (p : Int) ∧ (x : Int) * (p : Int) ≤ 400 * 400 := ⟨Int.mul_nonneg (by omega) (by omega), Int.mul_le_mul (by omega) (by omega) (by omega) (by omega)⟩
          have k2 : 0 ≤ (p : Int) * (p : Int) ∧ (p : Int) * (p : Int) ≤ 400 * 400 := ⟨Int.mul_nonneg (by omega) (by omega), Int.mul_le_mul (by omega) (by omega) (by omega) (by omega)⟩
          have k3 : 0 ≤ (u : Int) * (p : Int) ∧ (u : Int) * (p : Int) ≤ 400 * 400 := ⟨Int.mul_nonneg (by omega) (by omega), Int.mul_le_mul (by omega) (by omega) (by omega) (by omega)⟩
          obtain ⟨k10, k11⟩ := k1
          obtain ⟨k20, k21⟩ := k2
          obtain ⟨k30, k31⟩ := k3
          have m1 := Int.emod_nonneg ((x : Int) * (p : Int) + (x : Int)) hm0
          have m2 := Int.emod_nonneg ((p : Int) * (p : Int)) hm0
          have m3 := Int.emod_nonneg ((u : Int) * (p : Int) + (x : Int)) hm0
          have m4 := Int.emod_lt_of_pos ((x : Int) * (p : Int) + (x : Int)) (show 0 < (m : Int) by omega)
          have m5 := Int.emod_lt_of_pos ((p : Int) * (p : Int)) (show 0 < (m : Int) by omega)
          have m6 := Int.emod_lt_of_pos ((u : Int) * (p : Int) + (x : Int)) (show 0 < (m : Int) by omega)
          obtain ⟨q, hq⟩ : ∃ q, q = o / 2 := ⟨_, rfl⟩
          have HQ : Hid ((o : Int) / 2 = (q : Int)) := by show _ = _; omega
          have hqo : q < o := by omega
          have HX : Hid (((x : Int) * (p : Int) + (x : Int)) % (m : Int) = ((ro (a + a) % m : Nat) : Int)) := by show _ = _; rw [ro_step, ← HK.out.2.2.1, ← HK.out.2.2.2]; push_cast; rfl
          have HP : Hid (((p : Int) * (p : Int)) % (m : Int) = ((10 ^ (a + a) % m : Nat) : Int)) := by show _ = _; rw [pow_step, ← HK.out.2.2.2]; push_cast; rfl
          by_cases hb : o % 2 = 1
          · have hb' : (o : Int) % 2 = 1 := by omega
            have HU : Hid (((u : Int) * (p : Int) + (x : Int)) % (m : Int) = ((ro (l + a) % m : Nat) : Int)) := by show _ = _; rw [ro_step, ← HK.out.2.1, ← HK.out.2.2.1, ← HK.out.2.2.2]; push_cast; rfl
            have HZ2 : Hid (Z = l + a + (a + a) * q) := by
              show _ = _
              rw [HK.out.1]
              have : o = 2 * q + 1 := by omega
              rw [this, Nat.mul_add, Nat.add_mul, ← Nat.mul_assoc, Nat.mul_comm a 2, Nat.mul_assoc 2]; omega
            clear hq hb
            go_wp2_with fail
            go_roundw
            case rel => exact ⟨l + a, a + a, q, ro (l + a) % m, ro (a + a) % m, 10 ^ (a + a) % m, val_int HQ.out, val_int HU.out, val_int HX.out, val_int HP.out, by omega, Nat.mod_lt _ hmp, Nat.mod_lt _ hmp, Nat.mod_lt _ hmp, ⟨HZ2.out, rfl, rfl, rfl⟩, hbl⟩
            case measure => have := HQ.out; simp [intOf]; omega
          · have hb' : (o : Int) % 2 = 0 := by omega
            have HZ2 : Hid (Z = l + (a + a) * q) := by
              show _ = _
              rw [HK.out.1]
              have : o = 2 * q := by omega
              rw [this, Nat.add_mul, ← Nat.mul_assoc, Nat.mul_comm a 2, Nat.mul_assoc 2]; omega
            clear hq hb
            go_wp2_with fail
            go_roundw
            case rel => exact ⟨l, a + a, q, u, ro (a + a) % m, 10 ^ (a + a) % m, val_int HQ.out, rfl, val_int HX.out, val_int HP.out, by omega, hu, Nat.mod_lt _ hmp, Nat.mod_lt _ hmp, ⟨HZ2.out, HK.out.2.1, rfl, rfl⟩, hbl⟩
            case measure => have := HQ.out; simp [intOf]; omega
set_option maxHeartbeats 1000000 in
theorem FnExactRestOfOnes_law (p0 : Int) (p1 : Int) (_hp0 : (Lit.int .i64 p0).wf = true) (_hp1 : (Lit.int .i64 p1).wf = true) (w : World) :
    Calls Try.prog 6 #[.int .i64 p0, .int .i64 p1] w fun e w' => e = .returned (.bool true) ∧ Below w.heap.size w w' := by
  have hs1 : ∀ W, Calls Try.prog 13 #[.int .i64 p0, .int .i64 p1] W fun e w' => e = .returned (.tuple #[.int .i64 (roA p0 p1), .bool (roB p0 p1)]) ∧ Below W.heap.size W w' := fun W => sRo_any p0 p1 W
  have hi1 : ∀ W, Calls Try.prog 14 #[.int .i64 p0, .int .i64 p1] W fun e w' => e = .returned (.tuple #[.int .i64 (roA p0 p1), .bool (roB p0 p1)]) ∧ Below W.heap.size W w' := fun W => iRo_any p0 p1 W
  obtain ⟨A0, hA0⟩ : ∃ A0 : Int, A0 = roA p0 p1 := ⟨_, rfl⟩
  obtain ⟨A1, hA1⟩ : ∃ A1 : Bool, A1 = roB p0 p1 := ⟨_, rfl⟩
  rw [← hA0, ← hA1] at hs1 hi1
  have HS := Lib.hid hs1
  have HI := Lib.hid hi1
  clear hs1 hi1 hA0 hA1
  go_enter Try.func6, Try.ntmps6
  go_wp2_with (first | (go_at_call 13; (with_reducible refine (HS.out _).mono ?_); rintro e w1 ⟨rfl, b1⟩) | (go_at_call 14; (with_reducible refine (HI.out _).mono ?_); rintro e w2 ⟨rfl, b2⟩))
  go_ret
  exact ⟨rfl, chain b1 b2⟩
end Go.Proofs.Ytghjpanabphbpab
