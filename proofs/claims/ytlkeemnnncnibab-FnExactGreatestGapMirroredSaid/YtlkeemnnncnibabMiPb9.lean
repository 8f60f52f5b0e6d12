/-
  Readings: the law of GreatestGapMirrored.
-/
import Derived.Test.YtlkeemnnncnibabMiIm9
import Derived.Test.YtlkeemnnncnibabMiSp1
import Derived.Test.YtlkeemnnncnibabMiGap
namespace Go.Proofs.Ytlkeemnnncnibab
open Go.RowKit

theorem ret_sib {a b : ByteArray} {x y : Int} {p q : Bool} (h1 : a = b) (h2 : x = y) (h3 : p = q) : Ending.returned (.tuple #[.string a, .int .i64 x, .bool p]) = .returned (.tuple #[.string b, .int .i64 y, .bool q]) := by rw [h1, h2, h3]
def txo (n : Nat) (o : Option Nat) : ByteArray := match o with | none => ⟨#[]⟩ | some r => ⟨(mT n r).toArray⟩
def gpA (d : Int) : ByteArray := if zB d then ⟨(mT d.toNat (gR d.toNat)).toArray⟩ else ⟨#[]⟩
def gpM (d : Int) : Int := if zB d then (gM d.toNat : Nat) else 0
theorem gp_no {d : Int} (h : zB d = false) : gpA d = ⟨#[]⟩ ∧ gpM d = 0 := by unfold gpA gpM; rw [h]; exact ⟨rfl, rfl⟩
theorem gp_yes {d : Int} (h : zB d = true) : gpA d = ⟨(mT d.toNat (gR d.toNat)).toArray⟩ ∧ gpM d = (gM d.toNat : Nat) := by unfold gpA gpM; rw [h]; exact ⟨rfl, rfl⟩
theorem zB_nat {d : Int} (h : zB d = true) : ∃ n : Nat, d = (n : Int) ∧ 1 ≤ n ∧ n ≤ 9 := by
  unfold zB at h
  rw [decide_eq_true_iff] at h
  exact ⟨d.toNat, by omega, by omega, by omega⟩
theorem mT_len (n r : Nat) : (mT n r).length = n := mirL_len n _ (dg_len _ _)
theorem mT_dig (n r : Nat) : digB (mT n r) = true := mirL_dig n _ (dg_dig _ _)
theorem gG_le (n r : Nat) : gG n r ≤ 10 ^ n := by
  unfold gG mtg
  exact Nat.le_of_lt (Nat.mod_lt _ (Nat.pos_of_ne_zero (by simp)))
theorem mto_gG (n r : Nat) : mto (mT n r) (mT n ((r + 1) % 10 ^ ((n + 1) / 2))) = gG n r := by
  unfold mto gG mtg
  rw [mT_len]
set_option maxHeartbeats 2000000 in
theorem sGap_any (d : Int) (w : World) :
    Calls Try.prog 15 #[.int .i64 d] w fun e w' => e = .returned (.tuple #[.string (gpA d), .int .i64 (gpM d), .bool (zB d)]) ∧ Below w.heap.size w w' := by
  have HG := Lib.hid (fun W => miSize_any d W)
  cases hb : zB d with
  | false =>
    have HA := Lib.hid (gp_no hb)
    rw [hb] at HG
    clear hb
    go_enter Try.func15, Try.ntmps15
    go_wp2_with (go_at_call 38; (with_reducible refine (HG.out _).mono ?_); rintro e w1 ⟨rfl, rfl⟩)
    go_ret3
    exact ⟨ret_sib HA.out.1.symm HA.out.2.symm rfl, Below.refl _ _⟩
  | true =>
    have hA := gp_yes hb
    rw [hb] at HG
    obtain ⟨n, rfl, h1, h9⟩ := zB_nat hb
    have HGA := Lib.hid (gap_all n h1 h9)
    obtain ⟨h, hh⟩ : ∃ h, h = (n + 1) / 2 := ⟨_, rfl⟩
    have hhi : ((n : Int) + 1) / 2 = (h : Int) := by omega
    have hh5 : h ≤ 5 := by omega
    have hall : ∀ W, Calls Try.prog 39 #[.int .i64 (((n : Int) + 1) / 2)] W fun e w' => e = .returned (.int .i64 ((10 ^ h : Nat) : Int)) ∧ W = w' := by intro W; rw [hhi]; exact miAll_any h W (by omega)
    obtain ⟨N, hN⟩ : ∃ N, N = 10 ^ h := ⟨_, rfl⟩
    have hNb : N ≤ 100000 := by rw [hN]; exact Nat.le_trans (Nat.pow_le_pow_right (by omega) hh5) (by decide)
    have hN1 : 1 ≤ N := by rw [hN]; exact Nat.pos_of_ne_zero (by simp)
    rw [← hN] at hall
    have HALL := Lib.hid hall
    have HTX : Hid (∀ (k : Nat) (x : Int) W, k ≤ 100000 → x = (k : Int) → Calls Try.prog 33 #[.int .i64 (((n : Int) + 1) / 2), .int .i64 x] W fun e w' => e = .returned (.string ⟨(dg h k).toArray⟩) ∧ Below W.heap.size W w') := fun k x W hk hx => by rw [hhi]; exact miText_any h k x W (by omega) (by omega) hx
    have HMM : Hid (∀ (k : Nat) W, Calls Try.prog 40 #[.int .i64 n, .string ⟨(dg h k).toArray⟩] W fun e w' => e = .returned (.string ⟨(mT n k).toArray⟩) ∧ Below W.heap.size W w') := by
      intro k W
      have := miMirrored_any n (dg h k) W (by omega) (by rw [dg_len, hh])
      unfold mT
      rw [← hh]; exact this
    have HTO : Hid (∀ (k : Nat) W, Calls Try.prog 34 #[.string ⟨(mT n k).toArray⟩, .string ⟨(mT n ((k + 1) % N)).toArray⟩] W fun e w' => e = .returned (.int .i64 ((gG n k : Nat) : Int)) ∧ W = w') := by
      intro k W
      have := miTo_any (mT n k) (mT n ((k + 1) % N)) W (by rw [mT_len]; exact h9) (by rw [mT_len, mT_len]) (mT_dig _ _) (mT_dig _ _)
      rw [← mto_gG n k, ← hh, ← hN]; exact this
    have HGB : Hid (∀ k, gG n k ≤ 1000000000) := fun k => Nat.le_trans (gG_le n k) (pow_bd' n h9).2
    have HFIN : Hid (bst (gG n) N = (some (gR n), gM n)) := by show _ = _; rw [hN, hh]; exact HGA.out
    have HA : Hid (gpA (n : Int) = txo n (some (gR n)) ∧ gpM (n : Int) = ((gM n : Nat) : Int)) := ⟨hA.1, hA.2⟩
    clear hA HGA hb hh hN hall hhi hh5
    go_enter Try.func15, Try.ntmps15
    go_wp2_with (go_at_call 38; (with_reducible refine (HG.out _).mono ?_); rintro e w1 ⟨rfl, rfl⟩)
    go_loopw [6, 7, 8] (fun bv mv rv wr => ∃ (k : Nat) (o : Option Nat) (m : Nat) (B : ByteArray), k ≤ N ∧ rv = .int .i64 k ∧ bv = .string B ∧ mv = .int .i64 m ∧ m ≤ 1000000000 ∧ Hid (bst (gG n) k = (o, m) ∧ B = txo n o) ∧ Below w.heap.size w wr) (fun _ _ rv _ => N - (intOf rv).toNat)
    case atStart => exact ⟨0, none, 0, ⟨#[]⟩, Nat.zero_le _, rfl, rfl, rfl, by omega, ⟨rfl, rfl⟩, Below.refl _ _⟩
    case round =>
      obtain ⟨k, o, m, B, hk, rfl, rfl, rfl, hm, HB, hbl⟩ := hrel
      by_cases hlt : k < N
      · obtain ⟨z, hz⟩ : ∃ z, z = (k + 1) % N := ⟨_, rfl⟩
        have hzN : z < N := by rw [hz]; exact Nat.mod_lt _ (by omega)
        have HT1 := Lib.hid (fun W => HTX.out k (k : Int) W (by omega) rfl)
        have HT2 : Hid (∀ W, Calls Try.prog 33 #[.int .i64 (((n : Int) + 1) / 2), .int .i64 (((k : Int) + 1) % (N : Int))] W fun e w' => e = .returned (.string ⟨(dg h z).toArray⟩) ∧ Below W.heap.size W w') := fun W => HTX.out z _ W (by omega) (by rw [hz]; push_cast; rfl)
        have HM1 := Lib.hid (fun W => HMM.out k W)
        have HM2 := Lib.hid (fun W => HMM.out z W)
        have hto := HTO.out k
        rw [← hz] at hto
        have hgb := HGB.out k
        obtain ⟨T1, hT1⟩ : ∃ T1 : ByteArray, T1 = ⟨(dg h k).toArray⟩ := ⟨_, rfl⟩
        obtain ⟨T2, hT2⟩ : ∃ T2 : ByteArray, T2 = ⟨(dg h z).toArray⟩ := ⟨_, rfl⟩
        obtain ⟨M1, hM1⟩ : ∃ M1 : ByteArray, M1 = ⟨(mT n k).toArray⟩ := ⟨_, rfl⟩
        obtain ⟨M2, hM2⟩ : ∃ M2 : ByteArray, M2 = ⟨(mT n z).toArray⟩ := ⟨_, rfl⟩
        obtain ⟨g, hg⟩ : ∃ g, g = gG n k := ⟨_, rfl⟩
        rw [← hT1] at HT1 HM1
        rw [← hT2] at HT2 HM2
        rw [← hM1] at HM1 hto
        rw [← hM2] at HM2 hto
        rw [← hg] at hto hgb
        have HTO1 := Lib.hid hto
        have hN0 : (N : Int) ≠ 0 := by omega
        have q0 : 0 ≤ ((k : Int) + 1) % (N : Int) := Int.emod_nonneg _ (by omega)
        have q1 : ((k : Int) + 1) % (N : Int) < (N : Int) := Int.emod_lt_of_pos _ (by omega)
        by_cases hgt : m < g
        · have HB2 : Hid (bst (gG n) (k + 1) = (some k, g) ∧ M1 = txo n (some k)) := by
            refine ⟨?_, hM1⟩
            simp only [bst]
            rw [HB.out.1, ← hg, if_pos hgt]
          clear hT1 hT2 hM1 hM2 hg hz hto
          go_wp2_with (first | (go_at_call 39; (with_reducible refine (HALL.out _).mono ?_); rintro e w1 ⟨rfl, rfl⟩) | (go_at_call 33; (first | ((with_reducible refine (HT1.out _).mono ?_); rintro e w2 ⟨rfl, b2⟩) | ((with_reducible refine (HT2.out _).mono ?_); rintro e w4 ⟨rfl, b4⟩))) | (go_at_call 40; (first | ((with_reducible refine (HM1.out _).mono ?_); rintro e w3 ⟨rfl, b3⟩) | ((with_reducible refine (HM2.out _).mono ?_); rintro e w5 ⟨rfl, b5⟩))) | (go_at_call 34; (with_reducible refine (HTO1.out _).mono ?_); rintro e w6 ⟨rfl, rfl⟩))
          go_roundw
          case rel => exact ⟨k + 1, some k, g, M1, by omega, by go_num, rfl, rfl, hgb, HB2, chain (chain (chain (chain hbl b2) b3) b4) b5⟩
          case measure => simp [intOf]; omega
        · have HB2 : Hid (bst (gG n) (k + 1) = (o, m) ∧ B = txo n o) := by
            refine ⟨?_, HB.out.2⟩
            simp only [bst]
            rw [HB.out.1, ← hg, if_neg hgt]
          clear hT1 hT2 hM1 hM2 hg hz hto
          go_wp2_with (first | (go_at_call 39; (with_reducible refine (HALL.out _).mono ?_); rintro e w1 ⟨rfl, rfl⟩) | (go_at_call 33; (first | ((with_reducible refine (HT1.out _).mono ?_); rintro e w2 ⟨rfl, b2⟩) | ((with_reducible refine (HT2.out _).mono ?_); rintro e w4 ⟨rfl, b4⟩))) | (go_at_call 40; (first | ((with_reducible refine (HM1.out _).mono ?_); rintro e w3 ⟨rfl, b3⟩) | ((with_reducible refine (HM2.out _).mono ?_); rintro e w5 ⟨rfl, b5⟩))) | (go_at_call 34; (with_reducible refine (HTO1.out _).mono ?_); rintro e w6 ⟨rfl, rfl⟩))
          go_roundw
          case rel => exact ⟨k + 1, o, m, B, by omega, by go_num, rfl, rfl, hm, HB2, chain (chain (chain (chain hbl b2) b3) b4) b5⟩
          case measure => simp [intOf]; omega
      · have HX : Hid (B = gpA (n : Int) ∧ (m : Int) = gpM (n : Int)) := by
          have e1 := HB.out.1
          rw [show k = N by omega, HFIN.out] at e1
          have e2 : some (gR n) = o := congrArg Prod.fst e1
          have e3 : gM n = m := congrArg Prod.snd e1
          exact ⟨by rw [HA.out.1, HB.out.2, e2], by rw [HA.out.2, e3]⟩
        go_wp2_with (go_at_call 39; (with_reducible refine (HALL.out _).mono ?_); rintro e w1 ⟨rfl, rfl⟩)
        go_ret3
        exact ⟨ret_sib HX.out.1 HX.out.2 rfl, hbl⟩
theorem rb_mT (n r : Nat) (hr : r < 10 ^ ((n + 1) / 2)) : rb (Io mir) (mT n r) [] = r := by
  have h := mir_rank (mT n r) (mT_dig n r)
  rw [mT_len] at h
  have e : (mT n r).take ((n + 1) / 2) = dg ((n + 1) / 2) r := by
    unfold mT mirL
    rw [List.take_append_of_le_length (by rw [dg_len]; exact Nat.le_refl _), List.take_of_length_le (by rw [dg_len]; exact Nat.le_refl _)]
  rw [e, nu_dg _ r hr] at h
  rw [h]
  show r + (if bl (mT n r) (mT n r) = true then 1 else 0) = r
  rw [bl_irr]; rfl
theorem nx_mT (n r : Nat) (hr : r < 10 ^ ((n + 1) / 2)) : nx (Io mir) (mT n r) = mT n ((r + 1) % 10 ^ ((n + 1) / 2)) := by
  have hi : Io mir (mT n r) = true := mirL_Io n _ (dg_len _ _) (dg_dig _ _)
  have hc := mir_count n
  have hpos : 0 < 10 ^ ((n + 1) / 2) := by omega
  have hn := nx_rank (Io mir) (mT n r) (mT_dig n r) (by rw [mT_len, hc]; exact hpos)
  have hk : nrk (Io mir) (mT n r) = (r + 1) % 10 ^ ((n + 1) / 2) := by
    unfold nrk
    rw [rb_mT n r hr, hi, mT_len, hc, if_pos rfl]
    by_cases h : r + 1 = 10 ^ ((n + 1) / 2)
    · rw [if_pos h, h, Nat.mod_self]
    · rw [if_neg h, Nat.mod_eq_of_lt (by omega)]
  have ha := mir_at n ((r + 1) % 10 ^ ((n + 1) / 2)) (Nat.mod_lt _ hpos)
  rw [hk, mT_len, ha] at hn
  exact (Option.some.inj hn).symm
theorem mlt_gap (n r : Nat) (h1 : 1 ≤ n) (h9 : n ≤ 9) (hr : r < 10 ^ ((n + 1) / 2)) : mlt (mT n r) (nx (Io mir) (mT n r)) = gG n r := by
  rw [nx_mT n r hr]
  have hg := (gG_all n r h1 h9 hr).2.2.2
  have e := mto_gG n r
  have hlt := nu_lt (mT n r).length (mT n r) rfl (mT_dig n r)
  rw [mT_len] at hlt
  unfold mlt
  unfold mto at e
  rw [mT_len] at e ⊢
  obtain ⟨R, hR⟩ : ∃ R, R = 10 ^ n := ⟨_, rfl⟩
  rw [← hR] at e hlt ⊢
  obtain ⟨x, hx⟩ : ∃ x, x = nu (mT n ((r + 1) % 10 ^ ((n + 1) / 2))) + R - nu (mT n r) - 1 := ⟨_, rfl⟩
  rw [show nu (mT n ((r + 1) % 10 ^ ((n + 1) / 2))) + R - nu (mT n r) = x + 1 by omega] at e
  rw [← hx]
  have hm := Nat.mod_lt x (show 0 < R by omega)
  by_cases hq : x % R + 1 = R
  · exfalso
    have : (x + 1) % R = 0 := by
      rw [Nat.add_mod]
      by_cases hR1 : R = 1
      · subst hR1; omega
      · rw [Nat.mod_eq_of_lt (show 1 < R by omega), hq, Nat.mod_self]
    omega
  · rw [← e, Nat.add_mod]
    rw [Nat.mod_eq_of_lt (show 1 < R by omega), Nat.mod_eq_of_lt (show x % R + 1 < R by omega)]
set_option maxHeartbeats 2000000 in
theorem iGap_any (d : Int) (w : World) :
    Calls Try.prog 16 #[.int .i64 d] w fun e w' => e = .returned (.tuple #[.string (gpA d), .int .i64 (gpM d), .bool (zB d)]) ∧ Below w.heap.size w w' := by
  have HG := Lib.hid (fun W => isDial_any d W)
  cases hb : zB d with
  | false =>
    have HA := Lib.hid (gp_no hb)
    rw [hb] at HG
    clear hb
    go_enter Try.func16, Try.ntmps16
    go_wp2_with (go_at_call 35; (with_reducible refine (HG.out _).mono ?_); rintro e w1 ⟨rfl, rfl⟩)
    go_ret3
    exact ⟨ret_sib HA.out.1.symm HA.out.2.symm rfl, Below.refl _ _⟩
  | true =>
    have hA := gp_yes hb
    rw [hb] at HG
    obtain ⟨n, rfl, h1, h9⟩ := zB_nat hb
    have HPST := Lib.hid (gap_pst n h1 h9)
    obtain ⟨h, hh⟩ : ∃ h, h = (n + 1) / 2 := ⟨_, rfl⟩
    have hh5 : h ≤ 5 := by omega
    have HNB : Hid (∀ j, j ≤ h + 1 → nin j ≤ 1000000) := by
      intro j hj
      have := nin_pow j
      have h2 : (10 : Nat) ^ j ≤ 10 ^ 6 := Nat.pow_le_pow_right (by omega) (by omega)
      omega
    have hg := fun W => cnts_opp mir ⟨#[48, 49, 50, 51, 52, 53, 54, 55, 56, 57]⟩ n W tbl_mir h9
    have HYES : Hid (∀ (j : Nat) W, j ≤ h → Calls Try.prog 41 #[.func (.func 42) #[.string ⟨#[48, 49, 50, 51, 52, 53, 54, 55, 56, 57]⟩] #[], .int .i64 n, .int .i64 (nin j)] W fun e w' => e = .returned (.tuple #[.string ⟨(mT n (nin j)).toArray⟩, .bool true]) ∧ Below W.heap.size W w') := by
      intro j W hj
      have hr : nin j < 10 ^ ((n + 1) / 2) := by
        have := nin_pow j
        have h2 : (10 : Nat) ^ j ≤ 10 ^ ((n + 1) / 2) := Nat.pow_le_pow_right (by omega) (by omega)
        omega
      exact rdRank_any _ _ _ (Io mir) n (nin j) _ (nin j : Int) W ent_count (hg W) h9 rfl (mir_at n (nin j) hr)
    have HNO : Hid (∀ W, Calls Try.prog 41 #[.func (.func 42) #[.string ⟨#[48, 49, 50, 51, 52, 53, 54, 55, 56, 57]⟩] #[], .int .i64 n, .int .i64 (nin (h + 1))] W fun e w' => e = .returned (.tuple #[.string ⟨#[]⟩, .bool false]) ∧ Below W.heap.size W w') := by
      intro W
      refine rdRank_no _ _ _ (Io mir) n (nin (h + 1) : Int) W ent_count (hg W) h9 (.inr ?_)
      rw [mir_count, ← hh]
      have := nin_pow (h + 1)
      rw [Nat.pow_succ] at this
      have h3 : 1 ≤ 10 ^ h := Nat.pos_of_ne_zero (by simp)
      omega
    have HMN : Hid (∀ (j : Nat) W, j ≤ h → Calls Try.prog 36 #[.func (.func 42) #[.string ⟨#[48, 49, 50, 51, 52, 53, 54, 55, 56, 57]⟩] #[], .string ⟨(mT n (nin j)).toArray⟩] W fun e w' => e = .returned (.tuple #[.int .i64 ((gG n (nin j) : Nat) : Int), .bool true]) ∧ Below W.heap.size W w') := by
      intro j W hj
      have hr : nin j < 10 ^ ((n + 1) / 2) := by
        have := nin_pow j
        have h2 : (10 : Nat) ^ j ≤ 10 ^ ((n + 1) / 2) := Nat.pow_le_pow_right (by omega) (by omega)
        omega
      have := milesToNext_any _ _ _ (Io mir) (mT n (nin j)) W ent_count (by rw [mT_len]; exact hg W) (mT_dig _ _) (by rw [mT_len]; exact h1) (by rw [mT_len]; exact h9) (by rw [mT_len, mir_count]; omega)
      rw [mlt_gap n (nin j) h1 h9 hr] at this
      exact this
    have HGB : Hid (∀ k, gG n k ≤ 1000000000) := fun k => Nat.le_trans (gG_le n k) (pow_bd n h9).2
    have HFIN : Hid (pst n (h + 1) = (some (gR n), gM n)) := by show _ = _; rw [hh]; exact HPST.out
    have HA : Hid (gpA (n : Int) = txo n (some (gR n)) ∧ gpM (n : Int) = ((gM n : Nat) : Int)) := ⟨hA.1, hA.2⟩
    have hNS : ∀ j, (nin (j + 1) : Int) = 10 * (nin j : Int) + 9 := by intro j; rw [nin]; push_cast; rfl
    have HNS := Lib.hid hNS
    clear hA HPST hb hh hg hNS
    go_enter Try.func16, Try.ntmps16
    go_wp2_with (go_at_call 35; (with_reducible refine (HG.out _).mono ?_); rintro e w1 ⟨rfl, rfl⟩)
    go_loopg [5, 6, 7] (h + 2) (fun gk bv mv rv wr => ∃ (j r : Nat) (o : Option Nat) (m : Nat) (B : ByteArray), j + gk = h + 2 ∧ j ≤ h + 1 ∧ rv = .int .i64 r ∧ bv = .string B ∧ mv = .int .i64 m ∧ m ≤ 1000000000 ∧ r ≤ 1000000 ∧ Hid (r = nin j ∧ pst n j = (o, m) ∧ B = txo n o) ∧ Below w.heap.size w wr)
    case atStart => exact ⟨0, 0, none, 0, ⟨#[]⟩, by omega, by omega, rfl, rfl, rfl, by omega, by omega, ⟨rfl, rfl, rfl⟩, Below.refl _ _⟩
    case round =>
      obtain ⟨j, r, o, m, B, hjg, hj, rfl, rfl, rfl, hm, hr, HB, hbl⟩ := hrel
      by_cases hlt : j ≤ h
      · have hy := fun W => HYES.out j W hlt
        have hmn := fun W => HMN.out j W hlt
        rw [← HB.out.1] at hy hmn
        have hgb := HGB.out r
        obtain ⟨M1, hM1⟩ : ∃ M1 : ByteArray, M1 = ⟨(mT n r).toArray⟩ := ⟨_, rfl⟩
        obtain ⟨g, hg⟩ : ∃ g, g = gG n r := ⟨_, rfl⟩
        rw [← hM1] at hy hmn
        rw [← hg] at hmn hgb
        have HY := Lib.hid hy
        have HN1 := Lib.hid hmn
        have hnb := HNB.out (j + 1) (by omega)
        obtain ⟨r2, hr2⟩ : ∃ r2, r2 = nin (j + 1) := ⟨_, rfl⟩
        have HNX : Hid ((10 : Int) * (r : Int) + 9 = (r2 : Int)) := by show _ = _; rw [hr2, HNS.out, HB.out.1]
        rw [← hr2] at hnb
        by_cases hgt : m < g
        · have HB2 : Hid (r2 = nin (j + 1) ∧ pst n (j + 1) = (some r, g) ∧ M1 = txo n (some r)) := by
            refine ⟨hr2, ?_, hM1⟩
            simp only [pst]
            rw [HB.out.2.1, ← HB.out.1, ← hg, if_pos hgt]
          clear hM1 hg hy hmn hr2
          go_wp2_with (first | (go_at_call 41; refine (HY.out _).mono ?_; rintro e w1 ⟨rfl, b1⟩) | (go_at_call 36; refine (HN1.out _).mono ?_; rintro e w2 ⟨rfl, b2⟩))
          go_roundg (gk - 1)
          case rel => exact ⟨j + 1, r2, some r, g, M1, by omega, by omega, val_int HNX.out, rfl, rfl, hgb, hnb, HB2, chain (chain hbl b1) b2⟩
          case measure => omega
        · have HB2 : Hid (r2 = nin (j + 1) ∧ pst n (j + 1) = (o, m) ∧ B = txo n o) := by
            refine ⟨hr2, ?_, HB.out.2.2⟩
            simp only [pst]
            rw [HB.out.2.1, ← HB.out.1, ← hg, if_neg hgt]
          clear hM1 hg hy hmn hr2
          go_wp2_with (first | (go_at_call 41; refine (HY.out _).mono ?_; rintro e w1 ⟨rfl, b1⟩) | (go_at_call 36; refine (HN1.out _).mono ?_; rintro e w2 ⟨rfl, b2⟩))
          go_roundg (gk - 1)
          case rel => exact ⟨j + 1, r2, o, m, B, by omega, by omega, val_int HNX.out, rfl, rfl, hm, hnb, HB2, chain (chain hbl b1) b2⟩
          case measure => omega
      · have hn := HNO.out
        have hjh : j = h + 1 := by omega
        rw [← hjh, ← HB.out.1] at hn
        have HN1 := Lib.hid hn
        have HX : Hid (B = gpA (n : Int) ∧ (m : Int) = gpM (n : Int)) := by
          have e1 := HB.out.2.1
          rw [hjh, HFIN.out] at e1
          have e2 : some (gR n) = o := congrArg Prod.fst e1
          have e3 : gM n = m := congrArg Prod.snd e1
          exact ⟨by rw [HA.out.1, HB.out.2.2, e2], by rw [HA.out.2, e3]⟩
        clear hn hjh
        go_wp2_with (go_at_call 41; refine (HN1.out _).mono ?_; rintro e w1 ⟨rfl, b1⟩)
        go_ret3
        exact ⟨ret_sib HX.out.1 HX.out.2 rfl, chain hbl b1⟩
set_option maxHeartbeats 1000000 in
theorem FnExactGreatestGapMirrored_law (p0 : Int) (_hp0 : (Lit.int .i64 p0).wf = true) (w : World) :
    Calls Try.prog 5 #[.int .i64 p0] w fun e w' => e = .returned (.bool true) ∧ Below w.heap.size w w' := by
  have hs1 : ∀ W, Calls Try.prog 15 #[.int .i64 p0] W fun e w' => e = .returned (.tuple #[.string (gpA p0), .int .i64 (gpM p0), .bool (zB p0)]) ∧ Below W.heap.size W w' := fun W => sGap_any p0 W
  have hi1 : ∀ W, Calls Try.prog 16 #[.int .i64 p0] W fun e w' => e = .returned (.tuple #[.string (gpA p0), .int .i64 (gpM p0), .bool (zB p0)]) ∧ Below W.heap.size W w' := fun W => iGap_any p0 W
  obtain ⟨A0, hA0⟩ : ∃ A0 : ByteArray, A0 = gpA p0 := ⟨_, rfl⟩
  obtain ⟨A1, hA1⟩ : ∃ A1 : Int, A1 = gpM p0 := ⟨_, rfl⟩
  obtain ⟨A2, hA2⟩ : ∃ A2 : Bool, A2 = zB p0 := ⟨_, rfl⟩
  rw [← hA0, ← hA1, ← hA2] at hs1 hi1
  have HS := Lib.hid hs1
  have HI := Lib.hid hi1
  clear hs1 hi1 hA0 hA1 hA2
  go_enter Try.func5, Try.ntmps5
  go_wp2_with (first | (go_at_call 15; (with_reducible refine (HS.out _).mono ?_); rintro e w1 ⟨rfl, b1⟩) | (go_at_call 16; (with_reducible refine (HI.out _).mono ?_); rintro e w2 ⟨rfl, b2⟩))
  go_ret
  exact ⟨rfl, chain b1 b2⟩
end Go.Proofs.Ytlkeemnnncnibab
