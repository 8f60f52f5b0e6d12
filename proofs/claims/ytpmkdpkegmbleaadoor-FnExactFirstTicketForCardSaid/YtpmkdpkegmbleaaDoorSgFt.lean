/-
  The first ticket whose digits make a number.
-/
import Derived.Test.YtpmkdpkegmbleaaDoorSgTon
namespace Go.Proofs.YtpmkdpkegmbleaaDoor
open Go.RowKit

/-- Some signs between the digits make the number. -/
def hit (x : Int) (t : List UInt8) : Bool := (allK false t (t.length - 1)).any (fun s => sval s == x)
/-- The first of k texts from n on. -/
def ftR (d : Nat) (x : Int) : Nat → Nat → Option (List UInt8)
  | 0, _ => none
  | k + 1, n => if hit x (lw n d) = true then some (lw n d) else ftR d x k (n + 1)
def ftO (d : Nat) (x : Int) : Option (List UInt8) := ftR d x (10 ^ d) 0
theorem ft_step {d : Nat} {x : Int} {p m : Nat} {o : Option (List UInt8)} (hm : m < p) (h : ftR d x (p - m) m = o) (hh : hit x (lw m d) = false) : ftR d x (p - (m + 1)) (m + 1) = o := by
  rw [show p - m = (p - (m + 1)) + 1 by omega, ftR, if_neg (by simp [hh])] at h; exact h
theorem ft_hit {d : Nat} {x : Int} {p m : Nat} {o : Option (List UInt8)} (hm : m < p) (h : ftR d x (p - m) m = o) (hh : hit x (lw m d) = true) : o = some (lw m d) := by
  rw [show p - m = (p - (m + 1)) + 1 by omega, ftR, if_pos hh] at h; exact h.symm
theorem ft_end {d : Nat} {x : Int} {p m : Nat} {o : Option (List UInt8)} (hm : ¬ m < p) (h : ftR d x (p - m) m = o) : o = none := by
  rw [show p - m = 0 by omega, ftR] at h; exact h.symm
theorem any_drop {α : Type} (p : α → Bool) (ts : List α) (k : Nat) (hk : k < ts.length) : (ts.drop k).any p = (p ts[k] || (ts.drop (k + 1)).any p) := by
  rw [List.drop_eq_getElem_cons hk]; rfl
theorem dc_dg (u : Nat) (h : u ≤ 9) : dgB (dc u) = true := by
  rw [dgB_iff]
  have : (dc u).toNat = 48 + u := by unfold dc; simp; omega
  omega
theorem lw_dig (n k : Nat) : digB (lw n k) = true := by
  induction k with
  | zero => rfl
  | succ k ih =>
    have e : digB (lw n (k + 1)) = (dgB (dc (dt n k)) && digB (lw n k)) := by simp [digB, lw]
    rw [e, ih, dc_dg _ (dt_le n k)]; rfl
theorem lw_dgs (n d : Nat) (h1 : 1 ≤ d) (h7 : d ≤ 7) : dgsB (lw n d) = true := by
  unfold dgsB
  rw [lw_len, lw_dig, decide_eq_true ⟨by omega, by omega⟩]; rfl
theorem lead (d : Nat) : ∀ n : Nat, n < 10 ^ d → Lib.decDigits (10 ^ d + n) = 49 :: lw n d := by
  induction d with
  | zero =>
    intro n h
    have : n = 0 := by simpa using h
    subst this
    rw [dec_small (by decide)]; rfl
  | succ d ih =>
    intro n h
    have hn : n / 10 < 10 ^ d := by
      rw [Nat.div_lt_iff_lt_mul (by omega)]
      rwa [Nat.pow_succ] at h
    have hp : 0 < 10 ^ d := Nat.pow_pos (by omega)
    obtain ⟨q, hq⟩ : ∃ q, q = 10 ^ d := ⟨_, rfl⟩
    have e1 : (10 ^ (d + 1) + n) / 10 = 10 ^ d + n / 10 := by rw [Nat.pow_succ, ← hq]; omega
    have e2 : (10 ^ (d + 1) + n) % 10 = n % 10 := by rw [Nat.pow_succ, ← hq]; omega
    have e3 : ¬ 10 ^ (d + 1) + n < 10 := by rw [Nat.pow_succ, ← hq]; omega
    rw [dec_big e3, e1, e2, ih _ hn, lw_up]; rfl
theorem in_yes (n lo hi : Int) (h1 : lo ≤ n) (h2 : n ≤ hi) (w : World) :
    Calls Tryd.prog 6 #[.int .i64 n, .int .i64 lo, .int .i64 hi] w fun e w' => e = .returned (.bool true) ∧ w = w' := by
  have := in_any n lo hi w
  rwa [decide_eq_true (show lo ≤ n ∧ n ≤ hi from ⟨h1, h2⟩)] at this
theorem in_no (n lo hi : Int) (h : ¬ (lo ≤ n ∧ n ≤ hi)) (w : World) :
    Calls Tryd.prog 6 #[.int .i64 n, .int .i64 lo, .int .i64 hi] w fun e w' => e = .returned (.bool false) ∧ w = w' := by
  have := in_any n lo hi w
  rwa [decide_eq_false h] at this
theorem num_T (n : Nat) (T : ByteArray) (x : Int) (w : World) (hT : T = ⟨(Lib.decDigits n).toArray⟩) (hx : x = (n : Int)) (hn : n ≤ 1000000) :
    Calls Tryd.prog 7 #[.int .i64 x] w fun e w' => e = .returned (.string T) ∧ Below w.heap.size w w' := by
  subst hT; exact l1Num_dec n x w hx hn
theorem dof_lw (d m : Nat) (U : ByteArray) (w : World) (hU : U = ⟨(lw m d).toArray⟩) (hm : m < 10 ^ d) (h1 : 1 ≤ d) (h4 : d ≤ 4) (htab : Lib.TabIs Tryd.prog w "internal/strconv.uint64pow10" .u64 Lib.pow10Tab) :
    Calls Tryd.prog 12 #[.int .i64 (m : Int), .int .i64 (d : Int)] w fun e w' => e = .returned (.string U) ∧ Below w.heap.size w w' := by
  obtain ⟨k, rfl⟩ : ∃ k, d = k + 1 := ⟨d - 1, by omega⟩
  obtain ⟨e1, e2⟩ := dec_fits k m hm
  have hb : 10 ^ (k + 1) ≤ 10 ^ 4 := Nat.pow_le_pow_right (by omega) h4
  have h0 : (0 : Int) ≤ (m : Int) := by omega
  rw [hU, e2]
  exact dof_fit _ (m : Int) (Lib.decDigits m) (k + 1 - (Lib.decDigits m).length) h0 (by omega) (by simp) (by omega) (by omega) (by omega) w htab
theorem itoa_U (m : Nat) (D : List UInt8) (hm : m ≤ 1000000) (hD : D = Lib.decDigits m) (w : World) (htab : Lib.TabIs Tryd.prog w "internal/strconv.uint64pow10" .u64 Lib.pow10Tab) :
    Calls Tryd.prog 11 #[.int .i64 (m : Int)] w fun e w' => e = .returned (.string ⟨D.toArray⟩) ∧ Below w.heap.size w w' :=
  itoa_at (m : Int) D (by omega) (by omega) (by simpa using hD) w htab
theorem clv2 (q : Sr) (t : List UInt8) (x : Int) (w : World) (hq : q = sr t) (hn : (rk t).Fine) (hx : sval t = x) :
    Calls Tryd.prog 14 #[.agg #[.int .i64 q.1.S, .int .i64 q.1.P, .int .i64 q.1.N, .int .i64 q.2]] w fun e w' => e = .returned (.int .i64 x) ∧ w' = w.alloc (.cells #[.int .i64 q.1.S, .int .i64 q.1.P, .int .i64 q.1.N, .int .i64 q.2] 35) := by
  subst hq; subst hx
  have a3 := hn.s
  have a5 := hn.pn
  exact value_at (rk t).S (rk t).P (rk t).N (nSg t) ((rk t).P * (rk t).N) w rfl ⟨by omega, by omega⟩ ⟨by omega, by omega⟩
theorem pow_le4 {j : Nat} (h : j ≤ 4) : 10 ^ j ≤ 10000 := Nat.le_trans (Nat.pow_le_pow_right (by omega) h) (by decide)
set_option maxRecDepth 100000 in
set_option maxHeartbeats 4000000 in
theorem sFt_core (d : Nat) (x : Int) (w : World) (h1 : 1 ≤ d) (h4 : d ≤ 4) (hx1 : -100000000 ≤ x) (hx2 : x ≤ 100000000) :
    Calls Tryd.prog 4 #[.int .i64 (d : Int), .int .i64 x] w fun e w' => e = .returned (.tuple #[.string (oT (ftO d x)), .bool (oB (ftO d x))]) ∧ Below w.heap.size w w' := by
  have I1 : Hid (∀ W, Calls Tryd.prog 6 #[.int .i64 (d : Int), .int .i64 1, .int .i64 4] W fun e w' => e = .returned (.bool true) ∧ W = w') := fun W => in_yes _ _ _ (by omega) (by omega) W
  have I2 : Hid (∀ W, Calls Tryd.prog 6 #[.int .i64 x, .int .i64 (-100000000), .int .i64 100000000] W fun e w' => e = .returned (.bool true) ∧ W = w') := fun W => in_yes _ _ _ hx1 hx2 W
  have H1 := Lib.hid h1
  clear hx1 hx2
  go_enter Tryd.func4, Tryd.ntmps4
  go_wp2_with (go_at_call 6; first | (with_reducible refine (I1.out _).mono ?_; rintro e w' ⟨rfl, rfl⟩) | (with_reducible refine (I2.out _).mono ?_; rintro e w' ⟨rfl, rfl⟩))
  go_loopw [6, 7] (fun a k wr => ∃ (j p : Nat), j ≤ d ∧ k = .int .i64 j ∧ Hid (p = 10 ^ j) ∧ p ≤ 10000 ∧ a = .int .i64 p ∧ Below w.heap.size w wr) (fun _ k _ => d - (intOf k).toNat)
  case atStart => exact ⟨0, 1, Nat.zero_le _, rfl, rfl, by omega, rfl, Below.refl _ _⟩
  case round =>
    obtain ⟨j, p, hj, rfl, hp, hpl, rfl, hb0⟩ := hrel
    obtain ⟨wi, rfl⟩ : ∃ wi : World, wi = wr := ⟨_, rfl⟩
    by_cases hlt : j < d
    · have hp2 : Hid (p * 10 = 10 ^ (j + 1)) := by show _ = _; rw [Nat.pow_succ, hp.out]
      have hp3 : p * 10 ≤ 10000 := by rw [hp2.out]; exact pow_le4 (by omega)
      go_wp2
      go_roundw
      case rel => exact ⟨j + 1, p * 10, by omega, by go_num, hp2, hp3, by go_num, hb0⟩
      case measure => simp [intOf]; omega
    · have hpd : Hid (p = 10 ^ d) := by show _ = _; rw [hp.out, show j = d by omega]
      have hlt2 : ¬ (j : Int) < (d : Int) := by omega
      have H0 : Hid (ftR d x (p - 0) 0 = ftO d x) := by show _ = _; rw [Nat.sub_zero, hpd.out]; rfl
      go_wp2
      go_loopw [8] (fun n wr => ∃ (m : Nat), m ≤ p ∧ n = .int .i64 m ∧ Hid (ftR d x (p - m) m = ftO d x) ∧ Below w.heap.size w wr) (fun n _ => p - (intOf n).toNat)
      case atStart => exact ⟨0, Nat.zero_le _, rfl, H0, hb0⟩
      case round =>
        obtain ⟨m, hm, rfl, hr, hbl⟩ := hrel
        obtain ⟨wo, rfl⟩ : ∃ wo : World, wo = wr := ⟨_, rfl⟩
        have hws := hbl.size
        by_cases hmp : m < p
        · obtain ⟨l, hl⟩ : ∃ l, l = lw m d := ⟨_, rfl⟩
          obtain ⟨T, hT⟩ : ∃ T : ByteArray, T = ⟨(49 :: l).toArray⟩ := ⟨_, rfl⟩
          obtain ⟨U, hU⟩ : ∃ U : ByteArray, U = ⟨l.toArray⟩ := ⟨_, rfl⟩
          have hll : l.length = d := by rw [hl, lw_len]
          have hTs : T.size = d + 1 := by rw [hT, ← hll]; simp [ByteArray.size]
          have hUl : U.data.toList = l := by rw [hU]
          have hUs : U.size = d := by rw [hU, ← hll]; simp [ByteArray.size]
          have hTU : T.extract 1 (d + 1) = U := by
            apply ByteArray.ext
            apply Array.ext'
            rw [hT, hU, ← hll]
            simp [ByteArray.data_extract, List.extract_eq_take_drop]
          have HT : Hid (T = ⟨(Lib.decDigits (p + m)).toArray⟩) := by
            show _ = _
            rw [hpd.out, lead d m (by rw [← hpd.out]; exact hmp), ← hl, hT]
          have HQ : Hid ((p : Int) + (m : Int) = ((p + m : Nat) : Int)) := by show _ = _; omega
          have hpm : p + m ≤ 1000000 := by omega
          have HPM := Lib.hid hpm
          have HL := Lib.hid hl
          have HU := Lib.hid hU
          have HG : Hid (dgsB U.data.toList = true) := by show _ = _; rw [hUl, hl]; exact lw_dgs m d h1 (by omega)
          obtain ⟨ts, hts⟩ : ∃ ts, ts = allK false U.data.toList (U.size - 1) := ⟨_, rfl⟩
          have HTS := Lib.hid hts
          have HH : Hid (ts.any (fun s => sval s == x) = hit x (lw m d)) := by show _ = _; unfold hit; rw [hts, hUs, hUl, ← hl, hll]
          have hn : ts.length ≤ 4096 := by rw [hts]; exact allK_len_le _ _ _ (by omega)
          have hn0 : 0 < ts.length := by rw [hts, allK_len]; exact Nat.pow_pos (sgsN_pos false)
          have hUS := Lib.hid hUs
          obtain ⟨n, hnn⟩ : ∃ n, n = ts.length := ⟨_, rfl⟩
          have HN := Lib.hid hnn
          clear hl hT hU hUl hts hll hpm hUs
          go_wp2_with (first | (go_at_call 7; go_must ((with_reducible refine (num_T (p + m) T _ _ HT.out HQ.out HPM.out).mono ?_); rintro e w1 ⟨rfl, b1⟩; have B1 := chain hbl b1; have hs1 := b1.size; clear b1)) | (go_at_call 8; go_must ((with_reducible refine (sAll_any _ _ _ HG.out).mono ?_); rintro e w2 ⟨v, rfl, hst, b2⟩; rw [← HTS.out] at hst; have B2 := chain B1 b2; have hs2 := b2.size; clear b2; rcases hst.form with ⟨_, h0⟩ | ⟨g, cap, rfl, _, hgl, hc, _⟩; (exfalso; omega))))
          rw [← hnn]
          rw [← hnn] at hn hc
          have HC := Lib.hid hc
          clear hst hc hnn
          go_loopw [40] (fun i wq => ∃ (k : Nat), k ≤ n ∧ i = .int .i64 k ∧ Hid ((ts.drop k).any (fun s => sval s == x) = hit x (lw m d)) ∧ Below w2.heap.size w2 wq) (fun i _ => n - (intOf i).toNat)
          case atStart => exact ⟨0, Nat.zero_le _, rfl, by show _ = _; rw [List.drop_zero]; exact HH.out, Below.refl _ _⟩
          case round =>
            obtain ⟨k, hk, rfl, HD, hbq⟩ := hrel
            obtain ⟨wp, rfl⟩ : ∃ wp : World, wp = wr := ⟨_, rfl⟩
            have hqs := hbq.size
            by_cases hlt3 : k < n
            · obtain ⟨t, ht⟩ : ∃ t, t = ts.getD k [] := ⟨_, rfl⟩
              have hck : wp.cell? ⟨g, k, none⟩ = some (.string ⟨t.toArray⟩) := by
                rw [(hbq.cell (p := ⟨g, k, none⟩) hgl), HC.out k hlt3, ht]; rfl
              have hkl : k < ts.length := by rw [← HN.out]; exact hlt3
              have HTT : Hid (t = ts[k]) := by
                show _ = _
                rw [ht, List.getD_eq_getElem?_getD, List.getElem?_eq_getElem hkl]; rfl
              have HNI : Hid (sigB t = true) := by
                have hm : t ∈ ts := by rw [HTT.out]; exact List.getElem_mem _
                rw [HTS.out] at hm
                have hul : U.data.toList.length = U.size := by simp
                rw [← hul] at hm
                exact nice_sig (allK_sig HG.out t hm) (by rw [hul, hUS.out]; omega)
              have HE := Lib.hid (any_drop (fun s => sval s == x) ts k hkl)
              clear ht
              by_cases hv : sval t = x
              · have HO : Hid (ftO d x = some l) := by
                  show _ = _
                  rw [HL.out]
                  refine ft_hit hmp hr.out ?_
                  rw [← HD.out, HE.out, ← HTT.out]; simp [hv]
                have HV := Lib.hid hv
                clear hv
                go_wp2_with (first | (go_at_call 9; go_must ((with_reducible refine (sval_t _ _ HNI.out).mono ?_); rintro e w' ⟨rfl, rfl⟩; have hvv := HV.out)))
                go_ret2
                exact ⟨ret_sb2 (by rw [HO.out, HU.out]; rfl) (by rw [HO.out]; rfl), chain B2 hbq⟩
              · have HD2 : Hid ((ts.drop (k + 1)).any (fun s => sval s == x) = hit x (lw m d)) := by
                  show _ = _
                  rw [← HD.out, HE.out, ← HTT.out]; simp [hv]
                have HV := Lib.hid hv
                clear hv
                go_wp2_with (first | (go_at_call 9; go_must ((with_reducible refine (sval_t _ _ HNI.out).mono ?_); rintro e w' ⟨rfl, rfl⟩; have hvv := HV.out)))
                go_roundw
                case rel => exact ⟨k + 1, by omega, by go_num, HD2, hbq⟩
                case measure => simp [intOf]; omega
            · have HM : Hid (ftR d x (p - (m + 1)) (m + 1) = ftO d x) := by
                show _ = _
                refine ft_step hmp hr.out ?_
                rw [← HD.out, List.drop_eq_nil_of_le (by rw [← HN.out]; omega)]; rfl
              go_wp2
              go_roundw
              case rel => exact ⟨m + 1, by omega, by go_num, HM, chain B2 hbq⟩
              case measure => simp [intOf]; omega
        · have HO : Hid (ftO d x = none) := ft_end hmp hr.out
          go_wp2
          go_ret2
          exact ⟨ret_sb2 (by rw [HO.out]; rfl) (by rw [HO.out]; rfl), hbl⟩
end Go.Proofs.YtpmkdpkegmbleaaDoor
