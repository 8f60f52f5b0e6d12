/-
  The law of FirstTicketFor.
-/
import Derived.Test.YtpmkdpkegmbleaaDoorSgFt
import Derived.WalkMore
namespace Go.Proofs.YtpmkdpkegmbleaaDoor
open Go.RowKit

theorem ne_em (U : ByteArray) (h : 1 ≤ U.size) : (!U.toList.isEmpty) = true := by
  have e : U.toList = U.data.toList := ByteArray.toList_eq U
  rw [e]
  have : U.data.toList.length = U.size := by simp
  cases hl : U.data.toList with
  | nil => rw [hl] at this; simp at this; omega
  | cons a b => rfl
set_option maxRecDepth 100000 in
set_option maxHeartbeats 4000000 in
theorem iFt_core (d : Nat) (x : Int) (w : World) (h1 : 1 ≤ d) (h4 : d ≤ 4) (hx : numB x = true) (htab : Lib.TabIs Tryd.prog w "internal/strconv.uint64pow10" .u64 Lib.pow10Tab) :
    Calls Tryd.prog 5 #[.int .i64 (d : Int), .int .i64 x] w fun e w' => e = .returned (.tuple #[.string (oT (ftO d x)), .bool (oB (ftO d x))]) ∧ Below w.heap.size w w' := by
  have HX := Lib.hid hx
  have HTAB := Lib.hid htab
  have H1 := Lib.hid h1
  obtain ⟨p, hp⟩ : ∃ p, p = 10 ^ d := ⟨_, rfl⟩
  have HP := Lib.hid hp
  have hpl : p ≤ 10000 := by rw [hp]; exact pow_le4 h4
  have H0 : Hid (ftR d x (p - 0) 0 = ftO d x) := by show _ = _; rw [Nat.sub_zero, hp]; rfl
  clear hx htab hp
  go_enter Tryd.func5, Tryd.ntmps5
  go_wp2
  go_step3
  go_wp2_with (first | (go_at_call 10; go_must ((with_reducible refine (num_b _ true _ HX.out).mono ?_); rintro e w' ⟨rfl, rfl⟩)))
  go_step3
  go_wp2
  go_loopw [6, 7] (fun f n wr => ∃ (m : Nat), m ≤ p ∧ f = .string ⟨#[]⟩ ∧ n = .int .i64 m ∧ Hid (ftR d x (p - m) m = ftO d x) ∧ Below w.heap.size w wr) (fun _ n _ => p - (intOf n).toNat)
  case atStart => exact ⟨0, Nat.zero_le _, rfl, rfl, H0, Below.refl _ _⟩
  case round =>
    obtain ⟨m, hm, rfl, rfl, hr, hbl⟩ := hrel
    obtain ⟨wo, rfl⟩ : ∃ wo : World, wo = wr := ⟨_, rfl⟩
    have hws := hbl.size
    obtain ⟨D, hD⟩ : ∃ D, D = Lib.decDigits m := ⟨_, rfl⟩
    have HDD := Lib.hid hD
    have hm2 : m ≤ 1000000 := by omega
    have HM2 := Lib.hid hm2
    by_cases hmp : m < p
    · have hDl : D.length ≤ d := by
        obtain ⟨k, hk⟩ : ∃ k, d = k + 1 := ⟨d - 1, by omega⟩
        have := (dec_fits k m (by rw [← hk, ← HP.out]; exact hmp)).1
        rw [hD, hk]; exact this
      have hDi : (D.length : Int) ≤ (d : Int) := by omega
      obtain ⟨l, hl⟩ : ∃ l, l = lw m d := ⟨_, rfl⟩
      obtain ⟨U, hU⟩ : ∃ U : ByteArray, U = ⟨l.toArray⟩ := ⟨_, rfl⟩
      have hll : l.length = d := by rw [hl, lw_len]
      have hUl : U.data.toList = l := by rw [hU]
      have hUs : U.size = d := by rw [hU, ← hll]; simp [ByteArray.size]
      have HL := Lib.hid hl
      have HU := Lib.hid hU
      have HUL : Hid (U = ⟨(lw m d).toArray⟩) := by show _ = _; rw [hU, hl]
      have HG : Hid (dgsB U.data.toList = true) := by show _ = _; rw [hUl, hl]; exact lw_dgs m d h1 (by omega)
      obtain ⟨rs, hrs⟩ : ∃ rs, rs = (allK false U.data.toList (U.size - 1)).map sr := ⟨_, rfl⟩
      have HRS := Lib.hid hrs
      have HH : Hid (rs.any (fun q => q.1.val == x) = hit x (lw m d)) := by
        show _ = _
        unfold hit
        rw [hrs, hUs, hUl, ← hl, hll, List.any_map]; rfl
      have hn : rs.length ≤ 4096 := by rw [hrs, List.length_map]; exact allK_len_le _ _ _ (by omega)
      have hn0 : 0 < rs.length := by rw [hrs, List.length_map, allK_len]; exact Nat.pow_pos (sgsN_pos false)
      have HPOS := Lib.hid hn0
      have HEL : Hid (∀ q ∈ rs, ∃ t, q = sr t ∧ (rk t).Fine) := by
        intro q hq
        rw [hrs, List.mem_map] at hq
        obtain ⟨t, ht, rfl⟩ := hq
        have hul : U.data.toList.length = U.size := by simp
        rw [← hul] at ht
        have hni := allK_sig HG.out t ht
        exact ⟨t, rfl, hni.fine (by rw [hul, hUs]; omega)⟩
      have hUne : ¬ U = ⟨#[]⟩ := by
        intro e
        have : U.size = 0 := by rw [e]; rfl
        omega
      have HUN := Lib.hid hUne
      have HUS := Lib.hid hUs
      obtain ⟨n, hnn⟩ : ∃ n, n = rs.length := ⟨_, rfl⟩
      have HN := Lib.hid hnn
      have HMP : Hid (m < 10 ^ d) := by show _ < _; rw [← HP.out]; exact hmp
      have HT0 : Hid (Lib.TabIs Tryd.prog wo "internal/strconv.uint64pow10" .u64 Lib.pow10Tab) := tab_below HTAB.out hbl
      clear hl hU hUl hrs hll hUs hD hUne hm2
      go_wp2_with (first | (go_at_call 11; go_must ((with_reducible refine (itoa_U m D HM2.out HDD.out _ (tab_below HT0.out (by go_grown))).mono ?_); rintro e w1 ⟨rfl, b1⟩; have B1 := chain hbl b1; have hs1 := b1.size; have HT1 := Lib.hid (tab_below HT0.out b1); clear b1)) | (go_at_call 12; go_must ((with_reducible refine (dof_lw d m U _ HUL.out HMP.out H1.out h4 HT1.out).mono ?_); rintro e w2 ⟨rfl, b2⟩; have B2 := chain B1 b2; have hs2 := b2.size; clear b2)) | (go_at_call 13; go_must ((with_reducible refine (rec_any U _ false _ HG.out (by decide)).mono ?_); rintro e w3 ⟨v, rfl, hrk, b3⟩; rw [← HRS.out] at hrk; obtain ⟨ga, capa, rfl, hga, hgl, hc⟩ := hrk.form HPOS.out; have B3 := chain B2 b3; have hs3 := b3.size; clear b3)))
      rw [← hnn]
      rw [← hnn] at hn
      have HC := Lib.hid hc
      clear hrk hc hnn
      go_loopw [6, 35] (fun f i wq => ∃ (k : Nat), k ≤ n ∧ f = .string ⟨#[]⟩ ∧ i = .int .i64 k ∧ Hid ((rs.drop k).any (fun q => q.1.val == x) = hit x (lw m d)) ∧ Hid (∀ i (hi : i < rs.length), Rat wq ga i rs[i]) ∧ ga < wq.heap.size ∧ Below w.heap.size w wq) (fun _ i _ => n - (intOf i).toNat)
      case atStart => exact ⟨0, Nat.zero_le _, rfl, rfl, by show _ = _; rw [List.drop_zero]; exact HH.out, HC.out, hgl, B3⟩
      case round =>
        obtain ⟨k, hk, rfl, rfl, HD, HA, hgl2, hbq⟩ := hrel
        obtain ⟨wp, rfl⟩ : ∃ wp : World, wp = wr := ⟨_, rfl⟩
        have hqs := hbq.size
        by_cases hlt3 : k < n
        · have hlr : k < rs.length := by rw [← HN.out]; exact hlt3
          obtain ⟨q, hq⟩ : ∃ q, q = rs[k] := ⟨_, rfl⟩
          have hat := HA.out k hlr
          rw [← hq] at hat
          obtain ⟨ha0, ha1, ha2, ha3⟩ := hat
          obtain ⟨t, ht, hf⟩ := HEL.out q (by rw [hq]; exact List.getElem_mem _)
          obtain ⟨y, hy⟩ : ∃ y, sval t = y := ⟨_, rfl⟩
          have HQT := Lib.hid ht
          have HF := Lib.hid hf
          have HY := Lib.hid hy
          have HQV : Hid (q.1.val = y) := by show _ = _; rw [ht, ← hy]; rfl
          have HE := Lib.hid (any_drop (fun q : Sr => q.1.val == x) rs k hlr)
          have HQ := Lib.hid hq
          clear hq ht hf hy
          by_cases hv : y = x
          · have HO : Hid (ftO d x = some l) := by
              show _ = _
              rw [HL.out]
              refine ft_hit hmp hr.out ?_
              rw [← HD.out, HE.out, ← HQ.out, HQV.out]; simp [hv]
            go_wp2_with (first | (go_at_call 14; go_must ((with_reducible refine (clv2 q t y _ HQT.out HF.out HY.out).mono ?_); rintro e w2 ⟨rfl, rfl⟩)))
            rw [Exit.noGoto_ret]
            go_ret2
            exact ⟨ret_sb2 (by rw [HO.out, HU.out]; rfl) (by rw [HO.out, ne_em U (by rw [HUS.out]; exact H1.out)]; rfl), by go_grown⟩
          · have HD2 : Hid ((rs.drop (k + 1)).any (fun q => q.1.val == x) = hit x (lw m d)) := by
              show _ = _
              rw [← HD.out, HE.out, ← HQ.out, HQV.out]; simp [hv]
            go_wp2_with (first | (go_at_call 14; go_must ((with_reducible refine (clv2 q t y _ HQT.out HF.out HY.out).mono ?_); rintro e w2 ⟨rfl, rfl⟩)))
            go_roundw
            case rel => exact ⟨k + 1, by omega, rfl, by go_num, HD2, fun i hi => (HA.out i hi).below (show Below wp.heap.size wp _ by go_grown) hgl2, by go_num, by go_grown⟩
            case measure => simp [intOf]; omega
        · have HM : Hid (ftR d x (p - (m + 1)) (m + 1) = ftO d x) := by
            show _ = _
            refine ft_step hmp hr.out ?_
            rw [← HD.out, List.drop_eq_nil_of_le (by rw [← HN.out]; omega)]; rfl
          go_wp2
          go_roundw
          case rel => exact ⟨m + 1, by omega, rfl, by go_num, HM, hbq⟩
          case measure => simp [intOf]; omega
    · have HO : Hid (ftO d x = none) := ft_end hmp hr.out
      have hDl : d < D.length := by rw [hD]; exact dec_no (by rw [← HP.out]; exact hmp)
      have hDi : ¬ (D.length : Int) ≤ (d : Int) := by omega
      have HT0 : Hid (Lib.TabIs Tryd.prog wo "internal/strconv.uint64pow10" .u64 Lib.pow10Tab) := tab_below HTAB.out hbl
      clear hD hm2
      go_wp2_with (first | (go_at_call 11; go_must ((with_reducible refine (itoa_U m D HM2.out HDD.out _ (tab_below HT0.out (by go_grown))).mono ?_); rintro e w1 ⟨rfl, b1⟩; have B1 := chain hbl b1; clear b1)))
      rw [Exit.noGoto_ret]
      go_ret2
      exact ⟨ret_sb2 (by rw [HO.out]; rfl) (by rw [HO.out]; rfl), B1⟩
/-- What both answer. -/
def ftA (d x : Int) : Option (List UInt8) := if 1 ≤ d ∧ d ≤ 4 ∧ numB x = true then ftO d.toNat x else none
theorem ftA_no {d x : Int} (h : ¬ (1 ≤ d ∧ d ≤ 4 ∧ numB x = true)) : ftA d x = none := if_neg h
theorem iFt_any (d x : Int) (w : World) (htab : Lib.TabIs Tryd.prog w "internal/strconv.uint64pow10" .u64 Lib.pow10Tab) :
    Calls Tryd.prog 5 #[.int .i64 d, .int .i64 x] w fun e w' => e = .returned (.tuple #[.string (oT (ftA d x)), .bool (oB (ftA d x))]) ∧ Below w.heap.size w w' := by
  by_cases h : 1 ≤ d ∧ d ≤ 4 ∧ numB x = true
  · have e : ftA d x = ftO d.toNat x := if_pos h
    obtain ⟨h1, h2, h3⟩ := h
    rw [e]
    have := iFt_core d.toNat x w (by omega) (by omega) h3 htab
    rwa [show ((d.toNat : Nat) : Int) = d by omega] at this
  · rw [ftA_no h]
    clear htab
    by_cases h1 : d < 1
    · clear h
      go_enter Tryd.func5, Tryd.ntmps5
      go_wp2
      go_step3
      go_wp2_with fail
      rw [Exit.noGoto_ret]
      go_ret2
      exact ⟨rfl, Below.refl _ _⟩
    · by_cases h2 : 4 < d
      · clear h
        go_enter Tryd.func5, Tryd.ntmps5
        go_wp2
        go_step3
        go_wp2_with fail
        rw [Exit.noGoto_ret]
        go_ret2
        exact ⟨rfl, Below.refl _ _⟩
      · have HX : Hid (numB x = false) := by
          show _ = _
          cases hb : numB x with
          | false => rfl
          | true => exact absurd ⟨by omega, by omega, hb⟩ h
        clear h
        go_enter Tryd.func5, Tryd.ntmps5
        go_wp2
        go_step3
        go_wp2_with (first | (go_at_call 10; go_must ((with_reducible refine (num_b _ false _ HX.out).mono ?_); rintro e w' ⟨rfl, rfl⟩)))
        rw [Exit.noGoto_ret]
        go_ret2
        exact ⟨rfl, Below.refl _ _⟩
theorem sFt_any (d x : Int) (w : World) :
    Calls Tryd.prog 4 #[.int .i64 d, .int .i64 x] w fun e w' => e = .returned (.tuple #[.string (oT (ftA d x)), .bool (oB (ftA d x))]) ∧ Below w.heap.size w w' := by
  by_cases h : 1 ≤ d ∧ d ≤ 4 ∧ numB x = true
  · have e : ftA d x = ftO d.toNat x := if_pos h
    obtain ⟨h1, h2, h3⟩ := h
    rw [e]
    have hb : -100000000 ≤ x ∧ x ≤ 100000000 := by simpa [numB] using h3
    have := sFt_core d.toNat x w (by omega) (by omega) hb.1 hb.2
    rwa [show ((d.toNat : Nat) : Int) = d by omega] at this
  · rw [ftA_no h]
    by_cases h1 : 1 ≤ d ∧ d ≤ 4
    · have hb : ¬ (-100000000 ≤ x ∧ x ≤ 100000000) := fun hb => h ⟨h1.1, h1.2, by simpa [numB] using hb⟩
      have I1 : Hid (∀ W, Calls Tryd.prog 6 #[.int .i64 d, .int .i64 1, .int .i64 4] W fun e w' => e = .returned (.bool true) ∧ W = w') := fun W => in_yes _ _ _ h1.1 h1.2 W
      have I2 : Hid (∀ W, Calls Tryd.prog 6 #[.int .i64 x, .int .i64 (-100000000), .int .i64 100000000] W fun e w' => e = .returned (.bool false) ∧ W = w') := fun W => in_no _ _ _ hb W
      clear h h1 hb
      go_enter Tryd.func4, Tryd.ntmps4
      go_wp2_with (go_at_call 6; first | (with_reducible refine (I1.out _).mono ?_; rintro e w' ⟨rfl, rfl⟩) | (with_reducible refine (I2.out _).mono ?_; rintro e w' ⟨rfl, rfl⟩))
      go_ret2
      exact ⟨rfl, Below.refl _ _⟩
    · have I1 : Hid (∀ W, Calls Tryd.prog 6 #[.int .i64 d, .int .i64 1, .int .i64 4] W fun e w' => e = .returned (.bool false) ∧ W = w') := fun W => in_no _ _ _ h1 W
      clear h h1
      go_enter Tryd.func4, Tryd.ntmps4
      go_wp2_with (go_at_call 6; (with_reducible refine (I1.out _).mono ?_; rintro e w' ⟨rfl, rfl⟩))
      go_ret2
      exact ⟨rfl, Below.refl _ _⟩
theorem FnExactFirstTicketFor_law (d x : Int) (_w0 : (Lit.int .i64 d).wf = true) (_w1 : (Lit.int .i64 x).wf = true) (w : World) (htab : Lib.TabIs Tryd.prog w "internal/strconv.uint64pow10" .u64 Lib.pow10Tab) :
    Calls Tryd.prog 3 #[.int .i64 d, .int .i64 x] w fun e w' => e = .returned (.bool true) ∧ Below w.heap.size w w' := by
  have HT := Lib.hid htab
  clear htab
  go_enter Tryd.func3, Tryd.ntmps3
  go_wp2_with (first | (go_at_call 4; refine (sFt_any _ _ _).mono ?_; rintro e wa ⟨rfl, hb1⟩; have H1 := chain (w := w) (by go_grown) hb1; clear hb1) | (go_at_call 5; refine (iFt_any _ _ _ (tab_below HT.out (by first | exact H1 | go_grown))).mono ?_; rintro e wb ⟨rfl, hb2⟩; have H2 := chain H1 hb2; clear hb2))
  go_ret
  exact ⟨rfl, H2⟩
end Go.Proofs.YtpmkdpkegmbleaaDoor
