/-
  Numbers with a digit sum: the model's count.
-/
import Derived.Test.YtghjpanabphbpabDoorDiUm
import Derived.Test.YtghjpanabphbpabDoorDiCntOf
import Derived.Test.YtghjpanabphbpabDoorDiNext
import Derived.Test.YtghjpanabphbpabDoorDiSum
import Derived.Test.YtghjpanabphbpabDoorDiSrch
import Derived.Deep.LoopGhost
import Derived.Deep.WholeRow
namespace Go.Proofs.YtghjpanabphbpabDoor
open Go.RowKit

theorem ways_x (x : Int) (D : Nat) (hx : x = (D : Int)) (hD : D ≤ 12) (w : World) :
    Calls Tryd.prog 41 #[.int .i64 x] w fun e w' => ∃ g, e = .returned (.slice (some ⟨g, 0, none⟩) (9 * D + 1) (9 * D + 1)) ∧ IRow w' g (9 * D + 1) (W D) ∧ w.heap.size ≤ g ∧ Below w.heap.size w w' := by
  subst hx; exact ways_any D hD w
theorem irow_h {w w1 : World} {g n : Nat} {f : Nat → Int} (h : IRow w1 g n f) (e : w.heap = w1.heap) : IRow w g n f := World.rowIs.of_block h (by rw [e])
theorem tkOf_h {w1 : World} {g D : Nat} (h : IRow w1 g (9 * D + 1) (W D)) (s : Int) (w : World) (e : w.heap = w1.heap) :
    Calls Tryd.prog 40 #[.slice (some ⟨g, 0, none⟩) (9 * D + 1) (9 * D + 1), .int .i64 s] w fun e w' => e = .returned (.int .i64 (V D s)) ∧ w = w' := by
  rw [← Wi_V]
  exact tkOf_any g D s w (irow_h h e)
set_option maxHeartbeats 2000000 in
theorem diOfSum_any (n u : Int) (w : World) (h0 : 0 ≤ n) (h1 : n ≤ 1000000000000) (hu0 : 0 ≤ u) (hu1 : u ≤ 9223372036854775807) :
    Calls Tryd.prog 31 #[.int .i64 n, .int .i64 u] w fun e w' => e = .returned (.int .i64 (uc u n)) ∧ Below w.heap.size w w' := by
  obtain ⟨s, hs⟩ := txt_ex n
  have HN := Lib.hid (fun W => l1Num_s n s W h0 h1 hs)
  have HD := Lib.hid hs.dig
  have hsz := hs.size h1
  obtain ⟨hsz1, hsz2⟩ := hsz
  have HUC : Hid (uc u n = upa s.data.toList u s.size + (if nsum n = u then 1 else 0) - (if u = 0 then 1 else 0)) := by
    show _ = _
    have e : s.size = (Lib.decDigits n.toNat).length := by rw [← hs]; simp
    rw [uc_eq u, ← e, ← hs, ← nsum_txt hs]
    congr 2
    by_cases hq : nsum n = u
    · rw [if_pos hq, if_pos (by omega)]
    · rw [if_neg hq, if_neg (by omega)]
  have HA : Hid (∀ i (hi : i < s.size), (s[i]'hi).toNat < 128) := fun i hi => by have := digB_get s i hi HD.out; omega
  have HSL : Hid (s.data.toList.length = s.size) := by show _ = _; simp
  have HEX : Hid (∀ i, i ≤ s.size → (s.extract 0 i).data.toList = s.data.toList.take i) := fun i hi => by
    simp [ByteArray.data_extract, Array.toList_extract, List.extract_eq_take_drop]
  have HNS := Lib.hid (fun W => diSum_any n W h0 h1)
  have mixed : Tryd.prog.follows .mixedOrders = true := by kernel_rfl
  clear hs
  go_enter Tryd.func31, Tryd.ntmps31
  go_wp2_with (go_at_call 39; refine (HN.out _).mono ?_; rintro e w1 ⟨rfl, b1⟩)
  have HB1 := Lib.hid b1
  obtain ⟨r, hr⟩ : ∃ r, r = w1.heap.size := ⟨_, rfl⟩
  have HR0 : Hid ((w1.alloc (.stringIter s 0)).heap[r]? = some (.stringIter s 0)) := by show _ = _; rw [hr]; exact heap_alloc_last w1 _
  have HRG : Hid (w.heap.size ≤ r) := by show _ ≤ _; rw [hr]; exact HB1.out.size
  have hB0 : Below w.heap.size w (w1.alloc (.stringIter s 0)) := HB1.out.alloc HB1.out.size _
  rw [← hr]
  clear hr
  go_loopg [5] s.size (fun m cv wr => ∃ (i : Nat) (C : Int), i + m = s.size ∧ cv = .int .i64 C ∧ 0 ≤ C ∧ C ≤ 9000000000000 * (i : Int) ∧ Hid (C = upa s.data.toList u i) ∧ Hid (wr.heap[r]? = some (.stringIter s i)) ∧ Below w.heap.size w wr)
  case atStart => exact ⟨0, 0, by omega, rfl, by omega, by omega, rfl, HR0, hB0⟩
  case round =>
    clear HR0 hB0
    obtain ⟨i, C, him, rfl, hC0, hC1, HU, HI, hbw⟩ := hrel
    obtain ⟨wo, rfl⟩ : ∃ wo : World, wo = wr := ⟨_, rfl⟩
    by_cases hlt : i < s.size
    · have hc := digB_get s i hlt HD.out
      obtain ⟨x, hx⟩ : ∃ x : Nat, (s[i].toNat : Int) = 48 + (x : Int) := ⟨(s[i].toNat - 48), by omega⟩
      have hx9 : x ≤ 9 := by omega
      have HX : Hid (dv (s.data.toList.getD i 48) = (x : Int)) := by show _ = _; have := dj_get s i hlt; unfold dj at this; rw [this, hx]; omega
      have hsw := hbw.size
      obtain ⟨D, hD⟩ : ∃ D : Nat, (s.size : Int) - 1 - (i : Int) = (D : Int) := ⟨s.size - 1 - i, by omega⟩
      have hD12 : D ≤ 12 := by omega
      have HDD := Lib.hid hD
      have hdb := dsum_bd (s.data.toList.take i) (digB_take _ _ HD.out)
      have hdl : (s.data.toList.take i).length ≤ i := List.length_take_le _ _
      obtain ⟨q, hq⟩ : ∃ q, dsum (s.data.toList.take i) = q := ⟨_, rfl⟩
      have HQ := Lib.hid hq
      have hq0 : 0 ≤ q := by rw [← hq]; exact hdb.1
      have hq1 : q ≤ 108 := by rw [← hq]; have := hdb.2; omega
      have HTK : Hid (∀ W, Calls Tryd.prog 38 #[.string (s.extract 0 i)] W fun e w' => e = .returned (.int .i64 q) ∧ W = w') := fun W => by
        have he := HEX.out i (by omega)
        have hes : (s.extract 0 i).size ≤ 1000 := by rw [ByteArray.size_extract]; omega
        have := tkSum_any (s.extract 0 i) W hes (by rw [he]; exact digB_take _ _ HD.out)
        rwa [he, hq] at this
      have HC1 := Lib.hid hC1
      have hC2 : C ≤ 9000000000000 * 13 := by omega
      clear hc hD hdb hdl hq hC1
      go_wp2_with (at_next; refine wpList_next_str _ rfl _ rfl r s i rfl HI.out hlt (HA.out i hlt) ?_; intro w2 hr2 hg2 hs2; have HI2 := Lib.hid hr2; have hb2 : Below w.heap.size w w2 := hbw.grown hg2 hsw (fun k hk => (by cases hk; exact HRG.out)); have HR2 : Hid (r < w2.heap.size) := (Array.getElem?_eq_some_iff.1 hr2).1; clear hr2 hg2 hs2)
      clear HI hbw hsw
      go_loopw [5, 8] (fun cv dv wr => ∃ (d : Nat) (E : Int), d ≤ x ∧ dv = .int .i64 d ∧ cv = .int .i64 E ∧ 0 ≤ E ∧ E ≤ C + 1000000000000 * (d : Int) ∧ Hid (E = C + ps D (u - q) d) ∧ Hid (wr.heap[r]? = some (.stringIter s (i + 1))) ∧ Below w.heap.size w wr) (fun _ dv _ => x - (intOf dv).toNat)
      case atStart => exact ⟨0, C, by omega, rfl, rfl, hC0, by omega, by show _ = _; rw [ps, Int.add_zero], HI2, hb2⟩
      case round =>
        obtain ⟨d, E, hd, rfl, rfl, hE0, hE1, HE, HIr, hbr⟩ := hrel
        obtain ⟨wp, rfl⟩ : ∃ wp : World, wp = wr := ⟨_, rfl⟩
        by_cases hdx : d < x
        · have hvb := V_12 hD12 (u - q - (d : Int))
          obtain ⟨v, hv⟩ : ∃ v, V D (u - q - (d : Int)) = v := ⟨_, rfl⟩
          have HV := Lib.hid hv
          rw [hv] at hvb
          obtain ⟨hv0, hv1⟩ := hvb
          have HE' : Hid (E + v = C + ps D (u - q) (d + 1)) := by show _ = _; rw [ps, HE.out, hv]; omega
          have hrl : r < wp.heap.size := (Array.getElem?_eq_some_iff.1 HIr.out).1
          have HRL := Lib.hid hrl
          have f1 : IntKind.i64.wrap ((s.size : Int) - 1) = (s.size : Int) - 1 := by rw [IntWalk.i64_in] <;> omega
          have f2 : IntKind.i64.wrap ((s.size : Int) - 1 - (i : Int)) = (s.size : Int) - 1 - (i : Int) := by rw [IntWalk.i64_in] <;> omega
          have f3 : IntKind.i64.wrap (u - q) = u - q := by rw [IntWalk.i64_in] <;> omega
          have f4 : IntKind.i64.wrap (u - q - (d : Int)) = u - q - (d : Int) := by rw [IntWalk.i64_in] <;> omega
          have f5 : IntKind.i64.wrap (E + v) = E + v := by rw [IntWalk.i64_in] <;> omega
          clear hv hrl
          go_wp2
          go_region_with (first
            | (go_at_call 41; (refine (ways_x _ D HDD.out hD12 _).mono ?_); rintro e w3 ⟨g, rfl, hg3, hl3, b3⟩; have B3 : Below wp.heap.size wp w3 := chain (w := wp) (by go_grown) b3; have HG3 := Lib.hid hg3; clear hg3)
            | (go_at_call 38; (refine (HTK.out _).mono ?_); rintro e w' ⟨rfl, rfl⟩)
            | (go_at_call 40; (refine (tkOf_h HG3.out (u - q - (d : Int)) _ (by rfl)).mono ?_); rintro e w' ⟨rfl, rfl⟩; rw [HV.out]))
          all_goals go_wp2
          all_goals go_roundw
          all_goals first | (simp [intOf]; omega; done) | skip
          all_goals
            have hbB : Below w.heap.size w w3 := hbr.trans (B3.mono hbr.size)
            exact ⟨d + 1, E + v, by omega, by go_num, rfl, by omega, by omega, HE', by show _ = _; rw [B3.block r HRL.out]; exact HIr.out, by first | exact hbB | exact below_drw hbB | exact below_drewN hbB _⟩
        · have HU' : Hid (E = upa s.data.toList u (i + 1)) := by
            show _ = _
            have := HDD.out
            rw [HE.out, upa, HSL.out, HQ.out, HX.out, Int.toNat_natCast, ← HU.out, show d = x by omega, show s.size - 1 - i = D by omega]
          have HEB : Hid (E ≤ 9000000000000 * ((i + 1 : Nat) : Int)) := by
            show _ ≤ _
            have := HC1.out
            omega
          go_wp2
          go_roundg (gk - 1)
          case measure => omega
          case rel => exact ⟨i + 1, E, by omega, rfl, hE0, HEB.out, HU', HIr, hbr⟩
    · have hi13 : i ≤ 13 := by omega
      have hC2 : C ≤ 9000000000000 * 14 := by omega
      have HCE : Hid (C = upa s.data.toList u s.size) := by show _ = _; rw [HU.out, show i = s.size by omega]
      clear hC1
      by_cases hq : nsum n = u
      · by_cases hz : u = 0
        · have HV : Hid (C + 1 - 1 = uc u n) := by show _ = _; rw [HUC.out, ← HCE.out, if_pos hq, if_pos hz]
          have hq' : (nsum n == u) = true := by simpa using hq
          have hz' : (u == 0) = true := by simpa using hz
          clear hq hz
          go_wp2_with (first | (at_next; refine wpList_next_end _ rfl _ rfl r s i rfl HI.out hlt ?_) | (go_at_call 30; refine (HNS.out _).mono ?_; rintro e w4 ⟨rfl, b4⟩))
          go_ret
          exact ⟨ret_int (by rw [← HV.out]; omega), hbw.trans (b4.mono hbw.size)⟩
        · have HV : Hid (C + 1 = uc u n) := by show _ = _; rw [HUC.out, ← HCE.out, if_pos hq, if_neg hz]; omega
          have hq' : (nsum n == u) = true := by simpa using hq
          have hz' : (u == 0) = false := by simpa using hz
          clear hq hz
          go_wp2_with (first | (at_next; refine wpList_next_end _ rfl _ rfl r s i rfl HI.out hlt ?_) | (go_at_call 30; refine (HNS.out _).mono ?_; rintro e w4 ⟨rfl, b4⟩))
          go_ret
          exact ⟨ret_int HV.out, hbw.trans (b4.mono hbw.size)⟩
      · by_cases hz : u = 0
        · have HV : Hid (C - 1 = uc u n) := by show _ = _; rw [HUC.out, ← HCE.out, if_neg hq, if_pos hz]; omega
          have hq' : (nsum n == u) = false := by simpa using hq
          have hz' : (u == 0) = true := by simpa using hz
          clear hq hz
          go_wp2_with (first | (at_next; refine wpList_next_end _ rfl _ rfl r s i rfl HI.out hlt ?_) | (go_at_call 30; refine (HNS.out _).mono ?_; rintro e w4 ⟨rfl, b4⟩))
          go_ret
          exact ⟨ret_int HV.out, hbw.trans (b4.mono hbw.size)⟩
        · have HV : Hid (C = uc u n) := by show _ = _; rw [HUC.out, ← HCE.out, if_neg hq, if_neg hz]; omega
          have hq' : (nsum n == u) = false := by simpa using hq
          have hz' : (u == 0) = false := by simpa using hz
          clear hq hz
          go_wp2_with (first | (at_next; refine wpList_next_end _ rfl _ rfl r s i rfl HI.out hlt ?_) | (go_at_call 30; refine (HNS.out _).mono ?_; rintro e w4 ⟨rfl, b4⟩))
          go_ret
          exact ⟨ret_int HV.out, hbw.trans (b4.mono hbw.size)⟩
end Go.Proofs.YtghjpanabphbpabDoor
