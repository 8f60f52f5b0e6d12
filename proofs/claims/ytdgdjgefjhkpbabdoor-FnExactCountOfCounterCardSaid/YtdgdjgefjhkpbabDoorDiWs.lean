/-
  Broken counters: the model's side.
-/
import Derived.Test.YtdgdjgefjhkpbabDoorDiWq
import Derived.Test.YtdgdjgefjhkpbabDoorDiNext
import Derived.Test.YtdgdjgefjhkpbabDoorDiSrch
import Derived.Deep.LoopGhost
import Derived.Deep.WholeRow
namespace Go.Proofs.YtdgdjgefjhkpbabDoor
open Go.RowKit

set_option maxHeartbeats 2000000 in
theorem diWithout_any (n b : Int) (w : World) (h0 : 0 ≤ n) (h1 : n ≤ 1000000000000) (hb : 0 ≤ b ∧ b ≤ 9) :
    Calls Tryd.prog 32 #[.int .i64 n, .int .i64 b] w fun e w' => e = .returned (.int .i64 (cw b n)) ∧ Below w.heap.size w w' := by
  obtain ⟨s, hs⟩ := txt_ex n
  have HN := Lib.hid (fun W => l1Num_s n s W h0 h1 hs)
  have HD := Lib.hid hs.dig
  have HT := Lib.hid hs
  have hsz := hs.size h1
  obtain ⟨hsz1, hsz2⟩ := hsz
  have hL : (Lib.decDigits n.toNat).length = s.size := by rw [← hs]; simp
  have HL := Lib.hid hL
  have HB := Lib.hid hb
  obtain ⟨hb0, hb9⟩ := hb
  have hge : ∀ i (hi : i < s.size), dv ((Lib.decDigits n.toNat).getD i 48) = (s[i].toNat : Int) - 48 := fun i hi => by
    rw [← dj_get s i hi]; unfold dj; rw [hs]
  have HGE := Lib.hid hge
  have HA1 := Lib.hid (al_one b)
  have HA : Hid (∀ i (hi : i < s.size), (s[i]'hi).toNat < 128) := fun i hi => by have := digB_get s i hi HD.out; omega
  clear hs hL hge
  by_cases hz : b = 0
  all_goals
    first | (have hz' : (b == 0) = true := by simpa using hz) | (have hz' : (b == 0) = false := by simpa using hz)
    have HZ := Lib.hid hz
    clear hz
    go_enter Tryd.func32, Tryd.ntmps32
    go_wp2_with (go_at_call 38; refine (HN.out _).mono ?_; rintro e w1 ⟨rfl, b1⟩)
    go_loop [6, 7, 8] (fun cv av kv => ∃ (k : Nat) (C A : Int), 1 ≤ k ∧ k ≤ s.size ∧ kv = .int .i64 k ∧ cv = .int .i64 C ∧ av = .int .i64 A ∧ Hid (C = pre b k ∧ A = al b k)) (fun _ _ kv => s.size - (intOf kv).toNat)
    case atStart =>
      refine ⟨1, 0, _, by omega, hsz1, rfl, rfl, rfl, (pre_one b).symm, ?_⟩
      rw [HA1.out]
      first | rw [if_pos HZ.out] | rw [if_neg HZ.out]
    case round =>
      obtain ⟨k, C, A, hk1, hk, rfl, rfl, rfl, HK⟩ := hrel
      have hpb := pre_bd b hk1 (by omega)
      rw [← HK.out.1, ← HK.out.2] at hpb
      obtain ⟨hC0, hC1, hA0, hA1⟩ := hpb
      by_cases hlt : k < s.size
      · have HK' : Hid (C + A = pre b (k + 1) ∧ A * 9 = al b (k + 1)) := by
          have := pre_succ b hk1
          show _ ∧ _
          rw [HK.out.1, HK.out.2]; omega
        go_wp2
        go_round
        case rel => exact ⟨k + 1, _, _, by omega, by omega, by go_num, rfl, rfl, HK'⟩
        case measure => simp [intOf]; omega
      · have HJ0 : Hid (JW b n 0 C) := by
          show JW _ _ _ _
          have := JW.start b n
          rw [HK.out.1, show k = s.size by omega, ← HL.out]; exact this
        have hCA : C ≤ 2541865828329 := hC1
        have HB1 := Lib.hid b1
        clear HK hC1 hA0 hA1 HA1 hk1
        go_wp2
        clear hlt hk
        obtain ⟨r, hr⟩ : ∃ r, r = w1.heap.size := ⟨_, rfl⟩
        have HR0 : Hid ((w1.alloc (.stringIter s 0)).heap[r]? = some (.stringIter s 0)) := by show _ = _; rw [hr]; exact heap_alloc_last w1 _
        have HRG : Hid (w.heap.size ≤ r) := by show _ ≤ _; rw [hr]; exact HB1.out.size
        have hB0 : Below w.heap.size w (w1.alloc (.stringIter s 0)) := HB1.out.alloc HB1.out.size _
        rw [← hr]
        clear hr
        go_loopg [6] s.size (fun m cv wr => ∃ (i : Nat) (C : Int), i + m = s.size ∧ cv = .int .i64 C ∧ 0 ≤ C ∧ C ≤ 2541865828329 * ((i : Int) + 1) ∧ Hid (JW b n i C) ∧ Hid (wr.heap[r]? = some (.stringIter s i)) ∧ Below w.heap.size w wr)
        case atStart => exact ⟨0, C, by omega, rfl, hC0, by simpa using hCA, HJ0, HR0, hB0⟩
        case round =>
          clear HJ0 HR0 hB0 hC0 hCA
          obtain ⟨i, C, him, rfl, hC0, hC1, HJ, HI, hbw⟩ := hrel
          obtain ⟨wo, rfl⟩ : ∃ wo : World, wo = wr := ⟨_, rfl⟩
          by_cases hlt : i < s.size
          · have hc := digB_get s i hlt HD.out
            obtain ⟨x, hx⟩ : ∃ x : Nat, (s[i].toNat : Int) = 48 + (x : Int) := ⟨(s[i].toNat - 48), by omega⟩
            have hx9 : x ≤ 9 := by omega
            have HX : Hid (dv ((Lib.decDigits n.toNat).getD i 48) = (x : Int)) := by show _ = _; rw [HGE.out i hlt, hx]; omega
            have hsw := hbw.size
            clear hc
            go_wp2_with (at_next; refine wpList_next_str _ rfl _ rfl r s i rfl HI.out hlt (HA.out i hlt) ?_; intro w2 hr2 hg2 hs2; have HI2 := Lib.hid hr2; have hb2 : Below w.heap.size w w2 := hbw.grown hg2 hsw (fun k hk => (by cases hk; exact HRG.out)); clear hr2 hg2 hs2)
            have HS2 := Lib.hid hsw
            clear HI hbw hsw
            go_loop [10, 11] (fun Rv kv => ∃ (k : Nat) (R : Int), i + 1 ≤ k ∧ k ≤ s.size ∧ kv = .int .i64 k ∧ Rv = .int .i64 R ∧ Hid (R = p9 (k - (i + 1)))) (fun _ kv => s.size - (intOf kv).toNat)
            case atStart => exact ⟨i + 1, 1, by omega, by omega, by go_num, rfl, by show _ = _; rw [Nat.sub_self]; rfl⟩
            case round =>
              obtain ⟨k, R, hk1, hk, rfl, rfl, HR⟩ := hrel
              have hR0 : 1 ≤ R := by rw [HR.out]; exact p9_pos _
              have hR1 : R ≤ 2541865828329 := by rw [HR.out]; exact p9_13 (by omega)
              by_cases hkl : k < s.size
              · have HR' : Hid (R * 9 = p9 (k + 1 - (i + 1))) := by
                  show _ = _
                  rw [show k + 1 - (i + 1) = (k - (i + 1)) + 1 by omega, p9_succ, HR.out]
                go_wp2
                go_round
                case rel => exact ⟨k + 1, _, by omega, by omega, by go_num, rfl, HR'⟩
                case measure => simp [intOf]; omega
              · have HR2 : Hid (R = p9 (s.size - 1 - i)) := by show _ = _; rw [HR.out, show k - (i + 1) = s.size - 1 - i by omega]
                have hR9 : R * 9 ≤ 2541865828329 := by
                  rw [HR.out, ← p9_succ]; exact p9_13 (by omega)
                have hC2 : C ≤ 2541865828329 * 13 := by omega
                have HC1 := Lib.hid hC1
                have hi0' : (0 : Int) ≤ (i : Int) := by omega
                clear hC1 hk1 HR
                go_wp2
                clear hkl hk
                go_loop [6, 12] (fun cv dv => ∃ (d : Nat) (D : Int), d ≤ x ∧ dv = .int .i64 d ∧ cv = .int .i64 D ∧ 0 ≤ D ∧ D ≤ C + 2541865828329 * (d : Int) ∧ Hid (D = C + R * ct b i d)) (fun _ dv => x - (intOf dv).toNat)
                case atStart => exact ⟨0, C, by omega, rfl, rfl, hC0, by omega, by show _ = _; rw [ct, Int.mul_zero, Int.add_zero]⟩
                case round =>
                  obtain ⟨d, D, hd, rfl, rfl, hD0, hD1, HDD⟩ := hrel
                  by_cases hdx : d < x
                  · by_cases hdb : (d : Int) = b
                    · have HDD' : Hid (D = C + R * ct b i (d + 1)) := by show _ = _; rw [ct, if_neg (fun h => h.1 hdb), Int.add_zero]; exact HDD.out
                      have hq : ((d : Int) == b) = true := by simpa using hdb
                      have hq' : ((d : Int) != b) = false := by simpa using hdb
                      clear hdb
                      go_wp2
                      go_round
                      case rel => exact ⟨d + 1, D, by omega, by go_num, rfl, hD0, by omega, HDD'⟩
                      case measure => simp [intOf]; omega
                    · have hq : ((d : Int) == b) = false := by simpa using hdb
                      have hq' : ((d : Int) != b) = true := by simpa using hdb
                      by_cases hi0 : 0 < i
                      · have HDD' : Hid (D + R = C + R * ct b i (d + 1)) := by show _ = _; rw [ct, if_pos ⟨hdb, .inl hi0⟩, Int.mul_add, Int.mul_one, HDD.out]; omega
                        clear hdb
                        go_wp2
                        go_round
                        case rel => exact ⟨d + 1, D + R, by omega, by go_num, rfl, by omega, by omega, HDD'⟩
                        case measure => simp [intOf]; omega
                      · by_cases hd0 : 0 < d
                        · have HDD' : Hid (D + R = C + R * ct b i (d + 1)) := by show _ = _; rw [ct, if_pos ⟨hdb, .inr hd0⟩, Int.mul_add, Int.mul_one, HDD.out]; omega
                          clear hdb
                          go_wp2
                          go_round
                          case rel => exact ⟨d + 1, D + R, by omega, by go_num, rfl, by omega, by omega, HDD'⟩
                          case measure => simp [intOf]; omega
                        · have HDD' : Hid (D = C + R * ct b i (d + 1)) := by show _ = _; rw [ct, if_neg (fun h => by omega), Int.add_zero]; exact HDD.out
                          clear hdb
                          go_wp2
                          go_round
                          case rel => exact ⟨d + 1, D, by omega, by go_num, rfl, hD0, by omega, HDD'⟩
                          case measure => simp [intOf]; omega
                  · have HDE : Hid (D = C + p9 ((Lib.decDigits n.toNat).length - 1 - i) * ct b i x) := by
                      show _ = _
                      rw [HDD.out, HL.out, ← HR2.out, show d = x by omega]
                    have HDB : Hid (D ≤ 2541865828329 * (((i + 1 : Nat) : Int) + 1)) := by
                      show _ ≤ _
                      have h1 := ct_bd b i d
                      have h2 : R * ct b i d ≤ R * 9 := Int.mul_le_mul_of_nonneg_left (by omega) (by omega)
                      have h3 := HC1.out
                      have h4 := HDD.out
                      omega
                    by_cases hxb : (x : Int) = b
                    · have HV : Hid (D = cw b n) := by
                        show _ = _
                        have := JW.broken HB.out (by rw [HL.out]; exact hlt) HJ.out (by rw [HX.out]; exact hxb)
                        rw [← this, HDE.out, show b.toNat = x by omega]
                      have hq : ((x : Int) == b) = true := by simpa using hxb
                      clear hxb
                      go_wp2
                      go_ret
                      exact ⟨ret_int HV.out, hb2⟩
                    · have HJ2 : Hid (JW b n (i + 1) D) := by
                        show JW _ _ _ _
                        have := JW.step HB.out h0 (by rw [HL.out]; exact hlt) HJ.out (by rw [HX.out]; omega) (by rw [HX.out]; exact hxb)
                        rw [HX.out, show ((x : Int)).toNat = x by omega, ← HDE.out] at this
                        exact this
                      have hq : ((x : Int) == b) = false := by simpa using hxb
                      clear hxb
                      go_wp2
                      go_roundg (gk - 1)
                      case measure => omega
                      case rel => exact ⟨i + 1, D, by omega, rfl, hD0, HDB.out, HJ2, HI2, hb2⟩
          · have hi13 : i ≤ 13 := by omega
            have hC2 : C ≤ 2541865828329 * 14 := by omega
            have HD2 : Hid ((n ≠ 0 → C + 1 = cw b n) ∧ (n = 0 → 0 = cw b n)) := JW.done (by rw [HL.out, show s.size = i by omega]; exact HJ.out)
            clear hC1
            by_cases hn : n = 0
            · have HV : Hid (0 = cw b n) := HD2.out.2 hn
              have hq : (n == 0) = true := by simpa using hn
              clear hn
              go_wp2_with (at_next; refine wpList_next_end _ rfl _ rfl r s i rfl HI.out hlt ?_)
              go_ret
              exact ⟨ret_int HV.out, hbw⟩
            · have HV : Hid (C + 1 = cw b n) := HD2.out.1 hn
              have hq : (n == 0) = false := by simpa using hn
              clear hn
              go_wp2_with (at_next; refine wpList_next_end _ rfl _ rfl r s i rfl HI.out hlt ?_)
              go_ret
              exact ⟨ret_int HV.out, hbw⟩
end Go.Proofs.YtdgdjgefjhkpbabDoor
