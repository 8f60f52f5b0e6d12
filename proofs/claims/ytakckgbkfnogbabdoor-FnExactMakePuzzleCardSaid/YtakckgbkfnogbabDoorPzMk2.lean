/-
  Made puzzles: both sides.
-/
import Derived.Test.YtakckgbkfnogbabDoorPzMk1
namespace Go.Proofs.YtakckgbkfnogbabDoor
open Go.RowKit Go.Deep
set_option maxRecDepth 100000

def mkB (t : List UInt8) (n z : Int) : Bool := hidB t && decide (0 ≤ n ∧ n ≤ 6 ∧ 0 ≤ z ∧ z ≤ 9999)
def mkP (t : List UInt8) (n z : Int) : List Cl := if mkB t n z then (mkJ t z n.toNat).1 else []
theorem mkP_no {t : List UInt8} {n z : Int} (h : mkB t n z = false) : mkP t n z = [] := by unfold mkP; rw [if_neg (by rw [h]; simp)]
theorem mkP_yes {t : List UInt8} {n z : Int} (h : mkB t n z = true) : mkP t n z = (mkJ t z n.toNat).1 := by unfold mkP; rw [if_pos h]
theorem mkP_len (t : List UInt8) (n z : Int) : (mkP t n z).length ≤ 1000 := by
  cases h : mkB t n z with
  | false => rw [mkP_no h]; simp
  | true =>
    rw [mkP_yes h, mkJ_len]
    unfold mkB at h
    simp at h; omega
theorem mkB_a {t : List UInt8} (n z : Int) (h : hidB t = false) : mkB t n z = false := by unfold mkB; rw [h]; rfl
theorem mkB_b {t : List UInt8} (n z : Int) (h : ¬ (0 ≤ n ∧ n ≤ 6 ∧ 0 ≤ z ∧ z ≤ 9999)) : mkB t n z = false := by unfold mkB; rw [decide_eq_false h, Bool.and_false]
theorem mkJ_next {t : List UInt8} {z zz y1 y2 k a b : Int} {j : Nat} {ds : List Cl} (h : mkJ t z j = (ds, zz)) (h1 : nxz zz = y1) (hk : y1 % 5 = k) (h2 : nxz y1 = y2) (ha : mkA k y2 = a) (hb : tv k a t = b) : mkJ t z (j + 1) = (ds ++ [⟨k, a, b⟩], y2) := by
  subst h1 hk h2 ha hb
  rw [mkJ, h]; rfl
set_option maxHeartbeats 2000000 in
theorem iMk_any (s : ByteArray) (n z : Int) (w : World) (hs : s.size ≤ maxLen) :
    Calls Tryd.prog 18 #[.string s, .int .i64 n, .int .i64 z] w fun e w' => (∃ a c, e = .returned (.tuple #[.agg #[.slice a (mkP s.data.toList n z).length c], .bool (mkB s.data.toList n z)]) ∧ Clu w.heap.size (mkP s.data.toList n z) (.slice a (mkP s.data.toList n z).length c) w') ∧ Below w.heap.size w w' := by
  rcases (show hidB s.data.toList = false ∨ hidB s.data.toList = true by cases hidB s.data.toList <;> simp) with hh | hh
  · have H1 := Lib.hid hh
    have HB := Lib.hid (mkB_a n z hh)
    have HA := Lib.hid (mkP_no HB.out)
    clear hh
    go_enter Tryd.func18, Tryd.ntmps18
    go_wp2_with (go_at_call 43; (with_reducible refine (isHidden_b s false _ hs H1.out).mono ?_); rintro e w1 ⟨rfl, b1⟩; have p0 := box_at w _ b1; obtain ⟨e0, f0, s0⟩ := blk1 p0; have z0 := box_lt w _ b1; have B1 : Below w.heap.size w w1 := chain (w := w) (by go_grown) b1)
    · refine bodyPost_ret (results_row_tmp rfl _ _ w.heap.size 30 #[.slice none 0 0] (0, 0) _ rfl ?_ Tryd.underlying30 rfl (by kernel_rfl)) rfl ?_
      · have := heap_setCell_same _ w.heap.size 0 _ _ (.slice none 0 0) p0
        simpa using this
      · refine ⟨⟨none, 0, by rw [HA.out, HB.out]; rfl, by rw [HA.out]; exact Clu.nil _ _⟩, B1.setCell (Nat.le_refl _) _⟩
  · have H1 := Lib.hid hh
    by_cases hr : 0 ≤ n ∧ n ≤ 6 ∧ 0 ≤ z ∧ z ≤ 9999
    · have hb : mkB s.data.toList n z = true := by unfold mkB; rw [hh, decide_eq_true hr]; rfl
      have HB := Lib.hid hb
      have HP := Lib.hid (mkP_yes hb)
      obtain ⟨hn0, hn6, hz0, hz9⟩ := hr
      obtain ⟨m, rfl⟩ : ∃ m : Nat, n = (m : Int) := ⟨n.toNat, by omega⟩
      have hm6 : m ≤ 6 := by omega
      have hZ := mkJ_bd s.data.toList z ⟨hz0, by omega⟩
      have HZ := Lib.hid hZ
      clear hh hb hZ
      go_enter Tryd.func18, Tryd.ntmps18
      go_wp2_with (go_at_call 43; (with_reducible refine (isHidden_b s true _ hs H1.out).mono ?_); rintro e w1 ⟨rfl, b1⟩; have p0 := box_at w _ b1; obtain ⟨e0, f0, s0⟩ := blk1 p0; have z0 := box_lt w _ b1; have B1 : Below w.heap.size w w1 := chain (w := w) (by go_grown) b1)
      have HP0 := Lib.hid p0
      have HB1 := Lib.hid B1
      have HQ0 : Hid ((w1.alloc (.cells #[.slice none 0 0] 30)).heap[w1.heap.size]? = some (.cells #[.slice none 0 0] 30)) := heap_alloc_new _ _
      have HC0 : Hid (Clu (w1.heap.size + 1) [] (.slice none 0 0) (w1.alloc (.cells #[.slice none 0 0] 30))) := Clu.nil _ _
      have HBL : Hid (Below w1.heap.size w1 (w1.alloc (.cells #[.slice none 0 0] 30))) := (Below.refl _ _).alloc (Nat.le_refl _) _
      clear p0 e0 f0 s0 B1 b1
      go_loopw [9, 33] (fun zv iv wr => ∃ (j : Nat) (zz : Int) (ds : List Cl) (u : Value), j ≤ m ∧ Hid (mkJ s.data.toList z j = (ds, zz)) ∧ zv = .int .i64 zz ∧ iv = .int .i64 j ∧ Hid (wr.heap[w1.heap.size]? = some (.cells #[u] 30)) ∧ Hid (Clu (w1.heap.size + 1) ds u wr) ∧ Hid (Below w1.heap.size w1 wr)) (fun _ iv _ => m - (intOf iv).toNat)
      case atStart => exact ⟨0, z, [], .slice none 0 0, Nat.zero_le _, Lib.hid rfl, rfl, rfl, HQ0, HC0, HBL⟩
      case round =>
        clear HQ0 HC0 HBL
        obtain ⟨j, zz, ds, u, hj, HJ, rfl, rfl, HQ, HC, HBL⟩ := hrel
        obtain ⟨wo', rfl⟩ : ∃ wo' : World, wo' = wr := ⟨_, rfl⟩
        have hzz := HZ.out j
        have hdl := mkJ_len s.data.toList z j
        rw [HJ.out] at hzz hdl
        simp only at hzz hdl
        have HDL := Lib.hid hdl
        obtain ⟨zz0, zz1⟩ := hzz
        clear hdl
        have hPl := (Array.getElem?_eq_some_iff.1 HQ.out).1
        obtain ⟨eu, fu, su⟩ := blk1 HQ.out
        by_cases hlt : j < m
        · have hjI : (j : Int) < (m : Int) := by omega
          obtain ⟨y1, hy1⟩ : ∃ y, nxz zz = y := ⟨_, rfl⟩
          have HM1 := Lib.hid (fun W => mixed_any zz W ⟨zz0, zz1⟩)
          rw [hy1] at HM1
          have hb1 := nxz_bd zz
          rw [hy1] at hb1
          have HM2 := Lib.hid (fun W => mixed_any y1 W hb1)
          obtain ⟨y2, hy2⟩ : ∃ y, nxz y1 = y := ⟨_, rfl⟩
          rw [hy2] at HM2
          have hb2 := nxz_bd y1
          rw [hy2] at hb2
          obtain ⟨k, hk⟩ : ∃ k, y1 % 5 = k := ⟨_, rfl⟩
          have hk5 : y1.tmod 5 = k := by rw [← hk]; exact Int.tmod_eq_emod_of_nonneg hb1.1
          have hkb : 0 ≤ k ∧ k ≤ 4 := by omega
          obtain ⟨a, ha⟩ : ∃ a, mkA k y2 = a := ⟨_, rfl⟩
          obtain ⟨m0, m1, m2, m3, m4⟩ := mkA_bd k y2 hb2.1
          rw [ha] at m0 m1 m2 m3 m4
          have HBD := Lib.hid (fun W => boundsOf_yes k 0 0 W ⟨hkb.1, by omega⟩)
          have hma : 0 ≤ mA k ∧ mA k ≤ 3 := by unfold mA; split <;> (try split) <;> (try split) <;> omega
          have hamod := mkA_mod k y2
          rw [ha] at hamod
          obtain ⟨x, hx⟩ : ∃ x, mA k = x := ⟨_, rfl⟩
          obtain ⟨x2, hx2⟩ : ∃ x, lB k = x := ⟨_, rfl⟩
          obtain ⟨x3, hx3⟩ : ∃ x, mB k = x := ⟨_, rfl⟩
          rw [hx, hx2, hx3] at HBD
          rw [hx] at hma hamod
          have hwr : IntKind.i64.wrap (x + 1) = x + 1 := IntWalk.i64_in _ (by omega)
          have hx0 : ¬ x + 1 = 0 := by omega
          have hxb : ((x + 1) == 0) = false := by rw [beq_eq_false_iff_ne]; omega
          have hmod : y2.tmod (x + 1) = a := by rw [hamod]; exact Int.tmod_eq_emod_of_nonneg hb2.1
          obtain ⟨b, hbb⟩ : ∃ b, tv k a s.data.toList = b := ⟨_, rfl⟩
          have hfd : ∀ W a b c, (Instr.field 64 (.agg #[.int .i64 a, .int .i64 b, .int .i64 c]) 0).run Tryd.prog W = .ok (.int .i64 a) W := fun W a b c => by kernel_rfl
          have HTB := Lib.hid (fun W => trueB_any ⟨k, a, 0⟩ s W H1.out hkb m0 m1 m2 m3)
          simp only [hbb] at HTB
          have HNX := Lib.hid (mkJ_next HJ.out hy1 hk hy2 ha hbb)
          have hne : ¬ w1.heap.size = wo'.heap.size := by omega
          have hne2 : ¬ wo'.heap.size = w1.heap.size := by omega
          clear hy1 hy2 hk ha hbb hx hx2 hx3 hamod m1 m2 m3
          go_wp2_with (first
            | (go_at_call 44; (first | (with_reducible refine (HM1.out _).mono ?_) | (with_reducible refine (HM2.out _).mono ?_)); rintro e wq ⟨rfl, rfl⟩)
            | (go_at_call 45; ((with_reducible refine (HBD.out _).mono ?_); rintro e w3 ⟨rfl, b3⟩; have B3 := chain (w := wo') ((Below.refl _ _).alloc (Nat.le_refl _) _) b3; have q3 := box_at wo' _ b3; obtain ⟨c0', c1', c2', cf, csh⟩ := blk3 q3; have l3 := (Array.getElem?_eq_some_iff.1 q3).1))
            | (go_at_call 46; ((with_reducible refine (HTB.out _).mono ?_); rintro e w4 ⟨rfl, b4⟩; have q4 := (b4.block _ (by simpa [World.setCell] using l3)).trans (by simpa using heap_setCell_same w3 wo'.heap.size 1 _ _ (.int .i64 a) q3 : (w3.setCell ⟨wo'.heap.size, 1, none⟩ (.int .i64 a)).heap[wo'.heap.size]? = some (.cells #[.int .i64 k, .int .i64 a, .int .i64 0] 58)); obtain ⟨d0', d1', d2', df, dsh⟩ := blk3 q4; have l4 := (Array.getElem?_eq_some_iff.1 q4).1; have B4 := chain (B3.setCell (Nat.le_refl _) _) b4; have qP := (B4.block _ hPl).trans HQ.out; obtain ⟨g0, gf, gs⟩ := blk1 qP; have gl := (Array.getElem?_eq_some_iff.1 qP).1))
            | (at_builtin; have B5 := (B4.setCell (p := ⟨wo'.heap.size, 2, none⟩) (Nat.le_refl _) (.int .i64 b)).alloc (B4.setCell (p := ⟨wo'.heap.size, 2, none⟩) (Nat.le_refl _) (.int .i64 b)).size (.cells #[.int .i64 k, .int .i64 a, .int .i64 b] 58); have hs5 := B5.size; refine append_clus _ rfl _ _ rfl (w1.heap.size + 1) ds u rfl (HC.out.below B5) _ 1 1 [⟨k, a, b⟩] rfl (RdC.one' _ ⟨k, a, b⟩ _ (by simp [World.setCell])) (by have := HDL.out; simp; omega) (by omega) ?_; intro v' w6 i6 b6; obtain ⟨av, cv, hv⟩ := i6.val; obtain ⟨n2, hn2⟩ : ∃ n2, (ds ++ [(⟨k, a, b⟩ : Cl)]).length = n2 := ⟨_, rfl⟩; rw [hn2] at hv; subst hv; clear hn2; have q6 := (b6.block w1.heap.size (by omega)).trans ((B5.block _ hPl).trans HQ.out); obtain ⟨k0, kf, ks⟩ := blk1 q6; have kl := (Array.getElem?_eq_some_iff.1 q6).1))
          have HE1 : Hid ((w6.setCell ⟨w1.heap.size, 0, none⟩ (Value.slice av n2 cv)).heap[w1.heap.size]? = some (.cells #[(Value.slice av n2 cv)] 30)) := by
            have := heap_setCell_same w6 w1.heap.size 0 _ _ (Value.slice av n2 cv) q6
            show _ = _
            simpa using this
          have HE2 : Hid (Clu (w1.heap.size + 1) (ds ++ [⟨k, a, b⟩]) (Value.slice av n2 cv) (w6.setCell ⟨w1.heap.size, 0, none⟩ (Value.slice av n2 cv))) := i6.low (by omega) _ _
          have HE3 : Hid (Below w1.heap.size w1 (w6.setCell ⟨w1.heap.size, 0, none⟩ (Value.slice av n2 cv))) := ((HBL.out.trans (B5.mono (by omega))).trans (b6.mono (by omega))).setCell (Nat.le_refl _) _
          go_roundw
          case rel => exact ⟨j + 1, y2, ds ++ [⟨k, a, b⟩], (Value.slice av n2 cv), by omega, HNX, rfl, by go_num, HE1, HE2, HE3⟩
          case measure => simp [intOf]; omega
        · have hjI : ¬ (j : Int) < (m : Int) := by omega
          have HF : Hid (ds = mkP s.data.toList m z) := by show _ = _; rw [HP.out, show ((m : Int)).toNat = j by omega, HJ.out]
          obtain ⟨ax, cx, rfl⟩ := HC.out.val
          have qR := (HBL.out.block _ z0).trans HP0.out
          obtain ⟨r0, rf, rs⟩ := blk1 qR
          have rl := (Array.getElem?_eq_some_iff.1 qR).1
          clear HZ
          go_wp2
          refine bodyPost_ret (results_row_tmp rfl _ _ w.heap.size 30 #[.slice ax ds.length cx] (0, 0) _ rfl ?_ Tryd.underlying30 rfl (by kernel_rfl)) rfl ?_
          · have := heap_setCell_same wo' w.heap.size 0 _ _ (.slice ax ds.length cx) qR
            simpa using this
          · refine ⟨⟨ax, cx, by rw [← HF.out, HB.out]; rfl, ?_⟩, (HB1.out.trans (HBL.out.mono (by omega))).setCell (Nat.le_refl _) _⟩
            rw [← HF.out]
            exact (HC.out.low (by omega) _ _).mono (by omega)
    · have HB := Lib.hid (mkB_b (t := s.data.toList) n z hr)
      have HA := Lib.hid (mkP_no HB.out)
      clear hh
      rcases (show n < 0 ∨ (0 ≤ n ∧ 6 < n) ∨ ((0 ≤ n ∧ n ≤ 6) ∧ z < 0) ∨ ((0 ≤ n ∧ n ≤ 6) ∧ 0 ≤ z ∧ 9999 < z) by omega) with h1 | ⟨h1, h2⟩ | ⟨⟨h1, h2⟩, h3⟩ | ⟨⟨h1, h2⟩, h3, h4⟩
      all_goals
        clear hr
        go_enter Tryd.func18, Tryd.ntmps18
        go_wp2_with (go_at_call 43; (with_reducible refine (isHidden_b s true _ hs H1.out).mono ?_); rintro e w1 ⟨rfl, b1⟩; have p0 := box_at w _ b1; obtain ⟨e0, f0, s0⟩ := blk1 p0; have z0 := box_lt w _ b1; have B1 : Below w.heap.size w w1 := chain (w := w) (by go_grown) b1)
        refine bodyPost_ret (results_row_tmp rfl _ _ w.heap.size 30 #[.slice none 0 0] (0, 0) _ rfl ?_ Tryd.underlying30 rfl (by kernel_rfl)) rfl ?_
        · have := heap_setCell_same _ w.heap.size 0 _ _ (.slice none 0 0) p0
          simpa using this
        · refine ⟨⟨none, 0, by rw [HA.out, HB.out]; rfl, by rw [HA.out]; exact Clu.nil _ _⟩, B1.setCell (Nat.le_refl _) _⟩
set_option maxHeartbeats 4000000 in
theorem sMk_any (s : ByteArray) (n z : Int) (w : World) (hs : s.size ≤ maxLen) :
    Calls Tryd.prog 17 #[.string s, .int .i64 n, .int .i64 z] w fun e w' => (∃ a c, e = .returned (.tuple #[.agg #[.slice a (mkP s.data.toList n z).length c], .bool (mkB s.data.toList n z)]) ∧ Clu w.heap.size (mkP s.data.toList n z) (.slice a (mkP s.data.toList n z).length c) w') ∧ Below w.heap.size w w' := by
  have p0 : (w.alloc (.cells #[.slice none 0 0] 30)).heap[w.heap.size]? = some (.cells #[.slice none 0 0] 30) := heap_alloc_new _ _
  have B1 : Below w.heap.size w (w.alloc (.cells #[.slice none 0 0] 30)) := (Below.refl _ _).alloc (Nat.le_refl _) _
  rcases (show hidB s.data.toList = false ∨ hidB s.data.toList = true by cases hidB s.data.toList <;> simp) with hh | hh
  · have H1 := Lib.hid hh
    have HB := Lib.hid (mkB_a n z hh)
    have HA := Lib.hid (mkP_no HB.out)
    clear hh
    go_enter Tryd.func17, Tryd.ntmps17
    go_wp2_with (go_at_call 39; (with_reducible refine (pzHidden_b s false _ hs H1.out).mono ?_); rintro e wq ⟨rfl, rfl⟩)
    · refine bodyPost_ret (results_row_tmp rfl _ _ w.heap.size 30 #[.slice none 0 0] (0, 0) _ rfl ?_ Tryd.underlying30 rfl (by kernel_rfl)) rfl ?_
      · exact p0
      · exact ⟨⟨none, 0, by rw [HA.out, HB.out]; rfl, by rw [HA.out]; exact Clu.nil _ _⟩, B1⟩
  · have H1 := Lib.hid hh
    by_cases hr1 : 0 ≤ n ∧ n ≤ 6
    · have HN := Lib.hid (decide_eq_true hr1)
      by_cases hr2 : 0 ≤ z ∧ z ≤ 9999
      · have HZ2 := Lib.hid (decide_eq_true hr2)
        have hb : mkB s.data.toList n z = true := by unfold mkB; rw [hh, decide_eq_true ⟨hr1.1, hr1.2, hr2⟩]; rfl
        have HB := Lib.hid hb
        have HP := Lib.hid (mkP_yes hb)
        obtain ⟨hn0, hn6⟩ := hr1
        obtain ⟨hz0, hz9⟩ := hr2
        obtain ⟨m, rfl⟩ : ∃ m : Nat, n = (m : Int) := ⟨n.toNat, by omega⟩
        have hm6 : m ≤ 6 := by omega
        have hZ := mkJ_bd s.data.toList z ⟨hz0, by omega⟩
        have HZ := Lib.hid hZ
        have HPP := heap_pair (w1 := (w.alloc (.cells #[.slice none 0 0] 30)).alloc (.cells #[.slice none 0 0] 30)) (Below.refl _ _)
        have HP0 := Lib.hid HPP.1
        have HQ0 := Lib.hid HPP.2
        have hB0 := below2 w (.cells #[.slice none 0 0] 30) (.cells #[.slice none 0 0] 30)
        have HB1 := Lib.hid hB0
        have HC0 : Hid (Clu (w.heap.size + 2) [] (.slice none 0 0) ((w.alloc (.cells #[.slice none 0 0] 30)).alloc (.cells #[.slice none 0 0] 30))) := Clu.nil _ _
        obtain ⟨wA, hwA⟩ : ∃ wA, (w.alloc (.cells #[.slice none 0 0] 30)).alloc (.cells #[.slice none 0 0] 30) = wA := ⟨_, rfl⟩
        have HWA := Lib.hid hwA
        rw [hwA] at HP0 HQ0 HB1 HC0
        clear hh hb hZ HPP hB0 p0 B1 hwA
        go_enter Tryd.func17, Tryd.ntmps17
        go_wp2_with (first
          | (go_at_call 39; (with_reducible refine (pzHidden_b s true _ hs H1.out).mono ?_); rintro e wq ⟨rfl, rfl⟩)
          | (go_at_call 40; (first | (with_reducible refine (in_b (m : Int) 0 6 true _ HN.out).mono ?_) | (with_reducible refine (in_b z 0 9999 true _ HZ2.out).mono ?_)); rintro e wq ⟨rfl, rfl⟩))
        rw [HWA.out]
        go_loopw [1, 9] (fun nv zv wr => ∃ (j r : Nat) (zz : Int) (ds : List Cl) (u : Value), Hid (j + r = m) ∧ Hid (mkJ s.data.toList z j = (ds, zz)) ∧ nv = .int .i64 r ∧ zv = .int .i64 zz ∧ Hid (wr.heap[w.heap.size + 1]? = some (.cells #[u] 30)) ∧ Hid (Clu (w.heap.size + 2) ds u wr) ∧ Hid (Below (w.heap.size + 1) wA wr)) (fun nv _ _ => (intOf nv).toNat)
        case atStart => exact ⟨0, m, z, [], .slice none 0 0, Nat.zero_add _, Lib.hid rfl, rfl, rfl, HQ0, HC0, Below.refl _ _⟩
        case round =>
          clear HQ0 HC0
          obtain ⟨j, r, zz, ds, u, HJR, HJ, rfl, rfl, HQ, HC, HBL⟩ := hrel
          obtain ⟨wo', rfl⟩ : ∃ wo' : World, wo' = wr := ⟨_, rfl⟩
          have hzz := HZ.out j
          have hdl := mkJ_len s.data.toList z j
          rw [HJ.out] at hzz hdl
          simp only at hzz hdl
          have HDL := Lib.hid hdl
          obtain ⟨zz0, zz1⟩ := hzz
          clear hdl
          have hr6 : r ≤ 6 := by have := HJR.out; omega
          have hPl := (Array.getElem?_eq_some_iff.1 HQ.out).1
          obtain ⟨eu, fu, su⟩ := blk1 HQ.out
          by_cases hr0 : 0 < r
          · have hrI : (0 : Int) < (r : Int) := by omega
            obtain ⟨y1, hy1⟩ : ∃ y, nxz zz = y := ⟨_, rfl⟩
            have HM1 := Lib.hid (fun W => pzNext_any zz W ⟨zz0, zz1⟩)
            rw [hy1] at HM1
            have hb1 := nxz_bd zz
            rw [hy1] at hb1
            have HM2 := Lib.hid (fun W => pzNext_any y1 W hb1)
            obtain ⟨y2, hy2⟩ : ∃ y, nxz y1 = y := ⟨_, rfl⟩
            rw [hy2] at HM2
            have hb2 := nxz_bd y1
            rw [hy2] at hb2
            obtain ⟨k, hk⟩ : ∃ k, y1 % 5 = k := ⟨_, rfl⟩
            have hk5 : y1.tmod 5 = k := by rw [← hk]; exact Int.tmod_eq_emod_of_nonneg hb1.1
            have hkb : 0 ≤ k ∧ k ≤ 4 := by omega
            have HOF := Lib.hid (fun W => pzOf_any k y2 s W H1.out hkb hb2)
            obtain ⟨a, ha⟩ : ∃ a, mkA k y2 = a := ⟨_, rfl⟩
            rw [ha] at HOF
            obtain ⟨b, hbb⟩ : ∃ b, tv k a s.data.toList = b := ⟨_, rfl⟩
            rw [hbb] at HOF
            have HNX := Lib.hid (mkJ_next HJ.out hy1 hk hy2 ha hbb)
            clear hy1 hy2 hk ha hbb
            have eu' : wo'.drew.cell? ⟨w.heap.size + 1, 0, none⟩ = some u := eu
            go_wp2_with (go_at_call 41; (first | (with_reducible refine (HM1.out _).mono ?_) | (with_reducible refine (HM2.out _).mono ?_)); rintro e wq ⟨rfl, rfl⟩)
            go_region_law (first
              | (go_simp; go_at_call 42; ((with_reducible refine (HOF.out _).mono ?_); rintro e w3 ⟨rfl, b3⟩; have B3 := (below_drw (Below.refl wo'.heap.size wo')).trans b3; have qP := (B3.block _ hPl).trans HQ.out; obtain ⟨g0, gf, gs⟩ := blk1 qP; have gl := (Array.getElem?_eq_some_iff.1 qP).1))
              | (have hck := B3; clear hck; have B5 := B3.alloc B3.size (.cells #[.int .i64 k, .int .i64 a, .int .i64 b] 58); have hs5 := B5.size; (refine step_append_clus (by rfl) _ _ (by rfl) (w.heap.size + 2) ds u (by rfl) (HC.out.below B5) _ 1 1 [⟨k, a, b⟩] (by rfl) (RdC.one _ ⟨k, a, b⟩ _) (by have := HDL.out; have := HJR.out; simp; omega) (by omega) ?_; intro v' w6 i6 b6; obtain ⟨av, cv, hv⟩ := i6.val; obtain ⟨n2, hn2⟩ : ∃ n2, (ds ++ [(⟨k, a, b⟩ : Cl)]).length = n2 := ⟨_, rfl⟩; rw [hn2] at hv; subst hv; clear hn2; have q6 := (b6.block (w.heap.size + 1) (by omega)).trans ((B5.block _ hPl).trans HQ.out); obtain ⟨k0, kf, ks⟩ := blk1 q6; have kl := (Array.getElem?_eq_some_iff.1 q6).1)))
            all_goals
              have HE1 : Hid ((w6.setCell ⟨w.heap.size + 1, 0, none⟩ (Value.slice av n2 cv)).heap[w.heap.size + 1]? = some (.cells #[(Value.slice av n2 cv)] 30)) := by
                have := heap_setCell_same w6 (w.heap.size + 1) 0 _ _ (Value.slice av n2 cv) q6
                show _ = _
                simpa using this
              have HE2 : Hid (Clu (w.heap.size + 2) (ds ++ [⟨k, a, b⟩]) (Value.slice av n2 cv) (w6.setCell ⟨w.heap.size + 1, 0, none⟩ (Value.slice av n2 cv))) := i6.low (by omega) _ _
              have HE3 : Hid (Below (w.heap.size + 1) wA (w6.setCell ⟨w.heap.size + 1, 0, none⟩ (Value.slice av n2 cv))) := ((HBL.out.trans (B5.mono (by omega))).trans (b6.mono (by omega))).setCell (Nat.le_refl _) _
              go_wp2
              go_roundw
              case rel => exact ⟨j + 1, r - 1, y2, ds ++ [⟨k, a, b⟩], (Value.slice av n2 cv), by have := HJR.out; show _ = _; omega, HNX, val_int (by omega), rfl, HE1, HE2, HE3⟩
              case measure => simp [intOf]; omega
          · have hrI : ¬ (0 : Int) < (r : Int) := by omega
            have HF : Hid (ds = mkP s.data.toList m z) := by show _ = _; rw [HP.out, show ((m : Int)).toNat = j by have := HJR.out; omega, HJ.out]
            obtain ⟨ax, cx, rfl⟩ := HC.out.val
            have qR := (HBL.out.block w.heap.size (by omega)).trans HP0.out
            obtain ⟨r0, rf, rs⟩ := blk1 qR
            have rl := (Array.getElem?_eq_some_iff.1 qR).1
            clear HZ
            go_wp2
            refine bodyPost_ret (results_row_tmp rfl _ _ w.heap.size 30 #[.slice ax ds.length cx] (0, 0) _ rfl ?_ Tryd.underlying30 rfl (by kernel_rfl)) rfl ?_
            · have := heap_setCell_same wo' w.heap.size 0 _ _ (.slice ax ds.length cx) qR
              simpa using this
            · refine ⟨⟨ax, cx, by rw [← HF.out, HB.out]; rfl, ?_⟩, (HB1.out.trans (HBL.out.mono (by omega))).setCell (Nat.le_refl _) _⟩
              rw [← HF.out]
              exact (HC.out.low (by omega) _ _).mono (by omega)
      · have HZ2 := Lib.hid (decide_eq_false hr2)
        have HB := Lib.hid (mkB_b (t := s.data.toList) n z (fun h => hr2 ⟨h.2.2.1, h.2.2.2⟩))
        have HA := Lib.hid (mkP_no HB.out)
        clear hh hr1 hr2
        go_enter Tryd.func17, Tryd.ntmps17
        go_wp2_with (first
          | (go_at_call 39; (with_reducible refine (pzHidden_b s true _ hs H1.out).mono ?_); rintro e wq ⟨rfl, rfl⟩)
          | (go_at_call 40; (first | (with_reducible refine (in_b n 0 6 true _ HN.out).mono ?_) | (with_reducible refine (in_b z 0 9999 false _ HZ2.out).mono ?_)); rintro e wq ⟨rfl, rfl⟩))
        refine bodyPost_ret (results_row_tmp rfl _ _ w.heap.size 30 #[.slice none 0 0] (0, 0) _ rfl ?_ Tryd.underlying30 rfl (by kernel_rfl)) rfl ?_
        · exact p0
        · exact ⟨⟨none, 0, by rw [HA.out, HB.out]; rfl, by rw [HA.out]; exact Clu.nil _ _⟩, B1⟩
    · have HN := Lib.hid (decide_eq_false hr1)
      have HB := Lib.hid (mkB_b (t := s.data.toList) n z (fun h => hr1 ⟨h.1, h.2.1⟩))
      have HA := Lib.hid (mkP_no HB.out)
      clear hh hr1
      go_enter Tryd.func17, Tryd.ntmps17
      go_wp2_with (first
        | (go_at_call 39; (with_reducible refine (pzHidden_b s true _ hs H1.out).mono ?_); rintro e wq ⟨rfl, rfl⟩)
        | (go_at_call 40; (with_reducible refine (in_b n 0 6 false _ HN.out).mono ?_); rintro e wq ⟨rfl, rfl⟩))
      refine bodyPost_ret (results_row_tmp rfl _ _ w.heap.size 30 #[.slice none 0 0] (0, 0) _ rfl ?_ Tryd.underlying30 rfl (by kernel_rfl)) rfl ?_
      · exact p0
      · exact ⟨⟨none, 0, by rw [HA.out, HB.out]; rfl, by rw [HA.out]; exact Clu.nil _ _⟩, B1⟩

end Go.Proofs.YtakckgbkfnogbabDoor
