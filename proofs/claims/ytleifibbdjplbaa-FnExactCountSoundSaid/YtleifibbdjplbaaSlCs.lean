/-
  The law of CountSound.
-/
import Derived.Test.YtleifibbdjplbaaSlRc
import Derived.Test.YtleifibbdjplbaaSlLawA
namespace Go.Proofs.Ytleifibbdjplbaa
open Go.RowKit

/-- What CountSound answers. -/
def cntA (xs : List Int) (m : Int) : Int := if chkB xs m = true then cR xs m xs.length 0 else 0
set_option maxHeartbeats 1000000 in
theorem iCnt_any (xs : List Int) (m : Int) (v : Value) (w : World) (hn : xs.length ≤ 1048576) (h : RdI xs v w) :
    Calls Try.prog 19 #[.agg #[v, .int .i64 m]] w fun e w' => e = .returned (.tuple #[.int .i64 (cntA xs m), .bool (chkB xs m)]) ∧ Below w.heap.size w w' := by
  have HV := Lib.hid h
  have HN := Lib.hid (fun W hr => isCheck_any xs m v W hn hr)
  clear h
  cases hb : chkB xs m with
  | false =>
    have HZ : Hid (0 = cntA xs m) := by show _ = _; unfold cntA; rw [if_neg (by simp [hb])]
    rw [hb] at HN
    go_enter Try.func19, Try.ntmps19
    go_wp2_with (go_at_call 12; (with_reducible refine (HN.out _ (HV.out.below (by go_grown))).mono ?_); rintro e w1 ⟨rfl, b1⟩)
    go_ret2
    exact ⟨ret_ib HZ.out rfl, chain (w := w) (by go_grown) b1⟩
  | true =>
    have HZ : Hid (cR xs m xs.length 0 = cntA xs m) := by show _ = _; unfold cntA; rw [if_pos hb]
    obtain ⟨h2, ho⟩ := (chkB_iff _ _).1 hb
    have HB := Lib.hid (fun W hr => restC_any xs m v W ho hr)
    have hM2 := ho.m2
    have hM11 := ho.m11
    obtain ⟨M, hM⟩ : ∃ M : Nat, m.toNat = M := ⟨_, rfl⟩
    have hM0 : 0 < M := by omega
    have hM1 : M ≤ 11 := by omega
    rw [hM] at HB
    rw [hb] at HN
    clear hb ho hM
    go_enter Try.func19, Try.ntmps19
    go_wp2_with (first | (go_at_call 12; (with_reducible refine (HN.out _ (HV.out.below (by go_grown))).mono ?_); rintro e w1 ⟨rfl, b1⟩; have B1 : Below w.heap.size w w1 := chain (w := w) (by go_grown) b1; obtain ⟨c0, c1, hz⟩ := box2_kept b1; have A1 := HV.out.below B1) | (go_at_call 41; (with_reducible refine (HB.out _ A1).mono ?_); rintro e w2 ⟨⟨g, rfl, hg, hr⟩, b2⟩; have cg := hr.cell hM0))
    go_ret2
    exact ⟨ret_ib HZ.out rfl, chain B1 b2⟩
set_option maxHeartbeats 4000000 in
theorem sCnt_yes (xs : List Int) (m : Int) (v : Value) (w : World) (hn : xs.length ≤ 1048576) (h : RdI xs v w) (ho : CkOk xs m) (hb : chkB xs m = true) :
    Calls Try.prog 18 #[.agg #[v, .int .i64 m]] w fun e w' => e = .returned (.tuple #[.int .i64 (cR xs m xs.length 0), .bool true]) ∧ Below w.heap.size w w' := by
  have HV := Lib.hid h
  obtain ⟨i0, hi, hz0, hz1, hz2⟩ := info_parts (show (Try.prog.info? 3).map (fun i => (i.zero, i.size, i.bytes)) = some (some (.int .i64 0), 1, 8) by kernel_rfl)
  obtain ⟨M, rfl⟩ : ∃ M : Nat, m = M := ⟨m.toNat, by have := ho.m2; omega⟩
  have HO := Lib.hid ho
  have hM2 := ho.m2
  have hM11 := ho.m11
  have hn12 := ho.len
  obtain ⟨a, cap, rfl, hc⟩ := h
  have HC := Lib.hid hc
  have HGD := Lib.hid (fun W hr => slGood_any xs M _ W hn hr : ∀ W, RdI xs (.slice a xs.length cap) W → _)
  rw [hb] at HGD
  obtain ⟨n, hnn⟩ : ∃ n, n = xs.length := ⟨_, rfl⟩
  have HN := Lib.hid hnn
  rw [← hnn] at hn12 HV HGD
  rw [← hnn]
  clear hc ho hnn
  clear hb
  go_enter Try.func18, Try.ntmps18
  go_wp2_with (first | (go_at_call 29; (with_reducible refine (HGD.out _ (HV.out.below (by go_grown))).mono ?_); rintro e w1 ⟨rfl, b1⟩; have B1 : Below w.heap.size w w1 := chain (w := w) (by go_grown) b1; obtain ⟨c0, c1, hwz⟩ := box2_kept b1; have hf0 := (IRow.made w1 M).frozen 0; have hc0 := (IRow.made w1 M).cell (i := 0) (by omega)) | (refine wpList_make_rowL _ rfl _ _ 22 rfl 3 i0 (.int .i64 0) Try.underlying22 hi hz0 hz1 rfl .i64 .i64 _ _ M rfl rfl (by omega) (by omega) (by rw [hz2]; omega) (by omega) ?_))
  have HBX : Hid (Blk w1 w.heap.size #[.slice a n cap, .int .i64 M] 27) := (Blk.new _ _ _).keep b1
  have HB0 := Lib.hid B1
  have HX : Hid (∀ i, i < xs.length → ∃ g o, a = some ⟨g, o, none⟩ ∧ g < w1.heap.size ∧ w1.cell? ⟨g, o + i, none⟩ = some (.int .i64 (xs.getD i 0))) := fun i hi => by
    obtain ⟨g, o, h1, h2, h3⟩ := HC.out i hi
    exact ⟨g, o, h1, by have := HB0.out.size; omega, (HB0.out.cell (p := ⟨g, o + i, none⟩) h2).trans h3⟩
  obtain ⟨W0, hW0⟩ : ∃ W0, W0 = w1 := ⟨_, rfl⟩
  subst hW0
  have HC00 : Hid (IRow (W0.alloc (.cells ((madeCells #[.int .i64 0] M).setIfInBounds 0 (.int .i64 1)) 3)) W0.heap.size M (cR xs M 0)) := (IRow.first W0 M 1).same (fun j _ => by rw [cR])
  have hb0 : Below W0.heap.size W0 (W0.alloc (.cells ((madeCells #[.int .i64 0] M).setIfInBounds 0 (.int .i64 1)) 3)) := (Below.refl _ _).alloc (Nat.le_refl _) _
  have hg1 : W0.heap.size < (W0.alloc (.cells ((madeCells #[.int .i64 0] M).setIfInBounds 0 (.int .i64 1)) 3)).heap.size := by simp [World.size_alloc]
  obtain ⟨wr0, hwr0⟩ : ∃ wr0, wr0 = W0.alloc (.cells ((madeCells #[.int .i64 0] M).setIfInBounds 0 (.int .i64 1)) 3) := ⟨_, rfl⟩
  rw [← hwr0] at HC00 hb0 hg1
  rw [← hwr0]
  clear hwr0 hf0 hc0 c0 c1 b1 B1
  obtain ⟨bb, hbb⟩ : ∃ bb, bb = W0.heap.size := ⟨_, rfl⟩
  have hwb : w.heap.size < bb := by omega
  have HSZ : Hid (W0.heap.size = bb) := hbb.symm
  rw [← hbb] at hg1 HC00 hb0
  rw [← hbb]
  clear hbb hwz
  obtain ⟨g0, hgg0⟩ : ∃ g0, g0 = bb := ⟨_, rfl⟩
  have hg0 : bb ≤ g0 := by omega
  rw [← hgg0] at hg1 HC00
  rw [← hgg0]
  clear hgg0
  have HC0 : Hid (IRow wr0 g0 M (cR xs M 0)) := HC00
  go_loopw [4, 22] (fun cv iv wr => ∃ k g : Nat, k ≤ n ∧ iv = .int .i64 k ∧ cv = .slice (some ⟨g, 0, none⟩) M M ∧ Hid (IRow wr g M (cR xs M k)) ∧ bb ≤ g ∧ g < wr.heap.size ∧ Below (bb) W0 wr) (fun _ iv _ => n - (intOf iv).toNat)
  case atStart => exact ⟨0, g0, Nat.zero_le _, rfl, rfl, HC0, hg0, hg1, hb0⟩
  case round =>
    clear HC00 HC0
    obtain ⟨k, g, hk, rfl, rfl, HG, hgB, hgs, hb⟩ := hrel
    obtain ⟨wo, rfl⟩ : ∃ wo : World, wo = wr := ⟨_, rfl⟩
    by_cases hlt : k < n
    · have hlt2 : k < xs.length := by rw [← HN.out]; exact hlt
      obtain ⟨gx, ox, rfl, hgx, hcell0⟩ := HX.out k hlt2
      have hcell := (hb.cell (p := ⟨gx, ox + k, none⟩) (by rw [HSZ.out] at hgx; exact hgx)).trans hcell0
      have hx := HO.out.x k hlt2
      obtain ⟨x, hxx⟩ : ∃ x, x = xs.getD k 0 := ⟨_, rfl⟩
      rw [← hxx] at hcell hx
      have HXX := Lib.hid hxx
      obtain ⟨hx0, hx1⟩ := hx
      have hx10 : x ≤ 10 := by omega
      have hbx := HBX.out.keepB hb (by omega)
      have c1 := hbx.cell 1
      simp at c1
      have hwo := hb.size
      clear hcell0 hxx hbx hgx
      go_wp2_with (refine wpList_make_rowL _ rfl _ _ 22 rfl 3 i0 (.int .i64 0) Try.underlying22 hi hz0 hz1 rfl .i64 .i64 _ _ M rfl rfl (by omega) (by omega) (by rw [hz2]; omega) (by omega) ?_)
      have HR2 := Lib.hid (IRow.made wo M)
      have HR1 := Lib.hid (HG.out.alloc (.cells (madeCells #[.int .i64 0] M) 3))
      have hne : g ≠ wo.heap.size := by omega
      clear c1
      go_loopw [31] (fun rv wq => ∃ R : Nat, R ≤ M ∧ rv = .int .i64 R ∧ Hid (IRow wq wo.heap.size M (scR (cR xs M k) x M R)) ∧ Hid (IRow wq g M (cR xs M k)) ∧ Below (bb) W0 wq ∧ wo.heap.size < wq.heap.size) (fun rv _ => M - (intOf rv).toNat)
      case atStart => exact ⟨0, Nat.zero_le _, rfl, HR2, HR1, hb.alloc (by omega) _, by simp⟩
      case round =>
        clear HR1 HR2
        obtain ⟨R, hR, rfl, HW2, HW1, hqb, hqs⟩ := hrel
        obtain ⟨wp, rfl⟩ : ∃ wp : World, wp = wr := ⟨_, rfl⟩
        by_cases hRM : R < M
        · have d1 := HW1.out.cell hRM
          have hcb := cR_bd xs M k R (by omega) (by omega) (by omega)
          obtain ⟨C, hC⟩ : ∃ C, C = cR xs M k R := ⟨_, rfl⟩
          rw [← hC] at d1 hcb
          have HCC := Lib.hid hC
          obtain ⟨hC0, hC1⟩ := hcb
          clear hC
          go_wp2_with fail
          clear d1
          go_loopw [10] (fun dv ws => ∃ D : Nat, D ≤ 10 ∧ dv = .int .i64 D ∧ Hid (IRow ws wo.heap.size M (scM (cR xs M k) x M R D)) ∧ Hid (IRow ws g M (cR xs M k)) ∧ Below (bb) W0 ws ∧ wo.heap.size < ws.heap.size) (fun dv _ => 10 - (intOf dv).toNat)
          case atStart => exact ⟨0, Nat.zero_le _, rfl, HW2.out.same (fun j _ => (scM_zero _ _ _ _ _).symm), HW1, hqb, hqs⟩
          case round =>
            clear HW2 HW1 hqb hqs
            obtain ⟨D, hD, rfl, HS2, HS1, hsb, hss⟩ := hrel
            obtain ⟨wt, rfl⟩ : ∃ wt : World, wt = wr := ⟨_, rfl⟩
            by_cases hD10 : D < 10
            · obtain ⟨q, hq, hqM⟩ := rest_nat ((R : Int) + x * (D : Int)) (M : Int) (by omega)
              have hqM' : q < M := by omega
              have hp0 : 0 ≤ x * (D : Int) := Int.mul_nonneg hx0 (by omega)
              have hp1 : x * (D : Int) ≤ 10 * 9 := Int.mul_le_mul hx10 (by omega) (by omega) (by omega)
              have e2 := HS2.out.cell (i := q) hqM'
              have ef := HS2.out.frozen q
              have hM := scM_bd xs (M : Int) k R D q (by omega) (by omega) (by omega) (by omega) (by omega)
              rw [← HXX.out] at hM
              obtain ⟨T, hT⟩ : ∃ T, T = scM (cR xs M k) x M R D q := ⟨_, rfl⟩
              rw [← hT] at e2 hM
              have HT : Hid (∀ j, scM (cR xs M k) x M R (D + 1) j = if j = q then T + C else scM (cR xs M k) x M R D j) := fun j => by rw [scM_succ _ _ _ _ _ q hq, ← hT, ← HCC.out]
              have HP := Lib.hid (HS2.out.put q (T + C) HT.out)
              have HP1 := Lib.hid (HS1.out.other (a := ⟨wo.heap.size, q, none⟩) (by simpa using hne) (.int .i64 (T + C)))
              obtain ⟨hM0, hM1⟩ := hM
              have hbx := HBX.out.keepB hsb (by omega)
              have c1 := hbx.cell 1
              simp at c1
              have hq' : ((R : Int) + x * (D : Int)) % (M : Int) = (q : Int) := hq.symm
              have hqt : ((R : Int) + x * (D : Int)).tmod (M : Int) = (q : Int) := by rw [Int.tmod_eq_emod_of_nonneg (by omega)]; exact hq'
              clear hT hbx hq HT
              go_wp2
              go_roundw
              case rel => exact ⟨D + 1, by omega, by go_num, HP, HP1, hsb.setCell (by simp only []; omega) _, by simp [World.setCell]; omega⟩
              case measure => simp [intOf]; omega
            · have HE : Hid (IRow wt wo.heap.size M (scR (cR xs M k) x M (R + 1))) := HS2.out.same (fun j _ => by rw [show D = 10 by omega, scM_ten])
              go_wp2
              go_roundw
              case rel => exact ⟨R + 1, by omega, by go_num, HE, HS1, hsb, hss⟩
              case measure => simp [intOf]; omega
        · have HE : Hid (IRow wp wo.heap.size M (cR xs M (k + 1))) := HW2.out.same (fun j _ => by rw [cR, ← HXX.out, show ((M : Nat) : Int).toNat = M by omega, show R = M by omega])
          go_wp2
          go_roundw
          case rel => exact ⟨k + 1, wo.heap.size, by omega, by go_num, rfl, HE, by omega, hqs, hqb⟩
          case measure => simp [intOf]; omega
    · have HE : Hid (IRow wo g M (cR xs M xs.length)) := by show IRow _ _ _ _; rw [← HN.out, show n = k by omega]; exact HG.out
      have cg := HE.out.cell (i := 0) (by omega)
      rw [← HN.out] at cg
      go_wp2
      go_ret2
      exact ⟨rfl, HB0.out.trans (hb.mono (by omega))⟩
theorem sCnt_any (xs : List Int) (m : Int) (v : Value) (w : World) (hn : xs.length ≤ 1048576) (h : RdI xs v w) :
    Calls Try.prog 18 #[.agg #[v, .int .i64 m]] w fun e w' => e = .returned (.tuple #[.int .i64 (cntA xs m), .bool (chkB xs m)]) ∧ Below w.heap.size w w' := by
  cases hb : chkB xs m with
  | false =>
    have HV := Lib.hid h
    have HN := Lib.hid (fun W hr => slGood_any xs m v W hn hr)
    have HZ : Hid (0 = cntA xs m) := by show _ = _; unfold cntA; rw [if_neg (by simp [hb])]
    rw [hb] at HN
    clear h
    go_enter Try.func18, Try.ntmps18
    go_wp2_with (go_at_call 29; (with_reducible refine (HN.out _ (HV.out.below (by go_grown))).mono ?_); rintro e w1 ⟨rfl, b1⟩)
    go_ret2
    exact ⟨ret_ib HZ.out rfl, chain (w := w) (by go_grown) b1⟩
  | true =>
    have e : cntA xs m = cR xs m xs.length 0 := by unfold cntA; rw [if_pos hb]
    rw [e]
    exact sCnt_yes xs m v w hn h ((chkB_iff _ _).1 hb).2 hb
set_option maxHeartbeats 2000000 in
theorem FnExactCountSound_law (xs : List Int) (m : Int) (v : Value) (hn : xs.length ≤ maxLen) (_hm : (Lit.int .i64 m).wf = true) (w : World) (h : RdI xs v w) :
    Calls Try.prog 6 #[.agg #[v, .int .i64 m]] w fun e w' => e = .returned (.bool true) ∧ Below w.heap.size w w' := by
  have hnm := hn
  unfold maxLen at hn
  have HV := Lib.hid h
  have hs1 : xs.length ≤ 1048576 → ∀ u W, RdI xs u W → Calls Try.prog 18 #[.agg #[u, .int .i64 m]] W fun e w' => e = .returned ((.tuple #[.int .i64 (cntA xs m), .bool (chkB xs m)])) ∧ Below W.heap.size W w' := fun hn u W hr => sCnt_any xs m u W hn hr
  have hi1 : xs.length ≤ 1048576 → ∀ u W, RdI xs u W → Calls Try.prog 19 #[.agg #[u, .int .i64 m]] W fun e w' => e = .returned ((.tuple #[.int .i64 (cntA xs m), .bool (chkB xs m)])) ∧ Below W.heap.size W w' := fun hn u W hr => iCnt_any xs m u W hn hr
  obtain ⟨A0, hA0⟩ : ∃ A0 : Int, A0 = cntA xs m := ⟨_, rfl⟩
  obtain ⟨A1, hA1⟩ : ∃ A1 : Bool, A1 = chkB xs m := ⟨_, rfl⟩
  rw [← hA0, ← hA1] at hs1 hi1
  have HS := Lib.hid hs1
  have HI := Lib.hid hi1
  clear h hs1 hi1 hA0 hA1
  go_enter Try.func6, Try.ntmps6
  go_wp2_with (go_at_call 9; go_must ((with_reducible refine (szCheck_any xs m v _ hnm (HV.out.below (by go_grown))).mono ?_); rintro e w1 ⟨⟨r, rfl, hr⟩, b1⟩; obtain ⟨c0, c1, hz⟩ := box2_kept b1; by_cases hr0 : r < 0))
  all_goals go_wp2_with fail
  · go_ret
    exact ⟨rfl, chain (w := w) (by go_grown) b1⟩
  · have hN := hr (by omega)
    have B1 : Below w.heap.size w w1 := chain (w := w) (by go_grown) b1
    have A1 := HV.out.below B1
    have HS' := Lib.hid (HS.out hN)
    have HI' := Lib.hid (HI.out hN)
    clear hr b1
    go_wp2_with (first
      | (go_at_call 11; (with_reducible refine (toCheck_any xs m v _ hN A1).mono ?_); rintro e w2 ⟨⟨g2, rfl, u2⟩, b2⟩; obtain ⟨d0, d1, dz⟩ := keep2 hz c0 c1 b2; have B2 := chain B1 b2)
      | (go_at_call 18; (with_reducible refine (HS'.out _ _ u2.rd).mono ?_); rintro e w3 ⟨rfl, b3⟩; obtain ⟨e0, e1, ez⟩ := keep2 dz d0 d1 b3; have B3 := chain B2 b3; have A3 := HV.out.below B3)
      | (go_at_call 11; (with_reducible refine (toCheck_any xs m v _ hN A3).mono ?_); rintro e w4 ⟨⟨g4, rfl, u4⟩, b4⟩; obtain ⟨f0, f1, fz⟩ := keep2 ez e0 e1 b4; have B4 := chain B3 b4; have u5 := u4.below ((Below.refl _ _).alloc (Nat.le_refl _) (.cells #[.slice (some ⟨g4, 0, none⟩) xs.length xs.length, .int .i64 m] 27)); have B5 : Below w.heap.size w (w4.alloc (.cells #[.slice (some ⟨g4, 0, none⟩) xs.length xs.length, .int .i64 m] 27)) := B4.alloc B4.size _)
      | (go_at_call 19; (with_reducible refine (HI'.out _ _ u5.rd).mono ?_); rintro e w6 ⟨rfl, b6⟩; obtain ⟨x0, x1, xz⟩ := box2_kept b6; obtain ⟨y0, y1, yz⟩ := keep2 fz f0 f1 (chain (w := w4) (by go_grown) b6); have B6 := chain B5 b6; have A6 := HV.out.below B6; have u6 := u5.below b6))
    go_region_with (first
      | (go_at_call 11; (with_reducible refine (toCheck_any xs m v _ hN (A6.below (by go_grown))).mono ?_); rintro e w7 ⟨⟨g7, rfl, u7⟩, b7⟩; have B7 : Below w6.heap.size w6 w7 := chain (w := w6) (by go_grown) b7; obtain ⟨z0, z1, zz⟩ := keep2 xz x0 x1 B7)
      | (go_at_call 13; (with_reducible refine (eqCheck_yes m _ _ xs _ _ _ hN (u6.below B7) u7).mono ?_); rintro e w8 ⟨rfl, b8⟩; have B8 : Below w6.heap.size w6 w8 := chain B7 b8))
    all_goals go_wp2
    all_goals
      go_ret
      exact ⟨rfl, chain B6 B8⟩
end Go.Proofs.Ytleifibbdjplbaa
