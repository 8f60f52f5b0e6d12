/-
  How many numbers leave each rest: the program's counts.
-/
import Derived.Test.YtdjcgddcgjbboaaSlRow
namespace Go.Proofs.Ytdjcgddcgjbboaa
open Go.RowKit

set_option maxHeartbeats 4000000 in
theorem restC_any (xs : List Int) (m : Int) (v : Value) (w : World) (ho : CkOk xs m) (h : RdI xs v w) :
    Calls Try.prog 27 #[.agg #[v, .int .i64 m]] w fun e w' => (∃ g, e = .returned (.slice (some ⟨g, 0, none⟩) m.toNat m.toNat) ∧ w.heap.size ≤ g ∧ IRow w' g m.toNat (cR xs m xs.length)) ∧ Below w.heap.size w w' := by
  obtain ⟨i0, hi, hz0, hz1, hz2⟩ := info_parts (show (Try.prog.info? 3).map (fun i => (i.zero, i.size, i.bytes)) = some (some (.int .i64 0), 1, 8) by kernel_rfl)
  obtain ⟨M, rfl⟩ : ∃ M : Nat, m = M := ⟨m.toNat, by have := ho.m2; omega⟩
  have HO := Lib.hid ho
  have hM2 := ho.m2
  have hM11 := ho.m11
  have hn12 := ho.len
  obtain ⟨a, cap, rfl, hc⟩ := h
  have HC := Lib.hid hc
  obtain ⟨n, hnn⟩ : ∃ n, n = xs.length := ⟨_, rfl⟩
  have HN := Lib.hid hnn
  rw [← hnn] at hn12
  rw [← hnn]
  clear hc ho hnn
  rw [show ((M : Nat) : Int).toNat = M by omega]
  go_enter Try.func27, Try.ntmps27
  have c1 : (w.alloc (.cells #[.slice a n cap, .int .i64 M] 29)).cell? ⟨w.heap.size, 1, none⟩ = some (.int .i64 M) := by simp
  have hf0 := (IRow.made (w.alloc (.cells #[.slice a n cap, .int .i64 M] 29)) M).frozen 0
  have hc0 := (IRow.made (w.alloc (.cells #[.slice a n cap, .int .i64 M] 29)) M).cell (i := 0) (by omega)
  rw [World.size_alloc] at hf0 hc0
  go_wp2_with (refine wpList_make_rowL _ rfl _ _ 22 rfl 3 i0 (.int .i64 0) Try.underlying22 hi hz0 hz1 rfl .i64 .i64 _ _ M rfl rfl (by omega) (by omega) (by rw [hz2]; omega) (by omega) ?_)
  obtain ⟨W0, hW0⟩ : ∃ W0, W0 = w.alloc (.cells #[.slice a n cap, .int .i64 M] 29) := ⟨_, rfl⟩
  have HBX : Hid (Blk W0 w.heap.size #[.slice a n cap, .int .i64 M] 29) := by show Blk _ _ _ _; rw [hW0]; exact Blk.new _ _ _
  have HSZ : Hid (W0.heap.size = w.heap.size + 1) := by show _ = _; rw [hW0]; exact World.size_alloc _ _
  have HB0 : Hid (Below w.heap.size w W0) := by show Below _ _ _; rw [hW0]; exact (Below.refl _ _).alloc (Nat.le_refl _) _
  have HX : Hid (∀ i, i < xs.length → ∃ g o, a = some ⟨g, o, none⟩ ∧ g < W0.heap.size ∧ W0.cell? ⟨g, o + i, none⟩ = some (.int .i64 (xs.getD i 0))) := fun i hi => by
    obtain ⟨g, o, h1, h2, h3⟩ := HC.out i hi
    exact ⟨g, o, h1, by have := HB0.out.size; omega, (HB0.out.cell (p := ⟨g, o + i, none⟩) h2).trans h3⟩
  have HC00 : Hid (IRow (W0.alloc (.cells ((madeCells #[.int .i64 0] M).setIfInBounds 0 (.int .i64 1)) 3)) (w.heap.size + 1) M (cR xs M 0)) := by
    show IRow _ _ _ _
    rw [← HSZ.out]
    exact (IRow.first W0 M 1).same (fun j _ => by rw [cR])
  rw [← hW0]
  clear hW0 hf0 hc0 c1
  have hb0 : Below (w.heap.size + 1) W0 (W0.alloc (.cells ((madeCells #[.int .i64 0] M).setIfInBounds 0 (.int .i64 1)) 3)) := (Below.refl _ _).alloc (by rw [HSZ.out]; exact Nat.le_refl _) _
  have hg1 : w.heap.size + 1 < (W0.alloc (.cells ((madeCells #[.int .i64 0] M).setIfInBounds 0 (.int .i64 1)) 3)).heap.size := by simp [World.size_alloc, HSZ.out]
  obtain ⟨wr0, hwr0⟩ : ∃ wr0, wr0 = W0.alloc (.cells ((madeCells #[.int .i64 0] M).setIfInBounds 0 (.int .i64 1)) 3) := ⟨_, rfl⟩
  rw [← hwr0] at HC00 hb0 hg1
  rw [← hwr0]
  clear hwr0
  obtain ⟨bb, hbb⟩ : ∃ bb, bb = w.heap.size + 1 := ⟨_, rfl⟩
  have hwb : w.heap.size < bb := by omega
  rw [← hbb] at hg1 HC00 HSZ hb0
  rw [← hbb]
  clear hbb
  obtain ⟨g0, hgg0⟩ : ∃ g0, g0 = bb := ⟨_, rfl⟩
  have hg0 : bb ≤ g0 := by omega
  rw [← hgg0] at hg1 HC00
  rw [← hgg0]
  clear hgg0
  have HC0 : Hid (IRow wr0 g0 M (cR xs M 0)) := HC00
  go_loopw [3, 18] (fun cv iv wr => ∃ k g : Nat, k ≤ n ∧ iv = .int .i64 k ∧ cv = .slice (some ⟨g, 0, none⟩) M M ∧ Hid (IRow wr g M (cR xs M k)) ∧ bb ≤ g ∧ g < wr.heap.size ∧ Below (bb) W0 wr) (fun _ iv _ => n - (intOf iv).toNat)
  case atStart => exact ⟨0, g0, Nat.zero_le _, rfl, rfl, HC0, hg0, hg1, hb0⟩
  case round =>
    clear HC00 HC0
    obtain ⟨k, g, hk, rfl, rfl, HG, hgB, hgs, hb⟩ := hrel
    obtain ⟨wo, rfl⟩ : ∃ wo : World, wo = wr := ⟨_, rfl⟩
    by_cases hlt : k < n
    · have hlt2 : k < xs.length := by rw [← HN.out]; exact hlt
      obtain ⟨gx, ox, rfl, hgx, hcell0⟩ := HX.out k hlt2
      have hcell := (hb.cell (p := ⟨gx, ox + k, none⟩) (by rw [HSZ.out] at hgx; exact hgx)).trans hcell0
      have hx := HO.out.x k hlt2
      obtain ⟨x, hxx⟩ : ∃ x, x = xs.getD k 0 := ⟨_, rfl⟩
      rw [← hxx] at hcell hx
      have HXX := Lib.hid hxx
      obtain ⟨hx0, hx1⟩ := hx
      have hx10 : x ≤ 10 := by omega
      have hbx := HBX.out.keepB hb (by omega)
      have c1 := hbx.cell 1
      simp at c1
      have hwo := hb.size
      clear hcell0 hxx hbx hgx
      go_wp2_with (refine wpList_make_rowL _ rfl _ _ 22 rfl 3 i0 (.int .i64 0) Try.underlying22 hi hz0 hz1 rfl .i64 .i64 _ _ M rfl rfl (by omega) (by omega) (by rw [hz2]; omega) (by omega) ?_)
      have HR2 := Lib.hid (IRow.made wo M)
      have HR1 := Lib.hid (HG.out.alloc (.cells (madeCells #[.int .i64 0] M) 3))
      have hne : g ≠ wo.heap.size := by omega
      clear c1
      go_loopw [27] (fun rv wq => ∃ R : Nat, R ≤ M ∧ rv = .int .i64 R ∧ Hid (IRow wq wo.heap.size M (scR (cR xs M k) x M R)) ∧ Hid (IRow wq g M (cR xs M k)) ∧ Below (bb) W0 wq ∧ wo.heap.size < wq.heap.size) (fun rv _ => M - (intOf rv).toNat)
      case atStart => exact ⟨0, Nat.zero_le _, rfl, HR2, HR1, hb.alloc (by omega) _, by simp⟩
      case round =>
        clear HR1 HR2
        obtain ⟨R, hR, rfl, HW2, HW1, hqb, hqs⟩ := hrel
        obtain ⟨wp, rfl⟩ : ∃ wp : World, wp = wr := ⟨_, rfl⟩
        by_cases hRM : R < M
        · have d1 := HW1.out.cell hRM
          have hcb := cR_bd xs M k R (by omega) (by omega) (by omega)
          obtain ⟨C, hC⟩ : ∃ C, C = cR xs M k R := ⟨_, rfl⟩
          rw [← hC] at d1 hcb
          have HCC := Lib.hid hC
          obtain ⟨hC0, hC1⟩ := hcb
          clear hC
          go_wp2_with fail
          clear d1
          go_loopw [32] (fun dv ws => ∃ D : Nat, D ≤ 10 ∧ dv = .int .i64 D ∧ Hid (IRow ws wo.heap.size M (scM (cR xs M k) x M R D)) ∧ Hid (IRow ws g M (cR xs M k)) ∧ Below (bb) W0 ws ∧ wo.heap.size < ws.heap.size) (fun dv _ => 10 - (intOf dv).toNat)
          case atStart => exact ⟨0, Nat.zero_le _, rfl, HW2.out.same (fun j _ => (scM_zero _ _ _ _ _).symm), HW1, hqb, hqs⟩
          case round =>
            clear HW2 HW1 hqb hqs
            obtain ⟨D, hD, rfl, HS2, HS1, hsb, hss⟩ := hrel
            obtain ⟨wt, rfl⟩ : ∃ wt : World, wt = wr := ⟨_, rfl⟩
            by_cases hD10 : D < 10
            · obtain ⟨q, hq, hqM⟩ := rest_nat ((R : Int) + x * (D : Int)) (M : Int) (by omega)
              have hqM' : q < M := by omega
              have hp0 : 0 ≤ x * (D : Int) := Int.mul_nonneg hx0 (by omega)
              have hp1 : x * (D : Int) ≤ 10 * 9 := Int.mul_le_mul hx10 (by omega) (by omega) (by omega)
              have e2 := HS2.out.cell (i := q) hqM'
              have ef := HS2.out.frozen q
              have hM := scM_bd xs (M : Int) k R D q (by omega) (by omega) (by omega) (by omega) (by omega)
              rw [← HXX.out] at hM
              obtain ⟨T, hT⟩ : ∃ T, T = scM (cR xs M k) x M R D q := ⟨_, rfl⟩
              rw [← hT] at e2 hM
              have HT : Hid (∀ j, scM (cR xs M k) x M R (D + 1) j = if j = q then T + C else scM (cR xs M k) x M R D j) := fun j => by rw [scM_succ _ _ _ _ _ q hq, ← hT, ← HCC.out]
              have HP := Lib.hid (HS2.out.put q (T + C) HT.out)
              have HP1 := Lib.hid (HS1.out.other (a := ⟨wo.heap.size, q, none⟩) (by simpa using hne) (.int .i64 (T + C)))
              obtain ⟨hM0, hM1⟩ := hM
              have hbx := HBX.out.keepB hsb (by omega)
              have c1 := hbx.cell 1
              simp at c1
              have hq' : ((R : Int) + x * (D : Int)) % (M : Int) = (q : Int) := hq.symm
              have hqt : ((R : Int) + x * (D : Int)).tmod (M : Int) = (q : Int) := by rw [Int.tmod_eq_emod_of_nonneg (by omega)]; exact hq'
              clear hT hbx hq HT
              go_wp2
              go_roundw
              case rel => exact ⟨D + 1, by omega, by go_num, HP, HP1, hsb.setCell (by simp only []; omega) _, by simp [World.setCell]; omega⟩
              case measure => simp [intOf]; omega
            · have HE : Hid (IRow wt wo.heap.size M (scR (cR xs M k) x M (R + 1))) := HS2.out.same (fun j _ => by rw [show D = 10 by omega, scM_ten])
              go_wp2
              go_roundw
              case rel => exact ⟨R + 1, by omega, by go_num, HE, HS1, hsb, hss⟩
              case measure => simp [intOf]; omega
        · have HE : Hid (IRow wp wo.heap.size M (cR xs M (k + 1))) := HW2.out.same (fun j _ => by rw [cR, ← HXX.out, show ((M : Nat) : Int).toNat = M by omega, show R = M by omega])
          go_wp2
          go_roundw
          case rel => exact ⟨k + 1, wo.heap.size, by omega, by go_num, rfl, HE, by omega, hqs, hqb⟩
          case measure => simp [intOf]; omega
    · have HE : Hid (IRow wo g M (cR xs M xs.length)) := by show IRow _ _ _ _; rw [← HN.out, show n = k by omega]; exact HG.out
      go_wp2
      go_ret
      exact ⟨⟨g, rfl, by omega, by rw [HN.out]; exact HE.out⟩, HB0.out.trans (hb.mono (by omega))⟩
end Go.Proofs.Ytdjcgddcgjbboaa
