/-
  Which rests the other digits make: the model's slMade.
-/
import Derived.Test.YtdjcgddcgjbboaaDoorSlRow
import Derived.Test.YtdjcgddcgjbboaaDoorSlPair
namespace Go.Proofs.YtdjcgddcgjbboaaDoor
open Go.RowKit

/-- How many of the first k places are none of those from p to q. -/
def ixp (p q k : Nat) : Nat := if k ≤ p then k else if k ≤ q then p else k - (q - p)
theorem ixp_zero (p q : Nat) : ixp p q 0 = 0 := by unfold ixp; rw [if_pos (by omega)]
theorem ixp_lo {p q k : Nat} (h : k ≤ p) : ixp p q k = k := by unfold ixp; rw [if_pos h]
theorem ixp_hi {p q k : Nat} (hpq : p < q) (h : q ≤ k) : ixp p q k = k - (q - p) := by
  unfold ixp; rw [if_neg (by omega)]
  by_cases e : k ≤ q
  · rw [if_pos e]; omega
  · rw [if_neg e]
theorem ixp_go {p q k : Nat} (hpq : p < q) (h : k < p ∨ q ≤ k) : ixp p q (k + 1) = ixp p q k + 1 := by
  rcases h with h | h
  · rw [ixp_lo (by omega), ixp_lo (by omega)]
  · rw [ixp_hi hpq (by omega), ixp_hi hpq h]; omega
theorem ixp_stay {p q k : Nat} (h1 : p ≤ k) (h2 : k < q) : ixp p q (k + 1) = ixp p q k := by
  unfold ixp
  by_cases e : k = p
  · subst e; rw [if_neg (by omega), if_pos (by omega), if_pos (by omega)]
  · rw [if_neg (by omega), if_pos (by omega), if_neg (by omega), if_pos (by omega)]
theorem ixp_all {p q n : Nat} (hpq : p < q) (h : q ≤ n) : ixp p q n = n - (q - p) := ixp_hi hpq h
set_option maxRecDepth 100000 in
set_option maxHeartbeats 4000000 in
theorem slMadeS_any (xs : List Int) (m : Int) (p a b : Nat) (v u : Value) (w : World) (ho : CkOk xs m) (hp : p < xs.length) (ha : a ≤ 9) (_hbb : b ≤ 9) (h : RdI xs v w) (hu : RdI [(a : Int), (b : Int)] u w) :
    Calls Tryd.prog 89 #[.agg #[v, .int .i64 m], .int .i64 p, u, .bool false] w fun e w' => e = .returned (.bool (rB (oth xs p (p + 1)) m ((xs.getD p 0 * (a : Int)) % m).toNat (oth xs p (p + 1)).length 0)) ∧ Below w.heap.size w w' := by
  obtain ⟨i0, hi, hz0, hz1, hz2⟩ := info_parts (show (Tryd.prog.info? 4).map (fun i => (i.zero, i.size, i.bytes)) = some (some (.bool false), 1, 1) by kernel_rfl)
  obtain ⟨M, rfl⟩ : ∃ M : Nat, m = M := ⟨m.toNat, by have := ho.m2; omega⟩
  have HO := Lib.hid ho
  have hM2 := ho.m2
  have hM11 := ho.m11
  have hn12 := ho.len
  have hx0 := ho.x p (by omega)
  skip
  obtain ⟨q, hq⟩ : ∃ q, q = p + 1 := ⟨_, rfl⟩
  rw [← hq]
  have HQ := Lib.hid hq
  have hol := oth_len xs p q (by omega) (by omega)
  obtain ⟨os, hos⟩ : ∃ os, os = oth xs p q := ⟨_, rfl⟩
  rw [← hos] at hol ⊢
  have HLO : Hid (∀ k, k < p → os.getD k 0 = xs.getD k 0) := fun k hk => by rw [hos]; exact oth_lo xs p q k hk (by omega)
  have HHI : Hid (∀ k, q ≤ k → os.getD (k - (q - p)) 0 = xs.getD k 0) := fun k hk => by rw [hos]; exact oth_hi xs p q k hk (by omega) (by omega)
  have HOL := Lib.hid hol
  obtain ⟨q0, hq0, hq0M⟩ := rest_nat (xs.getD p 0 * (a : Int)) (M : Int) (by omega)
  rw [show ((xs.getD p 0 * (a : Int)) % (M : Int)).toNat = q0 by omega]
  have hq0M' : q0 < M := by omega
  obtain ⟨ax, cap, rfl, hc⟩ := h
  have HC := Lib.hid hc
  obtain ⟨au, cu, rfl, hcu⟩ := hu
  obtain ⟨gu, ou, rfl, hgu, cu0⟩ := hcu 0 (by simp)
  obtain ⟨_, _, hsame, _, cu1⟩ := hcu 1 (by simp)
  simp only [Option.some.injEq, Addr.mk.injEq] at hsame
  obtain ⟨rfl, rfl, _⟩ := hsame
  simp only [List.getD_cons_zero, List.getD_cons_succ, Nat.add_zero] at cu0 cu1
  obtain ⟨gx, ox, rfl, hgx, cx0⟩ := hc p (by omega)
  skip
  skip
  skip
  obtain ⟨n, hnn⟩ : ∃ n, n = xs.length := ⟨_, rfl⟩
  have HN := Lib.hid hnn
  rw [← hnn] at hn12 hp HOL
  rw [← hnn]
  obtain ⟨x, hxx⟩ : ∃ x, x = xs.getD p 0 := ⟨_, rfl⟩
  rw [← hxx] at hq0 hx0 cx0
  obtain ⟨hx0, hx1⟩ := hx0
  have hx10 : x ≤ 10 := by omega
  have hp0 : 0 ≤ x * (a : Int) := Int.mul_nonneg hx0 (by omega)
  have hp1 : x * (a : Int) ≤ 10 * 9 := Int.mul_le_mul hx10 (by omega) (by omega) (by omega)
  have hq0' : (x * (a : Int)) % (M : Int) = (q0 : Int) := hq0.symm
  have hq0t : (x * (a : Int)).tmod (M : Int) = (q0 : Int) := by rw [Int.tmod_eq_emod_of_nonneg (by omega)]; exact hq0'
  clear hc hcu ho hnn hxx hos hol hq0 hx1 hq hq0M
  obtain ⟨W0, hW0⟩ : ∃ W0, W0 = w.alloc (.cells #[.slice (some ⟨gx, ox, none⟩) n cap, .int .i64 M] 29) := ⟨_, rfl⟩
  have HBX : Hid (Blk W0 w.heap.size #[.slice (some ⟨gx, ox, none⟩) n cap, .int .i64 M] 29) := by show Blk _ _ _ _; rw [hW0]; exact Blk.new _ _ _
  have HSZ : Hid (W0.heap.size = w.heap.size + 1) := by show _ = _; rw [hW0]; exact World.size_alloc _ _
  have HB0 : Hid (Below w.heap.size w W0) := by show Below _ _ _; rw [hW0]; exact (Below.refl _ _).alloc (Nat.le_refl _) _
  have HX : Hid (∀ i, i < xs.length → W0.cell? ⟨gx, ox + i, none⟩ = some (.int .i64 (xs.getD i 0)) ∧ gx < W0.heap.size) := fun i hi => by
    obtain ⟨g, o, h1, h2, h3⟩ := HC.out i hi
    simp only [Option.some.injEq, Addr.mk.injEq] at h1
    obtain ⟨rfl, rfl, _⟩ := h1
    exact ⟨(HB0.out.cell (p := ⟨gx, ox + i, none⟩) h2).trans h3, by have := HB0.out.size; omega⟩
  have d0 := (HB0.out.cell (p := ⟨gu, ou, none⟩) hgu).trans cu0
  have d1 := (HB0.out.cell (p := ⟨gu, ou + 1, none⟩) hgu).trans cu1
  have d2 := (HB0.out.cell (p := ⟨gx, ox + p, none⟩) hgx).trans cx0
  skip
  have c0 := HBX.out.cell 0
  have c1 := HBX.out.cell 1
  simp at c0 c1
  have hpi : (0 : Int) ≤ (p : Int) := by omega
  have hpn : (p : Int) < (n : Int) := by omega
  skip
  skip
  have hcA : ∀ k cs, ((W0.drewN k).alloc (.cells cs 4)).cell? ⟨w.heap.size, 1, none⟩ = some (.int .i64 M) := fun k cs =>
    (((Below.refl (W0.drewN k).heap.size (W0.drewN k)).alloc (Nat.le_refl _) (.cells cs 4)).cell (p := ⟨w.heap.size, 1, none⟩) (show w.heap.size < W0.heap.size by have := HSZ.out; omega)).trans c1
  have hcB : ∀ k cs, (((W0.drewN k).alloc (.cells cs 4)).setCell ⟨W0.heap.size, q0, none⟩ (.bool true)).cell? ⟨w.heap.size, 0, none⟩ = some (.slice (some ⟨gx, ox, none⟩) n cap) := fun k cs =>
    ((((Below.refl (W0.drewN k).heap.size (W0.drewN k)).alloc (Nat.le_refl _) (.cells cs 4)).setCell (show W0.heap.size ≤ (⟨W0.heap.size, q0, none⟩ : Addr).block from Nat.le_refl _) (.bool true)).cell (p := ⟨w.heap.size, 0, none⟩) (show w.heap.size < W0.heap.size by have := HSZ.out; omega)).trans c0
  have hfA : ∀ k, ((W0.drewN k).alloc (.cells (madeCells #[.bool false] M) 4)).frozen? ⟨W0.heap.size, q0, none⟩ = false := fun k => (BRow.made (W0.drewN k) M).frozen q0
  have hgA : ∀ k, ((W0.drewN k).alloc (.cells (madeCells #[.bool false] M) 4)).cell? ⟨W0.heap.size, q0, none⟩ = some (.bool false) := fun k => (BRow.made (W0.drewN k) M).cell hq0M'
  go_enter Tryd.func89, Tryd.ntmps89
  go_wp2
  rw [← hW0]
  clear hW0
  go_quiet (fail)
  revert nq
  intro n1
  go_wp2_with (refine wpList_make_rowL _ rfl _ _ 131 rfl 4 i0 (.bool false) Tryd.underlying131 hi hz0 hz1 rfl .i64 .i64 _ _ M rfl rfl (by omega) (by omega) (by rw [hz2]; omega) (by omega) ?_)
  skip
  skip
  skip
  obtain ⟨W1, hW1⟩ : ∃ W1 : World, W1 = W0.drewN (n1) := ⟨_, rfl⟩
  have hs1 : W1.heap.size = W0.heap.size := by rw [hW1]; rfl
  have HC00 : Hid (BRow ((W1.alloc (.cells (madeCells #[.bool false] M) 4)).setCell ⟨W0.heap.size, q0, none⟩ (.bool true)) W0.heap.size M (rB os M q0 (ixp p q 0))) := by
    show BRow _ _ _ _
    rw [← hs1]
    exact (BRow.made W1 M).put q0 true (fun j => by rw [ixp_zero, rB]; by_cases e : j = q0 <;> simp [e])
  have hb0 : Below W0.heap.size W0 ((W1.alloc (.cells (madeCells #[.bool false] M) 4)).setCell ⟨W0.heap.size, q0, none⟩ (.bool true)) := ((show Below W0.heap.size W0 W1 by rw [hW1]; exact below_drewN (Below.refl _ _) _).alloc (by omega) _).setCell (Nat.le_refl _) _
  have hg1 : W0.heap.size < ((W1.alloc (.cells (madeCells #[.bool false] M) 4)).setCell ⟨W0.heap.size, q0, none⟩ (.bool true)).heap.size := by simp [World.setCell, World.size_alloc, hs1]
  rw [← hW1]
  obtain ⟨wr0, hwr0⟩ : ∃ wr0, wr0 = (W1.alloc (.cells (madeCells #[.bool false] M) 4)).setCell ⟨W0.heap.size, q0, none⟩ (.bool true) := ⟨_, rfl⟩
  rw [← hwr0] at HC00 hb0 hg1
  rw [← hwr0]
  clear hwr0 d0 d1 d2  c0 c1 hcA hcB hfA hgA hW1 hs1 hq0' hq0t
  obtain ⟨bb, hbb⟩ : ∃ bb, bb = W0.heap.size := ⟨_, rfl⟩
  have hwb : w.heap.size < bb := by have := HSZ.out; omega
  have HSB : Hid (W0.heap.size = bb) := hbb.symm
  rw [← hbb] at hg1 HC00 hb0
  rw [← hbb]
  clear hbb
  obtain ⟨g0, hgg0⟩ : ∃ g0, g0 = bb := ⟨_, rfl⟩
  have hg0 : bb ≤ g0 := by omega
  rw [← hgg0] at hg1 HC00
  rw [← hgg0]
  clear hgg0
  go_loopw [10, 51] (fun cv iv wr => ∃ k g : Nat, k ≤ n ∧ iv = .int .i64 k ∧ cv = .slice (some ⟨g, 0, none⟩) M M ∧ Hid (BRow wr g M (rB os M q0 (ixp p q k))) ∧ bb ≤ g ∧ g < wr.heap.size ∧ Below bb W0 wr) (fun _ iv _ => n - (intOf iv).toNat)
  case atStart => exact ⟨0, g0, Nat.zero_le _, rfl, rfl, HC00, hg0, hg1, hb0⟩
  case round =>
    clear HC00 hg0 hg1 hb0
    obtain ⟨k, g, hk, rfl, rfl, HG, hgB, hgs, hb⟩ := hrel
    obtain ⟨wo, rfl⟩ : ∃ wo : World, wo = wr := ⟨_, rfl⟩
    by_cases hlt : k < n
    · have hlt2 : k < xs.length := by rw [← HN.out]; exact hlt
      obtain ⟨hcell0, hgx2⟩ := HX.out k hlt2
      have hcell := (hb.cell (p := ⟨gx, ox + k, none⟩) (by rw [HSB.out] at hgx2; exact hgx2)).trans hcell0
      have hk0 : (0 : Int) ≤ (k : Int) := by omega
      have hk1 : (k : Int) < (n : Int) := by omega
      by_cases hkp : k < p ∨ q ≤ k
      · have hx := HO.out.x k hlt2
        have hxo : os.getD (ixp p q k) 0 = xs.getD k 0 := by
          by_cases e : k < p
          · rw [ixp_lo (by omega)]; exact HLO.out k e
          · rw [ixp_hi (by have := HQ.out; omega) (by omega)]; exact HHI.out k (by omega)
        have hix : ixp p q (k + 1) = ixp p q k + 1 := ixp_go (by have := HQ.out; omega) hkp
        have hil : ixp p q k < os.length := by rw [HOL.out]; have := HQ.out; unfold ixp; split <;> (first | omega | (split <;> omega))
        obtain ⟨z, hz⟩ : ∃ z, z = xs.getD k 0 := ⟨_, rfl⟩
        rw [← hz] at hcell hx hxo
        obtain ⟨kk, hkk⟩ : ∃ kk, kk = ixp p q k := ⟨_, rfl⟩
        rw [← hkk] at HG hix hxo
        have HIX := Lib.hid hix
        have HXO := Lib.hid hxo
        obtain ⟨hx0', hx1'⟩ := hx
        have hx10' : z ≤ 10 := by omega
        have hbx := HBX.out.keepB hb (by omega)
        have c1 := hbx.cell 1
        simp at c1
        have e1 : ((k : Int) == (p : Int)) = false := beq_false_of_ne (by have := HQ.out; omega)
        skip
        have hwo := hb.size
        clear hcell0 hz hkk hbx hix hxo hx1' hgx2 hil hkp
        go_wp2_with (refine wpList_make_rowL _ rfl _ _ 131 rfl 4 i0 (.bool false) Tryd.underlying131 hi hz0 hz1 rfl .i64 .i64 _ _ M rfl rfl (by omega) (by omega) (by rw [hz2]; omega) (by omega) ?_)
        have HR2 := Lib.hid (BRow.made wo M)
        have HR1 := Lib.hid (HG.out.alloc (.cells (madeCells #[.bool false] M) 4))
        have hne : g ≠ wo.heap.size := by omega
        clear c1
        go_loopw [73] (fun rv wq => ∃ R : Nat, R ≤ M ∧ rv = .int .i64 R ∧ Hid (BRow wq wo.heap.size M (rcR (rB os M q0 kk) z M R)) ∧ Hid (BRow wq g M (rB os M q0 kk)) ∧ Below bb W0 wq ∧ wo.heap.size < wq.heap.size) (fun rv _ => M - (intOf rv).toNat)
        case atStart => exact ⟨0, Nat.zero_le _, rfl, HR2, HR1, hb.alloc (by omega) _, by simp⟩
        case round =>
          clear HR1 HR2
          obtain ⟨R, hR, rfl, HW2, HW1, hqb, hqs⟩ := hrel
          obtain ⟨wp, rfl⟩ : ∃ wp : World, wp = wr := ⟨_, rfl⟩
          by_cases hRM : R < M
          · have d1 := HW1.out.cell hRM
            cases hcR : rB os M q0 kk R with
            | false =>
              rw [hcR] at d1
              have HE : Hid (BRow wp wo.heap.size M (rcR (rB os M q0 kk) z M (R + 1))) := HW2.out.same (fun j _ => (rcM_no hcR j).symm)
              clear hcR
              go_wp2_with fail
              clear d1
              go_loopw [16] (fun dv ws => dv = .int .i64 0 ∧ ws = wp) (fun _ _ => 0)
              case atStart => exact ⟨rfl, rfl⟩
              case round =>
                obtain ⟨rfl, rfl⟩ := hrel
                go_wp2
                go_roundw
                case rel => exact ⟨R + 1, by omega, by go_num, HE, HW1, hqb, hqs⟩
                case measure => simp [intOf]; omega
            | true =>
              rw [hcR] at d1
              have HCR := Lib.hid hcR
              clear hcR
              go_wp2_with fail
              clear d1
              go_loopw [16] (fun dv ws => ∃ D : Nat, D ≤ 10 ∧ dv = .int .i64 D ∧ Hid (BRow ws wo.heap.size M (rcM (rB os M q0 kk) z M R D)) ∧ Hid (BRow ws g M (rB os M q0 kk)) ∧ Below bb W0 ws ∧ wo.heap.size < ws.heap.size) (fun dv _ => 10 - (intOf dv).toNat)
              case atStart => exact ⟨0, Nat.zero_le _, rfl, HW2.out.same (fun j _ => (rcM_zero _ _ _ _ _).symm), HW1, hqb, hqs⟩
              case round =>
                clear HW2 HW1 hqb hqs
                obtain ⟨D, hD, rfl, HS2, HS1, hsb, hss⟩ := hrel
                obtain ⟨wt, rfl⟩ : ∃ wt : World, wt = wr := ⟨_, rfl⟩
                by_cases hD10 : D < 10
                · obtain ⟨qq, hqq, hqM⟩ := rest_nat ((R : Int) + z * (D : Int)) (M : Int) (by omega)
                  have hqM' : qq < M := by omega
                  have hp0' : 0 ≤ z * (D : Int) := Int.mul_nonneg hx0' (by omega)
                  have hp1' : z * (D : Int) ≤ 10 * 9 := Int.mul_le_mul hx10' (by omega) (by omega) (by omega)
                  have e2 := HS2.out.cell (i := qq) hqM'
                  have ef := HS2.out.frozen qq
                  have HP := Lib.hid (HS2.out.put qq true (fun j => rcM_succ (D := D) HCR.out hqq j))
                  have HP1 := Lib.hid (HS1.out.other (a := ⟨wo.heap.size, qq, none⟩) (by simpa using hne) (.bool true))
                  have hbx := HBX.out.keepB hsb (by omega)
                  have c1 := hbx.cell 1
                  simp at c1
                  have hq' : ((R : Int) + z * (D : Int)) % (M : Int) = (qq : Int) := hqq.symm
                  have hqt : ((R : Int) + z * (D : Int)).tmod (M : Int) = (qq : Int) := by rw [Int.tmod_eq_emod_of_nonneg (by omega)]; exact hq'
                  clear hbx hqq
                  go_wp2
                  go_roundw
                  case rel => exact ⟨D + 1, by omega, by go_num, HP, HP1, hsb.setCell (by simp only []; omega) _, by simp [World.setCell]; omega⟩
                  case measure => simp [intOf]; omega
                · have HE : Hid (BRow wt wo.heap.size M (rcR (rB os M q0 kk) z M (R + 1))) := HS2.out.same (fun j _ => by rw [show D = 10 by omega, rcM_ten])
                  go_wp2
                  go_roundw
                  case rel => exact ⟨R + 1, by omega, by go_num, HE, HS1, hsb, hss⟩
                  case measure => simp [intOf]; omega
          · have HE : Hid (BRow wp wo.heap.size M (rB os M q0 (ixp p q (k + 1)))) := HW2.out.same (fun j _ => by rw [HIX.out, rB, HXO.out, show ((M : Nat) : Int).toNat = M by omega, show R = M by omega])
            go_wp2
            go_roundw
            case rel => exact ⟨k + 1, wo.heap.size, by omega, by go_num, rfl, HE, by omega, hqs, hqb⟩
            case measure => simp [intOf]; omega
      · have HE : Hid (BRow wo g M (rB os M q0 (ixp p q (k + 1)))) := by
          show BRow _ _ _ _
          rw [ixp_stay (by omega) (by omega)]; exact HG.out
        clear hcell0 hgx2
        · have e1 : ((k : Int) == (p : Int)) = true := by rw [show k = p by have := HQ.out; omega]; simp
          clear hkp
          go_wp2
          go_roundw
          case rel => exact ⟨k + 1, g, by omega, by go_num, rfl, HE, hgB, hgs, hb⟩
          case measure => simp [intOf]; omega
    · have HE : Hid (BRow wo g M (rB os M q0 os.length)) := by show BRow _ _ _ _; rw [HOL.out, ← ixp_all (by have := HQ.out; omega) (by have := HQ.out; omega), show n = k by omega]; exact HG.out
      have cg := HE.out.cell (i := 0) (by omega)
      go_wp2
      go_ret
      exact ⟨rfl, HB0.out.trans (hb.mono (by omega))⟩
set_option maxRecDepth 100000 in
set_option maxHeartbeats 4000000 in
theorem slMadeW_any (xs : List Int) (m : Int) (p a b : Nat) (v u : Value) (w : World) (ho : CkOk xs m) (hp : p + 1 < xs.length) (ha : a ≤ 9) (hbb : b ≤ 9) (h : RdI xs v w) (hu : RdI [(a : Int), (b : Int)] u w) :
    Calls Tryd.prog 89 #[.agg #[v, .int .i64 m], .int .i64 p, u, .bool true] w fun e w' => e = .returned (.bool (rB (oth xs p (p + 2)) m ((xs.getD p 0 * (a : Int) + xs.getD (p + 1) 0 * (b : Int)) % m).toNat (oth xs p (p + 2)).length 0)) ∧ Below w.heap.size w w' := by
  obtain ⟨i0, hi, hz0, hz1, hz2⟩ := info_parts (show (Tryd.prog.info? 4).map (fun i => (i.zero, i.size, i.bytes)) = some (some (.bool false), 1, 1) by kernel_rfl)
  obtain ⟨M, rfl⟩ : ∃ M : Nat, m = M := ⟨m.toNat, by have := ho.m2; omega⟩
  have HO := Lib.hid ho
  have hM2 := ho.m2
  have hM11 := ho.m11
  have hn12 := ho.len
  have hx0 := ho.x p (by omega)
  have hy0 := ho.x (p + 1) (by omega)
  obtain ⟨q, hq⟩ : ∃ q, q = p + 2 := ⟨_, rfl⟩
  rw [← hq]
  have HQ := Lib.hid hq
  have hol := oth_len xs p q (by omega) (by omega)
  obtain ⟨os, hos⟩ : ∃ os, os = oth xs p q := ⟨_, rfl⟩
  rw [← hos] at hol ⊢
  have HLO : Hid (∀ k, k < p → os.getD k 0 = xs.getD k 0) := fun k hk => by rw [hos]; exact oth_lo xs p q k hk (by omega)
  have HHI : Hid (∀ k, q ≤ k → os.getD (k - (q - p)) 0 = xs.getD k 0) := fun k hk => by rw [hos]; exact oth_hi xs p q k hk (by omega) (by omega)
  have HOL := Lib.hid hol
  obtain ⟨q0, hq0, hq0M⟩ := rest_nat (xs.getD p 0 * (a : Int) + xs.getD (p + 1) 0 * (b : Int)) (M : Int) (by omega)
  rw [show ((xs.getD p 0 * (a : Int) + xs.getD (p + 1) 0 * (b : Int)) % (M : Int)).toNat = q0 by omega]
  have hq0M' : q0 < M := by omega
  obtain ⟨ax, cap, rfl, hc⟩ := h
  have HC := Lib.hid hc
  obtain ⟨au, cu, rfl, hcu⟩ := hu
  obtain ⟨gu, ou, rfl, hgu, cu0⟩ := hcu 0 (by simp)
  obtain ⟨_, _, hsame, _, cu1⟩ := hcu 1 (by simp)
  simp only [Option.some.injEq, Addr.mk.injEq] at hsame
  obtain ⟨rfl, rfl, _⟩ := hsame
  simp only [List.getD_cons_zero, List.getD_cons_succ, Nat.add_zero] at cu0 cu1
  obtain ⟨gx, ox, rfl, hgx, cx0⟩ := hc p (by omega)
  obtain ⟨_, _, hsame2, _, cx1⟩ := hc (p + 1) (by omega)
  simp only [Option.some.injEq, Addr.mk.injEq] at hsame2
  obtain ⟨rfl, rfl, _⟩ := hsame2
  obtain ⟨n, hnn⟩ : ∃ n, n = xs.length := ⟨_, rfl⟩
  have HN := Lib.hid hnn
  rw [← hnn] at hn12 hp HOL
  rw [← hnn]
  obtain ⟨x, hxx⟩ : ∃ x, x = xs.getD p 0 := ⟨_, rfl⟩
  rw [← hxx] at hq0 hx0 cx0
  obtain ⟨hx0, hx1⟩ := hx0
  have hx10 : x ≤ 10 := by omega
  have hp0 : 0 ≤ x * (a : Int) := Int.mul_nonneg hx0 (by omega)
  have hp1 : x * (a : Int) ≤ 10 * 9 := Int.mul_le_mul hx10 (by omega) (by omega) (by omega)
  obtain ⟨y, hyy⟩ : ∃ y, y = xs.getD (p + 1) 0 := ⟨_, rfl⟩
  rw [← hyy] at hq0 hy0 cx1
  obtain ⟨hy0, hy1⟩ := hy0
  have hy10 : y ≤ 10 := by omega
  have hp2 : 0 ≤ y * (b : Int) := Int.mul_nonneg hy0 (by omega)
  have hp3 : y * (b : Int) ≤ 10 * 9 := Int.mul_le_mul hy10 (by omega) (by omega) (by omega)
  have hq0' : (x * (a : Int) + y * (b : Int)) % (M : Int) = (q0 : Int) := hq0.symm
  have hq0t : (x * (a : Int) + y * (b : Int)).tmod (M : Int) = (q0 : Int) := by rw [Int.tmod_eq_emod_of_nonneg (by omega)]; exact hq0'
  clear hyy hy1
  clear hc hcu ho hnn hxx hos hol hq0 hx1 hq hq0M
  obtain ⟨W0, hW0⟩ : ∃ W0, W0 = w.alloc (.cells #[.slice (some ⟨gx, ox, none⟩) n cap, .int .i64 M] 29) := ⟨_, rfl⟩
  have HBX : Hid (Blk W0 w.heap.size #[.slice (some ⟨gx, ox, none⟩) n cap, .int .i64 M] 29) := by show Blk _ _ _ _; rw [hW0]; exact Blk.new _ _ _
  have HSZ : Hid (W0.heap.size = w.heap.size + 1) := by show _ = _; rw [hW0]; exact World.size_alloc _ _
  have HB0 : Hid (Below w.heap.size w W0) := by show Below _ _ _; rw [hW0]; exact (Below.refl _ _).alloc (Nat.le_refl _) _
  have HX : Hid (∀ i, i < xs.length → W0.cell? ⟨gx, ox + i, none⟩ = some (.int .i64 (xs.getD i 0)) ∧ gx < W0.heap.size) := fun i hi => by
    obtain ⟨g, o, h1, h2, h3⟩ := HC.out i hi
    simp only [Option.some.injEq, Addr.mk.injEq] at h1
    obtain ⟨rfl, rfl, _⟩ := h1
    exact ⟨(HB0.out.cell (p := ⟨gx, ox + i, none⟩) h2).trans h3, by have := HB0.out.size; omega⟩
  have d0 := (HB0.out.cell (p := ⟨gu, ou, none⟩) hgu).trans cu0
  have d1 := (HB0.out.cell (p := ⟨gu, ou + 1, none⟩) hgu).trans cu1
  have d2 := (HB0.out.cell (p := ⟨gx, ox + p, none⟩) hgx).trans cx0
  have d3 := (HB0.out.cell (p := ⟨gx, ox + (p + 1), none⟩) hgx).trans cx1
  have c0 := HBX.out.cell 0
  have c1 := HBX.out.cell 1
  simp at c0 c1
  have hpi : (0 : Int) ≤ (p : Int) := by omega
  have hpn : (p : Int) < (n : Int) := by omega
  have hpn1 : (p : Int) + 1 < (n : Int) := by omega
  have hw1 : IntKind.i64.wrap ((p : Int) + 1) = (p : Int) + 1 := IntWalk.i64_in _ (by omega)
  have hcA : ∀ k cs, ((W0.drewN k).alloc (.cells cs 4)).cell? ⟨w.heap.size, 1, none⟩ = some (.int .i64 M) := fun k cs =>
    (((Below.refl (W0.drewN k).heap.size (W0.drewN k)).alloc (Nat.le_refl _) (.cells cs 4)).cell (p := ⟨w.heap.size, 1, none⟩) (show w.heap.size < W0.heap.size by have := HSZ.out; omega)).trans c1
  have hcB : ∀ k cs, (((W0.drewN k).alloc (.cells cs 4)).setCell ⟨W0.heap.size, q0, none⟩ (.bool true)).cell? ⟨w.heap.size, 0, none⟩ = some (.slice (some ⟨gx, ox, none⟩) n cap) := fun k cs =>
    ((((Below.refl (W0.drewN k).heap.size (W0.drewN k)).alloc (Nat.le_refl _) (.cells cs 4)).setCell (show W0.heap.size ≤ (⟨W0.heap.size, q0, none⟩ : Addr).block from Nat.le_refl _) (.bool true)).cell (p := ⟨w.heap.size, 0, none⟩) (show w.heap.size < W0.heap.size by have := HSZ.out; omega)).trans c0
  have hfA : ∀ k, ((W0.drewN k).alloc (.cells (madeCells #[.bool false] M) 4)).frozen? ⟨W0.heap.size, q0, none⟩ = false := fun k => (BRow.made (W0.drewN k) M).frozen q0
  have hgA : ∀ k, ((W0.drewN k).alloc (.cells (madeCells #[.bool false] M) 4)).cell? ⟨W0.heap.size, q0, none⟩ = some (.bool false) := fun k => (BRow.made (W0.drewN k) M).cell hq0M'
  go_enter Tryd.func89, Tryd.ntmps89
  go_wp2
  rw [← hW0]
  clear hW0
  go_quiet (fail)
  revert nq
  intro n1
  go_wp2_with (refine wpList_make_rowL _ rfl _ _ 131 rfl 4 i0 (.bool false) Tryd.underlying131 hi hz0 hz1 rfl .i64 .i64 _ _ M rfl rfl (by omega) (by omega) (by rw [hz2]; omega) (by omega) ?_)
  go_quiet (fail)
  (revert nq; intro n2)
  go_wp2_with (refine wpList_make_rowL _ rfl _ _ 131 rfl 4 i0 (.bool false) Tryd.underlying131 hi hz0 hz1 rfl .i64 .i64 _ _ M rfl rfl (by omega) (by omega) (by rw [hz2]; omega) (by omega) ?_)
  obtain ⟨W1, hW1⟩ : ∃ W1 : World, W1 = W0.drewN (n1 + n2) := ⟨_, rfl⟩
  have hs1 : W1.heap.size = W0.heap.size := by rw [hW1]; rfl
  have HC00 : Hid (BRow ((W1.alloc (.cells (madeCells #[.bool false] M) 4)).setCell ⟨W0.heap.size, q0, none⟩ (.bool true)) W0.heap.size M (rB os M q0 (ixp p q 0))) := by
    show BRow _ _ _ _
    rw [← hs1]
    exact (BRow.made W1 M).put q0 true (fun j => by rw [ixp_zero, rB]; by_cases e : j = q0 <;> simp [e])
  have hb0 : Below W0.heap.size W0 ((W1.alloc (.cells (madeCells #[.bool false] M) 4)).setCell ⟨W0.heap.size, q0, none⟩ (.bool true)) := ((show Below W0.heap.size W0 W1 by rw [hW1]; exact below_drewN (Below.refl _ _) _).alloc (by omega) _).setCell (Nat.le_refl _) _
  have hg1 : W0.heap.size < ((W1.alloc (.cells (madeCells #[.bool false] M) 4)).setCell ⟨W0.heap.size, q0, none⟩ (.bool true)).heap.size := by simp [World.setCell, World.size_alloc, hs1]
  rw [← hW1]
  obtain ⟨wr0, hwr0⟩ : ∃ wr0, wr0 = (W1.alloc (.cells (madeCells #[.bool false] M) 4)).setCell ⟨W0.heap.size, q0, none⟩ (.bool true) := ⟨_, rfl⟩
  rw [← hwr0] at HC00 hb0 hg1
  rw [← hwr0]
  clear hwr0 d0 d1 d2 d3 c0 c1 hcA hcB hfA hgA hW1 hs1 hq0' hq0t
  obtain ⟨bb, hbb⟩ : ∃ bb, bb = W0.heap.size := ⟨_, rfl⟩
  have hwb : w.heap.size < bb := by have := HSZ.out; omega
  have HSB : Hid (W0.heap.size = bb) := hbb.symm
  rw [← hbb] at hg1 HC00 hb0
  rw [← hbb]
  clear hbb
  obtain ⟨g0, hgg0⟩ : ∃ g0, g0 = bb := ⟨_, rfl⟩
  have hg0 : bb ≤ g0 := by omega
  rw [← hgg0] at hg1 HC00
  rw [← hgg0]
  clear hgg0
  go_loopw [10, 51] (fun cv iv wr => ∃ k g : Nat, k ≤ n ∧ iv = .int .i64 k ∧ cv = .slice (some ⟨g, 0, none⟩) M M ∧ Hid (BRow wr g M (rB os M q0 (ixp p q k))) ∧ bb ≤ g ∧ g < wr.heap.size ∧ Below bb W0 wr) (fun _ iv _ => n - (intOf iv).toNat)
  case atStart => exact ⟨0, g0, Nat.zero_le _, rfl, rfl, HC00, hg0, hg1, hb0⟩
  case round =>
    clear HC00 hg0 hg1 hb0
    obtain ⟨k, g, hk, rfl, rfl, HG, hgB, hgs, hb⟩ := hrel
    obtain ⟨wo, rfl⟩ : ∃ wo : World, wo = wr := ⟨_, rfl⟩
    by_cases hlt : k < n
    · have hlt2 : k < xs.length := by rw [← HN.out]; exact hlt
      obtain ⟨hcell0, hgx2⟩ := HX.out k hlt2
      have hcell := (hb.cell (p := ⟨gx, ox + k, none⟩) (by rw [HSB.out] at hgx2; exact hgx2)).trans hcell0
      have hk0 : (0 : Int) ≤ (k : Int) := by omega
      have hk1 : (k : Int) < (n : Int) := by omega
      by_cases hkp : k < p ∨ q ≤ k
      · have hx := HO.out.x k hlt2
        have hxo : os.getD (ixp p q k) 0 = xs.getD k 0 := by
          by_cases e : k < p
          · rw [ixp_lo (by omega)]; exact HLO.out k e
          · rw [ixp_hi (by have := HQ.out; omega) (by omega)]; exact HHI.out k (by omega)
        have hix : ixp p q (k + 1) = ixp p q k + 1 := ixp_go (by have := HQ.out; omega) hkp
        have hil : ixp p q k < os.length := by rw [HOL.out]; have := HQ.out; unfold ixp; split <;> (first | omega | (split <;> omega))
        obtain ⟨z, hz⟩ : ∃ z, z = xs.getD k 0 := ⟨_, rfl⟩
        rw [← hz] at hcell hx hxo
        obtain ⟨kk, hkk⟩ : ∃ kk, kk = ixp p q k := ⟨_, rfl⟩
        rw [← hkk] at HG hix hxo
        have HIX := Lib.hid hix
        have HXO := Lib.hid hxo
        obtain ⟨hx0', hx1'⟩ := hx
        have hx10' : z ≤ 10 := by omega
        have hbx := HBX.out.keepB hb (by omega)
        have c1 := hbx.cell 1
        simp at c1
        have e1 : ((k : Int) == (p : Int)) = false := beq_false_of_ne (by have := HQ.out; omega)
        have e2 : ((k : Int) == (p : Int) + 1) = false := beq_false_of_ne (by have := HQ.out; omega)
        have hwo := hb.size
        clear hcell0 hz hkk hbx hix hxo hx1' hgx2 hil hkp
        go_wp2_with (refine wpList_make_rowL _ rfl _ _ 131 rfl 4 i0 (.bool false) Tryd.underlying131 hi hz0 hz1 rfl .i64 .i64 _ _ M rfl rfl (by omega) (by omega) (by rw [hz2]; omega) (by omega) ?_)
        have HR2 := Lib.hid (BRow.made wo M)
        have HR1 := Lib.hid (HG.out.alloc (.cells (madeCells #[.bool false] M) 4))
        have hne : g ≠ wo.heap.size := by omega
        clear c1
        go_loopw [73] (fun rv wq => ∃ R : Nat, R ≤ M ∧ rv = .int .i64 R ∧ Hid (BRow wq wo.heap.size M (rcR (rB os M q0 kk) z M R)) ∧ Hid (BRow wq g M (rB os M q0 kk)) ∧ Below bb W0 wq ∧ wo.heap.size < wq.heap.size) (fun rv _ => M - (intOf rv).toNat)
        case atStart => exact ⟨0, Nat.zero_le _, rfl, HR2, HR1, hb.alloc (by omega) _, by simp⟩
        case round =>
          clear HR1 HR2
          obtain ⟨R, hR, rfl, HW2, HW1, hqb, hqs⟩ := hrel
          obtain ⟨wp, rfl⟩ : ∃ wp : World, wp = wr := ⟨_, rfl⟩
          by_cases hRM : R < M
          · have d1 := HW1.out.cell hRM
            cases hcR : rB os M q0 kk R with
            | false =>
              rw [hcR] at d1
              have HE : Hid (BRow wp wo.heap.size M (rcR (rB os M q0 kk) z M (R + 1))) := HW2.out.same (fun j _ => (rcM_no hcR j).symm)
              clear hcR
              go_wp2_with fail
              clear d1
              go_loopw [16] (fun dv ws => dv = .int .i64 0 ∧ ws = wp) (fun _ _ => 0)
              case atStart => exact ⟨rfl, rfl⟩
              case round =>
                obtain ⟨rfl, rfl⟩ := hrel
                go_wp2
                go_roundw
                case rel => exact ⟨R + 1, by omega, by go_num, HE, HW1, hqb, hqs⟩
                case measure => simp [intOf]; omega
            | true =>
              rw [hcR] at d1
              have HCR := Lib.hid hcR
              clear hcR
              go_wp2_with fail
              clear d1
              go_loopw [16] (fun dv ws => ∃ D : Nat, D ≤ 10 ∧ dv = .int .i64 D ∧ Hid (BRow ws wo.heap.size M (rcM (rB os M q0 kk) z M R D)) ∧ Hid (BRow ws g M (rB os M q0 kk)) ∧ Below bb W0 ws ∧ wo.heap.size < ws.heap.size) (fun dv _ => 10 - (intOf dv).toNat)
              case atStart => exact ⟨0, Nat.zero_le _, rfl, HW2.out.same (fun j _ => (rcM_zero _ _ _ _ _).symm), HW1, hqb, hqs⟩
              case round =>
                clear HW2 HW1 hqb hqs
                obtain ⟨D, hD, rfl, HS2, HS1, hsb, hss⟩ := hrel
                obtain ⟨wt, rfl⟩ : ∃ wt : World, wt = wr := ⟨_, rfl⟩
                by_cases hD10 : D < 10
                · obtain ⟨qq, hqq, hqM⟩ := rest_nat ((R : Int) + z * (D : Int)) (M : Int) (by omega)
                  have hqM' : qq < M := by omega
                  have hp0' : 0 ≤ z * (D : Int) := Int.mul_nonneg hx0' (by omega)
                  have hp1' : z * (D : Int) ≤ 10 * 9 := Int.mul_le_mul hx10' (by omega) (by omega) (by omega)
                  have e2 := HS2.out.cell (i := qq) hqM'
                  have ef := HS2.out.frozen qq
                  have HP := Lib.hid (HS2.out.put qq true (fun j => rcM_succ (D := D) HCR.out hqq j))
                  have HP1 := Lib.hid (HS1.out.other (a := ⟨wo.heap.size, qq, none⟩) (by simpa using hne) (.bool true))
                  have hbx := HBX.out.keepB hsb (by omega)
                  have c1 := hbx.cell 1
                  simp at c1
                  have hq' : ((R : Int) + z * (D : Int)) % (M : Int) = (qq : Int) := hqq.symm
                  have hqt : ((R : Int) + z * (D : Int)).tmod (M : Int) = (qq : Int) := by rw [Int.tmod_eq_emod_of_nonneg (by omega)]; exact hq'
                  clear hbx hqq
                  go_wp2
                  go_roundw
                  case rel => exact ⟨D + 1, by omega, by go_num, HP, HP1, hsb.setCell (by simp only []; omega) _, by simp [World.setCell]; omega⟩
                  case measure => simp [intOf]; omega
                · have HE : Hid (BRow wt wo.heap.size M (rcR (rB os M q0 kk) z M (R + 1))) := HS2.out.same (fun j _ => by rw [show D = 10 by omega, rcM_ten])
                  go_wp2
                  go_roundw
                  case rel => exact ⟨R + 1, by omega, by go_num, HE, HS1, hsb, hss⟩
                  case measure => simp [intOf]; omega
          · have HE : Hid (BRow wp wo.heap.size M (rB os M q0 (ixp p q (k + 1)))) := HW2.out.same (fun j _ => by rw [HIX.out, rB, HXO.out, show ((M : Nat) : Int).toNat = M by omega, show R = M by omega])
            go_wp2
            go_roundw
            case rel => exact ⟨k + 1, wo.heap.size, by omega, by go_num, rfl, HE, by omega, hqs, hqb⟩
            case measure => simp [intOf]; omega
      · have HE : Hid (BRow wo g M (rB os M q0 (ixp p q (k + 1)))) := by
          show BRow _ _ _ _
          rw [ixp_stay (by omega) (by omega)]; exact HG.out
        clear hcell0 hgx2
        by_cases hkq : k = p
        · have e1 : ((k : Int) == (p : Int)) = true := by rw [hkq]; simp
          clear hkq hkp
          go_wp2
          go_roundw
          case rel => exact ⟨k + 1, g, by omega, by go_num, rfl, HE, hgB, hgs, hb⟩
          case measure => simp [intOf]; omega
        · have e1 : ((k : Int) == (p : Int)) = false := beq_false_of_ne (by omega)
          have e2 : ((k : Int) == (p : Int) + 1) = true := by rw [show (k : Int) = (p : Int) + 1 by have := HQ.out; omega]; simp
          clear hkq hkp
          go_wp2
          go_roundw
          case rel => exact ⟨k + 1, g, by omega, by go_num, rfl, HE, hgB, hgs, hb⟩
          case measure => simp [intOf]; omega
    · have HE : Hid (BRow wo g M (rB os M q0 os.length)) := by show BRow _ _ _ _; rw [HOL.out, ← ixp_all (by have := HQ.out; omega) (by have := HQ.out; omega), show n = k by omega]; exact HG.out
      have cg := HE.out.cell (i := 0) (by omega)
      go_wp2
      go_ret
      exact ⟨rfl, HB0.out.trans (hb.mono (by omega))⟩
end Go.Proofs.YtdjcgddcgjbboaaDoor
