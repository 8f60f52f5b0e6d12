/-
  Least numbers: CountOfDigits of both sides, and its law.
-/
import Derived.Test.YtghjpanabphbpaaLeCnt
namespace Go.Proofs.Ytghjpanabphbpaa
open Go.RowKit

/-- There is an answer; the answer. -/
def coB (d s : Int) : Bool := lnB d && smB s
def coA (d s : Int) : Int := if coB d s = true then cN d.toNat s else 0
theorem coA_yes {n z : Int} (h : coB n z = true) : coA n z = cN n.toNat z := by rw [coA, if_pos h]
theorem coA_no {n z : Int} (h : coB n z = false) : coA n z = 0 := by rw [coA, if_neg (by simp [h])]
theorem iCo_any (d s : Int) (w : World) :
    Calls Try.prog 5 #[.int .i64 d, .int .i64 s] w fun e w' => e = .returned (.tuple #[.int .i64 (coA d s), .bool (coB d s)]) ∧ Below w.heap.size w w' := by
  have HZ := Lib.hid (fun W => isLength_any d W)
  have HS := Lib.hid (fun W => isSum_any s W)
  cases hd : lnB d with
  | false =>
    have hb : coB d s = false := by unfold coB; rw [hd]; rfl
    have HA := Lib.hid (coA_no hb)
    have HB := Lib.hid hb
    rw [hd] at HZ
    clear hb hd
    go_enter Try.func5, Try.ntmps5
    go_wp2_with (go_at_call 8; (with_reducible refine (HZ.out _).mono ?_); rintro e w' ⟨rfl, rfl⟩)
    go_ret2
    exact ⟨ret_ib HA.out.symm HB.out.symm, Below.refl _ _⟩
  | true =>
    obtain ⟨d0, d1⟩ := (lnB_iff d).1 hd
    cases hs : smB s with
    | false =>
      have hb : coB d s = false := by unfold coB; rw [hs]; simp
      have HA := Lib.hid (coA_no hb)
      have HB := Lib.hid hb
      rw [hd] at HZ
      rw [hs] at HS
      clear hb hd hs
      go_enter Try.func5, Try.ntmps5
      go_wp2_with (first | (go_at_call 8; (with_reducible refine (HZ.out _).mono ?_); rintro e w' ⟨rfl, rfl⟩) | (go_at_call 9; (with_reducible refine (HS.out _).mono ?_); rintro e w' ⟨rfl, rfl⟩))
      go_ret2
      exact ⟨ret_ib HA.out.symm HB.out.symm, Below.refl _ _⟩
    | true =>
      have hb : coB d s = true := by unfold coB; rw [hd, hs]; rfl
      have HA := Lib.hid (coA_yes hb)
      have HB := Lib.hid hb
      rw [hd] at HZ
      rw [hs] at HS
      have hc := fun W => countOf_any d.toNat s W (by omega) (by omega)
      rw [show ((d.toNat : Nat) : Int) = d by omega] at hc
      have HC := Lib.hid hc
      clear hb hd hs hc
      go_enter Try.func5, Try.ntmps5
      go_wp2_with (first | (go_at_call 8; (with_reducible refine (HZ.out _).mono ?_); rintro e w' ⟨rfl, rfl⟩) | (go_at_call 9; (with_reducible refine (HS.out _).mono ?_); rintro e w' ⟨rfl, rfl⟩) | (go_at_call 10; (with_reducible refine (HC.out _).mono ?_); rintro e w1 ⟨rfl, b1⟩))
      go_ret2
      exact ⟨ret_ib HA.out.symm HB.out.symm, b1⟩

set_option maxHeartbeats 2000000 in
theorem sCo_yes (d S : Nat) (w : World) (d1 : 1 ≤ d) (d2 : d ≤ 12) (hS : S ≤ 108) :
    Calls Try.prog 4 #[.int .i64 d, .int .i64 S] w fun e w' => e = .returned (.tuple #[.int .i64 (cN d S), .bool true]) ∧ Below w.heap.size w w' := by
  obtain ⟨i0, hi, hz0, hz1, hz2⟩ := info_parts (show (Try.prog.info? 3).map (fun i => (i.zero, i.size, i.bytes)) = some (some (.int .i64 0), 1, 8) by kernel_rfl)
  have HZ : Hid (∀ W, Calls Try.prog 6 #[.int .i64 d, .int .i64 1, .int .i64 12] W fun e w' => e = .returned (.bool true) ∧ W = w') := fun W => in_b _ _ _ _ _ (decide_eq_true (by omega))
  have HS : Hid (∀ W, Calls Try.prog 7 #[.int .i64 S] W fun e w' => e = .returned (.bool true) ∧ W = w') := fun W => by
    have := leSum_any (S : Int) W
    rwa [(smB_iff (S : Int)).2 (by omega)] at this
  go_enter Try.func4, Try.ntmps4
  go_wp2_with (first | (go_at_call 6; (with_reducible refine (HZ.out _).mono ?_); rintro e w' ⟨rfl, rfl⟩) | (go_at_call 7; (with_reducible refine (HS.out _).mono ?_); rintro e w' ⟨rfl, rfl⟩) | (refine wpList_make_rowL _ rfl _ _ 27 rfl 3 i0 (.int .i64 0) Try.underlying27 hi hz0 hz1 rfl .i64 .i64 _ _ (S + 1) rfl rfl (by omega) (by omega) (by rw [hz2]; omega) (by omega) ?_; have HR0 := Lib.hid (IRow.made w (S + 1)); have c0 := HR0.out.cell (show 0 < S + 1 by omega); have z0 := HR0.out.frozen 0))
  have hW : (w.alloc (.cells (madeCells #[.int .i64 0] (S + 1)) 3)).setCell ⟨w.heap.size, 0, none⟩ (.int .i64 1) = w.alloc (.cells ((madeCells #[.int .i64 0] (S + 1)).setIfInBounds 0 (.int .i64 1)) 3) := by
    exact World.setCell_alloc_new ..
  have HR1 : Hid (IRow (w.alloc (.cells ((madeCells #[.int .i64 0] (S + 1)).setIfInBounds 0 (.int .i64 1)) 3)) w.heap.size (S + 1) (fun j => cd d 0 j)) := by
    show IRow _ _ _ _
    rw [← hW]
    refine HR0.out.put 0 1 (fun j => ?_)
    rw [cd_0, V_0]
    by_cases hj : j = 0
    · rw [if_pos (by omega), if_pos hj]
    · rw [if_neg (by omega), if_neg hj]
  have HB1 : Below w.heap.size w (w.alloc (.cells ((madeCells #[.int .i64 0] (S + 1)).setIfInBounds 0 (.int .i64 1)) 3)) := (Below.refl _ _).alloc (Nat.le_refl _) _
  clear c0 z0 hW
  go_loopw [6, 7] (fun nv kv wr => ∃ (k g : Nat) (ki : Int), k ≤ d ∧ 0 ≤ ki ∧ ki ≤ (d : Int) ∧ Hid (ki = (k : Int)) ∧ kv = .int .i64 ki ∧ nv = .slice (some ⟨g, 0, none⟩) (S + 1) (S + 1) ∧ Hid (IRow wr g (S + 1) (fun j => cd d k j)) ∧ w.heap.size ≤ g ∧ Below w.heap.size w wr) (fun _ kv _ => d - (intOf kv).toNat)
  case atStart => exact ⟨0, w.heap.size, 0, Nat.zero_le _, by omega, by omega, rfl, rfl, rfl, HR1, Nat.le_refl _, HB1⟩
  case round =>
    obtain ⟨k, g, ki, hk, hki0, hki1, HKI, rfl, rfl, HK, hg, hbl⟩ := hrel
    obtain ⟨wo, rfl⟩ : ∃ wo : World, wo = wr := ⟨_, rfl⟩
    have hlt := HK.out.lt
    have hsz := hbl.size
    clear HR0 HR1 HB1
    by_cases hkd : ki < (d : Int)
    · have hkd2 : k < d := by have := HKI.out; omega
      go_wp2_with (refine wpList_make_rowL _ rfl _ _ 27 rfl 3 i0 (.int .i64 0) Try.underlying27 hi hz0 hz1 rfl .i64 .i64 _ _ (S + 1) rfl rfl (by omega) (by omega) (by rw [hz2]; omega) (by omega) ?_)
      have HR2 := Lib.hid (IRow.made wo (S + 1))
      have HR3 := Lib.hid (HK.out.alloc (.cells (madeCells #[.int .i64 0] (S + 1)) 3))
      have HB2 : Below w.heap.size w (wo.alloc (.cells (madeCells #[.int .i64 0] (S + 1)) 3)) := hbl.alloc hsz _
      have hne : g ≠ wo.heap.size := by omega
      obtain ⟨c, hc⟩ : ∃ c, c = decide (k > 0 ∨ d = 1) := ⟨_, rfl⟩
      have hcd : ∀ j : Nat, 0 ≤ cd d k j ∧ cd d k j ≤ 1000000000000 := fun j => cd_bd (by omega) d j
      have HC := Lib.hid hc
      have HCD := Lib.hid hcd
      have HO : Hid (∀ j : Nat, j ≤ S → outc c (fun i => cd d k i) (S + 1) j = cd d (k + 1) j) := fun j hj => by rw [hc]; exact outc_cd d k S j hj
      clear hc hcd
      go_loopw [35] (fun av wq => ∃ a : Nat, a ≤ S + 1 ∧ av = .int .i64 a ∧ Hid (IRow wq wo.heap.size (S + 1) (outc c (fun i => cd d k i) a)) ∧ Hid (IRow wq g (S + 1) (fun j => cd d k j)) ∧ Below w.heap.size w wq ∧ wo.heap.size < wq.heap.size) (fun av _ => S + 1 - (intOf av).toNat)
      case atStart => exact ⟨0, Nat.zero_le _, rfl, HR2, HR3, HB2, by simp⟩
      case round =>
        obtain ⟨a, ha, rfl, HQ2, HQ1, hqb, hqs⟩ := hrel
        obtain ⟨wp, rfl⟩ : ∃ wp : World, wp = wr := ⟨_, rfl⟩
        by_cases haS : a < S + 1
        · have hc1 := HQ1.out.cell haS
          have hV := HCD.out a
          obtain ⟨y, hy⟩ : ∃ y, cd d k a = y := ⟨_, rfl⟩
          rw [hy] at hc1 hV
          obtain ⟨hV1, hV2⟩ := hV
          have HY := Lib.hid hy
          clear hy
          have hdec : decide ((a : Int) < (S : Int) + 1) = true := by simp; omega
          go_wp2_with fail
          go_loopw [11] (fun dv ws => ∃ e : Nat, e ≤ 10 ∧ a + e ≤ S + 1 ∧ dv = .int .i64 e ∧ Hid (IRow ws wo.heap.size (S + 1) (midc c (fun i => cd d k i) a e)) ∧ Hid (IRow ws g (S + 1) (fun j => cd d k j)) ∧ Below w.heap.size w ws ∧ wo.heap.size < ws.heap.size) (fun dv _ => 10 - (intOf dv).toNat)
          case atStart => exact ⟨0, Nat.zero_le _, by omega, rfl, HQ2.out.same (fun j _ => (midc_zero _ _ _ _).symm), HQ1, hqb, hqs⟩
          case round =>
            obtain ⟨e, he, heS, rfl, HS2, HS1, hsb, hss⟩ := hrel
            obtain ⟨wx, rfl⟩ : ∃ wx : World, wx = wr := ⟨_, rfl⟩
            by_cases he10 : e < 10
            · by_cases hae : a + e ≤ S
              · have hc2 := HS2.out.cell (i := a + e) (by omega)
                have hf2 := HS2.out.frozen (a + e)
                have hM := midc_bd c (fun i => cd d k i) HCD.out a e (a + e)
                obtain ⟨x, hx⟩ : ∃ x, midc c (fun i => cd d k i) a e (a + e) = x := ⟨_, rfl⟩
                rw [hx] at hc2 hM
                obtain ⟨hM1, hM2⟩ := hM
                have HX := Lib.hid hx
                clear hx
                by_cases hcc : 0 < k ∨ 0 < e ∨ d = 1
                · have HP : Hid (∀ j, midc c (fun i => cd d k i) a (e + 1) j = if j = a + e then x + y else midc c (fun i => cd d k i) a e j) := fun j => by
                    rw [midc_put c _ a e j (by rw [HC.out]; by_cases q : k > 0 ∨ d = 1; exact Or.inl (by simpa using q); exact Or.inr (by omega)), HX.out, HY.out]
                  rcases Nat.eq_zero_or_pos k with q1 | q1
                  · have r1 : ¬ (0 : Int) < ki := by have := HKI.out; omega
                    rcases Nat.eq_zero_or_pos e with q2 | q2
                    · have r3 : ((d : Int) == 1) = true := by simp; omega
                      clear q1 hcc
                      subst q2
                      rw [Nat.add_zero] at hc2 hf2
                      have HP2 : Hid (∀ j, midc c (fun i => cd d k i) a 1 j = if j = a then x + y else midc c (fun i => cd d k i) a 0 j) := HP.out
                      clear HP
                      go_wp2
                      go_roundw
                      case rel => exact ⟨1, by omega, by omega, rfl, HS2.out.put _ _ HP2.out, HS1.out.other (by simpa using hne) _, hsb.setCell (by simp; omega) _, by simp [World.setCell]; omega⟩
                      case measure => simp [intOf]
                    · have q3 : (0 : Int) < (e : Int) := by omega
                      clear q1 q2 hcc
                      go_wp2
                      go_roundw
                      case rel => exact ⟨e + 1, by omega, by omega, by go_num, HS2.out.put _ _ HP.out, HS1.out.other (by simpa using hne) _, hsb.setCell (by simp; omega) _, by simp [World.setCell]; omega⟩
                      case measure => simp [intOf]; omega
                  · have q3 : (0 : Int) < ki := by have := HKI.out; omega
                    clear q1 hcc
                    go_wp2
                    go_roundw
                    case rel => exact ⟨e + 1, by omega, by omega, by go_num, HS2.out.put _ _ HP.out, HS1.out.other (by simpa using hne) _, hsb.setCell (by simp; omega) _, by simp [World.setCell]; omega⟩
                    case measure => simp [intOf]; omega
                · have r1 : ¬ (0 : Int) < ki := by have := HKI.out; omega
                  have r3 : ((d : Int) == 1) = false := by simp; omega
                  have hcf : c = false := by rw [HC.out]; simp; omega
                  have q2 : e = 0 := by omega
                  clear hcc
                  subst q2
                  have HR5 : Hid (IRow wx wo.heap.size (S + 1) (midc c (fun i => cd d k i) a 1)) := HS2.out.same (fun j _ => by rw [hcf, midc_skip])
                  clear hcf
                  go_wp2
                  go_roundw
                  case rel => exact ⟨1, by omega, by omega, rfl, HR5, HS1, hsb, hss⟩
                  case measure => simp [intOf]
              · have HR5 : Hid (IRow wx wo.heap.size (S + 1) (outc c (fun i => cd d k i) (a + 1))) := HS2.out.same (fun j hj => midc_ten c _ a e S j (by omega) (by omega) he)
                go_wp2
                go_roundw
                case rel => exact ⟨a + 1, by omega, by go_num, HR5, HS1, hsb, hss⟩
                case measure => simp [intOf]; omega
            · have HR5 : Hid (IRow wx wo.heap.size (S + 1) (outc c (fun i => cd d k i) (a + 1))) := HS2.out.same (fun j hj => midc_ten c _ a e S j (by omega) (by omega) he)
              go_wp2
              go_roundw
              case rel => exact ⟨a + 1, by omega, by go_num, HR5, HS1, hsb, hss⟩
              case measure => simp [intOf]; omega
        · have HR5 : Hid (IRow wp wo.heap.size (S + 1) (fun j => cd d (k + 1) j)) := HQ2.out.same (fun j hj => by rw [show a = S + 1 by omega]; exact HO.out j (by omega))
          go_wp2_with fail
          go_roundw
          case rel => exact ⟨k + 1, wo.heap.size, ki + 1, by omega, by omega, by omega, by have := HKI.out; show _ = _; omega, rfl, rfl, HR5, by omega, hqb⟩
          case measure => simp [intOf]; omega
    · have hkd' : k = d := by have := HKI.out; omega
      have hc1 := HK.out.cell (show S < S + 1 by omega)
      have HX : Hid (cd d k S = cN d S) := by show _ = _; rw [hkd', cd_all d1]
      obtain ⟨y, hy⟩ : ∃ y, cd d k S = y := ⟨_, rfl⟩
      rw [hy] at hc1 HX
      clear hy hkd'
      go_wp2
      go_ret2
      exact ⟨ret_ib HX.out rfl, hbl⟩
theorem sCo_any (d s : Int) (w : World) :
    Calls Try.prog 4 #[.int .i64 d, .int .i64 s] w fun e w' => e = .returned (.tuple #[.int .i64 (coA d s), .bool (coB d s)]) ∧ Below w.heap.size w w' := by
  have hl := fun W => llen_any d W
  have hs1 := fun W => leSum_any s W
  cases hd : lnB d with
  | false =>
    have hb : coB d s = false := by unfold coB; rw [hd]; rfl
    have HA := Lib.hid (coA_no hb)
    have HB := Lib.hid hb
    rw [hd] at hl
    have HZ := Lib.hid hl
    clear hb hd hl hs1
    go_enter Try.func4, Try.ntmps4
    go_wp2_with (go_at_call 6; (with_reducible refine (HZ.out _).mono ?_); rintro e w' ⟨rfl, rfl⟩)
    go_ret2
    exact ⟨ret_ib HA.out.symm HB.out.symm, Below.refl _ _⟩
  | true =>
    obtain ⟨d0, d1⟩ := (lnB_iff d).1 hd
    cases hs : smB s with
    | false =>
      have hb : coB d s = false := by unfold coB; rw [hs]; simp
      have HA := Lib.hid (coA_no hb)
      have HB := Lib.hid hb
      rw [hd] at hl
      rw [hs] at hs1
      have HZ := Lib.hid hl
      have HS := Lib.hid hs1
      clear hb hd hs hl hs1
      go_enter Try.func4, Try.ntmps4
      go_wp2_with (first | (go_at_call 6; (with_reducible refine (HZ.out _).mono ?_); rintro e w' ⟨rfl, rfl⟩) | (go_at_call 7; (with_reducible refine (HS.out _).mono ?_); rintro e w' ⟨rfl, rfl⟩))
      go_ret2
      exact ⟨ret_ib HA.out.symm HB.out.symm, Below.refl _ _⟩
    | true =>
      have hb : coB d s = true := by unfold coB; rw [hd, hs]; rfl
      obtain ⟨s0, s1⟩ := (smB_iff s).1 hs
      have h := sCo_yes d.toNat s.toNat w (by omega) (by omega) (by omega)
      rw [show ((d.toNat : Nat) : Int) = d by omega, show ((s.toNat : Nat) : Int) = s by omega] at h
      rw [coA_yes hb, hb]
      exact h
set_option maxHeartbeats 1000000 in
theorem FnExactCountOfDigits_law (p0 : Int) (p1 : Int) (_hp0 : (Lit.int .i64 p0).wf = true) (_hp1 : (Lit.int .i64 p1).wf = true) (w : World) :
    Calls Try.prog 3 #[.int .i64 p0, .int .i64 p1] w fun e w' => e = .returned (.bool true) ∧ Below w.heap.size w w' := by
  have hs1 : ∀ W, Calls Try.prog 4 #[.int .i64 p0, .int .i64 p1] W fun e w' => e = .returned (.tuple #[.int .i64 (coA p0 p1), .bool (coB p0 p1)]) ∧ Below W.heap.size W w' := fun W => sCo_any p0 p1 W
  have hi1 : ∀ W, Calls Try.prog 5 #[.int .i64 p0, .int .i64 p1] W fun e w' => e = .returned (.tuple #[.int .i64 (coA p0 p1), .bool (coB p0 p1)]) ∧ Below W.heap.size W w' := fun W => iCo_any p0 p1 W
  obtain ⟨A0, hA0⟩ : ∃ A0 : Int, A0 = coA p0 p1 := ⟨_, rfl⟩
  obtain ⟨A1, hA1⟩ : ∃ A1 : Bool, A1 = coB p0 p1 := ⟨_, rfl⟩
  rw [← hA0, ← hA1] at hs1 hi1
  have HS := Lib.hid hs1
  have HI := Lib.hid hi1
  clear hs1 hi1 hA0 hA1
  go_enter Try.func3, Try.ntmps3
  go_wp2_with (first | (go_at_call 4; (with_reducible refine (HS.out _).mono ?_); rintro e w1 ⟨rfl, b1⟩) | (go_at_call 5; (with_reducible refine (HI.out _).mono ?_); rintro e w2 ⟨rfl, b2⟩))
  go_ret
  exact ⟨rfl, chain b1 b2⟩
end Go.Proofs.Ytghjpanabphbpaa
