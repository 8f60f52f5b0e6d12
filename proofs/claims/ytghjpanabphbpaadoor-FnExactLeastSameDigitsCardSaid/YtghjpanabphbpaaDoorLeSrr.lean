/-
  Least numbers: slices.Sort of the thirteen bytes of 1000000000000.
-/
import Derived.Test.YtghjpanabphbpaaDoorLeSrq
namespace Go.Proofs.YtghjpanabphbpaaDoor
open Go.RowKit
set_option maxRecDepth 100000

/-- A one, then zeros. -/
def r13 (j : Nat) : Int := if j = 0 then 49 else 48
/-- The one in the middle. -/
def s13 (j : Nat) : Int := if j = 6 then 49 else 48
theorem grownB_alloc {b : Nat} {w w' : World} (h : w.grownBy w' (some b)) (o : Obj) : w.grownBy (w'.alloc o) (some b) :=
  ⟨h.os, h.tape, h.output, by have := h.size; simp; omega, fun k hk hne => by rw [Lib.alloc_old w' o k (by have := h.size; omega)]; exact h.block k hk hne⟩
set_option maxHeartbeats 2000000 in
theorem pivot_any (g c : Nat) (w : World) (h : BYt w g 13 r13) :
    Calls Tryd.prog 115 #[.slice (some ⟨g, 0, none⟩) 13 c, .int .i64 0, .int .i64 13] w fun e w' => e = .returned (.tuple #[.int .i64 6, .int .i64 1]) ∧ BYt w' g 13 r13 ∧ w.grownBy w' (some g) := by
  have HA := Lib.hid (h.alloc (.cells #[.int .i64 0] 3))
  have hM := fun pv => med_any g 13 c 3 6 9 pv r13 _ (by omega) (by omega) (by omega) rfl rfl HA.out
  have HM : Hid (∀ pv, Calls Tryd.prog 139 #[.slice (some ⟨g, 0, none⟩) 13 c, .int .i64 3, .int .i64 6, .int .i64 9, pv] (w.alloc (.cells #[.int .i64 0] 3)) fun e w' => e = .returned (.int .i64 6) ∧ ∃ m, w' = (w.alloc (.cells #[.int .i64 0] 3)).drewN m) := hM
  clear hM h
  go_enter Tryd.func115, Tryd.ntmps115
  go_wp2_with (go_at_call 139; (with_reducible refine (HM.out _).mono ?_); rintro e w1 ⟨rfl, m, rfl⟩)
  go_ret2
  exact ⟨rfl, HA.out.drewN _, grownB_drewN (grownB_alloc (grownB_refl g w) _) _⟩
set_option maxHeartbeats 2000000 in
theorem part_no (g c : Nat) (w : World) (h : BYt w g 13 r13) :
    Calls Tryd.prog 117 #[.slice (some ⟨g, 0, none⟩) 13 c, .int .i64 0, .int .i64 13] w fun e w' => e = .returned (.bool false) ∧ ∃ m, w' = w.drewN m := by
  have c0 : w.cell? ⟨g, 0, none⟩ = some (.int .u8 49) := h.cell 0 (by omega)
  have c1 : w.cell? ⟨g, 1, none⟩ = some (.int .u8 48) := h.cell 1 (by omega)
  have HL := Lib.hid (fun W => less_any 48 49 true W rfl)
  clear h
  go_enter Tryd.func117, Tryd.ntmps117
  go_wp2
  go_loopw [7, 8] (fun iv jv wr => iv = .int .i64 1 ∧ jv = .int .i64 0 ∧ wr = w) (fun _ _ _ => 0)
  case atStart => exact ⟨rfl, rfl, rfl⟩
  case round =>
    obtain ⟨rfl, rfl, rfl⟩ := hrel
    go_wp2
    go_loopw [7] (fun iv wq => iv = .int .i64 1 ∧ wq = wr) (fun _ _ => 0)
    case atStart => exact ⟨rfl, rfl⟩
    case round =>
      obtain ⟨rfl, rfl⟩ := hrel
      go_wp2
      go_quiet ((go_at_call 118; refine (HL.out _).mono ?_; rintro e w' ⟨rfl, rfl⟩; exact ⟨rfl, _, rfl⟩))
      go_wp2
      go_ret
      exact ⟨rfl, _, rfl⟩
theorem grownB_trans {b : Nat} {w w1 w2 : World} (h : w.grownBy w1 (some b)) (k : w1.grownBy w2 (some b)) : w.grownBy w2 (some b) :=
  ⟨k.os.trans h.os, k.tape.trans h.tape, k.output.trans h.output, Nat.le_trans h.size k.size, fun i hi hne => (k.block i (Nat.lt_of_lt_of_le hi h.size) hne).trans (h.block i hi hne)⟩
theorem s13_ge (j : Nat) : 48 ≤ s13 j := by unfold s13; split <;> omega
theorem r13_ge (j : Nat) : 48 ≤ r13 j := by unfold r13; split <;> omega
set_option maxHeartbeats 4000000 in
theorem ptn_any (g c : Nat) (w : World) (h : BYt w g 13 r13) :
    Calls Tryd.prog 120 #[.slice (some ⟨g, 0, none⟩) 13 c, .int .i64 0, .int .i64 13, .int .i64 6] w fun e w' => e = .returned (.tuple #[.int .i64 0, .bool true]) ∧ BYt w' g 13 s13 ∧ w.grownBy w' (some g) := by
  have c0 : w.cell? ⟨g, 0, none⟩ = some (.int .u8 49) := h.cell 0 (by omega)
  have c6 : w.cell? ⟨g, 6, none⟩ = some (.int .u8 48) := h.cell 6 (by omega)
  have z0 := h.fz 0 (by omega)
  have z6 := h.fz 6 (by omega)
  have HB : Hid (BYt ((w.setCell ⟨g, 0, none⟩ (.int .u8 48)).setCell ⟨g, 6, none⟩ (.int .u8 49)) g 13 s13) := by
    refine BYt.put (BYt.put (g := fun j => if j = 0 then 48 else r13 j) h 0 48 (by omega) (fun _ _ => rfl)) 6 49 (by omega) (fun j _ => ?_)
    unfold s13 r13
    repeat' split
    all_goals first | rfl | omega
  have HG : Hid (w.grownBy ((w.setCell ⟨g, 0, none⟩ (.int .u8 48)).setCell ⟨g, 6, none⟩ (.int .u8 49)) (some g)) := grownB_set (grownB_set (grownB_refl g w) 0 _) 6 _
  have HL1 := Lib.hid (fun W => less_any 48 48 false W rfl)
  have hne : (⟨g, 0, none⟩ : Addr) ≠ ⟨g, 6, none⟩ := fun h => by have h1 := congrArg Addr.off h; simp at h1
  clear h
  go_enter Tryd.func120, Tryd.ntmps120
  go_wp2
  go_region
  go_wp2
  go_loopw [10] (fun iv wr => iv = .int .i64 1 ∧ Hid (BYt wr g 13 s13) ∧ Hid (w.grownBy wr (some g))) (fun _ _ => 0)
  case atStart => exact ⟨rfl, HB.out.drw, grownB_drw HG.out⟩
  case round =>
    obtain ⟨rfl, HR, HG1⟩ := hrel
    obtain ⟨wo, rfl⟩ : ∃ wo : World, wo = wr := ⟨_, rfl⟩
    have d0 : wo.cell? ⟨g, 0, none⟩ = some (.int .u8 48) := HR.out.cell 0 (by omega)
    have d1 : wo.cell? ⟨g, 1, none⟩ = some (.int .u8 48) := HR.out.cell 1 (by omega)
    go_wp2
    go_quiet ((go_at_call 118; refine (HL1.out _).mono ?_; rintro e w' ⟨rfl, rfl⟩; exact ⟨rfl, _, rfl⟩))
    go_wp2
    go_loopw [11] (fun jv wr => ∃ j : Nat, jv = .int .i64 j ∧ j ≤ 12 ∧ Hid (BYt wr g 13 s13) ∧ Hid (w.grownBy wr (some g))) (fun jv _ => (intOf jv).toNat)
    case atStart => exact ⟨12, rfl, Nat.le_refl _, HR.out.drewN _, grownB_drewN HG1.out _⟩
    case round =>
      obtain ⟨j, rfl, hj, HR2, HG2⟩ := hrel
      obtain ⟨wq, rfl⟩ : ∃ wq : World, wq = wr := ⟨_, rfl⟩
      have q0 : wq.cell? ⟨g, 0, none⟩ = some (.int .u8 48) := HR2.out.cell 0 (by omega)
      have y0 := HR2.out.fz 0 (by omega)
      by_cases hj0 : 1 ≤ j
      · have hjI : (1 : Int) ≤ (j : Int) := by omega
        have hj13 : (j : Int) < 13 := by omega
        have qj := HR2.out.cell j (by omega)
        have hx := s13_ge j
        obtain ⟨x, hxe⟩ : ∃ x, s13 j = x := ⟨_, rfl⟩
        rw [hxe] at qj hx
        have HL2 := Lib.hid (fun W => less_any x 48 false W (decide_eq_false (by omega)))
        clear hxe
        go_wp2
        go_quiet ((go_at_call 118; refine (HL2.out _).mono ?_; rintro e w' ⟨rfl, rfl⟩; exact ⟨rfl, _, rfl⟩))
        go_wp2
        go_roundw
        case rel => exact ⟨j - 1, val_int (by omega), by omega, HR2.out.drewN _, grownB_drewN HG2.out _⟩
        case measure => simp [intOf]; omega
      · have hjz : j = 0 := by omega
        subst hjz
        go_wp2
        go_quiet (fail)
        have q0' : (wq.drewN nq).cell? ⟨g, 0, none⟩ = some (.int .u8 48) := q0
        have y0' : (wq.drewN nq).frozen? ⟨g, 0, none⟩ = false := y0
        have HRn := Lib.hid (HR2.out.drewN nq)
        have HGn := Lib.hid (grownB_drewN HG2.out nq)
        obtain ⟨ws, hws⟩ : ∃ ws, wq.drewN nq = ws := ⟨_, rfl⟩
        rw [hws] at q0' y0' HRn HGn
        rw [hws]
        clear hws q0 y0 HR2 HG2
        have HB3 : Hid (BYt ((ws.setCell ⟨g, 0, none⟩ (.int .u8 48)).setCell ⟨g, 0, none⟩ (.int .u8 48)) g 13 s13) := by
          refine BYt.put (BYt.put (g := s13) HRn.out 0 48 (by omega) (fun j _ => ?_)) 0 48 (by omega) (fun j _ => ?_)
          all_goals
            by_cases e : j = 0
            · subst e; rfl
            · rw [if_neg e]
        go_wp2
        go_region
        go_wp2
        go_ret2
        exact ⟨rfl, HB3.out.drw, grownB_drw (grownB_set (grownB_set HGn.out _ _) _ _)⟩
theorem s13_xch (j : Nat) : xch r13 0 6 j = s13 j := by
  unfold xch r13 s13
  repeat' split
  all_goals first | rfl | omega
theorem s13_cw (c : Int) : cw s13 13 c = cw r13 13 c := by
  rw [← cw_xch (f := r13) (show 0 < 13 by omega) (show 6 < 13 by omega) (by omega) c]
  exact cw_same (fun j _ => (s13_xch j).symm) c
theorem Sod.more {w w1 w' : World} {g : Nat} {f' : Nat → Int} (hg : w.grownBy w1 (some g)) (h : Sod w1 w' g 13 1 13 s13 f') : Sod w w' g 13 0 13 r13 f' := by
  refine ⟨h.row, fun c => by rw [h.cnt, s13_cw], fun j h1 h2 => ?_, fun j hj => ?_, grownB_trans hg h.gr⟩
  · by_cases e : j = 0
    · subst e
      have e0 : f' 0 = 48 := h.out 0 (.inl (by omega))
      rw [e0]
      by_cases hc : 48 ≤ f' (0 + 1)
      · exact hc
      · have h3 := cw_pos (f := f') (show 0 + 1 < 13 by omega)
        rw [h.cnt, cw_zero (fun j _ => by have := s13_ge j; omega)] at h3
        omega
    · exact h.srt j (by omega) h2
  · rw [h.out j (.inr (by omega))]
    unfold s13 r13
    rw [if_neg (by omega), if_neg (by omega)]
set_option maxHeartbeats 4000000 in
theorem pdq_13 (g c : Nat) (w : World) (h : BYt w g 13 r13) :
    Calls Tryd.prog 96 #[.slice (some ⟨g, 0, none⟩) 13 c, .int .i64 0, .int .i64 13, .int .i64 4] w fun e w' => e = .returned (.tuple #[]) ∧ ∃ f', Sod w w' g 13 0 13 r13 f' := by
  have H0 := Lib.hid h
  clear h
  go_enter Tryd.func96, Tryd.ntmps96
  go_wp2
  go_loopw [1, 2, 3, 8, 9] (fun av bv lv x8 x9 wr => bv = .int .i64 13 ∧ lv = .int .i64 4 ∧ ((av = .int .i64 0 ∧ x8 = .bool true ∧ x9 = .bool true ∧ wr = w) ∨ (av = .int .i64 1 ∧ Hid (BYt wr g 13 s13) ∧ Hid (w.grownBy wr (some g))))) (fun av _ _ _ _ _ => (1 - intOf av).toNat)
  case atStart => exact ⟨rfl, rfl, .inl ⟨rfl, rfl, rfl, rfl⟩⟩
  case round =>
    obtain ⟨rfl, rfl, ⟨rfl, rfl, rfl, rfl⟩ | ⟨rfl, HR, HG⟩⟩ := hrel
    · go_wp2_with (first | (go_at_call 115; refine (pivot_any g c _ H0.out).mono ?_; rintro e w1 ⟨rfl, h1, g1⟩; have HB1 := Lib.hid h1; have HG1 := Lib.hid g1; clear h1 g1) | (go_at_call 117; refine (part_no g c _ HB1.out).mono ?_; rintro e w2 ⟨rfl, m, rfl⟩))
      go_quiet (fail)
      have HBn := Lib.hid ((HB1.out.drewN m).drewN nq)
      have HGn := Lib.hid (grownB_drewN (grownB_drewN HG1.out m) nq)
      obtain ⟨ws, hws⟩ : ∃ ws, (w1.drewN m).drewN nq = ws := ⟨_, rfl⟩
      rw [hws] at HBn HGn
      rw [hws]
      clear hws HB1 HG1
      go_wp2_with (first | (go_at_call 120; refine (ptn_any g c _ HBn.out).mono ?_; rintro e w3 ⟨rfl, h3, g3⟩; have HB3 := Lib.hid h3; have HG3 := Lib.hid (grownB_trans HGn.out g3); clear h3 g3) | (go_at_call 96; refine (pdq_12 g 13 c 0 0 4 s13 _ (by omega) (by omega) (by omega) (by omega) HB3.out).mono ?_; rintro e w4 ⟨rfl, f4, h4⟩; have HB4 := Lib.hid (h4.row.same (g := s13) (fun j _ => h4.out j (.inr (Nat.zero_le _)))); have HG4 := Lib.hid (grownB_trans HG3.out h4.gr); clear h4))
      go_roundw
      case rel => exact ⟨rfl, rfl, .inr ⟨rfl, HB4.out, HG4.out⟩⟩
      case measure => simp [intOf]
    · have HI := Lib.hid (ins_any g 13 c 1 13 s13 wr (by omega) (by omega) (by omega) HR.out)
      go_wp2_with (go_at_call 112; refine HI.out.mono ?_; rintro e w1 ⟨rfl, f', hs⟩)
      go_retn
      exact ⟨rfl, f', Sod.more HG.out hs⟩
theorem sort_13 (g c : Nat) (w : World) (h : BYt w g 13 r13) :
    Calls Tryd.prog 78 #[.slice (some ⟨g, 0, none⟩) 13 c] w fun e w' => e = .returned (.tuple #[]) ∧ ∃ f', Sod w w' g 13 0 13 r13 f' := by
  have HI := Lib.hid (pdq_13 g c w h)
  have hL := fun W => Tryd.bits_Len 13 W (by omega) (by omega)
  have e4 : Lib.bitLen (13 : Int).toNat = 4 := by decide
  rw [e4] at hL
  have HL : Hid (∀ W, Calls Tryd.prog 97 #[.int .u64 13] W fun e w' => e = .returned (.int .i64 4) ∧ w' = W) := hL
  clear h hL e4
  go_enter Tryd.func78, Tryd.ntmps78
  go_wp2_with (first | (go_at_call 97; refine (HL.out _).mono ?_; rintro e w1 ⟨rfl, rfl⟩) | (go_at_call 96; refine HI.out.mono ?_; rintro e w1 ⟨rfl, hs⟩))
  go_end0
  exact ⟨rfl, hs⟩
end Go.Proofs.YtghjpanabphbpaaDoor
