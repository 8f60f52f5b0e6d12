/-
  A hidden ticket fits a clue: both sides.
-/
import Derived.Test.YtakckgbkfnogbaaDoorPzVal
import Derived.Test.YtakckgbkfnogbaaDoorPzTo
namespace Go.Proofs.YtakckgbkfnogbaaDoor
open Go.RowKit
set_option maxRecDepth 100000

theorem cl_a {c : Cl} (h : clP c) (h5 : ¬ c.k = 5) : (0 ≤ c.k ∧ c.k ≤ 4) ∧ 0 ≤ c.a ∧ (c.k = 0 → c.a ≤ 1) ∧ (c.k = 1 → c.a ≤ 3) ∧ (c.k = 3 → c.a ≤ 2) := by
  unfold clP at h; omega
theorem fit_5 {c : Cl} {l : List UInt8} (h : c.k = 5) : fitB c l = decide (dnm l % c.b = 0) := by unfold fitB; rw [if_pos h]
theorem fit_n {c : Cl} {l : List UInt8} (h : ¬ c.k = 5) : fitB c l = decide (tv c.k c.a l = c.b) := by unfold fitB; rw [if_neg h]
set_option maxHeartbeats 4000000 in
theorem pzFits_any (c : Cl) (s : ByteArray) (w : World) (hc : clP c) (hh : hidB s.data.toList = true) :
    Calls Tryd.prog 40 #[.agg #[.int .i64 c.k, .int .i64 c.a, .int .i64 c.b], .string s] w fun e w' => e = .returned (.bool (fitB c s.data.toList)) ∧ Below w.heap.size w w' := by
  have HH := Lib.hid hh
  have hsz := (hid_at hh).1
  have hs12 : s.size ≤ 12 := by omega
  have hblk : Below w.heap.size w (w.alloc (.cells #[.int .i64 c.k, .int .i64 c.a, .int .i64 c.b] 26)) := (Below.refl _ _).alloc (Nat.le_refl _) _
  have HB := Lib.hid hblk
  clear hblk hh hsz
  by_cases h5 : c.k = 5
  · have HF := Lib.hid (fit_5 (l := s.data.toList) h5)
    have hb : 2 ≤ c.b ∧ c.b ≤ 9 := by unfold clP at hc; omega
    have hd := dnum_12 s.data.toList (by simpa using hs12) (hid_dig HH.out)
    have HN := Lib.hid (fun W => tkNumber_any s W hs12 (hid_dig HH.out))
    obtain ⟨k, a, b⟩ := c
    simp only at *
    subst h5
    obtain ⟨d, hdd⟩ : ∃ d, dnum s.data.toList = d := ⟨_, rfl⟩
    rw [hdd] at HN hd
    have HM : Hid ((d % b == 0) = fitB ⟨5, a, b⟩ s.data.toList) := by
      show _ = _
      rw [HF.out, ← dnum_dnm, hdd, Bool.eq_iff_iff]; simp
    obtain ⟨d0, d1⟩ := hd
    obtain ⟨b0, b1⟩ := hb
    have hb0 : ¬ b = 0 := by omega
    clear hc hdd
    go_enter Tryd.func40, Tryd.ntmps40
    go_wp2
    go_quiet ((go_at_call 59; exact quiet_eq (HN.out _)))
    go_wp2
    go_ret
    exact ⟨ret_bool HM.out, below_drewN HB.out _⟩
  · have HF := Lib.hid (fit_n (l := s.data.toList) h5)
    obtain ⟨hk, ha, a0, a1, a3⟩ := cl_a hc h5
    have HV := Lib.hid (fun W => pzValue_any c.k c.a s W HH.out hk ha a0 a1 a3)
    obtain ⟨t, ht⟩ : ∃ t, tv c.k c.a s.data.toList = t := ⟨_, rfl⟩
    rw [ht] at HV HF
    have h5q : (c.k == 5) = false := by simpa using h5
    clear hk ha a0 a1 a3 h5 hc ht
    go_enter Tryd.func40, Tryd.ntmps40
    go_wp2
    go_quiet ((go_at_call 60; exact Calls.quiet_of (HV.out _)))
    go_wp2
    go_ret
    exact ⟨ret_bool (by rw [HF.out, Bool.eq_iff_iff]; simp), below_drewN HB.out _⟩
theorem asTold_any (b : Bool) (w : World) : Calls Tryd.prog 82 #[.bool b] w fun e w' => e = .returned (.int .i64 (if b = true then 1 else 0)) ∧ w = w' := by
  cases b
  all_goals
    go_enter Tryd.func82, Tryd.ntmps82
    go_wp2
    go_ret
    exact ⟨rfl, rfl⟩
theorem asTold_x (b : Bool) (x : Int) (w : World) (h : (if b = true then 1 else 0) = x) : Calls Tryd.prog 82 #[.bool b] w fun e w' => e = .returned (.int .i64 x) ∧ w = w' := by subst h; exact asTold_any b w
theorem blk4 {w : World} {b : Nat} {x y z u : Value} {T : TypeId} (h : w.heap[b]? = some (.cells #[x, y, z, u] T (0, 0))) : w.cell? ⟨b, 0, none⟩ = some x ∧ w.cell? ⟨b, 1, none⟩ = some y ∧ w.cell? ⟨b, 2, none⟩ = some z ∧ w.cell? ⟨b, 3, none⟩ = some u := by
  refine ⟨by rw [Lib.cell_of_heap h]; rfl, by rw [Lib.cell_of_heap h]; rfl, by rw [Lib.cell_of_heap h]; rfl, by rw [Lib.cell_of_heap h]; rfl⟩
theorem lo_tv {s : ByteArray} (h : hidB s.data.toList = true) : dsum (lo s) = dat s.data.toList 0 + dat s.data.toList 1 ∧ dsum (hi s) = dat s.data.toList 2 + dat s.data.toList 3 ∧ hsz s = 2 := by
  obtain ⟨x, y, z, u, hl, _⟩ := hid_form h
  have hsz := (hid_at h).1
  unfold lo hi dat Go.Proofs.YtakckgbkfnogbaaDoor.hsz
  rw [hsz, hl]
  simp [dsum]
set_option maxHeartbeats 8000000 in
theorem trueB_any (c : Cl) (s : ByteArray) (w : World) (hh : hidB s.data.toList = true) (hk : 0 ≤ c.k ∧ c.k ≤ 4) (ha : 0 ≤ c.a) (a0 : c.k = 0 → c.a ≤ 1) (a1 : c.k = 1 → c.a ≤ 3) (a3 : c.k = 3 → c.a ≤ 2) :
    Calls Tryd.prog 64 #[.agg #[.int .i64 c.k, .int .i64 c.a, .int .i64 c.b], .string s] w fun e w' => e = .returned (.int .i64 (tv c.k c.a s.data.toList)) ∧ Below w.heap.size w w' := by
  obtain ⟨hsz, hb⟩ := hid_at hh
  obtain ⟨k, a, b⟩ := c
  simp only at *
  have HH := Lib.hid hh
  have hL : (s.size : Int) = 4 := by omega
  have p0 : 0 < s.size := by omega
  have p1 : 1 < s.size := by omega
  have p2 : 2 < s.size := by omega
  have p3 : 3 < s.size := by omega
  have D0 := Lib.hid (dat_at s 0 p0 0 rfl)
  have D1 := Lib.hid (dat_at s 1 p1 1 rfl)
  have D2 := Lib.hid (dat_at s 2 p2 2 rfl)
  have D3 := Lib.hid (dat_at s 3 p3 3 rfl)
  obtain ⟨b0, c0⟩ := hb 0 p0
  obtain ⟨b1, c1⟩ := hb 1 p1
  obtain ⟨b2, c2⟩ := hb 2 p2
  obtain ⟨b3, c3⟩ := hb 3 p3
  have HV := Lib.hid (fun W => halvesOf_any s W (by omega) (by omega) (hid_dig hh))
  obtain ⟨l1, l2, l3⟩ := lo_tv hh
  obtain ⟨x, hx⟩ : ∃ x, dsum (lo s) = x := ⟨_, rfl⟩
  obtain ⟨y, hy⟩ : ∃ y, dsum (hi s) = y := ⟨_, rfl⟩
  rw [hx, hy, l3] at HV
  rw [hx] at l1
  rw [hy] at l2
  have L1 := Lib.hid l1
  have L2 := Lib.hid l2
  clear hb hh l1 l2 l3 hx hy
  rcases (show k = 0 ∨ k = 1 ∨ k = 2 ∨ k = 3 ∨ k = 4 by omega) with rfl | rfl | rfl | rfl | rfl
  · have HT : Hid (∀ i, tv 0 i s.data.toList = dat s.data.toList (2 * i) + dat s.data.toList (2 * i + 1)) := fun i => by unfold tv; simp
    have hfd : ∀ W v, (Instr.field 93 (.agg #[.int .i64 2, .int .i64 v]) 1).run Tryd.prog W = .ok (.int .i64 v) W := fun W v => by kernel_rfl
    rcases (show a = 0 ∨ a = 1 by have := a0 rfl; omega) with rfl | rfl
    · have hix : ∀ W, (Instr.index 97 (.agg #[.int .i64 2, .int .i64 x, .int .i64 2, .int .i64 y]) (.int .i64 0)).run Tryd.prog W = .ok (.agg #[.int .i64 2, .int .i64 x]) W := fun W => by kernel_rfl
      have HR : Hid (x = tv 0 0 s.data.toList) := by show _ = _; rw [HT.out, L1.out]; rfl
      clear hk ha a0 a1 a3 b0 b1 b2 b3 c0 c1 c2 c3 D0 D1 D2 D3 p0 p1 p2 p3 HT
      go_enter Tryd.func64, Tryd.ntmps64
      go_wp2_with (go_at_call 81; (with_reducible refine (HV.out _).mono ?_); rintro e w1 ⟨rfl, q1⟩; obtain ⟨e0, e1, e2, f0, s0⟩ := blk3 (box_at w _ q1); have hz1 := box_lt w _ q1; have B1 := chain (w := w) (by go_grown) q1)
      go_ret
      exact ⟨ret_int HR.out, B1.alloc B1.size _⟩
    · have hix : ∀ W, (Instr.index 97 (.agg #[.int .i64 2, .int .i64 x, .int .i64 2, .int .i64 y]) (.int .i64 1)).run Tryd.prog W = .ok (.agg #[.int .i64 2, .int .i64 y]) W := fun W => by kernel_rfl
      have HR : Hid (y = tv 0 1 s.data.toList) := by show _ = _; rw [HT.out, L2.out]; rfl
      clear hk ha a0 a1 a3 b0 b1 b2 b3 c0 c1 c2 c3 D0 D1 D2 D3 p0 p1 p2 p3 HT
      go_enter Tryd.func64, Tryd.ntmps64
      go_wp2_with (go_at_call 81; (with_reducible refine (HV.out _).mono ?_); rintro e w1 ⟨rfl, q1⟩; obtain ⟨e0, e1, e2, f0, s0⟩ := blk3 (box_at w _ q1); have hz1 := box_lt w _ q1; have B1 := chain (w := w) (by go_grown) q1)
      go_ret
      exact ⟨ret_int HR.out, B1.alloc B1.size _⟩
  · rcases (show a = 0 ∨ a = 1 ∨ a = 2 ∨ a = 3 by have := a1 rfl; omega) with rfl | rfl | rfl | rfl
    all_goals
      clear hk ha a0 a1 a3
      go_enter Tryd.func64, Tryd.ntmps64
      go_wp2_with (go_at_call 81; (with_reducible refine (HV.out _).mono ?_); rintro e w1 ⟨rfl, q1⟩; obtain ⟨e0, e1, e2, f0, s0⟩ := blk3 (box_at w _ q1); have hz1 := box_lt w _ q1; have B1 := chain (w := w) (by go_grown) q1)
      go_ret
      exact ⟨ret_int (by first | exact D0.out.symm | exact D1.out.symm | exact D2.out.symm | exact D3.out.symm), B1.alloc B1.size _⟩
  · have ht : tv 2 a s.data.toList = if dat s.data.toList 0 + dat s.data.toList 1 = dat s.data.toList 2 + dat s.data.toList 3 then 1 else 0 := by unfold tv; simp
    rw [← L1.out, ← L2.out] at ht
    have hal := fun W => alike_any 2 x 2 y W
    have he : decide ((2 : Int) = 2 ∧ x = y) = decide (x = y) := by simp
    rw [he] at hal
    have hr : (if decide (x = y) = true then 1 else 0) = tv 2 a s.data.toList := by rw [ht]; simp
    obtain ⟨bb, hbb⟩ : ∃ bb, decide (x = y) = bb := ⟨_, rfl⟩
    rw [hbb] at hal hr
    have HR := Lib.hid hr
    have HA := Lib.hid hal
    clear hbb hal he hr ht
    clear hk ha a0 a1 a3 b0 b1 b2 b3 c0 c1 c2 c3 D0 D1 D2 D3 p0 p1 p2 p3
    go_enter Tryd.func64, Tryd.ntmps64
    go_wp2_with (first
      | (go_at_call 81; (with_reducible refine (HV.out _).mono ?_); rintro e w1 ⟨rfl, q1⟩; obtain ⟨e0, e1, e2, f0, s0⟩ := blk3 (box_at w _ q1); have hz1 := box_lt w _ q1; have B1 := chain (w := w) (by go_grown) q1)
      | (go_at_call 83; (with_reducible refine (HA.out _).mono ?_); rintro e w2 ⟨rfl, q2⟩; have B2 := chain (B1.alloc B1.size _) q2)
      | (go_at_call 82; (with_reducible refine (asTold_x _ _ _ HR.out).mono ?_); rintro e w3 ⟨rfl, rfl⟩))
    go_ret
    exact ⟨rfl, B2⟩
  · have HT : Hid (∀ i, tv 3 i s.data.toList = if dat s.data.toList i < dat s.data.toList (i + 1) then 1 else 0) := by intro i; unfold tv; simp
    rcases (show a = 0 ∨ a = 1 ∨ a = 2 by have := a3 rfl; omega) with rfl | rfl | rfl
    · have HR : Hid ((if decide ((s[0]'p0).toNat < (s[1]'p1).toNat) = true then 1 else 0) = tv 3 0 s.data.toList) := by
        show _ = _; rw [HT.out, D0.out, show (0 : Int) + 1 = 1 from rfl, D1.out]; simp only [decide_eq_true_eq]; congr 1; simp
      clear hk ha a0 a1 a3 HT
      go_enter Tryd.func64, Tryd.ntmps64
      go_wp2_with (first
        | (go_at_call 81; (with_reducible refine (HV.out _).mono ?_); rintro e w1 ⟨rfl, q1⟩; obtain ⟨e0, e1, e2, f0, s0⟩ := blk3 (box_at w _ q1); have hz1 := box_lt w _ q1; have B1 := chain (w := w) (by go_grown) q1))
      go_quiet ((go_at_call 82; exact quiet_eq (asTold_x _ _ _ HR.out)))
      go_wp2
      go_ret
      exact ⟨rfl, below_drewN (B1.alloc B1.size _) _⟩
    · have HR : Hid ((if decide ((s[1]'p1).toNat < (s[2]'p2).toNat) = true then 1 else 0) = tv 3 1 s.data.toList) := by
        show _ = _; rw [HT.out, D1.out, show (1 : Int) + 1 = 2 from rfl, D2.out]; simp only [decide_eq_true_eq]; congr 1; simp
      clear hk ha a0 a1 a3 HT
      go_enter Tryd.func64, Tryd.ntmps64
      go_wp2_with (first
        | (go_at_call 81; (with_reducible refine (HV.out _).mono ?_); rintro e w1 ⟨rfl, q1⟩; obtain ⟨e0, e1, e2, f0, s0⟩ := blk3 (box_at w _ q1); have hz1 := box_lt w _ q1; have B1 := chain (w := w) (by go_grown) q1))
      go_quiet ((go_at_call 82; exact quiet_eq (asTold_x _ _ _ HR.out)))
      go_wp2
      go_ret
      exact ⟨rfl, below_drewN (B1.alloc B1.size _) _⟩
    · have HR : Hid ((if decide ((s[2]'p2).toNat < (s[3]'p3).toNat) = true then 1 else 0) = tv 3 2 s.data.toList) := by
        show _ = _; rw [HT.out, D2.out, show (2 : Int) + 1 = 3 from rfl, D3.out]; simp only [decide_eq_true_eq]; congr 1; simp
      clear hk ha a0 a1 a3 HT
      go_enter Tryd.func64, Tryd.ntmps64
      go_wp2_with (first
        | (go_at_call 81; (with_reducible refine (HV.out _).mono ?_); rintro e w1 ⟨rfl, q1⟩; obtain ⟨e0, e1, e2, f0, s0⟩ := blk3 (box_at w _ q1); have hz1 := box_lt w _ q1; have B1 := chain (w := w) (by go_grown) q1))
      go_quiet ((go_at_call 82; exact quiet_eq (asTold_x _ _ _ HR.out)))
      go_wp2
      go_ret
      exact ⟨rfl, below_drewN (B1.alloc B1.size _) _⟩
  · have HT : Hid (((df s.data.toList : Nat) : Int) = tv 4 a s.data.toList) := by show _ = _; unfold tv; simp
    clear hk ha a0 a1 a3 b0 b1 b2 b3 c0 c1 c2 c3 D0 D1 D2 D3 p0 p1 p2 p3
    go_enter Tryd.func64, Tryd.ntmps64
    go_wp2_with (first
      | (go_at_call 81; (with_reducible refine (HV.out _).mono ?_); rintro e w1 ⟨rfl, q1⟩; obtain ⟨e0, e1, e2, f0, s0⟩ := blk3 (box_at w _ q1); have hz1 := box_lt w _ q1; have B1 := chain (w := w) (by go_grown) q1)
      | (go_at_call 84; (with_reducible refine (differentDigits_any s _ (by unfold maxLen; omega)).mono ?_); rintro e w3 ⟨rfl, rfl⟩))
    go_ret
    exact ⟨ret_int HT.out, B1.alloc B1.size _⟩
set_option maxHeartbeats 4000000 in
theorem doesFit_any (c : Cl) (s : ByteArray) (w : World) (hc : clP c) (hh : hidB s.data.toList = true) :
    Calls Tryd.prog 43 #[.agg #[.int .i64 c.k, .int .i64 c.a, .int .i64 c.b], .string s] w fun e w' => e = .returned (.bool (fitB c s.data.toList)) ∧ Below w.heap.size w w' := by
  have HH := Lib.hid hh
  have hsz := (hid_at hh).1
  have hs12 : s.size ≤ 12 := by omega
  have hblk : Below w.heap.size w (w.alloc (.cells #[.int .i64 c.k, .int .i64 c.a, .int .i64 c.b] 26)) := (Below.refl _ _).alloc (Nat.le_refl _) _
  have HB := Lib.hid hblk
  clear hblk hh hsz
  by_cases h5 : c.k = 5
  · have HF := Lib.hid (fit_5 (l := s.data.toList) h5)
    have hb : 2 ≤ c.b ∧ c.b ≤ 9 := by unfold clP at hc; omega
    have hd := dnum_12 s.data.toList (by simpa using hs12) (hid_dig HH.out)
    have HN := Lib.hid (fun W => numberIn_any s W hs12 (hid_dig HH.out))
    obtain ⟨k, a, b⟩ := c
    simp only at *
    subst h5
    obtain ⟨d, hdd⟩ : ∃ d, dnum s.data.toList = d := ⟨_, rfl⟩
    rw [hdd] at HN hd
    have HM : Hid ((d % b == 0) = fitB ⟨5, a, b⟩ s.data.toList) := by
      show _ = _
      rw [HF.out, ← dnum_dnm, hdd, Bool.eq_iff_iff]; simp
    obtain ⟨d0, d1⟩ := hd
    obtain ⟨b0, b1⟩ := hb
    have hb0 : ¬ b = 0 := by omega
    clear hc hdd
    go_enter Tryd.func43, Tryd.ntmps43
    go_wp2
    go_quiet ((go_at_call 63; exact quiet_eq (HN.out _)))
    go_wp2
    go_ret
    exact ⟨ret_bool HM.out, below_drewN HB.out _⟩
  · have HF := Lib.hid (fit_n (l := s.data.toList) h5)
    obtain ⟨hk, ha, a0, a1, a3⟩ := cl_a hc h5
    have HV := Lib.hid (fun W => trueB_any c s W HH.out hk ha a0 a1 a3)
    obtain ⟨t, ht⟩ : ∃ t, tv c.k c.a s.data.toList = t := ⟨_, rfl⟩
    rw [ht] at HV HF
    have h5q : (c.k == 5) = false := by simpa using h5
    clear hk ha a0 a1 a3 h5 hc ht
    go_enter Tryd.func43, Tryd.ntmps43
    go_wp2
    go_region_with (go_at_call 64; (with_reducible refine (HV.out _).mono ?_); rintro e w1 ⟨rfl, q1⟩; have Q1 := chain (w := w) (by go_grown) q1; obtain ⟨e0, e1, e2, f0, s0⟩ := blk3 (box_at w _ (show Below (w.alloc (.cells #[.int .i64 c.k, .int .i64 c.a, .int .i64 c.b] 26)).heap.size (w.alloc (.cells #[.int .i64 c.k, .int .i64 c.a, .int .i64 c.b] 26)) w1 from chain (by go_grown) q1)))
    all_goals go_wp2
    all_goals
      go_ret
      exact ⟨ret_bool (by rw [HF.out, Bool.eq_iff_iff]; simp), Q1⟩
end Go.Proofs.YtakckgbkfnogbaaDoor
