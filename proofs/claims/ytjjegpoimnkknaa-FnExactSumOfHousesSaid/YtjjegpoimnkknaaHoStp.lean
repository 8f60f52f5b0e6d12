/-
  The law of SumOfHouses.
-/
import Derived.Test.YtjjegpoimnkknaaHoSum
namespace Go.Proofs.Ytjjegpoimnkknaa
open Go.RowKit

theorem Blk.drew {a : World} {b : Nat} {cs : Array Value} {T : TypeId} (h : Blk a b cs T) : Blk a.drew b cs T := h
theorem stMany_any (a b s m : Int) (w : World) (h1 : 1 ≤ a) (h2 : a ≤ b) (h3 : b ≤ 1000000) (h4 : 1 ≤ s) (h5 : s ≤ 1000000) (hm : (b - a) / s = m) (hm0 : 0 ≤ m) (hm1 : m ≤ 1000000) :
    Calls Try.prog 92 #[.agg #[.int .i64 a, .int .i64 b, .int .i64 s]] w fun e w' => e = .returned (.int .i64 (m + 1)) ∧ Below w.heap.size w w' := by
  go_enter Try.func92, Try.ntmps92
  go_wp2
  go_ret
  exact ⟨rfl, by go_grown⟩
set_option maxHeartbeats 1000000 in
theorem stEnds_any (a b s m : Int) (w : World) (h1 : 1 ≤ a) (h2 : a ≤ b) (h3 : b ≤ 1000000) (h4 : 1 ≤ s) (h5 : s ≤ 1000000) (hm : (b - a) / s = m) (hm0 : 0 ≤ m) (hm1 : m ≤ 1000000) (hp0 : 0 ≤ m * s) (hp1 : m * s ≤ 1000000) :
    Calls Try.prog 91 #[.agg #[.int .i64 a, .int .i64 b, .int .i64 s]] w fun e w' => e = .returned (.tuple #[.int .i64 a, .int .i64 (a + m * s)]) ∧ Below w.heap.size w w' := by
  have F := Blk.new w #[.int .i64 a, .int .i64 b, .int .i64 s] 48
  have e1 : m + 1 - 1 = m := by omega
  have w1 : IntKind.i64.wrap m = m := IntWalk.i64_in _ (by omega)
  have w2 : IntKind.i64.wrap (m * s) = m * s := IntWalk.i64_in _ (by omega)
  have w3 : IntKind.i64.wrap (a + m * s) = a + m * s := IntWalk.i64_in _ (by omega)
  go_enter Try.func91, Try.ntmps91
  go_wp2
  go_region_held3 (fun w' => w'.cell? ⟨w.heap.size, 0, none⟩ = some (.int .i64 a) ∧ w'.cell? ⟨w.heap.size, 1, none⟩ = some (.int .i64 b) ∧ w'.cell? ⟨w.heap.size, 2, none⟩ = some (.int .i64 s))
    (first | go_keep | exact ⟨d0, d1, d2⟩)
    (first | (go_at_call 92; (with_reducible refine (stMany_any a b s m _ h1 h2 h3 h4 h5 hm hm0 hm1).mono ?_); rintro e w1 ⟨rfl, b1⟩; have B1 : Below w.heap.size w w1 := chain (w := w) (by go_grown) b1; have G := (Blk.drew F).keep b1; have d0 := G.cell 0; have d1 := G.cell 1; have d2 := G.cell 2; simp at d0 d1 d2) | fail)
  all_goals go_wp2
  all_goals go_ret2
  all_goals exact ⟨rfl, by go_grown⟩
/-- How often the step fits. -/
def stM (a b s : Int) : Int := (b - a) / s
theorem stM_bd {a b s : Int} (h1 : 1 ≤ a) (h2 : a ≤ b) (h3 : b ≤ 1000000) (h4 : 1 ≤ s) : 0 ≤ stM a b s ∧ stM a b s ≤ 1000000 ∧ 0 ≤ stM a b s * s ∧ stM a b s * s ≤ 1000000 := by
  have k1 : 0 ≤ stM a b s := Int.ediv_nonneg (by omega) (by omega)
  have k2 : stM a b s * s ≤ b - a := Int.ediv_mul_le _ (by omega)
  have k3 : stM a b s * 1 ≤ stM a b s * s := Int.mul_le_mul_of_nonneg_left h4 k1
  omega
theorem bd_mul {x y X Y : Int} (h1 : 0 ≤ x) (h2 : x ≤ X) (h3 : 0 ≤ y) (h4 : y ≤ Y) : 0 ≤ x * y ∧ x * y ≤ X * Y :=
  ⟨Int.mul_nonneg h1 h3, Int.mul_le_mul h2 h4 h3 (by omega)⟩
theorem sumOfSt_any (a b s m t : Int) (w : World) (h1 : 1 ≤ a) (h2 : a ≤ b) (h3 : b ≤ 1000000) (h4 : 1 ≤ s) (h5 : s ≤ 1000000) (hm : (b - a) / s = m) (hm0 : 0 ≤ m) (hm1 : m ≤ 1000000) (hp0 : 0 ≤ m * s) (hp1 : m * s ≤ 1000000) (ht : m * (m + 1) = 2 * t) :
    Calls Try.prog 58 #[.agg #[.int .i64 a, .int .i64 b, .int .i64 s]] w fun e w' => e = .returned (.int .i64 ((m + 1) * a + s * t)) ∧ Below w.heap.size w w' := by
  obtain ⟨k0, k1⟩ := bd_mul (x := m + 1) (y := a + (a + m * s)) (X := 1000001) (Y := 3000000) (by omega) (by omega) (by omega) (by omega)
  have HS := Lib.hid (steps_sum a m s t ht)
  have e1 : m + 1 - 1 = m := by omega
  rw [e1] at HS
  clear ht
  go_enter Try.func58, Try.ntmps58
  go_wp2_with (first | (go_at_call 91; refine (stEnds_any a b s m _ h1 h2 h3 h4 h5 hm hm0 hm1 hp0 hp1).mono ?_; rintro e w1 ⟨rfl, b1⟩; have F := (Blk.new w _ _).keep b1; have c0 := F.cell 0; have c1 := F.cell 1; have c2 := F.cell 2; simp at c0 c1 c2; have B1 := Lib.hid b1; clear b1 F) | (go_at_call 92; refine (stMany_any a b s m _ h1 h2 h3 h4 h5 hm hm0 hm1).mono ?_; rintro e w2 ⟨rfl, b2⟩; have B2 := Lib.hid b2; clear b2))
  go_ret
  exact ⟨ret_int HS.out, chain (w := w) (chain (w := w) (by go_grown) B1.out) B2.out⟩
/-- What SumOfHouses answers. -/
def sohB (a b s : Int) : Bool := stB a b && houB s
def sohA (a b s : Int) : Int := if sohB a b s = true then (stM a b s + 1) * a + s * (stM a b s * (stM a b s + 1) / 2) else 0
theorem iSoh_any (a b s : Int) (w : World) :
    Calls Try.prog 29 #[.int .i64 a, .int .i64 b, .int .i64 s] w fun e w' => e = .returned (.tuple #[.int .i64 (sohA a b s), .bool (sohB a b s)]) ∧ Below w.heap.size w w' := by
  cases hs : stB a b with
  | true =>
    obtain ⟨h1, h2, h3⟩ := (stB_iff a b).1 hs
    cases hh : houB s with
    | true =>
      obtain ⟨h4, h5⟩ := (houB_iff s).1 hh
      have hb : sohB a b s = true := by unfold sohB; rw [hs, hh]; rfl
      obtain ⟨k1, k2, k3, k4⟩ := stM_bd h1 h2 h3 h4
      obtain ⟨m, hm⟩ : ∃ m, stM a b s = m := ⟨_, rfl⟩
      obtain ⟨t, ht⟩ := even_mul m
      have HZ : Hid ((m + 1) * a + s * t = sohA a b s) := by
        show _ = _
        unfold sohA
        rw [if_pos hb, hm, show m * (m + 1) / 2 = t by omega]
      rw [hm] at k1 k2 k3 k4
      have HM : Hid ((b - a) / s = m) := hm
      have HT := Lib.hid ht
      clear hm ht
      rw [hb]
      go_enter Try.func29, Try.ntmps29
      go_wp2_with (first | (go_at_call 44; refine (isStreet_any _ _ _).mono ?_; rintro e w' ⟨rfl, rfl⟩) | (go_at_call 58; refine (sumOfSt_any a b s m t _ h1 h2 h3 h4 h5 HM.out k1 k2 k3 k4 HT.out).mono ?_; rintro e w1 ⟨rfl, b1⟩))
      go_ret2
      exact ⟨ret_ib HZ.out rfl, b1⟩
    | false =>
      have hb : sohB a b s = false := by unfold sohB; rw [hs, hh]; rfl
      have HZ : Hid (0 = sohA a b s) := by show _ = _; unfold sohA; rw [if_neg (by rw [hb]; simp)]
      have hc : s < 1 ∨ (1 ≤ s ∧ 1000000 < s) := by
        rcases Int.lt_or_le s 1 with h | h
        · exact .inl h
        · refine .inr ⟨h, ?_⟩
          rcases Int.lt_or_le 1000000 s with h' | h'
          · exact h'
          · have := (houB_iff s).2 ⟨h, h'⟩; rw [hh] at this; cases this
      rw [hb]
      rcases hc with hc | ⟨hc, hc2⟩
      · go_enter Try.func29, Try.ntmps29
        go_wp2_with (go_at_call 44; refine (isStreet_any _ _ _).mono ?_; rintro e w' ⟨rfl, rfl⟩)
        go_ret2
        exact ⟨ret_ib HZ.out rfl, Below.refl _ _⟩
      · go_enter Try.func29, Try.ntmps29
        go_wp2_with (go_at_call 44; refine (isStreet_any _ _ _).mono ?_; rintro e w' ⟨rfl, rfl⟩)
        go_ret2
        exact ⟨ret_ib HZ.out rfl, Below.refl _ _⟩
  | false =>
    have hb : sohB a b s = false := by unfold sohB; rw [hs]; rfl
    have HZ : Hid (0 = sohA a b s) := by show _ = _; unfold sohA; rw [if_neg (by rw [hb]; simp)]
    rw [hb]
    go_enter Try.func29, Try.ntmps29
    go_wp2_with (go_at_call 44; refine (isStreet_any _ _ _).mono ?_; rintro e w' ⟨rfl, rfl⟩)
    go_ret2
    exact ⟨ret_ib HZ.out rfl, Below.refl _ _⟩
theorem sSoh_any (a b s : Int) (w : World) :
    Calls Try.prog 28 #[.int .i64 a, .int .i64 b, .int .i64 s] w fun e w' => e = .returned (.tuple #[.int .i64 (sohA a b s), .bool (sohB a b s)]) ∧ w = w' := by
  cases hs : stB a b with
  | true =>
    obtain ⟨h1, h2, h3⟩ := (stB_iff a b).1 hs
    cases hh : houB s with
    | true =>
      obtain ⟨h4, h5⟩ := (houB_iff s).1 hh
      have hb : sohB a b s = true := by unfold sohB; rw [hs, hh]; rfl
      obtain ⟨k1, k2, k3, k4⟩ := stM_bd h1 h2 h3 h4
      obtain ⟨m, hm⟩ : ∃ m, stM a b s = m := ⟨_, rfl⟩
      obtain ⟨t, ht⟩ := even_mul m
      have HZ : Hid ((m + 1) * a + s * t = sohA a b s) := by
        show _ = _
        unfold sohA
        rw [if_pos hb, hm, show m * (m + 1) / 2 = t by omega]
      rw [hm] at k1 k2 k3 k4
      obtain ⟨j0, j1⟩ := bd_mul (x := m) (y := m + 1) (X := 1000000) (Y := 1000001) (by omega) (by omega) (by omega) (by omega)
      obtain ⟨j2, j3⟩ := bd_mul (x := m + 1) (y := a) (X := 1000001) (Y := 1000000) (by omega) (by omega) (by omega) (by omega)
      obtain ⟨j4, j5⟩ := bd_mul (x := s) (y := t) (X := 1000000) (Y := 1000001000000) (by omega) (by omega) (by omega) (by omega)
      have hq : (b - a) / s = m := hm
      have hq2 : m * (m + 1) / 2 = t := by omega
      clear hm ht
      rw [hb]
      go_enter Try.func28, Try.ntmps28
      go_wp2_with (first | (go_at_call 42; refine (hoStreet_any _ _ _).mono ?_; rintro e w' ⟨rfl, rfl⟩) | (go_at_call 50; refine (hoMost_any _ _).mono ?_; rintro e w' ⟨rfl, rfl⟩))
      go_ret2
      exact ⟨ret_ib HZ.out rfl, rfl⟩
    | false =>
      have hb : sohB a b s = false := by unfold sohB; rw [hs, hh]; rfl
      have HZ : Hid (0 = sohA a b s) := by show _ = _; unfold sohA; rw [if_neg (by rw [hb]; simp)]
      rw [hb]
      go_enter Try.func28, Try.ntmps28
      go_wp2_with (first | (go_at_call 42; refine (hoStreet_any _ _ _).mono ?_; rintro e w' ⟨rfl, rfl⟩) | (go_at_call 50; refine (hoMost_any _ _).mono ?_; rintro e w' ⟨rfl, rfl⟩))
      go_ret2
      exact ⟨ret_ib HZ.out rfl, rfl⟩
  | false =>
    have hb : sohB a b s = false := by unfold sohB; rw [hs]; rfl
    have HZ : Hid (0 = sohA a b s) := by show _ = _; unfold sohA; rw [if_neg (by rw [hb]; simp)]
    rw [hb]
    go_enter Try.func28, Try.ntmps28
    go_wp2_with (first | (go_at_call 42; refine (hoStreet_any _ _ _).mono ?_; rintro e w' ⟨rfl, rfl⟩) | (go_at_call 50; refine (hoMost_any _ _).mono ?_; rintro e w' ⟨rfl, rfl⟩))
    go_ret2
    exact ⟨ret_ib HZ.out rfl, rfl⟩
theorem FnExactSumOfHouses_law (a b s : Int) (_h0 : (Lit.int .i64 a).wf = true) (_h1 : (Lit.int .i64 b).wf = true) (_h2 : (Lit.int .i64 s).wf = true) (w : World) :
    Calls Try.prog 8 #[.int .i64 a, .int .i64 b, .int .i64 s] w fun e w' => e = .returned (.bool true) ∧ Below w.heap.size w w' := by
  go_enter Try.func8, Try.ntmps8
  go_wp2_with (first | (go_at_call 28; go_must ((with_reducible refine (sSoh_any _ _ _ _).mono ?_); rintro e w' ⟨rfl, rfl⟩)) | (go_at_call 29; go_must ((with_reducible refine (iSoh_any _ _ _ _).mono ?_); rintro e w1 ⟨rfl, b1⟩)))
  go_ret
  exact ⟨rfl, b1⟩
end Go.Proofs.Ytjjegpoimnkknaa
