/-
  What is a clue, what is a puzzle: model and program.
-/
import Derived.Test.YtkdnplcaghnfhaaPzAre
namespace Go.Proofs.Ytkdnplcaghnfhaa
open Go.RowKit
set_option maxRecDepth 100000

theorem in_any (n lo hi : Int) (w : World) :
    Calls Try.prog 34 #[.int .i64 n, .int .i64 lo, .int .i64 hi] w fun e w' => e = .returned (.bool (decide (lo ≤ n ∧ n ≤ hi))) ∧ w = w' := by
  by_cases h1 : lo ≤ n <;> by_cases h2 : n ≤ hi
  all_goals
    go_enter Try.func34, Try.ntmps34
    go_wp2
    go_ret
    exact ⟨by simp [h1, h2], rfl⟩
theorem in_b (n lo hi : Int) (b : Bool) (w : World) (h : decide (lo ≤ n ∧ n ≤ hi) = b) :
    Calls Try.prog 34 #[.int .i64 n, .int .i64 lo, .int .i64 hi] w fun e w' => e = .returned (.bool b) ∧ w = w' := by subst h; exact in_any n lo hi w
theorem clP_b {c : Cl} (h : ¬ (0 ≤ c.b ∧ c.b ≤ 20)) : clB c = false := by
  cases e : clB c with
  | false => rfl
  | true => exact absurd ((clB_iff c).1 e).1 h
set_option maxHeartbeats 2000000 in
theorem pzClue_any (c : Cl) (w : World) :
    Calls Try.prog 23 #[.agg #[.int .i64 c.k, .int .i64 c.a, .int .i64 c.b]] w fun e w' => e = .returned (.bool (clB c)) ∧ Below w.heap.size w w' := by
  have hb1 : Below w.heap.size w (w.alloc (.cells #[.int .i64 c.k, .int .i64 c.a, .int .i64 c.b] 43)) := (Below.refl _ _).alloc (Nat.le_refl _) _
  have HBL := Lib.hid hb1
  clear hb1
  by_cases hb : 0 ≤ c.b ∧ c.b ≤ 20
  · have HB : Hid (decide (0 ≤ c.b ∧ c.b ≤ 20) = true) := decide_eq_true hb
    have hb3 := hb.1
    have HP : Hid (∀ x, (((c.k = 0 ∧ 0 ≤ c.a ∧ c.a ≤ 1) ∨ (c.k = 1 ∧ 0 ≤ c.a ∧ c.a ≤ 3) ∨ (c.k = 2 ∧ c.a = 0 ∧ c.b < 2) ∨ (c.k = 3 ∧ 0 ≤ c.a ∧ c.a ≤ 2 ∧ c.b < 2) ∨ (c.k = 4 ∧ c.a = 0) ∨ (c.k = 5 ∧ c.a = 0 ∧ 2 ≤ c.b ∧ c.b ≤ 9)) ↔ x = true) → clB c = x) := by
      intro x hx
      rw [Bool.eq_iff_iff, clB_iff, ← hx]
      unfold clP
      exact ⟨fun h => h.2, fun h => ⟨hb, h⟩⟩
    obtain ⟨k, a, b⟩ := c
    simp only at *
    by_cases k0 : k = 0
    · subst k0
      have HR : Hid (clB ⟨0, a, b⟩ = decide (0 ≤ a ∧ a ≤ 1)) := HP.out _ (by rw [decide_eq_true_eq]; omega)
      clear HP hb
      go_enter Try.func23, Try.ntmps23
      go_wp2_with (go_at_call 34; first | ((with_reducible refine (in_b _ _ _ true _ HB.out).mono ?_); rintro e w' ⟨rfl, rfl⟩) | ((with_reducible refine (in_any _ _ _ _).mono ?_); rintro e w' ⟨rfl, rfl⟩; rw [← HR.out]))
      go_ret
      exact ⟨rfl, (Below.refl _ _).alloc (Nat.le_refl _) _⟩
    by_cases k1 : k = 1
    · subst k1
      have HR : Hid (clB ⟨1, a, b⟩ = decide (0 ≤ a ∧ a ≤ 3)) := HP.out _ (by rw [decide_eq_true_eq]; omega)
      clear HP hb
      go_enter Try.func23, Try.ntmps23
      go_wp2_with (go_at_call 34; first | ((with_reducible refine (in_b _ _ _ true _ HB.out).mono ?_); rintro e w' ⟨rfl, rfl⟩) | ((with_reducible refine (in_any _ _ _ _).mono ?_); rintro e w' ⟨rfl, rfl⟩; rw [← HR.out]))
      go_ret
      exact ⟨rfl, (Below.refl _ _).alloc (Nat.le_refl _) _⟩
    by_cases k2 : k = 2
    · subst k2
      have HR : Hid (clB ⟨2, a, b⟩ = decide (a = 0 ∧ b < 2)) := HP.out _ (by rw [decide_eq_true_eq]; omega)
      by_cases ha : a = 0 <;> by_cases hbb : b < 2
      all_goals
        clear HP hb
        go_enter Try.func23, Try.ntmps23
        go_wp2_with (go_at_call 34; ((with_reducible refine (in_b _ _ _ true _ HB.out).mono ?_); rintro e w' ⟨rfl, rfl⟩))
        go_ret
        exact ⟨by rw [HR.out]; simp [ha, hbb], (Below.refl _ _).alloc (Nat.le_refl _) _⟩
    by_cases k3 : k = 3
    · subst k3
      have HR : Hid (clB ⟨3, a, b⟩ = (decide (0 ≤ a ∧ a ≤ 2) && decide (b < 2))) := HP.out _ (by rw [Bool.and_eq_true, decide_eq_true_eq, decide_eq_true_eq]; omega)
      cases hx : decide (0 ≤ a ∧ a ≤ 2)
      all_goals
        have HX := Lib.hid hx
        clear HP hb hx
        by_cases hbb : b < 2
        all_goals
          go_enter Try.func23, Try.ntmps23
          go_wp2_with (go_at_call 34; first | ((with_reducible refine (in_b _ _ _ true _ HB.out).mono ?_); rintro e w' ⟨rfl, rfl⟩) | ((with_reducible refine (in_b _ _ _ _ _ HX.out).mono ?_); rintro e w' ⟨rfl, rfl⟩))
          go_ret
          exact ⟨by rw [HR.out, HX.out]; simp [hbb], (Below.refl _ _).alloc (Nat.le_refl _) _⟩
    by_cases k4 : k = 4
    · subst k4
      have HR : Hid (clB ⟨4, a, b⟩ = decide (a = 0)) := HP.out _ (by rw [decide_eq_true_eq]; omega)
      by_cases ha : a = 0
      all_goals
        clear HP hb
        go_enter Try.func23, Try.ntmps23
        go_wp2_with (go_at_call 34; ((with_reducible refine (in_b _ _ _ true _ HB.out).mono ?_); rintro e w' ⟨rfl, rfl⟩))
        go_ret
        exact ⟨by rw [HR.out]; simp [ha], (Below.refl _ _).alloc (Nat.le_refl _) _⟩
    by_cases k5 : k = 5
    · subst k5
      have HR : Hid (clB ⟨5, a, b⟩ = (decide (a = 0) && decide (2 ≤ b ∧ b ≤ 9))) := HP.out _ (by rw [Bool.and_eq_true, decide_eq_true_eq, decide_eq_true_eq]; omega)
      cases hx : decide (2 ≤ b ∧ b ≤ 9)
      all_goals
        have HX := Lib.hid hx
        clear HP hb hx
        by_cases ha : a = 0
        all_goals
          go_enter Try.func23, Try.ntmps23
          go_wp2_with (go_at_call 34; first | ((with_reducible refine (in_b _ _ _ true _ HB.out).mono ?_); rintro e w' ⟨rfl, rfl⟩) | ((with_reducible refine (in_b _ _ _ _ _ HX.out).mono ?_); rintro e w' ⟨rfl, rfl⟩))
          go_ret
          exact ⟨by rw [HR.out, HX.out]; simp [ha], (Below.refl _ _).alloc (Nat.le_refl _) _⟩
    · have HR : Hid (clB ⟨k, a, b⟩ = false) := HP.out _ (by simp; omega)
      clear HP hb
      go_enter Try.func23, Try.ntmps23
      go_wp2_with (go_at_call 34; ((with_reducible refine (in_b _ _ _ true _ HB.out).mono ?_); rintro e w' ⟨rfl, rfl⟩))
      go_ret
      exact ⟨ret_bool HR.out.symm, (Below.refl _ _).alloc (Nat.le_refl _) _⟩
  · have HB : Hid (decide (0 ≤ c.b ∧ c.b ≤ 20) = false) := decide_eq_false hb
    have HR := Lib.hid (clP_b hb)
    clear hb
    go_enter Try.func23, Try.ntmps23
    go_wp2_with (go_at_call 34; ((with_reducible refine (in_b _ _ _ false _ HB.out).mono ?_); rintro e w' ⟨rfl, rfl⟩))
    go_ret
    exact ⟨ret_bool HR.out.symm, (Below.refl _ _).alloc (Nat.le_refl _) _⟩
theorem pzClue_b (c : Cl) (x : Bool) (w : World) (h : clB c = x) :
    Calls Try.prog 23 #[.agg #[.int .i64 c.k, .int .i64 c.a, .int .i64 c.b]] w fun e w' => e = .returned (.bool x) ∧ Below w.heap.size w w' := by subst h; exact pzClue_any c w
theorem RdC_one (c : Cl) (g : Nat) (T : TypeId) (W : World) (h : W.heap[g]? = some (.cells #[.int .i64 c.k, .int .i64 c.a, .int .i64 c.b] T (0, 0))) : RdC [c] (.slice (some ⟨g, 0, none⟩) 1 1) W := by
  refine ⟨_, 1, rfl, Nat.le_refl _, fun i hi => ?_⟩
  obtain rfl : i = 0 := by simp at hi; exact hi
  obtain ⟨h1, h2, h3, _⟩ := blk3 h
  exact ⟨g, 0, rfl, (Array.getElem?_eq_some_iff.1 h).1, h1, h2, h3⟩
theorem isClue_any (c : Cl) (w : World) :
    Calls Try.prog 26 #[.agg #[.int .i64 c.k, .int .i64 c.a, .int .i64 c.b]] w fun e w' => e = .returned (.bool (clB c)) ∧ Below w.heap.size w w' := by
  have HR : Hid (([c].all clB) = clB c) := by show _ = _; simp
  go_enter Try.func26, Try.ntmps26
  go_wp2_with (go_at_call 35; (with_reducible refine (areClues_any [c] _ _ (by simp) (RdC_one c (w.heap.size + 1) 43 _ (heap2 _ _ _))).mono ?_); rintro e w1 ⟨rfl, b1⟩)
  go_ret
  exact ⟨by first | exact ret_bool HR.out | exact ret_bool rfl, chain (w := w) (below2 _ _ _) b1⟩
set_option maxHeartbeats 1000000 in
theorem isPuzzle_any (cs : List Cl) (v : Value) (w : World) (hn : cs.length ≤ 1048576) (h : RdC cs v w) :
    Calls Try.prog 25 #[.agg #[v]] w fun e w' => e = .returned (.bool (pzB cs)) ∧ Below w.heap.size w w' := by
  have HV := Lib.hid h
  obtain ⟨a, cap, rfl, _, _⟩ := h
  obtain ⟨n, hnn⟩ : ∃ n, n = cs.length := ⟨_, rfl⟩
  have HN := Lib.hid hnn
  rw [← hnn] at hn HV
  rw [← hnn]
  clear hnn
  have hblk : Below w.heap.size w (w.alloc (.cells #[.slice a n cap] 39)) := (Below.refl _ _).alloc (Nat.le_refl _) _
  have HBLK := Lib.hid hblk
  clear hblk
  by_cases hz : (n : Int) ≤ 6
  · have HR : Hid (pzB cs = cs.all clB) := by show _ = _; unfold pzB; rw [decide_eq_true (by have := HN.out; omega)]; rfl
    go_enter Try.func25, Try.ntmps25
    go_wp2_with (go_at_call 35; (with_reducible refine (areClues_any cs _ _ (by rw [← HN.out]; omega) (HV.out.below HBLK.out)).mono ?_); rintro e w1 ⟨rfl, b1⟩)
    go_ret
    exact ⟨ret_bool HR.out.symm, HBLK.out.trans (b1.mono HBLK.out.size)⟩
  · have HR : Hid (pzB cs = false) := by show _ = _; unfold pzB; rw [decide_eq_false (by have := HN.out; omega)]; rfl
    go_enter Try.func25, Try.ntmps25
    go_wp2
    go_ret
    exact ⟨ret_bool HR.out.symm, HBLK.out⟩
theorem isPuzzle_b (cs : List Cl) (x : Bool) (v : Value) (w : World) (hn : cs.length ≤ 1048576) (h : RdC cs v w) (hx : pzB cs = x) :
    Calls Try.prog 25 #[.agg #[v]] w fun e w' => e = .returned (.bool x) ∧ Below w.heap.size w w' := by subst hx; exact isPuzzle_any cs v w hn h
set_option maxHeartbeats 2000000 in
theorem pzGood_any (cs : List Cl) (v : Value) (w : World) (hn : cs.length ≤ 1048576) (h : RdC cs v w) :
    Calls Try.prog 22 #[.agg #[v]] w fun e w' => e = .returned (.bool (pzB cs)) ∧ Below w.heap.size w w' := by
  obtain ⟨a, cap, rfl, _, hc⟩ := h
  have HC := Lib.hid hc
  obtain ⟨n, hnn⟩ : ∃ n, n = cs.length := ⟨_, rfl⟩
  have HN := Lib.hid hnn
  rw [← hnn] at hn
  rw [← hnn]
  clear hnn hc
  have hblk : Below w.heap.size w (w.alloc (.cells #[.slice a n cap] 39)) := (Below.refl _ _).alloc (Nat.le_refl _) _
  have HBLK := Lib.hid hblk
  clear hblk
  by_cases hz : (n : Int) ≤ 6
  · have HR : Hid (pzB cs = cs.all clB) := by show _ = _; unfold pzB; rw [decide_eq_true (by have := HN.out; omega)]; rfl
    go_enter Try.func22, Try.ntmps22
    go_wp2
    go_loopw [12] (fun i wr => ∃ k : Nat, k ≤ n ∧ i = .int .i64 k ∧ Hid (∀ j, j < k → clP (cs.getD j c0)) ∧ Below w.heap.size w wr) (fun i _ => n - (intOf i).toNat)
    case atStart => exact ⟨0, Nat.zero_le _, rfl, fun j hj => by omega, HBLK.out⟩
    case round =>
      obtain ⟨k, hk, rfl, HI, hbl⟩ := hrel
      obtain ⟨wo, rfl⟩ : ∃ wo : World, wo = wr := ⟨_, rfl⟩
      have hsz := hbl.size
      by_cases hlt : k < n
      · obtain ⟨g, o, rfl, hg, d0, d1, d2⟩ := HC.out k (by rw [← HN.out]; exact hlt)
        have e0 := (hbl.cell (p := ⟨g, o + k * 3, none⟩) hg).trans d0
        have e1 := (hbl.cell (p := ⟨g, o + k * 3 + 1, none⟩) hg).trans d1
        have e2 := (hbl.cell (p := ⟨g, o + k * 3 + 2, none⟩) hg).trans d2
        clear d0 d1 d2
        by_cases hcl : clP (cs.getD k c0)
        · have HI2 : Hid (∀ j, j < k + 1 → clP (cs.getD j c0)) := by
            intro j hj
            by_cases e : j = k
            · subst e; exact hcl
            · exact HI.out j (by omega)
          have HCL := Lib.hid ((clB_iff _).2 hcl)
          obtain ⟨c, hcc⟩ : ∃ c, c = cs.getD k c0 := ⟨_, rfl⟩
          rw [← hcc] at e0 e1 e2 HCL
          clear hcl hcc
          go_wp2_with (go_at_call 23; (with_reducible refine (pzClue_b c true _ HCL.out).mono ?_); rintro e w1 ⟨rfl, b1⟩; have B1 := chain (w := wo) (by go_grown) b1)
          go_roundw
          case rel => exact ⟨k + 1, by omega, by go_num, HI2, hbl.trans (B1.mono hsz)⟩
          case measure => simp [intOf]; omega
        · have HNO := Lib.hid (all_no (by rw [← HN.out]; exact hlt) hcl)
          have HCL : Hid (clB (cs.getD k c0) = false) := by
            show _ = _
            cases e : clB (cs.getD k c0) with
            | false => rfl
            | true => exact absurd ((clB_iff _).1 e) hcl
          obtain ⟨c, hcc⟩ : ∃ c, c = cs.getD k c0 := ⟨_, rfl⟩
          rw [← hcc] at e0 e1 e2 HCL
          clear hcl hcc
          go_wp2_with (go_at_call 23; (with_reducible refine (pzClue_b c false _ HCL.out).mono ?_); rintro e w1 ⟨rfl, b1⟩; have B1 := chain (w := wo) (by go_grown) b1)
          go_ret
          exact ⟨ret_bool (by rw [HR.out, HNO.out]), hbl.trans (B1.mono hsz)⟩
      · have HYES : Hid (cs.all clB = true) := by
          show _ = _
          rw [List.all_eq_true]
          intro c hc
          obtain ⟨j, hj, rfl⟩ := List.mem_iff_getElem.1 hc
          have := HI.out j (by have := HN.out; omega)
          rw [List.getD_eq_getElem?_getD, List.getElem?_eq_getElem hj] at this
          exact (clB_iff _).2 this
        go_wp2
        go_ret
        exact ⟨ret_bool (by rw [HR.out, HYES.out]), hbl⟩
  · have HR : Hid (pzB cs = false) := by show _ = _; unfold pzB; rw [decide_eq_false (by have := HN.out; omega)]; rfl
    go_enter Try.func22, Try.ntmps22
    go_wp2
    go_ret
    exact ⟨ret_bool HR.out.symm, HBLK.out⟩
theorem pzGood_b (cs : List Cl) (x : Bool) (v : Value) (w : World) (hn : cs.length ≤ 1048576) (h : RdC cs v w) (hx : pzB cs = x) :
    Calls Try.prog 22 #[.agg #[v]] w fun e w' => e = .returned (.bool x) ∧ Below w.heap.size w w' := by subst hx; exact pzGood_any cs v w hn h
end Go.Proofs.Ytkdnplcaghnfhaa
