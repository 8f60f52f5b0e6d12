/-
  The law's own helpers over checks: their size, copies, comparison, marks.
-/
import Derived.Test.YtdjcgddcgjbboaaDoorSlBase
namespace Go.Proofs.YtdjcgddcgjbboaaDoor
open Go.RowKit Go.Deep

theorem szI_any (xs : List Int) (v : Value) (w : World) (hn : xs.length ≤ maxLen) (h : RdI xs v w) :
    Calls Tryd.prog 32 #[v, .int .i64 1048576] w fun e w' => (∃ r : Int, e = .returned (.int .i64 r) ∧ (0 ≤ r → xs.length ≤ 1048576)) ∧ w = w' := by
  unfold maxLen at hn
  obtain ⟨a, cap, rfl, _⟩ := h
  by_cases hz : 1048576 - (xs.length : Int) < 0
  all_goals
    go_enter Tryd.func32, Tryd.ntmps32
    go_wp2
    go_ret
    exact ⟨⟨_, rfl, fun h => by omega⟩, rfl⟩
theorem szCheck_any (xs : List Int) (m : Int) (v : Value) (w : World) (hn : xs.length ≤ maxLen) (h : RdI xs v w) :
    Calls Tryd.prog 8 #[.agg #[v, .int .i64 m], .int .i64 1048576] w fun e w' => (∃ r : Int, e = .returned (.int .i64 r) ∧ (0 ≤ r → xs.length ≤ 1048576)) ∧ Below w.heap.size w w' := by
  have HV := Lib.hid h
  clear h
  go_enter Tryd.func8, Tryd.ntmps8
  go_wp2_with (go_at_call 32; go_must ((with_reducible refine (szI_any xs v _ hn (HV.out.below (by go_grown))).mono ?_); rintro e w1 ⟨⟨r, rfl, hr⟩, rfl⟩; by_cases hr0 : r < 0))
  all_goals go_wp2
  all_goals
    go_ret
    exact ⟨⟨_, rfl, fun h => by first | exact hr h | omega⟩, (Below.refl _ _).alloc (Nat.le_refl _) _⟩
def partI (xs : List Int) (k : Nat) : List Int := xs.take k ++ List.replicate (xs.length - k) 0
theorem partI_zero (xs : List Int) : partI xs 0 = List.replicate xs.length 0 := by simp [partI]
theorem partI_all (xs : List Int) : partI xs xs.length = xs := by simp [partI]
theorem partI_len (xs : List Int) (k : Nat) (h : k ≤ xs.length) : (partI xs k).length = xs.length := by simp [partI]; omega
theorem partI_succ (xs : List Int) (k : Nat) (h : k < xs.length) : (partI xs k).set k (xs.getD k 0) = partI xs (k + 1) := by
  unfold partI
  have e1 : (xs.take k).length = k := by simp; omega
  rw [List.set_append_right _ _ (by omega), e1, Nat.sub_self, show xs.length - k = (xs.length - (k + 1)) + 1 by omega, List.replicate_succ, List.set_cons_zero, List.take_succ_eq_append_getElem h, List.append_assoc]
  simp [List.getD, List.getElem?_eq_getElem h]
theorem makeI (w : World) (N : Nat) (h : N ≤ 1048576) : (Instr.makeSlice 22 (.int .i64 (N : Int)) (.int .i64 (N : Int))).run Tryd.prog w = .ok (.slice (some ⟨w.heap.size, 0, none⟩) N N) (w.alloc (.cells (madeCells #[.int .i64 0] N) 3)) :=
  run_make_row' (P := Tryd.prog) 22 3 (.int .i64 0) 8 Tryd.underlying22 (by kernel_rfl) rfl .i64 .i64 N (by omega) (by omega) w
theorem Ints.made (w : World) (N : Nat) (h : N ≤ 1048576) : Ints w.heap.size (List.replicate N 0) (.slice (some ⟨w.heap.size, 0, none⟩) N N) (w.alloc (.cells (madeCells #[.int .i64 0] N) 3)) := by
  refine ⟨by simp, .inr ⟨w.heap.size, N, madeCells #[.int .i64 0] N, by simp, Nat.le_refl _, (MapKept.heap_alloc w _).1, by simp, by unfold maxLen; omega, ?_, ?_⟩⟩
  · rw [size_madeCells]; simp
  · have e : (madeCells #[.int .i64 0] N).toList = List.replicate N (.int .i64 0) := by
      apply List.ext_getElem
      · simp [size_madeCells]
      · intro i h1 h2
        simp [madeCells, Nat.mod_one]
    rw [e]; simp
set_option maxHeartbeats 1600000 in
theorem toI_any (xs : List Int) (v : Value) (w : World) (hn : xs.length ≤ 1048576) (h : RdI xs v w) :
    Calls Tryd.prog 35 #[v] w fun e w' => e = .returned (.slice (some ⟨w.heap.size, 0, none⟩) xs.length xs.length) ∧ Ints w.heap.size xs (.slice (some ⟨w.heap.size, 0, none⟩) xs.length xs.length) w' ∧ Below w.heap.size w w' := by
  obtain ⟨a, cap, rfl, hc⟩ := h
  have HC := Lib.hid hc
  obtain ⟨n, hnn⟩ : ∃ n, n = xs.length := ⟨_, rfl⟩
  have HN := Lib.hid hnn
  rw [← hnn] at hn
  rw [← hnn]
  clear hc hnn
  have hmk := fun w => makeI w n hn
  obtain ⟨g, hg⟩ : ∃ g, g = w.heap.size := ⟨_, rfl⟩
  have HG := Lib.hid hg
  have HS : Hid (Ints g (partI xs 0) (.slice (some ⟨g, 0, none⟩) n n) (w.alloc (.cells (madeCells #[.int .i64 0] n) 3))) := by
    show Ints _ _ _ _
    rw [partI_zero, ← HN.out, hg]; exact Ints.made w n hn
  go_enter Tryd.func35, Tryd.ntmps35
  go_wp2
  rw [← hg]
  clear hmk hg
  go_loopw [4] (fun i wr => ∃ k : Nat, k ≤ n ∧ i = .int .i64 k ∧ Hid (Ints g (partI xs k) (.slice (some ⟨g, 0, none⟩) n n) wr) ∧ Below w.heap.size w wr ∧ g < wr.heap.size) (fun i _ => n - (intOf i).toNat)
  case atStart => exact ⟨0, Nat.zero_le _, rfl, HS, (Below.refl _ _).alloc (Nat.le_refl _) _, by have := HG.out; simp; omega⟩
  case round =>
    obtain ⟨k, hk, rfl, hI, hb, hgs⟩ := hrel
    by_cases hlt : k < n
    · have hlt2 : k < xs.length := by rw [← HN.out]; exact hlt
      obtain ⟨g0, o, rfl, hg0, hcell⟩ := HC.out k hlt2
      have hcell2 := (hb.cell (p := ⟨g0, o + k, none⟩) hg0).trans hcell
      have hlen : (partI xs k).length = n := by rw [partI_len _ _ (by omega), ← HN.out]
      have hff : wr.frozen? ⟨g, k, none⟩ = false := by
        have h := hI.out; unfold Ints at h; rw [hlen] at h; exact h.frozenAt k
      have hcc : wr.cell? ⟨g, k, none⟩ = some (.int .i64 ((partI xs k).getD k 0)) := by
        have h := hI.out; unfold Ints at h; rw [hlen] at h; rw [h.cellAt k (by omega)]; simp [List.getElem?_eq_getElem (show k < (partI xs k).length by rw [hlen]; exact hlt)]
      have HS2 := Lib.hid (Ints.store hlen hI.out k (xs.getD k 0))
      have HE := Lib.hid (partI_succ xs k hlt2)
      have HBL : Hid (w.heap.size ≤ g) := by show _ ≤ _; rw [HG.out]; exact Nat.le_refl _
      obtain ⟨x, hx⟩ : ∃ x : Int, x = xs.getD k 0 := ⟨_, rfl⟩
      obtain ⟨y, hy⟩ : ∃ y : Int, y = (partI xs k).getD k 0 := ⟨_, rfl⟩
      rw [← hx] at hcell2 HS2 HE
      rw [← hy] at hcc
      clear hcell hlen hy hx
      go_wp2
      go_roundw
      case rel => exact ⟨k + 1, by omega, by go_num, by show Ints _ _ _ _; rw [← HE.out]; exact HS2.out, hb.setCell HBL.out _, by simp [World.setCell]; omega⟩
      case measure => simp [intOf]; omega
    · have HK : Hid (partI xs k = xs) := by show _ = _; rw [show k = xs.length by have := HN.out; omega, partI_all]
      go_wp2
      go_ret
      refine ⟨by rw [HG.out]; rfl, ?_, hb⟩
      rw [← HG.out]
      have h := hI.out
      rw [HK.out] at h
      exact h
theorem Ints.other {B g n cap : Nat} {xs : List Int} {w : World} (h : Ints B xs (.slice (some ⟨g, 0, none⟩) n cap) w) {a : Addr} (ha : a.block ≠ g) (x : Value) : Ints B xs (.slice (some ⟨g, 0, none⟩) n cap) (w.setCell a x) := by
  refine ⟨h.1, ?_⟩
  rcases h.2 with h0 | ⟨g', cap', cur, hv, hb, hg, r⟩
  · exact .inl h0
  · simp only [Value.slice.injEq, Option.some.injEq, Addr.mk.injEq] at hv
    obtain ⟨⟨rfl, _⟩, rfl, rfl⟩ := hv
    refine .inr ⟨g, cap, cur, rfl, hb, ?_, r⟩
    rw [Below.heap_setCell _ _ _ _ (fun e => ha e.symm)]; exact hg
theorem heap_two {w w1 : World} {o1 o2 o3 : Obj} (b1 : Below (((w.alloc o1).alloc o2).alloc o3).heap.size (((w.alloc o1).alloc o2).alloc o3) w1) : w1.heap[w.heap.size]? = some o1 ∧ w1.heap[w.heap.size + 1]? = some o2 ∧ w1.heap[w.heap.size + 1 + 1]? = some o3 := by
  have z1 : (w.alloc o1).heap.size = w.heap.size + 1 := World.size_alloc _ _
  have z2 : ((w.alloc o1).alloc o2).heap.size = w.heap.size + 1 + 1 := by rw [World.size_alloc, z1]
  have z3 : (((w.alloc o1).alloc o2).alloc o3).heap.size = w.heap.size + 1 + 1 + 1 := by rw [World.size_alloc, z2]
  refine ⟨?_, ?_, ?_⟩
  · rw [b1.block _ (by omega), Lib.alloc_old _ _ _ (by omega), Lib.alloc_old _ _ _ (by omega)]
    exact (MapKept.heap_alloc _ _).1
  · rw [b1.block _ (by omega), Lib.alloc_old _ _ _ (by omega), ← z1]
    exact (MapKept.heap_alloc _ _).1
  · rw [b1.block _ (by omega), ← z2]
    exact (MapKept.heap_alloc _ _).1
set_option maxHeartbeats 1600000 in
theorem toCheck_any (xs : List Int) (m : Int) (v : Value) (w : World) (hn : xs.length ≤ 1048576) (h : RdI xs v w) :
    Calls Tryd.prog 10 #[.agg #[v, .int .i64 m]] w fun e w' => (∃ g, e = .returned (.agg #[.slice (some ⟨g, 0, none⟩) xs.length xs.length, .int .i64 m]) ∧ Ints w.heap.size xs (.slice (some ⟨g, 0, none⟩) xs.length xs.length) w') ∧ Below w.heap.size w w' := by
  have HV := Lib.hid h
  clear h
  go_enter Tryd.func10, Tryd.ntmps10
  go_wp2_with (go_at_call 35; go_must ((with_reducible refine (toI_any xs v _ hn (HV.out.below (by go_grown))).mono ?_); rintro e w1 ⟨rfl, hu, b1⟩; have bb : Below w.heap.size w w1 := chain (w := w) (by go_grown) b1; obtain ⟨c0, c1, c2⟩ := heap_two b1; obtain ⟨c00, c01, f0, s0⟩ := blk2 c0; obtain ⟨c10, c11, f1, s1⟩ := blk2 c1; obtain ⟨c20, c21, f2, s2⟩ := blk2 c2))
  obtain ⟨h0, h1, h2⟩ := heap_two b1
  refine bodyPost_ret (v := .agg #[.slice (some ⟨w.heap.size + 1 + 1 + 1, 0, none⟩) xs.length xs.length, .int .i64 m]) (results_cell_row rfl _ _ (w.heap.size + 1) 29 #[.slice (some ⟨w.heap.size + 1 + 1 + 1, 0, none⟩) xs.length xs.length, .int .i64 m] (0, 0) _ rfl ?_ Tryd.underlying29 rfl (by kernel_rfl)) rfl ?_
  · simp [World.setCell, Array.getElem?_modify, h1]
  · have hz : ∀ a : Addr, w.heap.size ≤ a.block → ∀ (w2 : World) v, Below w.heap.size w w2 → Below w.heap.size w (w2.setCell a v) := fun a ha w2 v h => h.setCell ha v
    refine ⟨⟨_, rfl, ?_⟩, ?_⟩
    · have e : (((w.alloc (.cells #[v, .int .i64 m] 24)).alloc (.cells #[.slice none 0 0, .int .i64 0] 29)).alloc (.cells #[.slice none 0 0, .int .i64 0] 29)).heap.size = w.heap.size + 1 + 1 + 1 := by simp [World.size_alloc]
      rw [e] at hu
      have hk : ∀ (w2 : World) (a : Addr) (x : Value), a.block ≠ w.heap.size + 1 + 1 + 1 → Ints (w.heap.size + 1 + 1 + 1) xs (.slice (some ⟨w.heap.size + 1 + 1 + 1, 0, none⟩) xs.length xs.length) w2 → Ints (w.heap.size + 1 + 1 + 1) xs (.slice (some ⟨w.heap.size + 1 + 1 + 1, 0, none⟩) xs.length xs.length) (w2.setCell a x) := fun w2 a x ha h => h.other ha x
      refine Ints.mono ?_ (show w.heap.size ≤ w.heap.size + 1 + 1 + 1 by omega)
      repeat (first | exact hu | refine hk _ _ _ (by simp) ?_)
    · repeat (first | exact bb | refine hz _ (by simp only []; omega) _ _ ?_)
theorem eqCheck_yes (m : Int) (E C : Nat) (xs : List Int) (v u : Value) (w : World) (hn : xs.length ≤ 1048576) (h1 : Ints E xs v w) (h2 : Ints C xs u w) :
    Calls Tryd.prog 13 #[.agg #[v, .int .i64 m], .agg #[u, .int .i64 m]] w fun e w' => e = .returned (.bool true) ∧ Below w.heap.size w w' := by
  have H1 := Lib.hid h1
  have H2 := Lib.hid h2
  clear h1 h2
  go_enter Tryd.func13, Tryd.ntmps13
  go_wp2_with (go_at_call 24; go_must ((with_reducible refine (eqInts_yes E C xs _ _ _ (by omega) (H1.out.below (by go_grown)) (H2.out.below (by go_grown))).mono ?_); rintro e w1 ⟨rfl, n, rfl⟩))
  go_ret
  exact ⟨rfl, below_drewN (by go_grown) n⟩
end Go.Proofs.YtdjcgddcgjbboaaDoor
