/-
  The law's own helpers over puzzles: their size, copies, comparison.
-/
import Derived.Test.YtkdnplcaghnfhaaPzGood
import Derived.Deep.RegionWith
namespace Go.Proofs.Ytkdnplcaghnfhaa
open Go.RowKit Go.Deep
set_option maxRecDepth 100000

theorem heap_mid (w : World) (o1 o2 o3 : Obj) : (((w.alloc o1).alloc o2).alloc o3).heap[w.heap.size + 1]? = some o2 := by
  rw [Lib.alloc_old _ _ _ (by simp only [World.size_alloc]; omega)]
  exact heap2 w o1 o2
theorem below3 (w : World) (o1 o2 o3 : Obj) : Below w.heap.size w (((w.alloc o1).alloc o2).alloc o3) := (below2 w o1 o2).alloc (by simp only [World.size_alloc]; omega) _
set_option maxHeartbeats 1000000 in
theorem toClue_any (c : Cl) (w : World) :
    Calls Try.prog 13 #[.agg #[.int .i64 c.k, .int .i64 c.a, .int .i64 c.b]] w fun e w' => e = .returned (.agg #[.int .i64 c.k, .int .i64 c.a, .int .i64 c.b]) ∧ Below w.heap.size w w' := by
  go_enter Try.func13, Try.ntmps13
  go_wp2
  refine bodyPost_ret (results_cell_row rfl _ _ (w.heap.size + 1) 43 #[.int .i64 c.k, .int .i64 c.a, .int .i64 c.b] (0, 0) _ rfl ?_ Try.underlying43 rfl (by kernel_rfl)) rfl ⟨rfl, ?_⟩
  · exact heap_mid _ _ _ _
  · exact below3 _ _ _ _
theorem szC_any (cs : List Cl) (v : Value) (w : World) (hn : cs.length ≤ maxLen) (h : RdC cs v w) :
    Calls Try.prog 21 #[v, .int .i64 1048576] w fun e w' => (∃ r : Int, e = .returned (.int .i64 r) ∧ (0 ≤ r → cs.length ≤ 1048576)) ∧ w = w' := by
  unfold maxLen at hn
  obtain ⟨a, cap, rfl, _⟩ := h
  by_cases hz : 1048576 - (cs.length : Int) < 0
  all_goals
    go_enter Try.func21, Try.ntmps21
    go_wp2
    go_ret
    exact ⟨⟨_, rfl, fun h => by omega⟩, rfl⟩
theorem szPuzzle_any (cs : List Cl) (v : Value) (w : World) (hn : cs.length ≤ maxLen) (h : RdC cs v w) :
    Calls Try.prog 10 #[.agg #[v], .int .i64 1048576] w fun e w' => (∃ r : Int, e = .returned (.int .i64 r) ∧ (0 ≤ r → cs.length ≤ 1048576)) ∧ Below w.heap.size w w' := by
  have HV := Lib.hid h
  clear h
  go_enter Try.func10, Try.ntmps10
  go_wp2_with (go_at_call 21; go_must ((with_reducible refine (szC_any cs v _ hn (HV.out.below (by go_grown))).mono ?_); rintro e w1 ⟨⟨r, rfl, hr⟩, rfl⟩; by_cases hr0 : r < 0))
  all_goals go_wp2
  all_goals
    go_ret
    exact ⟨⟨_, rfl, fun h => by first | exact hr h | omega⟩, (Below.refl _ _).alloc (Nat.le_refl _) _⟩
/-- The first so many clues have been laid. -/
def parC (cs : List Cl) (k : Nat) : List Value := flc (cs.take k) ++ List.replicate ((cs.length - k) * 3) (.int .i64 0)
theorem parC_zero (cs : List Cl) : parC cs 0 = List.replicate (cs.length * 3) (.int .i64 0) := by simp [parC, flc]
theorem parC_all (cs : List Cl) : parC cs cs.length = flc cs := by simp [parC]
theorem parC_succ (cs : List Cl) (k : Nat) (h : k < cs.length) : (((parC cs k).set (k * 3) (.int .i64 (cs.getD k c0).k)).set (k * 3 + 1) (.int .i64 (cs.getD k c0).a)).set (k * 3 + 2) (.int .i64 (cs.getD k c0).b) = parC cs (k + 1) := by
  unfold parC
  have e1 : (flc (cs.take k)).length = k * 3 := by rw [flc_len, List.length_take, Nat.min_eq_left (by omega)]
  rw [List.set_append_right _ _ (by omega), List.set_append_right _ _ (by omega), List.set_append_right _ _ (by omega), e1, Nat.sub_self, show k * 3 + 1 - k * 3 = 1 by omega, show k * 3 + 2 - k * 3 = 2 by omega,
    show (cs.length - k) * 3 = (cs.length - (k + 1)) * 3 + 1 + 1 + 1 by omega, List.replicate_succ, List.replicate_succ, List.replicate_succ, take_getD cs k c0 h, flc_append]
  simp [flc]
theorem makeC (w : World) (N : Nat) (h : N ≤ 1048576) : (Instr.makeSlice 37 (.int .i64 (N : Int)) (.int .i64 (N : Int))).run Try.prog w = .ok (.slice (some ⟨w.heap.size, 0, none⟩) N N) (w.alloc (.cells (madeCells #[.int .i64 0, .int .i64 0, .int .i64 0] (N * 3)) 43)) := by
  obtain ⟨i0, hi, hz0, hz1, hz2⟩ := info_parts (show (Try.prog.info? 43).map (fun i => (i.zero, i.size, i.bytes)) = some (some (.agg #[.int .i64 0, .int .i64 0, .int .i64 0]), 3, 24) by kernel_rfl)
  have := run_make (P := Try.prog) w 37 43 i0 _ Try.underlying37 hi hz0 .i64 .i64 N N (by omega) (Int.le_refl _) (by rw [hz2]; omega) (by omega)
  rw [hz1] at this
  simpa [Value.cells] using this
theorem made3 (N : Nat) : (madeCells #[.int .i64 0, .int .i64 0, .int .i64 0] (N * 3)).toList = List.replicate (N * 3) (.int .i64 0) := by
  apply List.ext_getElem
  · simp [size_madeCells]
  · intro i h1 h2
    simp only [madeCells, Array.toList_map, List.getElem_map, Array.getElem_toList, Array.getElem_range, List.getElem_replicate]
    have h3 : i % 3 < 3 := Nat.mod_lt _ (by omega)
    rcases (show i % 3 = 0 ∨ i % 3 = 1 ∨ i % 3 = 2 by omega) with e | e | e <;> simp [e]
/-- A row of so many clues, known by its cells. -/
def CRow (g n : Nat) (L : List Value) (w : World) : Prop := w.ownsRow g 43 3 (.slice (some ⟨g, 0, none⟩) n n) n L
theorem CRow.made (w : World) (N : Nat) (h : N ≤ 1048576) : CRow w.heap.size N (List.replicate (N * 3) (.int .i64 0)) (w.alloc (.cells (madeCells #[.int .i64 0, .int .i64 0, .int .i64 0] (N * 3)) 43)) := by
  refine ⟨by simp, .inr ⟨w.heap.size, N, madeCells #[.int .i64 0, .int .i64 0, .int .i64 0] (N * 3), rfl, Nat.le_refl _, (MapKept.heap_alloc w _).1, Nat.le_refl _, by unfold maxLen; omega, ?_, ?_⟩⟩
  · rw [size_madeCells]
  · rw [made3]; simp
theorem CRow.put {g n : Nat} {L : List Value} {w : World} (h : CRow g n L w) (j : Nat) (u : Value) : CRow g n (L.set j u) (w.setCell ⟨g, j, none⟩ u) := (World.ownsRow.stored h j u).1
theorem CRow.lt {g n : Nat} {L : List Value} {w : World} (h : CRow g n L w) : g < w.heap.size := (World.ownsRow.lt h g rfl).2
theorem CRow.keep {g n : Nat} {L : List Value} {w w' : World} (h : CRow g n L w) (k : Below w.heap.size w w') : CRow g n L w' :=
  World.ownsRow.kept h (row := none) ⟨k.os, k.tape, k.output, k.size, fun i hi _ => k.block i hi⟩ (by simp [Value.ownBlock])
theorem CRow.clu {g n : Nat} {cs : List Cl} {w : World} (h : CRow g n (flc cs) w) (hn : n = cs.length) : Clu g cs (.slice (some ⟨g, 0, none⟩) n n) w := by subst hn; exact h
theorem CRow.cellAt {g n : Nat} {L : List Value} {w : World} (h : CRow g n L w) (j : Nat) (hj : j < n * 3) : w.cell? ⟨g, j, none⟩ = L[j]? := World.ownsRow.cellAt h j hj
theorem CRow.frozenAt {g n : Nat} {L : List Value} {w : World} (h : CRow g n L w) (j : Nat) : w.frozen? ⟨g, j, none⟩ = false := World.ownsRow.frozenAt h j
theorem parC_len (cs : List Cl) (k : Nat) (h : k ≤ cs.length) : (parC cs k).length = cs.length * 3 := by
  unfold parC; rw [List.length_append, flc_len, List.length_take, List.length_replicate, Nat.min_eq_left h]; omega
set_option maxHeartbeats 4000000 in
theorem toC_any (cs : List Cl) (v : Value) (w : World) (hn : cs.length ≤ 1048576) (h : RdC cs v w) :
    Calls Try.prog 24 #[v] w fun e w' => e = .returned (.slice (some ⟨w.heap.size, 0, none⟩) cs.length cs.length) ∧ Clu w.heap.size cs (.slice (some ⟨w.heap.size, 0, none⟩) cs.length cs.length) w' ∧ Below w.heap.size w w' := by
  obtain ⟨a, cap, rfl, _, hc⟩ := h
  have HC := Lib.hid hc
  obtain ⟨n, hnn⟩ : ∃ n, n = cs.length := ⟨_, rfl⟩
  have HN := Lib.hid hnn
  rw [← hnn] at hn
  rw [← hnn]
  clear hc hnn
  have hmk := fun w => makeC w n hn
  obtain ⟨g, hg⟩ : ∃ g, g = w.heap.size := ⟨_, rfl⟩
  have HG := Lib.hid hg
  have HS : Hid (CRow g n (parC cs 0) (w.alloc (.cells (madeCells #[.int .i64 0, .int .i64 0, .int .i64 0] (n * 3)) 43))) := by
    show CRow _ _ _ _
    rw [parC_zero, ← HN.out, hg]; exact CRow.made w n hn
  go_enter Try.func24, Try.ntmps24
  go_wp2
  rw [← hg]
  clear hmk hg
  go_loopw [4] (fun i wr => ∃ k : Nat, k ≤ n ∧ i = .int .i64 k ∧ Hid (CRow g n (parC cs k) wr) ∧ Below w.heap.size w wr) (fun i _ => n - (intOf i).toNat)
  case atStart => exact ⟨0, Nat.zero_le _, rfl, HS, (Below.refl _ _).alloc (Nat.le_refl _) _⟩
  case round =>
    clear HS
    obtain ⟨k, hk, rfl, hI, hb⟩ := hrel
    obtain ⟨wo, rfl⟩ : ∃ wo : World, wo = wr := ⟨_, rfl⟩
    by_cases hlt : k < n
    · have hlt2 : k < cs.length := by rw [← HN.out]; exact hlt
      obtain ⟨g0, o, rfl, hg0, d0, d1, d2⟩ := HC.out k hlt2
      have e0 := (hb.cell (p := ⟨g0, o + k * 3, none⟩) hg0).trans d0
      have e1 := (hb.cell (p := ⟨g0, o + k * 3 + 1, none⟩) hg0).trans d1
      have e2 := (hb.cell (p := ⟨g0, o + k * 3 + 2, none⟩) hg0).trans d2
      have HE := Lib.hid (parC_succ cs k hlt2)
      have HBL : Hid (w.heap.size ≤ g) := by show _ ≤ _; rw [HG.out]; exact Nat.le_refl _
      obtain ⟨c, hcc⟩ : ∃ c, c = cs.getD k c0 := ⟨_, rfl⟩
      rw [← hcc] at e0 e1 e2 HE
      clear d0 d1 d2 hcc
      have hwz := hb.size
      go_wp2_with (go_at_call 13; (with_reducible refine (toClue_any c _).mono ?_); rintro e w1 ⟨rfl, b1⟩; have HI1 := Lib.hid (hI.out.keep b1); have hbw := hb.trans (b1.mono hwz); have hgs := HI1.out.lt; have q0 := HI1.out.cellAt (k * 3) (by omega); have q1 := HI1.out.cellAt (k * 3 + 1) (by omega); have q2 := HI1.out.cellAt (k * 3 + 2) (by omega); have z0 := HI1.out.frozenAt (k * 3); have z1 := HI1.out.frozenAt (k * 3 + 1); have z2 := HI1.out.frozenAt (k * 3 + 2); rw [List.getElem?_eq_getElem (by rw [parC_len _ _ (by omega), ← HN.out]; omega)] at q0 q1 q2)
      go_roundw
      case rel => exact ⟨k + 1, by omega, by go_num, by show CRow _ _ _ _; rw [← HE.out]; exact ((HI1.out.put _ _).put _ _).put _ _, ((hbw.setCell HBL.out _).setCell HBL.out _).setCell HBL.out _⟩
      case measure => simp [intOf]; omega
    · have HK : Hid (parC cs k = flc cs) := by show _ = _; rw [show k = cs.length by have := HN.out; omega, parC_all]
      go_wp2
      go_ret
      refine ⟨by rw [HG.out]; rfl, ?_, hb⟩
      rw [← HG.out]
      have h := hI.out
      rw [HK.out] at h
      exact h.clu HN.out
end Go.Proofs.Ytkdnplcaghnfhaa
