/-
  Puzzles compared, copied, marked by the law.
-/
import Derived.Test.YtkdnplcaghnfhaaPzTo
namespace Go.Proofs.Ytkdnplcaghnfhaa
open Go.RowKit Go.Deep
set_option maxRecDepth 100000

set_option maxHeartbeats 1000000 in
theorem eqClue_yes (k a b : Int) (w : World) :
    Calls Try.prog 36 #[.agg #[.int .i64 k, .int .i64 a, .int .i64 b], .agg #[.int .i64 k, .int .i64 a, .int .i64 b]] w fun e w' => e = .returned (.bool true) ∧ Below w.heap.size w w' := by
  go_enter Try.func36, Try.ntmps36
  go_wp2
  go_ret
  exact ⟨rfl, below2 _ _ _⟩
set_option maxHeartbeats 4000000 in
theorem eqC_yes (cs : List Cl) (u v : Value) (w : World) (hn : cs.length ≤ 1048576) (h1 : RdC cs u w) (h2 : RdC cs v w) :
    Calls Try.prog 28 #[u, v] w fun e w' => e = .returned (.bool true) ∧ Below w.heap.size w w' := by
  obtain ⟨a, cap, rfl, _, hc⟩ := h1
  obtain ⟨a2, cap2, rfl, _, hc2⟩ := h2
  have HC := Lib.hid hc
  have HC2 := Lib.hid hc2
  obtain ⟨n, hnn⟩ : ∃ n, n = cs.length := ⟨_, rfl⟩
  have HN := Lib.hid hnn
  rw [← hnn] at hn
  rw [← hnn]
  clear hnn hc hc2
  go_enter Try.func28, Try.ntmps28
  go_wp2
  go_loopw [5] (fun i wr => ∃ k : Nat, k ≤ n ∧ i = .int .i64 k ∧ Below w.heap.size w wr) (fun i _ => n - (intOf i).toNat)
  case atStart => exact ⟨0, Nat.zero_le _, rfl, Below.refl _ _⟩
  case round =>
    obtain ⟨k, hk, rfl, hb⟩ := hrel
    obtain ⟨wo, rfl⟩ : ∃ wo : World, wo = wr := ⟨_, rfl⟩
    have hwz := hb.size
    by_cases hlt : k < n
    · obtain ⟨g, o, rfl, hg, d0, d1, d2⟩ := HC.out k (by rw [← HN.out]; exact hlt)
      obtain ⟨g2, o2, rfl, hg2, f0, f1, f2⟩ := HC2.out k (by rw [← HN.out]; exact hlt)
      have e0 := (hb.cell (p := ⟨g, o + k * 3, none⟩) hg).trans d0
      have e1 := (hb.cell (p := ⟨g, o + k * 3 + 1, none⟩) hg).trans d1
      have e2 := (hb.cell (p := ⟨g, o + k * 3 + 2, none⟩) hg).trans d2
      have e3 := (hb.cell (p := ⟨g2, o2 + k * 3, none⟩) hg2).trans f0
      have e4 := (hb.cell (p := ⟨g2, o2 + k * 3 + 1, none⟩) hg2).trans f1
      have e5 := (hb.cell (p := ⟨g2, o2 + k * 3 + 2, none⟩) hg2).trans f2
      obtain ⟨c, hcc⟩ : ∃ c, c = cs.getD k c0 := ⟨_, rfl⟩
      rw [← hcc] at e0 e1 e2 e3 e4 e5
      have hk0 : (0 : Int) ≤ (k : Int) := by omega
      have hk1 : (k : Int) < (n : Int) := by omega
      clear d0 d1 d2 f0 f1 f2 hcc
      go_wp2
      go_region_with (go_at_call 36; (with_reducible refine (eqClue_yes c.k c.a c.b _).mono ?_); rintro e w1 ⟨rfl, b1⟩; have B1 := chain (w := wo) (by go_grown) b1)
      all_goals go_wp2
      all_goals
        go_roundw
        case rel => exact ⟨k + 1, by omega, by go_num, hb.trans (B1.mono hwz)⟩
        case measure => simp [intOf]; omega
    · go_wp2
      go_ret
      exact ⟨rfl, hb⟩
theorem eqPuzzle_yes (cs : List Cl) (u v : Value) (w : World) (hn : cs.length ≤ 1048576) (h1 : RdC cs u w) (h2 : RdC cs v w) :
    Calls Try.prog 15 #[.agg #[u], .agg #[v]] w fun e w' => e = .returned (.bool true) ∧ Below w.heap.size w w' := by
  have H1 := Lib.hid (h1.below (below2 w (.cells #[u] 39) (.cells #[v] 39)))
  have H2 := Lib.hid (h2.below (below2 w (.cells #[u] 39) (.cells #[v] 39)))
  clear h1 h2
  go_enter Try.func15, Try.ntmps15
  go_wp2_with (go_at_call 28; (with_reducible refine (eqC_yes cs _ _ _ hn H1.out H2.out).mono ?_); rintro e w1 ⟨rfl, b1⟩; have B1 := chain (w := w) (below2 _ _ _) b1)
  go_ret
  exact ⟨rfl, B1⟩
/-- A block of one cell that was laid. -/
theorem blk1 {w : World} {b : Nat} {x : Value} {T : TypeId} (h : w.heap[b]? = some (.cells #[x] T (0, 0))) : w.cell? ⟨b, 0, none⟩ = some x ∧ (∀ i, w.frozen? ⟨b, i, none⟩ = false) ∧ w.shape? b = some (T, 1) := by
  refine ⟨by rw [Lib.cell_of_heap h]; rfl, fun i => Lib.frozen_of_heap h i, ?_⟩
  unfold World.shape?; rw [h]; rfl
theorem heap_three {w w1 : World} {o1 o2 o3 : Obj} (b1 : Below (((w.alloc o1).alloc o2).alloc o3).heap.size (((w.alloc o1).alloc o2).alloc o3) w1) : w1.heap[w.heap.size]? = some o1 ∧ w1.heap[w.heap.size + 1]? = some o2 ∧ w1.heap[w.heap.size + 1 + 1]? = some o3 := by
  have z1 : (w.alloc o1).heap.size = w.heap.size + 1 := World.size_alloc _ _
  have z2 : ((w.alloc o1).alloc o2).heap.size = w.heap.size + 1 + 1 := by rw [World.size_alloc, z1]
  have z3 : (((w.alloc o1).alloc o2).alloc o3).heap.size = w.heap.size + 1 + 1 + 1 := by rw [World.size_alloc, z2]
  refine ⟨?_, ?_, ?_⟩
  · rw [b1.block _ (by omega), Lib.alloc_old _ _ _ (by omega), Lib.alloc_old _ _ _ (by omega)]
    exact (MapKept.heap_alloc _ _).1
  · rw [b1.block _ (by omega), Lib.alloc_old _ _ _ (by omega), ← z1]
    exact (MapKept.heap_alloc _ _).1
  · rw [b1.block _ (by omega), ← z2]
    exact (MapKept.heap_alloc _ _).1
theorem Clu.other {B g n cap : Nat} {cs : List Cl} {w : World} (h : Clu B cs (.slice (some ⟨g, 0, none⟩) n cap) w) {a : Addr} (ha : a.block ≠ g) (x : Value) : Clu B cs (.slice (some ⟨g, 0, none⟩) n cap) (w.setCell a x) := by
  refine ⟨h.1, ?_⟩
  rcases h.2 with h0 | ⟨g', cap', cur, hv, hb, hg, r⟩
  · exact .inl h0
  · simp only [Value.slice.injEq, Option.some.injEq, Addr.mk.injEq] at hv
    obtain ⟨⟨rfl, _⟩, rfl, rfl⟩ := hv
    refine .inr ⟨g, cap, cur, rfl, hb, ?_, r⟩
    rw [Below.heap_setCell _ _ _ _ (fun e => ha e.symm)]; exact hg
set_option maxHeartbeats 2000000 in
theorem toPuzzle_any (cs : List Cl) (v : Value) (w : World) (hn : cs.length ≤ 1048576) (h : RdC cs v w) :
    Calls Try.prog 12 #[.agg #[v]] w fun e w' => (∃ g, e = .returned (.agg #[.slice (some ⟨g, 0, none⟩) cs.length cs.length]) ∧ Clu w.heap.size cs (.slice (some ⟨g, 0, none⟩) cs.length cs.length) w') ∧ Below w.heap.size w w' := by
  have HV := Lib.hid h
  clear h
  go_enter Try.func12, Try.ntmps12
  go_wp2_with (go_at_call 24; go_must ((with_reducible refine (toC_any cs v _ hn (HV.out.below (by go_grown))).mono ?_); rintro e w1 ⟨rfl, hu, b1⟩; have bb : Below w.heap.size w w1 := chain (w := w) (by go_grown) b1; obtain ⟨c0, c1, c2⟩ := heap_three b1; obtain ⟨c00, f0, s0⟩ := blk1 c0; obtain ⟨c10, f1, s1⟩ := blk1 c1; obtain ⟨c20, f2, s2⟩ := blk1 c2; have hzz : w.heap.size + 1 + 1 < w1.heap.size := (Array.getElem?_eq_some_iff.1 c2).1))
  have hu' : Clu w.heap.size cs (.slice (some ⟨w.heap.size + 1 + 1 + 1, 0, none⟩) cs.length cs.length) w1 := by
    have e : (((w.alloc (.cells #[v] 33)).alloc (.cells #[.slice none 0 0] 39)).alloc (.cells #[.slice none 0 0] 39)).heap.size = w.heap.size + 1 + 1 + 1 := by simp only [World.size_alloc]
    rw [e] at hu
    exact hu.mono (by omega)
  refine bodyPost_ret (results_cell_row rfl _ _ (w.heap.size + 1) 39 #[.slice (some ⟨w.heap.size + 1 + 1 + 1, 0, none⟩) cs.length cs.length] (0, 0) _ rfl ?_ Try.underlying39 rfl (by kernel_rfl)) rfl ⟨⟨w.heap.size + 1 + 1 + 1, rfl, ?_⟩, ?_⟩
  · have e1 : (w1.setCell ⟨w.heap.size + 1 + 1, 0, none⟩ (.slice (some ⟨w.heap.size + 1 + 1 + 1, 0, none⟩) cs.length cs.length)).heap[w.heap.size + 1]? = some (.cells #[.slice none 0 0] 39 (0, 0)) := by
      rw [Below.heap_setCell _ _ _ _ (by simp)]; exact c1
    have := heap_setCell_same _ (w.heap.size + 1) 0 _ _ (.slice (some ⟨w.heap.size + 1 + 1 + 1, 0, none⟩) cs.length cs.length) e1
    simpa using this
  · exact (hu'.other (by simp) _).other (by simp) _
  · exact (bb.setCell (by simp only; omega) _).setCell (by simp only; omega) _
end Go.Proofs.Ytkdnplcaghnfhaa
