/-
  Copies of schemes, and schemes compared.
-/
import Derived.Test.YtkdnplcaghnfhaaPlSch
import Derived.Deep.OwnRows
namespace Go.Proofs.Ytkdnplcaghnfhaa
open Go.RowKit Go.Deep

def part (ts : List (List UInt8)) (k : Nat) : List (List UInt8) := ts.take k ++ List.replicate (ts.length - k) []
theorem part_zero (ts : List (List UInt8)) : part ts 0 = List.replicate ts.length [] := by simp [part]
theorem part_all (ts : List (List UInt8)) : part ts ts.length = ts := by simp [part]
theorem part_len (ts : List (List UInt8)) (k : Nat) (h : k ≤ ts.length) : (part ts k).length = ts.length := by simp [part]; omega
theorem part_succ (ts : List (List UInt8)) (k : Nat) (h : k < ts.length) : (part ts k).set k (ts.getD k []) = part ts (k + 1) := by
  unfold part
  have e1 : (ts.take k).length = k := by simp; omega
  rw [List.set_append_right _ _ (by omega), e1, Nat.sub_self, show ts.length - k = (ts.length - (k + 1)) + 1 by omega, List.replicate_succ, List.set_cons_zero, List.take_succ_eq_append_getElem h, List.append_assoc]
  simp [List.getD, List.getElem?_eq_getElem h]
theorem makeS (w : World) (N : Nat) (h : N ≤ 1048576) : (Instr.makeSlice 22 (.int .i64 (N : Int)) (.int .i64 (N : Int))).run Try.prog w = .ok (.slice (some ⟨w.heap.size, 0, none⟩) N N) (w.alloc (.cells (madeCells #[.string ⟨#[]⟩] N) 9)) :=
  run_make_row' (P := Try.prog) 22 9 (.string ⟨#[]⟩) 16 Try.underlying22 (by kernel_rfl) rfl .i64 .i64 N (by omega) (by omega) w
theorem Strs.made (w : World) (N : Nat) (h : N ≤ 1048576) : Strs w.heap.size (List.replicate N []) (.slice (some ⟨w.heap.size, 0, none⟩) N N) (w.alloc (.cells (madeCells #[.string ⟨#[]⟩] N) 9)) := by
  refine ⟨by simp, .inr ⟨w.heap.size, N, madeCells #[.string ⟨#[]⟩] N, by simp, Nat.le_refl _, (MapKept.heap_alloc w _).1, by simp, by unfold maxLen; omega, ?_, ?_⟩⟩
  · rw [size_madeCells]; simp
  · have e : (madeCells #[.string ⟨#[]⟩] N).toList = List.replicate N (.string ⟨#[]⟩) := by
      apply List.ext_getElem
      · simp [size_madeCells]
      · intro i h1 h2
        simp [madeCells, Nat.mod_one]
    rw [e]; simp [strV]
theorem blk_cells {w : World} {b : Nat} {x y z : Value} {T : TypeId} (h : w.heap[b]? = some (.cells #[x, y, z] T (0, 0))) : w.cell? ⟨b, 0, none⟩ = some x ∧ w.cell? ⟨b, 1, none⟩ = some y ∧ w.cell? ⟨b, 2, none⟩ = some z ∧ (∀ i, w.frozen? ⟨b, i, none⟩ = false) ∧ w.shape? b = some (T, 3) := by
  refine ⟨by rw [Lib.cell_of_heap h]; rfl, by rw [Lib.cell_of_heap h]; rfl, by rw [Lib.cell_of_heap h]; rfl, fun i => Lib.frozen_of_heap h i, ?_⟩
  unfold World.shape?; rw [h]; rfl
theorem Strs.other {B g n cap : Nat} {ts : List (List UInt8)} {w : World} (h : Strs B ts (.slice (some ⟨g, 0, none⟩) n cap) w) {a : Addr} (ha : a.block ≠ g) (x : Value) : Strs B ts (.slice (some ⟨g, 0, none⟩) n cap) (w.setCell a x) := by
  refine ⟨h.1, ?_⟩
  rcases h.2 with h0 | ⟨g', cap', cur, hv, hb, hg, r⟩
  · exact .inl h0
  · simp only [Value.slice.injEq, Option.some.injEq, Addr.mk.injEq] at hv
    obtain ⟨⟨rfl, _⟩, rfl, rfl⟩ := hv
    refine .inr ⟨g, cap, cur, rfl, hb, ?_, r⟩
    rw [Below.heap_setCell _ _ _ _ (fun e => ha e.symm)]; exact hg
/-- A block that was laid keeps its cells. -/
theorem box_kept {w w1 : World} {x y z : Value} {T : TypeId} (b1 : Below (w.alloc (.cells #[x, y, z] T)).heap.size (w.alloc (.cells #[x, y, z] T)) w1) : w1.cell? ⟨w.heap.size, 0, none⟩ = some x ∧ w1.cell? ⟨w.heap.size, 1, none⟩ = some y ∧ w1.cell? ⟨w.heap.size, 2, none⟩ = some z ∧ w.heap.size < w1.heap.size := by
  have hz := b1.size
  have z1 : (w.alloc (.cells #[x, y, z] T)).heap.size = w.heap.size + 1 := World.size_alloc _ _
  have h := blk_cells (w := w1) (b := w.heap.size) (x := x) (y := y) (z := z) (T := T) (by rw [b1.block _ (by omega)]; exact (MapKept.heap_alloc _ _).1)
  exact ⟨h.1, h.2.1, h.2.2.1, by omega⟩
theorem keep3 {w w1 : World} {b : Nat} {x y z : Value} (h : b < w.heap.size) (c0 : w.cell? ⟨b, 0, none⟩ = some x) (c1 : w.cell? ⟨b, 1, none⟩ = some y) (c2 : w.cell? ⟨b, 2, none⟩ = some z) (k : Below w.heap.size w w1) : w1.cell? ⟨b, 0, none⟩ = some x ∧ w1.cell? ⟨b, 1, none⟩ = some y ∧ w1.cell? ⟨b, 2, none⟩ = some z ∧ b < w1.heap.size :=
  ⟨(k.cell (p := ⟨b, 0, none⟩) h).trans c0, (k.cell (p := ⟨b, 1, none⟩) h).trans c1, (k.cell (p := ⟨b, 2, none⟩) h).trans c2, by have := k.size; omega⟩
theorem heap_two {w w1 : World} {o1 o2 o3 : Obj} (b1 : Below (((w.alloc o1).alloc o2).alloc o3).heap.size (((w.alloc o1).alloc o2).alloc o3) w1) : w1.heap[w.heap.size + 1]? = some o2 ∧ w1.heap[w.heap.size + 1 + 1]? = some o3 := by
  have z1 : (w.alloc o1).heap.size = w.heap.size + 1 := World.size_alloc _ _
  have z2 : ((w.alloc o1).alloc o2).heap.size = w.heap.size + 1 + 1 := by rw [World.size_alloc, z1]
  have z3 : (((w.alloc o1).alloc o2).alloc o3).heap.size = w.heap.size + 1 + 1 + 1 := by rw [World.size_alloc, z2]
  refine ⟨?_, ?_⟩
  · rw [b1.block _ (by omega), Lib.alloc_old _ _ _ (by omega), ← z1]
    exact (MapKept.heap_alloc _ _).1
  · rw [b1.block _ (by omega), ← z2]
    exact (MapKept.heap_alloc _ _).1
end Go.Proofs.Ytkdnplcaghnfhaa
