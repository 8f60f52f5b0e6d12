/-
  What the laws over checks take.
-/
import Derived.Test.YtdjcgddcgjbboaaDoorSlNum
namespace Go.Proofs.YtdjcgddcgjbboaaDoor
open Go.RowKit

theorem box2_kept {w w1 : World} {x y : Value} {T : TypeId} (b1 : Below (w.alloc (.cells #[x, y] T)).heap.size (w.alloc (.cells #[x, y] T)) w1) : w1.cell? ⟨w.heap.size, 0, none⟩ = some x ∧ w1.cell? ⟨w.heap.size, 1, none⟩ = some y ∧ w.heap.size < w1.heap.size := by
  have hz := b1.size
  have z1 : (w.alloc (.cells #[x, y] T)).heap.size = w.heap.size + 1 := World.size_alloc _ _
  have h := blk2 (w := w1) (b := w.heap.size) (x := x) (y := y) (T := T) (by rw [b1.block _ (by omega)]; exact (MapKept.heap_alloc _ _).1)
  exact ⟨h.1, h.2.1, by omega⟩
theorem keep2 {w w1 : World} {b : Nat} {x y : Value} (h : b < w.heap.size) (c0 : w.cell? ⟨b, 0, none⟩ = some x) (c1 : w.cell? ⟨b, 1, none⟩ = some y) (k : Below w.heap.size w w1) : w1.cell? ⟨b, 0, none⟩ = some x ∧ w1.cell? ⟨b, 1, none⟩ = some y ∧ b < w1.heap.size :=
  ⟨(k.cell (p := ⟨b, 0, none⟩) h).trans c0, (k.cell (p := ⟨b, 1, none⟩) h).trans c1, by have := k.size; omega⟩
end Go.Proofs.YtdjcgddcgjbboaaDoor
