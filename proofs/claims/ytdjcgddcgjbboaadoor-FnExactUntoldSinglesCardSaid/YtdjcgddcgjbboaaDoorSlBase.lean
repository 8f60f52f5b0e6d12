/-
  Slices of numbers that are read, wherever they come from; endings.
-/
import Derived.Test.YtdjcgddcgjbboaaDoorRows
import Derived.Test.YtdjcgddcgjbboaaDoorSlPair
import Derived.Test.YtdjcgddcgjbboaaDoorSlice
import Derived.WalkKit
import Derived.ProofKit
import Derived.Handy
import Derived.Lib.Hide
import Derived.IntWalk
import Derived.Deep.QuietTactic
import Derived.BigQuiet
import Derived.WalkSpells
import Derived.WalkSmall
import Derived.Outline
import Derived.Below
import Derived.Deep.RegionWith
import Derived.Deep.RegionHeld3
import Derived.Deep.DrawnRows
import Derived.Deep.LoopGhost
import Derived.Shelf.Abstract
import Derived.Deep.OwnRows
namespace Go.Proofs.YtdjcgddcgjbboaaDoor
open Go.RowKit

theorem ret_int {k : IntKind} {a b : Int} (h : a = b) : Ending.returned (.int k a) = .returned (.int k b) := by rw [h]
theorem ret_bool {a b : Bool} (h : a = b) : Ending.returned (.bool a) = .returned (.bool b) := by rw [h]
theorem ret_ib {a b : Int} {p q : Bool} (h : a = b) (g : p = q) : Ending.returned (.tuple #[.int .i64 a, .bool p]) = .returned (.tuple #[.int .i64 b, .bool q]) := by rw [h, g]
theorem ret_bb {a b p q : Bool} (h : a = b) (h2 : p = q) : Ending.returned (.tuple #[.bool a, .bool p]) = .returned (.tuple #[.bool b, .bool q]) := by rw [h, h2]
theorem ret_sb {a b : ByteArray} {p q : Bool} (h : a = b) (h2 : p = q) : Ending.returned (.tuple #[.string a, .bool p]) = .returned (.tuple #[.string b, .bool q]) := by rw [h, h2]
theorem val_int {k : IntKind} {a b : Int} (h : a = b) : Value.int k a = .int k b := by rw [h]
theorem chain {w a b : World} (h : Below w.heap.size w a) (k : Below a.heap.size a b) : Below w.heap.size w b := h.trans (k.mono h.size)
theorem below_drewN {B : Nat} {a w : World} (h : Below B a w) (n : Nat) : Below B a (w.drewN n) := ⟨h.os, h.tape, h.output, h.size, h.block⟩
theorem below_drw {B : Nat} {a w : World} (h : Below B a w) : Below B a w.drew := ⟨h.os, h.tape, h.output, h.size, h.block⟩
/-- A value reads as these numbers. -/
def RdI (xs : List Int) (v : Value) (w : World) : Prop :=
  ∃ a cap, v = .slice a xs.length cap ∧ ∀ i, i < xs.length → ∃ g o, a = some ⟨g, o, none⟩ ∧ g < w.heap.size ∧ w.cell? ⟨g, o + i, none⟩ = some (.int .i64 (xs.getD i 0))
theorem Ints.rd {B : Nat} {xs : List Int} {v : Value} {w : World} (h : Ints B xs v w) : RdI xs v w := by
  rcases h.form with ⟨ao, cap, rfl, h0⟩ | ⟨g, cap, rfl, _, hg, hc, _⟩
  · exact ⟨ao, cap, rfl, fun i hi => by omega⟩
  · exact ⟨_, cap, rfl, fun i hi => ⟨g, 0, rfl, hg, by rw [Nat.zero_add]; exact hc i hi⟩⟩
theorem RdI.below {xs : List Int} {v : Value} {w w' : World} (h : RdI xs v w) (k : Below w.heap.size w w') : RdI xs v w' := by
  obtain ⟨a, cap, rfl, hc⟩ := h
  refine ⟨a, cap, rfl, fun i hi => ?_⟩
  obtain ⟨g, o, h1, h2, h3⟩ := hc i hi
  exact ⟨g, o, h1, by have := k.size; omega, (k.cell (p := ⟨g, o + i, none⟩) h2).trans h3⟩
theorem RdI.drewN {xs : List Int} {v : Value} {w : World} (h : RdI xs v w) (n : Nat) : RdI xs v (w.drewN n) := h
theorem RdI.drw {xs : List Int} {v : Value} {w : World} (h : RdI xs v w) : RdI xs v w.drew := h
theorem RdI.alloc {xs : List Int} {v : Value} {w : World} (h : RdI xs v w) (o : Obj) : RdI xs v (w.alloc o) := h.below ((Below.refl _ _).alloc (Nat.le_refl _) o)
/-- A block of two cells that was laid. -/
theorem blk2 {w : World} {b : Nat} {x y : Value} {T : TypeId} (h : w.heap[b]? = some (.cells #[x, y] T (0, 0))) : w.cell? ⟨b, 0, none⟩ = some x ∧ w.cell? ⟨b, 1, none⟩ = some y ∧ (∀ i, w.frozen? ⟨b, i, none⟩ = false) ∧ w.shape? b = some (T, 2) := by
  refine ⟨by rw [Lib.cell_of_heap h]; rfl, by rw [Lib.cell_of_heap h]; rfl, fun i => Lib.frozen_of_heap h i, ?_⟩
  unfold World.shape?; rw [h]; rfl
/-- A block of the call's own, known whole. -/
def Blk (w : World) (b : Nat) (cs : Array Value) (T : TypeId) : Prop := w.heap[b]? = some (.cells cs T (0, 0))
theorem Blk.new (w : World) (cs : Array Value) (T : TypeId) : Blk (w.alloc (.cells cs T)) w.heap.size cs T := by
  show (w.heap.push _)[w.heap.size]? = _
  simp
theorem Blk.lt {w : World} {b : Nat} {cs : Array Value} {T : TypeId} (h : Blk w b cs T) : b < w.heap.size := (Array.getElem?_eq_some_iff.1 h).1
theorem Blk.keep {a c : World} {b : Nat} {cs : Array Value} {T : TypeId} (h : Blk a b cs T) (k : Below a.heap.size a c) : Blk c b cs T := by
  unfold Blk; rw [k.block b h.lt]; exact h
theorem Blk.keepB {a c : World} {b B : Nat} {cs : Array Value} {T : TypeId} (h : Blk a b cs T) (k : Below B a c) (hb : b < B) : Blk c b cs T := by
  unfold Blk; rw [k.block b hb]; exact h
theorem Blk.cell {w : World} {b : Nat} {cs : Array Value} {T : TypeId} (h : Blk w b cs T) (j : Nat) : w.cell? ⟨b, j, none⟩ = cs[j]? := Lib.cell_of_heap h j
theorem Blk.frozen {w : World} {b : Nat} {cs : Array Value} {T : TypeId} (h : Blk w b cs T) (j : Nat) : w.frozen? ⟨b, j, none⟩ = false := Lib.frozen_of_heap h j
theorem Blk.alloc {a : World} {b : Nat} {cs : Array Value} {T : TypeId} (h : Blk a b cs T) (o : Obj) : Blk (a.alloc o) b cs T := h.keep ((Below.refl _ _).alloc (Nat.le_refl _) o)
theorem Blk.drewN {a : World} {b : Nat} {cs : Array Value} {T : TypeId} (h : Blk a b cs T) (n : Nat) : Blk (a.drewN n) b cs T := h
theorem Blk.drw {a : World} {b : Nat} {cs : Array Value} {T : TypeId} (h : Blk a b cs T) : Blk a.drew b cs T := h
end Go.Proofs.YtdjcgddcgjbboaaDoor
