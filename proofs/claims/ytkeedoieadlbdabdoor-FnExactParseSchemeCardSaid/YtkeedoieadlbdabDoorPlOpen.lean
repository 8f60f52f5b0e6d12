/-
  A scheme among the law's arguments, opened.
-/
import Derived.Test.YtkeedoieadlbdabDoorPlStrs
import Derived.Deep.Strs
import Derived.OpenShut
namespace Go.Proofs.YtkeedoieadlbdabDoor
open Go.RowKit Go.Deep

theorem cell_lt {w : World} {a : Addr} {v : Value} (h : w.cell? a = some v) : a.block < w.heap.size := by
  cases e : w.heap[a.block]? with
  | none => unfold World.cell? at h; rw [e] at h; cases h
  | some o => exact (Array.getElem?_eq_some_iff.1 e).1
end Go.Proofs.YtkeedoieadlbdabDoor
