/-
  Sums of streets: contracts of the program's generic sum.
-/
import Derived.Test.YtblkkjjoidbdlaaHoSt
namespace Go.Proofs.Ytblkkjjoidbdlaa
open Go.RowKit

/-- A block of the call's own, known whole. -/
def Blk (w : World) (b : Nat) (cs : Array Value) (T : TypeId) : Prop := w.heap[b]? = some (.cells cs T (0, 0))
theorem Blk.new (w : World) (cs : Array Value) (T : TypeId) : Blk (w.alloc (.cells cs T)) w.heap.size cs T := by
  show (w.heap.push _)[w.heap.size]? = _
  simp
theorem Blk.lt {w : World} {b : Nat} {cs : Array Value} {T : TypeId} (h : Blk w b cs T) : b < w.heap.size := (Array.getElem?_eq_some_iff.1 h).1
theorem Blk.keep {a c : World} {b : Nat} {cs : Array Value} {T : TypeId} (h : Blk a b cs T) (k : Below a.heap.size a c) : Blk c b cs T := by
  unfold Blk; rw [k.block b h.lt]; exact h
theorem Blk.cell {w : World} {b : Nat} {cs : Array Value} {T : TypeId} (h : Blk w b cs T) (j : Nat) : w.cell? ⟨b, j, none⟩ = cs[j]? := Lib.cell_of_heap h j
theorem Blk.frozen {w : World} {b : Nat} {cs : Array Value} {T : TypeId} (h : Blk w b cs T) (j : Nat) : w.frozen? ⟨b, j, none⟩ = false := Lib.frozen_of_heap h j
theorem Blk.alloc {a : World} {b : Nat} {cs : Array Value} {T : TypeId} (h : Blk a b cs T) (o : Obj) : Blk (a.alloc o) b cs T := h.keep ((Below.refl _ _).alloc (Nat.le_refl _) o)
theorem Blk.drewN {a : World} {b : Nat} {cs : Array Value} {T : TypeId} (h : Blk a b cs T) (n : Nat) : Blk (a.drewN n) b cs T := h

theorem many_any (a b : Int) (w : World) (ha : 0 ≤ a) (ha' : a ≤ 2000000) (hb : a - 1 ≤ b) (hb' : b ≤ 2000000) :
    Calls Try.prog 55 #[.agg #[.int .i64 a, .int .i64 b]] w fun e w' => e = .returned (.int .i64 (b - a + 1)) ∧ Below w.heap.size w w' := by
  go_enter Try.func55, Try.ntmps55
  go_wp2
  go_ret
  exact ⟨rfl, by go_grown⟩
theorem ends_any (a b : Int) (w : World) :
    Calls Try.prog 54 #[.agg #[.int .i64 a, .int .i64 b]] w fun e w' => e = .returned (.tuple #[.int .i64 a, .int .i64 b]) ∧ Below w.heap.size w w' := by
  go_enter Try.func54, Try.ntmps54
  go_wp2
  go_region
  all_goals go_wp2
  all_goals go_ret2
  all_goals exact ⟨rfl, by go_grown⟩
theorem sumOf_any (a b : Int) (w : World) (ha : 0 ≤ a) (ha' : a ≤ 2000000) (hb : a - 1 ≤ b) (hb' : b ≤ 2000000) :
    Calls Try.prog 22 #[.agg #[.int .i64 a, .int .i64 b]] w fun e w' => e = .returned (.int .i64 (sm a b)) ∧ Below w.heap.size w w' := by
  have hp := prod_bd a b ha hb hb'
  obtain ⟨hp1, hp2⟩ := hp
  go_enter Try.func22, Try.ntmps22
  go_wp2_with (first | (go_at_call 54; refine (ends_any _ _ _).mono ?_; rintro e w1 ⟨rfl, b1⟩; have F := (Blk.new w _ _).keep b1; have c0 := F.cell 0; have c1 := F.cell 1; simp at c0 c1; have B1 := Lib.hid b1; clear b1 F) | (go_at_call 55; refine (many_any _ _ _ ha ha' hb hb').mono ?_; rintro e w2 ⟨rfl, b2⟩; have B2 := Lib.hid b2; clear b2))
  go_ret
  exact ⟨ret_int (by unfold sm; rfl), chain (w := w) (chain (w := w) (by go_grown) B1.out) B2.out⟩
end Go.Proofs.Ytblkkjjoidbdlaa
