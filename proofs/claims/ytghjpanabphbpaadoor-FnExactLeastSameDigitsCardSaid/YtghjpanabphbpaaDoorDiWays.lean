/-
  Contract of tkWays: the row of counts.
-/
import Derived.Test.YtghjpanabphbpaaDoorDiLeaf
import Derived.Test.YtghjpanabphbpaaDoorWMath
import Derived.Deep.OwnRows
import Derived.Outline
namespace Go.Proofs.YtghjpanabphbpaaDoor
open Go.RowKit

theorem wpList_make_rowL {P : Program} (w : World) {ops : Array Oper} {rest : List Oper} {o : Oper} {a : Act} {Q : Exit → Act → World → Prop}
    (hg : o.guard = none) (l c : Operand) (t : TypeId) (hop : o.op = Op.makeSlice t l c)
    (e : TypeId) (i : TypeInfo) (z : Value) (ht : P.underlying t = some (.slice e)) (hi : P.info? e = some i) (hz : i.zero = some z) (hsize : i.size = 1) (hz1 : z.cells = #[z])
    (kl kc : IntKind) (L C : Int) (n : Nat) (hl : a.eval l = .int kl L) (hc : a.eval c = .int kc C) (hL : L = (n : Int)) (hC : C = (n : Int)) (hbytes : i.bytes * n ≤ 281474976710656) (h63 : n ≤ 9223372036854775807)
    (hK : wpList P ops Q rest (a.put o.dst (.slice (some ⟨w.heap.size, 0, none⟩) n n)) (w.alloc (.cells (madeCells #[z] n) e))) :
    wpList P ops Q (o :: rest) a w := by
  subst hL; subst hC
  exact wpList_make_row w hg l c t hop e i z ht hi hz hsize hz1 kl kc n hl hc hbytes h63 hK

/-- Block g is a row of n numbers. -/
def IRow (w : World) (g n : Nat) (f : Nat → Int) : Prop := w.rowIs g 3 n (fun j => .int .i64 (f j))
theorem IRow.cell {w : World} {g n : Nat} {f : Nat → Int} (h : IRow w g n f) {i : Nat} (hi : i < n) : w.cell? ⟨g, i, none⟩ = some (.int .i64 (f i)) := World.rowIs.cell h hi
theorem IRow.frozen {w : World} {g n : Nat} {f : Nat → Int} (h : IRow w g n f) (i : Nat) : w.frozen? ⟨g, i, none⟩ = false := World.rowIs.frozen h i
theorem IRow.lt {w : World} {g n : Nat} {f : Nat → Int} (h : IRow w g n f) : g < w.heap.size := World.rowIs.lt h
theorem IRow.below {w w' : World} {g n : Nat} {f : Nat → Int} (h : IRow w g n f) {B : Nat} (k : Below B w w') (hg : g < B) : IRow w' g n f := World.rowIs.of_block h (k.block g hg)
theorem IRow.alloc {w : World} {g n : Nat} {f : Nat → Int} (h : IRow w g n f) (o : Obj) : IRow (w.alloc o) g n f := World.rowIs.alloc h o
theorem IRow.other {w : World} {g n : Nat} {f : Nat → Int} (h : IRow w g n f) {a : Addr} (ha : g ≠ a.block) (v : Value) : IRow (w.setCell a v) g n f := World.rowIs.setOther h ha v
theorem IRow.put {w : World} {g n : Nat} {f f' : Nat → Int} (h : IRow w g n f) (i : Nat) (x : Int) (hf : ∀ j, f' j = if j = i then x else f j) : IRow (w.setCell ⟨g, i, none⟩ (.int .i64 x)) g n f' :=
  World.rowIs.congr (World.rowIs.set h i (.int .i64 x)) fun j _ => by rw [hf j]; split <;> rfl
theorem IRow.same {w : World} {g n : Nat} {f f' : Nat → Int} (h : IRow w g n f) (e : ∀ j, j < n → f j = f' j) : IRow w g n f' := World.rowIs.congr h fun j hj => by rw [e j hj]
theorem IRow.made (w : World) (n : Nat) : IRow (w.alloc (.cells (madeCells #[.int .i64 0] n) 3)) w.heap.size n (fun _ => 0) := World.rowIs_made w (.int .i64 0) n 3
theorem IRow.one (w : World) (x : Int) : IRow (w.alloc (.cells #[.int .i64 x] 3)) w.heap.size 1 (fun _ => x) := World.rowIs_alloc w _ _ _ (fun i hi => by
  have : i = 0 := by simpa using hi
  subst this; rfl)

end Go.Proofs.YtghjpanabphbpaaDoor
