/-
  How often each digit is written: arrays of ten counts.
-/
import Derived.Test.YtghjpanabphbpaaDoorDiLeaf
import Derived.Deep.OwnRows
import Derived.Deep.DrawnRows
namespace Go.Proofs.YtghjpanabphbpaaDoor
open Go.RowKit

/-- Ten numbers. -/
def A10 (f : Nat → Int) : Array Value := #[.int .i64 (f 0), .int .i64 (f 1), .int .i64 (f 2), .int .i64 (f 3), .int .i64 (f 4), .int .i64 (f 5), .int .i64 (f 6), .int .i64 (f 7), .int .i64 (f 8), .int .i64 (f 9)]
theorem A10_get (f : Nat → Int) {k : Nat} (hk : k < 10) : (A10 f)[k]? = some (.int .i64 (f k)) := by
  match k, hk with
  | 0, _ => rfl
  | 1, _ => rfl
  | 2, _ => rfl
  | 3, _ => rfl
  | 4, _ => rfl
  | 5, _ => rfl
  | 6, _ => rfl
  | 7, _ => rfl
  | 8, _ => rfl
  | 9, _ => rfl
theorem A10_same {f g : Nat → Int} (h : ∀ k, k < 10 → f k = g k) : A10 f = A10 g := by
  unfold A10
  rw [h 0 (by omega), h 1 (by omega), h 2 (by omega), h 3 (by omega), h 4 (by omega), h 5 (by omega), h 6 (by omega), h 7 (by omega), h 8 (by omega), h 9 (by omega)]
theorem A10_idx (f : Nat → Int) {k : Nat} (hk : k < 10) (w : World) : (Instr.index 63 (.agg (A10 f)) (.int .i64 (k : Int))).run Tryd.prog w = .ok (.int .i64 (f k)) w := by
  rcases (by omega : k = 0 ∨ k = 1 ∨ k = 2 ∨ k = 3 ∨ k = 4 ∨ k = 5 ∨ k = 6 ∨ k = 7 ∨ k = 8 ∨ k = 9) with rfl | rfl | rfl | rfl | rfl | rfl | rfl | rfl | rfl | rfl
  all_goals kernel_rfl
/-- Block g holds ten counts. -/
def Row10 (w : World) (g : Nat) (f : Nat → Int) : Prop := w.rowIs g 63 10 (fun j => .int .i64 (f j))
theorem Row10.cell {w : World} {g : Nat} {f : Nat → Int} (h : Row10 w g f) {i : Nat} (hi : i < 10) : w.cell? ⟨g, i, none⟩ = some (.int .i64 (f i)) := World.rowIs.cell h hi
theorem Row10.frozen {w : World} {g : Nat} {f : Nat → Int} (h : Row10 w g f) (i : Nat) : w.frozen? ⟨g, i, none⟩ = false := World.rowIs.frozen h i
theorem Row10.lt {w : World} {g : Nat} {f : Nat → Int} (h : Row10 w g f) : g < w.heap.size := World.rowIs.lt h
theorem Row10.below {w w' : World} {g : Nat} {f : Nat → Int} (h : Row10 w g f) {B : Nat} (k : Below B w w') (hg : g < B) : Row10 w' g f := World.rowIs.of_block h (k.block g hg)
theorem Row10.keep {w w' : World} {g : Nat} {f : Nat → Int} (h : Row10 w g f) (k : Below w.heap.size w w') : Row10 w' g f := h.below k h.lt
theorem Row10.alloc {w : World} {g : Nat} {f : Nat → Int} (h : Row10 w g f) (o : Obj) : Row10 (w.alloc o) g f := World.rowIs.alloc h o
theorem Row10.other {w : World} {g : Nat} {f : Nat → Int} (h : Row10 w g f) {a : Addr} (ha : g ≠ a.block) (v : Value) : Row10 (w.setCell a v) g f := World.rowIs.setOther h ha v
theorem Row10.put {w : World} {g : Nat} {f f' : Nat → Int} (h : Row10 w g f) (i : Nat) (x : Int) (hf : ∀ j, f' j = if j = i then x else f j) : Row10 (w.setCell ⟨g, i, none⟩ (.int .i64 x)) g f' :=
  World.rowIs.congr (World.rowIs.set h i (.int .i64 x)) fun j _ => by rw [hf j]; split <;> rfl
theorem Row10.putv {w : World} {g : Nat} {f f' : Nat → Int} {v : Value} (h : Row10 w g f) (i : Nat) (x : Int) (hv : v = .int .i64 x) (hf : ∀ j, f' j = if j = i then x else f j) : Row10 (w.setCell ⟨g, i, none⟩ v) g f' := by
  rw [hv]; exact h.put i x hf
theorem Row10.same {w : World} {g : Nat} {f f' : Nat → Int} (h : Row10 w g f) (e : ∀ j, j < 10 → f j = f' j) : Row10 w g f' := World.rowIs.congr h fun j hj => by rw [e j hj]
theorem Row10.new (w : World) (f : Nat → Int) : Row10 (w.alloc (.cells (A10 f) 63)) w.heap.size f := World.rowIs_alloc w (A10 f) _ _ (fun _ hi => A10_get f hi)
theorem Row10.blk {w : World} {g : Nat} {f : Nat → Int} (h : Row10 w g f) : w.heap[g]? = some (.cells (A10 f) 63 (0, 0)) := by
  obtain ⟨c, h1, h2, h3⟩ := h
  rw [h1]
  congr 2
  apply Array.ext_getElem?
  intro i
  by_cases hi : i < 10
  · rw [h3 i hi, A10_get f hi]
  · rw [Array.getElem?_eq_none (by omega), Array.getElem?_eq_none (by show 10 ≤ i; omega)]
theorem Row10.all {w : World} {g : Nat} {f : Nat → Int} (h : Row10 w g f) : w.cell? ⟨g, 0, none⟩ = some (.int .i64 (f 0)) ∧ w.cell? ⟨g, 1, none⟩ = some (.int .i64 (f 1)) ∧ w.cell? ⟨g, 2, none⟩ = some (.int .i64 (f 2)) ∧ w.cell? ⟨g, 3, none⟩ = some (.int .i64 (f 3)) ∧ w.cell? ⟨g, 4, none⟩ = some (.int .i64 (f 4)) ∧ w.cell? ⟨g, 5, none⟩ = some (.int .i64 (f 5)) ∧ w.cell? ⟨g, 6, none⟩ = some (.int .i64 (f 6)) ∧ w.cell? ⟨g, 7, none⟩ = some (.int .i64 (f 7)) ∧ w.cell? ⟨g, 8, none⟩ = some (.int .i64 (f 8)) ∧ w.cell? ⟨g, 9, none⟩ = some (.int .i64 (f 9)) ∧ (∀ i, w.frozen? ⟨g, i, none⟩ = false) ∧ g < w.heap.size :=
  ⟨h.cell (i := 0) (by omega), h.cell (i := 1) (by omega), h.cell (i := 2) (by omega), h.cell (i := 3) (by omega), h.cell (i := 4) (by omega), h.cell (i := 5) (by omega), h.cell (i := 6) (by omega), h.cell (i := 7) (by omega), h.cell (i := 8) (by omega), h.cell (i := 9) (by omega), h.frozen, h.lt⟩
/-- A count before the zeros in front are taken away. -/
def cb (n T d : Int) : Int := n / (10 * T) * T + min (max (n % (10 * T) + 1 - d * T) 0) T
end Go.Proofs.YtghjpanabphbpaaDoor
