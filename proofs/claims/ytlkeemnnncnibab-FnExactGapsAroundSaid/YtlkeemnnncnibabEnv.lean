/-
  What LuckyOfRank keeps along its way: a builder, the walk's block, the rows of counts.
-/
import Derived.Test.YtlkeemnnncnibabBld
import Derived.Test.YtlkeemnnncnibabUpTo
import Derived.Test.YtlkeemnnncnibabPick
namespace Go.Proofs.Ytlkeemnnncnibab
open Go.RowKit
set_option maxRecDepth 100000

theorem Cnts.blocks {w w' : World} {v : Value} {D B : Nat} (h : Cnts w v D B) (k : ∀ i, B ≤ i → i < w.heap.size → w'.heap[i]? = w.heap[i]?) (hs : w.heap.size ≤ w'.heap.size) : Cnts w' v D B := by
  obtain ⟨g, cap, hv, hg, hB, h⟩ := h
  refine ⟨g, cap, hv, by omega, hB, fun i hi => ?_⟩
  obtain ⟨gi, h1, h2, h3⟩ := h i hi
  exact ⟨gi, by rw [World.cell?_of_block (w := w) (k g hB hg)]; exact h1, World.rowIs.of_block h2 (k gi h3 h2.lt), h3⟩

/-- The builder in block b holds l; the walk in block kb stands at place p with balance x; between them all is as in w1, below b as in w. -/
structure Env (w w1 : World) (b z g cap : Nat) (l : List UInt8) (p : Nat) (x : Int) (wr : World) : Prop where
  bld : Lib.IsBuilder 70 5 b b (Lib.byteCells l) wr
  row : rowOf b wr = none ∨ ∃ r, w1.heap.size < r ∧ rowOf b wr = some r
  blk : Blk wr w1.heap.size #[.slice (some ⟨g, 0, none⟩) (2 * z + 1) cap, .int .i64 (2 * (z : Int)), .int .i64 p, .int .i64 x] 90
  mid : ∀ i, b < i → i < w1.heap.size → wr.heap[i]? = w1.heap[i]?
  low : Below b w wr
  hb : b < w1.heap.size

theorem rowOf_same {b : Nat} {w w' : World} (h : w'.heap[b]? = w.heap[b]?) : rowOf b w' = rowOf b w := by
  unfold rowOf; rw [World.cell?_of_block (w := w) h]
theorem bld_below {w w' : World} {T e : TypeId} {B b : Nat} {bs : List Value} (h : Lib.IsBuilder T e B b bs w) (k : Below w.heap.size w w') : Lib.IsBuilder T e B b bs w' := by
  have key : ∀ p, Lib.BuilderAt T e B b p bs w → Lib.BuilderAt T e B b p bs w' := fun p h => by
    have hlt := h.lt
    obtain ⟨hB, v, hbk, hown, hne⟩ := h
    exact ⟨hB, v, by rw [k.block b hlt]; exact hbk, own_below hown k, hne⟩
  exact h.elim (fun h => .inl (key _ h)) (fun h => .inr (key _ h))
theorem bld_lt {w : World} {T e : TypeId} {B b : Nat} {bs : List Value} (h : Lib.IsBuilder T e B b bs w) : b < w.heap.size := h.elim (·.lt) (·.lt)
theorem Env.size {w w1 : World} {b z g cap : Nat} {l : List UInt8} {p : Nat} {x : Int} {wr : World} (h : Env w w1 b z g cap l p x wr) : w1.heap.size < wr.heap.size := h.blk.lt
theorem Env.cnts {w w1 : World} {b z g cap : Nat} {l : List UInt8} {p : Nat} {x : Int} {wr : World} (h : Env w w1 b z g cap l p x wr) {v : Value} {D : Nat} (hc : Cnts w1 v D (b + 1)) : Cnts wr v D (b + 1) :=
  hc.blocks (fun i h1 h2 => h.mid i (by omega) h2) (by have := h.size; omega)
theorem Env.call {w w1 : World} {b z g cap : Nat} {l : List UInt8} {p : Nat} {x : Int} {wr w' : World} (h : Env w w1 b z g cap l p x wr) (k : Below wr.heap.size wr w') : Env w w1 b z g cap l p x w' :=
  ⟨bld_below h.bld k, by rw [rowOf_same (k.block b (bld_lt h.bld))]; exact h.row, h.blk.keep k, fun i h1 h2 => by rw [k.block i (by have := h.size; omega)]; exact h.mid i h1 h2, h.low.trans (k.mono (by have := bld_lt h.bld; omega)), h.hb⟩
theorem Env.write {w w1 : World} {b z g cap : Nat} {l : List UInt8} {p : Nat} {x : Int} {wr w' : World} {c : UInt8} (h : Env w w1 b z g cap l p x wr)
    (h1 : Lib.BuilderAt 70 5 b b (.pointer (some ⟨b, 0, none⟩)) (Lib.byteCells l ++ [.int .u8 c.toNat]) w') (h2 : Below b wr w') (h3 : Frm b wr w') : Env w w1 b z g cap (l ++ [c]) p x w' := by
  obtain ⟨f1, f2, f3⟩ := h3
  have hs := h.size
  have hbb := h.hb
  have hrow : ∀ i, i ≤ w1.heap.size → some i ≠ rowOf b wr := fun i hi => by
    rcases h.row with e | ⟨r, hr, e⟩
    · rw [e]; simp
    · rw [e]; simp; omega
  refine ⟨.inr (by simpa [Lib.byteCells] using h1), ?_, ?_, fun i i1 i2 => ?_, h.low.trans h2, hbb⟩
  · rcases f2 with e | ⟨r, hr, e⟩
    · rw [e]; exact h.row
    · exact .inr ⟨r, by omega, e⟩
  · unfold Blk; rw [f1 _ hs (by omega) (hrow _ (Nat.le_refl _))]; exact h.blk
  · rw [f1 i (by omega) (by omega) (hrow i (by omega))]; exact h.mid i i1 i2
theorem Env.setK {w w1 : World} {b z g cap : Nat} {l : List UInt8} {p : Nat} {x : Int} {wr : World} (h : Env w w1 b z g cap l p x wr) (p' : Nat) (x' : Int) :
    Env w w1 b z g cap l p' x' ((((wr.setCell ⟨w1.heap.size, 0, none⟩ (.slice (some ⟨g, 0, none⟩) (2 * z + 1) cap)).setCell ⟨w1.heap.size, 1, none⟩ (.int .i64 (2 * (z : Int)))).setCell ⟨w1.heap.size, 2, none⟩ (.int .i64 p')).setCell ⟨w1.heap.size, 3, none⟩ (.int .i64 x')) := by
  have hbb := h.hb
  have key : ∀ i, i ≠ w1.heap.size → ((((wr.setCell ⟨w1.heap.size, 0, none⟩ (.slice (some ⟨g, 0, none⟩) (2 * z + 1) cap)).setCell ⟨w1.heap.size, 1, none⟩ (.int .i64 (2 * (z : Int)))).setCell ⟨w1.heap.size, 2, none⟩ (.int .i64 p')).setCell ⟨w1.heap.size, 3, none⟩ (.int .i64 x')).heap[i]? = wr.heap[i]? := fun i hi => by
    rw [Below.heap_setCell _ _ _ _ hi, Below.heap_setCell _ _ _ _ hi, Below.heap_setCell _ _ _ _ hi, Below.heap_setCell _ _ _ _ hi]
  have hrow : rowOf b wr ≠ some w1.heap.size := by
    rcases h.row with e | ⟨r, hr, e⟩
    · rw [e]; simp
    · rw [e]; simp; omega
  have keyb : ∀ q, Lib.BuilderAt 70 5 b b q (Lib.byteCells l) wr → Lib.BuilderAt 70 5 b b q (Lib.byteCells l) ((((wr.setCell ⟨w1.heap.size, 0, none⟩ (.slice (some ⟨g, 0, none⟩) (2 * z + 1) cap)).setCell ⟨w1.heap.size, 1, none⟩ (.int .i64 (2 * (z : Int)))).setCell ⟨w1.heap.size, 2, none⟩ (.int .i64 p')).setCell ⟨w1.heap.size, 3, none⟩ (.int .i64 x')) := fun q h0 => by
    obtain ⟨hB, v, hbk, hown, hne⟩ := h0
    rw [rowOf_at hbk] at hrow
    refine ⟨hB, v, by rw [key b (by omega)]; exact hbk, hown.kept (row := some w1.heap.size) ⟨rfl, rfl, rfl, by simp [World.setCell], fun i _ hi => key i (fun e => hi (by rw [e]))⟩ (.inr hrow), hne⟩
  refine ⟨h.bld.elim (fun h0 => .inl (keyb _ h0)) (fun h0 => .inr (keyb _ h0)), by rw [rowOf_same (key b (by omega))]; exact h.row, ?_, fun i h1 h2 => by rw [key i (by omega)]; exact h.mid i h1 h2, ?_, hbb⟩
  · exact ((((h.blk.set 0 _).set 1 _).set 2 _).set 3 _)
  · exact ((((h.low.setCell (by show b ≤ w1.heap.size; omega) _).setCell (by show b ≤ w1.heap.size; omega) _).setCell (by show b ≤ w1.heap.size; omega) _).setCell (by show b ≤ w1.heap.size; omega) _)
end Go.Proofs.Ytlkeemnnncnibab
