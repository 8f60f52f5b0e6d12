/-
  The model's count of plates that begin with a text: the walk.
-/
import Derived.Test.YtaomcimmhlpflaaDoorPlFrN
import Derived.Deep.OwnRows
import Derived.Outline
import Derived.Deep.WholeRow
namespace Go.Proofs.YtaomcimmhlpflaaDoor
open Go.RowKit

theorem wpList_make_rowL {P : Program} (w : World) {ops : Array Oper} {rest : List Oper} {o : Oper} {a : Act} {Q : Exit → Act → World → Prop}
    (hg : o.guard = none) (l c : Operand) (t : TypeId) (hop : o.op = Op.makeSlice t l c)
    (e : TypeId) (i : TypeInfo) (z : Value) (ht : P.underlying t = some (.slice e)) (hi : P.info? e = some i) (hz : i.zero = some z) (hsize : i.size = 1) (hz1 : z.cells = #[z])
    (kl kc : IntKind) (L C : Int) (n : Nat) (hl : a.eval l = .int kl L) (hc : a.eval c = .int kc C) (hL : L = (n : Int)) (hC : C = (n : Int)) (hbytes : i.bytes * n ≤ 281474976710656) (h63 : n ≤ 9223372036854775807)
    (hK : wpList P ops Q rest (a.put o.dst (.slice (some ⟨w.heap.size, 0, none⟩) n n)) (w.alloc (.cells (madeCells #[z] n) e))) :
    wpList P ops Q (o :: rest) a w := by
  subst hL; subst hC
  exact wpList_make_row w hg l c t hop e i z ht hi hz hsize hz1 kl kc n hl hc hbytes h63 hK
/-- Block g is a row of n numbers. -/
def IRow (w : World) (g n : Nat) (f : Nat → Int) : Prop := w.rowIs g 3 n (fun j => .int .i64 (f j))
theorem IRow.cell {w : World} {g n : Nat} {f : Nat → Int} (h : IRow w g n f) {i : Nat} (hi : i < n) : w.cell? ⟨g, i, none⟩ = some (.int .i64 (f i)) := World.rowIs.cell h hi
theorem IRow.frozen {w : World} {g n : Nat} {f : Nat → Int} (h : IRow w g n f) (i : Nat) : w.frozen? ⟨g, i, none⟩ = false := World.rowIs.frozen h i
theorem IRow.lt {w : World} {g n : Nat} {f : Nat → Int} (h : IRow w g n f) : g < w.heap.size := World.rowIs.lt h
theorem IRow.keep {w w' : World} {g n : Nat} {f : Nat → Int} (h : IRow w g n f) (k : Below w.heap.size w w') : IRow w' g n f := World.rowIs.of_block h (k.block g h.lt)
theorem IRow.alloc {w : World} {g n : Nat} {f : Nat → Int} (h : IRow w g n f) (o : Obj) : IRow (w.alloc o) g n f := World.rowIs.alloc h o
theorem IRow.other {w : World} {g n : Nat} {f : Nat → Int} (h : IRow w g n f) {a : Addr} (ha : g ≠ a.block) (v : Value) : IRow (w.setCell a v) g n f := World.rowIs.setOther h ha v
theorem IRow.put {w : World} {g n : Nat} {f f' : Nat → Int} (h : IRow w g n f) (i : Nat) (x : Int) (hf : ∀ j, f' j = if j = i then x else f j) : IRow (w.setCell ⟨g, i, none⟩ (.int .i64 x)) g n f' :=
  World.rowIs.congr (World.rowIs.set h i (.int .i64 x)) fun j _ => by rw [hf j]; split <;> rfl
theorem IRow.same {w : World} {g n : Nat} {f f' : Nat → Int} (h : IRow w g n f) (e : ∀ j, j < n → f j = f' j) : IRow w g n f' := World.rowIs.congr h fun j hj => by rw [e j hj]
theorem IRow.made (w : World) (n : Nat) : IRow (w.alloc (.cells (madeCells #[.int .i64 0] n) 3)) w.heap.size n (fun _ => 0) := World.rowIs_made w (.int .i64 0) n 3

set_option maxHeartbeats 1000000 in
theorem plFrom_no (P B t : ByteArray) (ts : List (List UInt8)) (v : Value) (w : World) (hPs : P.size ≤ 1048576) (hBs : B.size ≤ 1048576) (ht0 : t.size ≤ 1048576) (hpat : P.data.toList.all patC = true) (hn : ts.length ≤ 3) (ht : ∀ i, i < ts.length → (ts.getD i []).length ≤ 4) (h : Rd ts v w)
    (hno : ¬ (fitsB P.data.toList B.data.toList t.data.toList = true ∧ Free ts t.data.toList)) :
    Calls Tryd.prog 46 #[.agg #[.string P, .string B, v], .string t] w fun e w' => e = .returned (.int .i64 0) ∧ Below w.heap.size w w' := by
  have HF := Lib.hid (fun (v' : Value) (W : World) => plFits_any P B t v' W hPs hBs ht0 hpat)
  have HV := Lib.hid h
  have HC := Lib.hid (fun (W : World) (hW : Below w.heap.size w W) => plClean_any P B t ts v W ht0 (by omega) (fun i hi => Nat.le_trans (ht i hi) (by omega)) (h.below hW))
  obtain ⟨a, cap, rfl, _⟩ := h
  cases hf : fitsB P.data.toList B.data.toList t.data.toList with
  | false =>
    rw [hf] at HF
    clear hno hn ht
    go_enter Tryd.func46, Tryd.ntmps46
    go_wp2_with (go_at_call 69; refine (HF.out _ _).mono ?_; rintro e w1 ⟨rfl, b1⟩)
    go_ret
    exact ⟨rfl, chain (w := w) (by go_grown) b1⟩
  | true =>
    have hfr : decide (Free ts t.data.toList) = false := by rw [decide_eq_false_iff_not]; exact fun k => hno ⟨hf, k⟩
    rw [hf] at HF
    rw [hfr] at HC
    clear hno hn ht hfr hf
    go_enter Tryd.func46, Tryd.ntmps46
    obtain ⟨m, hm⟩ : ∃ m, m = ts.length := ⟨_, rfl⟩
    rw [← hm] at HC ⊢
    clear hm
    have F0 := heap_alloc_last w (.cells #[.string P, .string B, .slice a m cap] 26)
    have H0 : Below w.heap.size w (w.alloc (.cells #[.string P, .string B, .slice a m cap] 26)) := by go_grown
    go_wp2_with fail
    refine (HF.out _ _).mono ?_
    rintro e w1 ⟨rfl, b1⟩
    have hb1 := chain H0 b1
    have F1 := (b1.block w.heap.size (by simp)).trans F0
    have d0 := Lib.cell_of_heap F1 0
    have d1 := Lib.cell_of_heap F1 1
    have d2 := Lib.cell_of_heap F1 2
    simp at d0 d1 d2
    have HB1 := Lib.hid hb1
    clear F0 F1 H0 b1 hb1
    go_wp2_with (go_at_call 70; refine (HC.out _ HB1.out).mono ?_; rintro e w2 ⟨rfl, b2⟩)
    go_ret
    exact ⟨rfl, chain HB1.out b2⟩
end Go.Proofs.YtaomcimmhlpflaaDoor
