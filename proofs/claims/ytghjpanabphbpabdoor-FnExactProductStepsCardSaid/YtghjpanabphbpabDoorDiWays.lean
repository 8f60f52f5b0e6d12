/-
  Contract of tkWays: the row of counts.
-/
import Derived.Test.YtghjpanabphbpabDoorDiLeaf
import Derived.Test.YtghjpanabphbpabDoorWMath
import Derived.Deep.OwnRows
import Derived.Outline
namespace Go.Proofs.YtghjpanabphbpabDoor
open Go.RowKit
set_option maxRecDepth 100000

theorem wpList_make_rowL {P : Program} (w : World) {ops : Array Oper} {rest : List Oper} {o : Oper} {a : Act} {Q : Exit → Act → World → Prop}
    (hg : o.guard = none) (l c : Operand) (t : TypeId) (hop : o.op = Op.makeSlice t l c)
    (e : TypeId) (i : TypeInfo) (z : Value) (ht : P.underlying t = some (.slice e)) (hi : P.info? e = some i) (hz : i.zero = some z) (hsize : i.size = 1) (hz1 : z.cells = #[z])
    (kl kc : IntKind) (L C : Int) (n : Nat) (hl : a.eval l = .int kl L) (hc : a.eval c = .int kc C) (hL : L = (n : Int)) (hC : C = (n : Int)) (hbytes : i.bytes * n ≤ 281474976710656) (h63 : n ≤ 9223372036854775807)
    (hK : wpList P ops Q rest (a.put o.dst (.slice (some ⟨w.heap.size, 0, none⟩) n n)) (w.alloc (.cells (madeCells #[z] n) e))) :
    wpList P ops Q (o :: rest) a w := by
  subst hL; subst hC
  exact wpList_make_row w hg l c t hop e i z ht hi hz hsize hz1 kl kc n hl hc hbytes h63 hK

/-- Block g is a row of n numbers. -/
def IRow (w : World) (g n : Nat) (f : Nat → Int) : Prop := w.rowIs g 3 n (fun j => .int .i64 (f j))
theorem IRow.cell {w : World} {g n : Nat} {f : Nat → Int} (h : IRow w g n f) {i : Nat} (hi : i < n) : w.cell? ⟨g, i, none⟩ = some (.int .i64 (f i)) := World.rowIs.cell h hi
theorem IRow.frozen {w : World} {g n : Nat} {f : Nat → Int} (h : IRow w g n f) (i : Nat) : w.frozen? ⟨g, i, none⟩ = false := World.rowIs.frozen h i
theorem IRow.lt {w : World} {g n : Nat} {f : Nat → Int} (h : IRow w g n f) : g < w.heap.size := World.rowIs.lt h
theorem IRow.below {w w' : World} {g n : Nat} {f : Nat → Int} (h : IRow w g n f) {B : Nat} (k : Below B w w') (hg : g < B) : IRow w' g n f := World.rowIs.of_block h (k.block g hg)
theorem IRow.alloc {w : World} {g n : Nat} {f : Nat → Int} (h : IRow w g n f) (o : Obj) : IRow (w.alloc o) g n f := World.rowIs.alloc h o
theorem IRow.other {w : World} {g n : Nat} {f : Nat → Int} (h : IRow w g n f) {a : Addr} (ha : g ≠ a.block) (v : Value) : IRow (w.setCell a v) g n f := World.rowIs.setOther h ha v
theorem IRow.put {w : World} {g n : Nat} {f f' : Nat → Int} (h : IRow w g n f) (i : Nat) (x : Int) (hf : ∀ j, f' j = if j = i then x else f j) : IRow (w.setCell ⟨g, i, none⟩ (.int .i64 x)) g n f' :=
  World.rowIs.congr (World.rowIs.set h i (.int .i64 x)) fun j _ => by rw [hf j]; split <;> rfl
theorem IRow.same {w : World} {g n : Nat} {f f' : Nat → Int} (h : IRow w g n f) (e : ∀ j, j < n → f j = f' j) : IRow w g n f' := World.rowIs.congr h fun j hj => by rw [e j hj]
theorem IRow.made (w : World) (n : Nat) : IRow (w.alloc (.cells (madeCells #[.int .i64 0] n) 3)) w.heap.size n (fun _ => 0) := World.rowIs_made w (.int .i64 0) n 3
theorem IRow.one (w : World) (x : Int) : IRow (w.alloc (.cells #[.int .i64 x] 3)) w.heap.size 1 (fun _ => x) := World.rowIs_alloc w _ _ _ (fun i hi => by
  have : i = 0 := by simpa using hi
  subst this; rfl)

set_option maxHeartbeats 1000000 in
theorem ways_any (D : Nat) (hD : D ≤ 12) (w : World) :
    Calls Tryd.prog 41 #[.int .i64 D] w fun e w' => ∃ g, e = .returned (.slice (some ⟨g, 0, none⟩) (9 * D + 1) (9 * D + 1)) ∧ IRow w' g (9 * D + 1) (W D) ∧ w.heap.size ≤ g ∧ Below w.heap.size w w' := by
  obtain ⟨i0, hi, hz0, hz1, hz2⟩ := info_parts (show (Tryd.prog.info? 3).map (fun i => (i.zero, i.size, i.bytes)) = some (some (.int .i64 0), 1, 8) by kernel_rfl)
  go_enter Tryd.func41, Tryd.ntmps41
  go_wp2
  go_loopw [0, 3] (fun dg out wr => ∃ n m g : Nat, n ≤ D ∧ Hid (m = 9 * n + 1) ∧ dg = .int .i64 ((D : Int) - n) ∧ out = .slice (some ⟨g, 0, none⟩) m m ∧ IRow wr g m (W n) ∧ w.heap.size ≤ g ∧ Below w.heap.size w wr) (fun dg _ _ => (intOf dg).toNat)
  case atStart => exact ⟨0, 1, w.heap.size, Nat.zero_le _, rfl, by simp, rfl, (IRow.one w 1).same (fun j hj => by simp [W]; omega), Nat.le_refl _, by go_grown⟩
  case round =>
    obtain ⟨n, m, g, hn, hm, rfl, rfl, hrow, hg, hbl⟩ := hrel
    obtain ⟨wo, rfl⟩ : ∃ wo : World, wo = wr := ⟨_, rfl⟩
    have hm' : m ≤ 109 := by have := hm.out; omega
    have hlt := hrow.lt
    by_cases hnd : n < D
    · go_wp2_with (refine wpList_make_rowL _ rfl _ _ 36 rfl 3 i0 (.int .i64 0) Tryd.underlying36 hi hz0 hz1 rfl .i64 .i64 _ _ (m + 9) rfl rfl (by omega) (by omega) (by rw [hz2]; omega) (by omega) ?_)
      have hr1 := hrow.alloc (.cells (madeCells #[.int .i64 0] (m + 9)) 3)
      have hr2 := IRow.made wo (m + 9)
      have hne : g ≠ wo.heap.size := by omega
      go_loopw [19] (fun kv wq => ∃ k : Nat, k ≤ m ∧ kv = .int .i64 k ∧ IRow wq wo.heap.size (m + 9) (outp (W n) k) ∧ IRow wq g m (W n) ∧ Below w.heap.size w wq ∧ wo.heap.size < wq.heap.size) (fun kv _ => m - (intOf kv).toNat)
      case atStart => exact ⟨0, Nat.zero_le _, rfl, hr2.same (fun _ _ => rfl), hr1, by have := hbl.size; go_grown, by simp⟩
      case round =>
        obtain ⟨k, hk, rfl, hq2, hq1, hqb, hqs⟩ := hrel
        obtain ⟨wp, rfl⟩ : ∃ wp : World, wp = wr := ⟨_, rfl⟩
        by_cases hkm : k < m
        · have hc1 := hq1.cell hkm
          have hW := W_12 (n := n) (by omega) k
          obtain ⟨hW1, hW2⟩ := hW
          go_wp2_with fail
          go_loopw [7] (fun dv ws => ∃ d : Nat, d ≤ 10 ∧ dv = .int .i64 d ∧ IRow ws wo.heap.size (m + 9) (mid (W n) k d) ∧ IRow ws g m (W n) ∧ Below w.heap.size w ws ∧ wo.heap.size < ws.heap.size) (fun dv _ => 10 - (intOf dv).toNat)
          case atStart => exact ⟨0, Nat.zero_le _, rfl, hq2.same (fun j _ => (mid_zero _ _ _).symm), hq1, hqb, hqs⟩
          case round =>
            obtain ⟨d, hd, rfl, hs2, hs1, hsb, hss⟩ := hrel
            by_cases hd10 : d < 10
            · have hc2 := hs2.cell (i := k + d) (by omega)
              have hf2 := hs2.frozen (k + d)
              have hM := mid_12 (n := n) (by omega) k d (k + d)
              obtain ⟨hM1, hM2⟩ := hM
              go_wp2
              go_roundw
              case rel => exact ⟨d + 1, by omega, by go_num, hs2.put (k + d) _ (fun j => mid_succ (W n) k d j), hs1.other (by simpa using hne) _, hsb.setCell (by have := hbl.size; simp; omega) _, by simp [World.setCell]; omega⟩
              case measure => simp [intOf]; omega
            · go_wp2
              go_roundw
              case rel => exact ⟨k + 1, by omega, by go_num, hs2.same (fun j _ => by rw [show d = 10 by omega, mid_ten]), hs1, hsb, hss⟩
              case measure => simp [intOf]; omega
        · go_wp2_with fail
          go_roundw
          case rel => exact ⟨n + 1, m + 9, wo.heap.size, by omega, show m + 9 = 9 * (n + 1) + 1 by have := hm.out; omega, val_int (by omega), rfl, hq2.same (fun j _ => by rw [W, ← hm.out, show k = m by omega]), by have := hbl.size; omega, hqb⟩
          case measure => simp [intOf]; omega
    · go_wp2
      go_ret
      have hnD : n = D := by omega
      have hmD : m = 9 * D + 1 := by rw [hm.out, hnD]
      exact ⟨g, by rw [← hmD]; rfl, by rw [← hmD, ← hnD]; exact hrow, hg, hbl⟩
end Go.Proofs.YtghjpanabphbpabDoor
