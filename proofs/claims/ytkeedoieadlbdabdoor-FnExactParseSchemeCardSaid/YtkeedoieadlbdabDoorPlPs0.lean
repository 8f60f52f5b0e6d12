/-
  Schemes read from texts: the model's side.
-/
import Derived.Test.YtkeedoieadlbdabDoorPlPi
import Derived.Deep.RegionHeld3
namespace Go.Proofs.YtkeedoieadlbdabDoor
open Go.RowKit

theorem setCell1 {W : World} {b : Nat} {x y z v : Value} {T : TypeId} (h : W.heap[b]? = some (.cells #[x, y, z] T)) : (W.setCell ⟨b, 1, none⟩ v).heap[b]? = some (.cells #[x, v, z] T) := by
  simp [World.setCell, Array.getElem?_modify, h]
theorem setCell3 {W : World} {b : Nat} {x y z x' y' z' : Value} {T : TypeId} (h : W.heap[b]? = some (.cells #[x, y, z] T)) : (((W.setCell ⟨b, 0, none⟩ x').setCell ⟨b, 1, none⟩ y').setCell ⟨b, 2, none⟩ z').heap[b]? = some (.cells #[x', y', z'] T) := by
  simp [World.setCell, Array.getElem?_modify, h]
theorem heap_oneS {w w1 : World} {x y z v : Value} {T : TypeId} (b1 : Below ((w.alloc (.cells #[x, y, z] T)).setCell ⟨w.heap.size, 1, none⟩ v).heap.size ((w.alloc (.cells #[x, y, z] T)).setCell ⟨w.heap.size, 1, none⟩ v) w1) : w1.heap[w.heap.size]? = some (.cells #[x, v, z] T) := by
  have z1 : ((w.alloc (.cells #[x, y, z] T)).setCell ⟨w.heap.size, 1, none⟩ v).heap.size = w.heap.size + 1 := by simp [World.setCell]
  rw [b1.block _ (by omega)]
  exact setCell1 (MapKept.heap_alloc w (.cells #[x, y, z] T)).1
theorem Strs.formCap {B : Nat} {ts : List (List UInt8)} {v : Value} {w : World} (h : Strs B ts v w) (hp : 0 < ts.length) : ∃ g cap, v = .slice (some ⟨g, 0, none⟩) ts.length cap ∧ ts.length ≤ cap := by
  rcases h.2 with ⟨_, h0⟩ | ⟨g, cap, cur, hv, _, _, hc, _⟩
  · omega
  · exact ⟨g, cap, hv, hc⟩
theorem ssplit_any (s : ByteArray) (w : World) (hs : s.size ≤ 1000) :
    Calls Tryd.prog 16 #[.string s, .int .u8 126] w fun e w' => (∃ g c, e = .returned (.slice (some ⟨g, 0, none⟩) ((pds s.data.toList).length + 1) (c + 1)) ∧ (pds s.data.toList).length ≤ c ∧ Strs w.heap.size (hd0 s.data.toList :: pds s.data.toList) (.slice (some ⟨g, 0, none⟩) ((pds s.data.toList).length + 1) (c + 1)) w' ∧ w'.cell? ⟨g, 0, none⟩ = some (.string ⟨(hd0 s.data.toList).toArray⟩)) ∧ Below w.heap.size w w' := by
  refine (l1Split_any s 126 w hs).mono ?_
  rintro e w' ⟨⟨u, rfl, hu⟩, b⟩
  rw [pcs_eq] at hu
  obtain ⟨g, cap, rfl, hc⟩ := hu.formCap (by simp)
  rw [List.length_cons] at hu hc ⊢
  obtain ⟨c, rfl⟩ : ∃ c, cap = c + 1 := ⟨cap - 1, by omega⟩
  refine ⟨⟨g, c, rfl, by omega, hu, ?_⟩, b⟩
  have h := hu
  unfold Strs at h
  rw [List.length_cons] at h
  rw [h.cellAt 0 (by omega)]; rfl
theorem shead_any (s d : ByteArray) (w : World) (hs : d.size ≤ 1000) (hd : d = ⟨(hd0 s.data.toList).toArray⟩) :
    Calls Tryd.prog 16 #[.string d, .int .u8 33] w fun e w' => (∃ g c, e = .returned (.slice (some ⟨g, 0, none⟩) (spl 33 (hd0 s.data.toList)).length c) ∧ g < w'.heap.size ∧ w'.cell? ⟨g, 0, none⟩ = some (.string ⟨(pP s.data.toList).toArray⟩) ∧ ((spl 33 (hd0 s.data.toList)).length = 2 → w'.cell? ⟨g, 1, none⟩ = some (.string ⟨(sB s.data.toList).toArray⟩))) ∧ Below w.heap.size w w' := by
  subst hd
  refine (l1Split_any _ 33 w hs).mono ?_
  rintro e w' ⟨⟨u, rfl, hu⟩, b⟩
  obtain ⟨g, cap, rfl, hc⟩ := hu.formCap (splF_pos _ _ _)
  have hg := hu.baseLe.2
  have hpos := splF_pos 33 (hd0 s.data.toList) []
  have h := hu
  unfold Strs at h
  refine ⟨⟨g, cap, rfl, hg, ?_, fun h2 => ?_⟩, b⟩
  · rw [h.cellAt 0 (by rw [Nat.mul_one]; exact hpos), ← pP_get]
    simp [strV, List.getElem?_eq_getElem (show 0 < (spl 33 (hd0 s.data.toList)).length from hpos)]
  · rw [h.cellAt 1 (by rw [Nat.mul_one]; show 1 < (spl 33 (hd0 s.data.toList)).length; omega)]
    unfold sB
    rw [if_pos h2]
    simp [strV, List.getElem?_eq_getElem (show 1 < (spl 33 (hd0 s.data.toList)).length by omega)]
theorem sown_any (g n c cc : Nat) (d : List UInt8) (ts : List (List UInt8)) (w : World) (hn : n = ts.length) (hn1 : n ≤ 1048576) (hc : n ≤ c) (h : Strs g (d :: ts) (.slice (some ⟨g, 0, none⟩) (n + 1) cc) w) :
    Calls Tryd.prog 17 #[.slice (if c = 0 then some ⟨g, 0, none⟩ else some ⟨g, 1, none⟩) n c] w fun e w' => (∃ u, e = .returned u ∧ Strs w.heap.size ts u w') ∧ Below w.heap.size w w' := by
  have hg := h.baseLe.2
  by_cases h0 : c = 0
  · rw [if_pos h0]
    have ht : ts = [] := List.eq_nil_of_length_eq_zero (by omega)
    have hl : Lie ts ⟨g, 0, none⟩ w := ⟨hg, rfl, fun j u hj => by rw [ht] at hj; cases hj⟩
    rw [hn] at *
    exact ownS_any ts _ c w hn1 hl
  · rw [if_neg h0]
    have hl : Lie ts ⟨g, 1, none⟩ w := by
      refine ⟨hg, rfl, fun j u hj => ?_⟩
      have hjl : j < ts.length := (List.getElem?_eq_some_iff.1 hj).1
      have h' := h
      unfold Strs at h'
      rw [List.length_cons, ← hn] at h'
      have e : (⟨g, 1, none⟩ : Addr).add j = ⟨g, j + 1, none⟩ := by unfold Addr.add; split <;> simp_all <;> omega
      rw [e, h'.cellAt (j + 1) (by omega)]
      simp [hj]
    rw [hn] at *
    exact ownS_any ts _ c w hn1 hl
theorem sl1 (g n c N C aa : Nat) (hN : N = n + 1) (hC : C = c + 1) (haa : (c = 0 ∧ aa = 0) ∨ (c ≠ 0 ∧ aa = 1)) (W : World) :
    (Instr.slice 22 (.slice (some ⟨g, 0, none⟩) N C) (some (.int .i64 1)) none none).run Tryd.prog W = .ok (.slice (some ⟨g, aa, none⟩) n c) W := by
  subst hN hC
  rw [run_slice_l W 22 (some ⟨g, 0, none⟩) (n + 1) (c + 1) (by kernel_rfl) .i64 1 (by omega) (by omega)]
  have hsz : (sizeOf (Tryd.prog.elem 22)).run Tryd.prog W = .ok 1 W := by kernel_rfl
  rw [hsz]
  rcases haa with ⟨h0, rfl⟩ | ⟨h0, rfl⟩
  · subst h0
    simp [Result.andThen, sliced]
  · simp [Result.andThen, sliced, h0, Addr.add]
theorem Strs.set3 {B b : Nat} {ts : List (List UInt8)} {v : Value} {w : World} (h : Strs B ts v w) (hb : b < B) (x y z : Value) : Strs B ts v (((w.setCell ⟨b, 0, none⟩ x).setCell ⟨b, 1, none⟩ y).setCell ⟨b, 2, none⟩ z) :=
  ((h.setLow (a := ⟨b, 0, none⟩) hb x).setLow (a := ⟨b, 1, none⟩) hb y).setLow (a := ⟨b, 2, none⟩) hb z
theorem heap_st3 {W w1 : World} {b : Nat} {x y z x' y' z' : Value} {T : TypeId} (h : W.heap[b]? = some (.cells #[x, y, z] T)) (b1 : Below (((W.setCell ⟨b, 0, none⟩ x').setCell ⟨b, 1, none⟩ y').setCell ⟨b, 2, none⟩ z').heap.size (((W.setCell ⟨b, 0, none⟩ x').setCell ⟨b, 1, none⟩ y').setCell ⟨b, 2, none⟩ z') w1) : w1.heap[b]? = some (.cells #[x', y', z'] T) :=
  heap_kept b1 (setCell3 h)
theorem heap_st4 {W w1 : World} {b : Nat} {x y z x' y' z' v : Value} {T : TypeId} (h : W.heap[b]? = some (.cells #[x, y, z] T)) (b1 : Below ((((W.setCell ⟨b, 0, none⟩ x').setCell ⟨b, 1, none⟩ y').setCell ⟨b, 2, none⟩ z').setCell ⟨b, 1, none⟩ v).heap.size ((((W.setCell ⟨b, 0, none⟩ x').setCell ⟨b, 1, none⟩ y').setCell ⟨b, 2, none⟩ z').setCell ⟨b, 1, none⟩ v) w1) : w1.heap[b]? = some (.cells #[x', v, z'] T) :=
  heap_kept b1 (setCell1 (setCell3 h))
theorem sTx_b (P B : ByteArray) (ts : List (List UInt8)) (v : Value) (t : ByteArray) (w : World) (hf : Fit P B ts) (hz : schB P.data.toList B.data.toList ts = true) (h : Rd ts v w) (ht : t = ⟨(stx P.data.toList B.data.toList ts).toArray⟩) :
    Calls Tryd.prog 19 #[.agg #[.string P, .string B, v]] w fun e w' => e = .returned (.string t) ∧ Below w.heap.size w w' := by subst ht; exact plText_any P B ts v w hf (sch_three hz) h
end Go.Proofs.YtkeedoieadlbdabDoor
