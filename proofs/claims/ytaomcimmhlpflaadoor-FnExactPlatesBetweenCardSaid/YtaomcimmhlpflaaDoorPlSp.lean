/-
  A walk, one sign on.
-/
import Derived.Test.YtaomcimmhlpflaaDoorPlCo
import Derived.Laws.Rows
import Derived.Lib.IndexAny
namespace Go.Proofs.YtaomcimmhlpflaaDoor
open Go.RowKit

theorem ixb_b (s : ByteArray) (c : UInt8) (z : Int) (w : World) (hz : Lib.indexByte s.data.toList c = z) :
    Calls Tryd.prog 75 #[.string s, .int .u8 (c.toNat : Int)] w fun e w' => e = .returned (.int .i64 z) ∧ w' = w := by
  subst hz
  have h := Tryd.strings_IndexByte s (c.toNat : Int) w
  rw [show ((c.toNat : Int)).toNat.toUInt8 = c by simp] at h
  exact h
theorem blk7 {w : World} {b : Nat} {x0 x1 x2 x3 x4 x5 x6 : Value} {T : TypeId} (h : w.heap[b]? = some (.cells #[x0, x1, x2, x3, x4, x5, x6] T (0, 0))) : w.cell? ⟨b, 0, none⟩ = some x0 ∧ w.cell? ⟨b, 1, none⟩ = some x1 ∧ w.cell? ⟨b, 2, none⟩ = some x2 ∧ w.cell? ⟨b, 3, none⟩ = some x3 ∧ w.cell? ⟨b, 4, none⟩ = some x4 ∧ w.cell? ⟨b, 5, none⟩ = some x5 ∧ w.cell? ⟨b, 6, none⟩ = some x6 ∧ (∀ i, w.frozen? ⟨b, i, none⟩ = false) ∧ w.shape? b = some (T, 7) := by
  refine ⟨by rw [Lib.cell_of_heap h]; rfl, by rw [Lib.cell_of_heap h]; rfl, by rw [Lib.cell_of_heap h]; rfl, by rw [Lib.cell_of_heap h]; rfl, by rw [Lib.cell_of_heap h]; rfl, by rw [Lib.cell_of_heap h]; rfl, by rw [Lib.cell_of_heap h]; rfl, fun i => Lib.frozen_of_heap h i, ?_⟩
  unfold World.shape?; rw [h]; rfl
theorem heapk {w w' : World} {b : Nat} {o : Obj} (h : w.heap[b]? = some o) (k : Below w.heap.size w w') : w'.heap[b]? = some o := (k.block _ (Array.getElem?_eq_some_iff.1 h).1).trans h
set_option maxRecDepth 100000 in
set_option maxHeartbeats 4000000 in
theorem step_go (ts rows : List (List UInt8)) (v sg : Value) (wa : Option Addr) (wl wc b N p : Nat) (u : ByteArray) (c : UInt8) (w : World) (hn : ts.length ≤ 3) (hu : u.size ≤ 1000) (hr : rows.length ≤ 8) (hp : p < rows.length) (hc : c.toNat < 128) (hcr : c ∈ rows.getD p [])
    (h : Rd ts v w) (hS : SetM w b N (fun t => decide (t = []) || beg ts t)) (hsg : Rd rows sg w) (Z : ByteArray) (R : Bool) (hZ : Z = if qSuf ts (u.data.toList ++ [c]) = true then ⟨(stt ts (u.data.toList ++ [c])).toArray⟩ else ⟨#[]⟩) (hR : R = qSuf ts (u.data.toList ++ [c])) :
    Calls Tryd.prog 55 #[.agg #[v, .map (some b), sg, (.slice wa wl wc), .int .i64 (p : Int), .string u, .bool false], .int .u8 (c.toNat : Int)] w fun e w' => e = .returned (.agg #[v, .map (some b), sg, (.slice wa wl wc), .int .i64 ((p : Int) + 1), .string Z, .bool (!R)]) ∧ Below w.heap.size w w' := by
  have HV := Lib.hid h
  obtain ⟨va, vcap, rfl, _⟩ := h
  have HS := Lib.hid hS
  have HG := Lib.hid hsg
  obtain ⟨sa, scap, rfl, hcs⟩ := hsg
  obtain ⟨g2, o2, hgo, hg2, hcell⟩ := hcs p hp
  subst hgo
  obtain ⟨bb, hbb⟩ : ∃ bb : ByteArray, bb = ⟨(rows.getD p []).toArray⟩ := ⟨_, rfl⟩
  have hbd : bb.data.toList = rows.getD p [] := by rw [hbb]
  unfold strV at hcell
  rw [← hbb] at hcell
  obtain ⟨z, hz⟩ : ∃ z, z = Lib.indexByte bb.data.toList c := ⟨_, rfl⟩
  have hz0 : 0 ≤ z := by
    have h1 := Lib.contains_iff_indexByte bb.data.toList c
    rw [← hz] at h1
    have h2 : bb.data.toList.contains c = true := by rw [hbd]; simpa using hcr
    rw [h2] at h1
    simpa using h1.symm
  have HZ := Lib.hid hz.symm
  obtain ⟨V, hVl⟩ : ∃ V, V = ts.length := ⟨_, rfl⟩
  rw [← hVl] at HV ⊢
  obtain ⟨L, hL⟩ : ∃ L, L = rows.length := ⟨_, rfl⟩
  rw [← hL] at hr hp ⊢
  have HTB : Hid (∀ X : World, Below w.heap.size w X → Calls Tryd.prog 81 #[.agg #[.slice va V vcap, .map (some b), .slice (some ⟨g2, o2, none⟩) L scap, (.slice wa wl wc)], .string u, .int .u8 (c.toNat : Int)] X fun e w' => e = .returned (.tuple #[.string Z, .bool R]) ∧ Below X.heap.size X w') := fun X hX => by
    rw [hZ, hR]
    exact tailBehind_any ts _ _ _ b N u _ X hn hu hc (HV.out.below hX) (HS.out.below hX)
  clear hcs hbb hbd hz hL hVl hcr hZ hR hS
  have hpI : ¬ (p : Int) = (L : Int) := by omega
  have hpB : ((p : Int) == (L : Int)) = false := by simpa using hpI
  have hpL : (p : Int) < (L : Int) := by omega
  have hp0 : (0 : Int) ≤ (p : Int) := by omega
  have hzn : ¬ z < 0 := by omega
  have mixed : Tryd.prog.follows .mixedOrders = true := by kernel_rfl
  have late : Tryd.prog.follows .lateStores = true := by kernel_rfl
  go_enter Tryd.func55, Tryd.ntmps55
  go_wp2_with (go_at_call 75; refine (ixb_b bb c z _ HZ.out).mono ?_; rintro e w' ⟨rfl, rfl⟩)
  obtain ⟨W, hW⟩ : ∃ W, W = (w.alloc (.cells #[.slice va V vcap, .map (some b), .slice (some ⟨g2, o2, none⟩) L scap, (.slice wa wl wc), .int .i64 (p : Int), .string u, .bool false] 60)).alloc (.cells #[.slice none 0 0, .map none, .slice none 0 0, .slice none 0 0, .int .i64 0, .string ⟨#[]⟩, .bool false] 60) := ⟨_, rfl⟩
  have hWs : W.heap.size = w.heap.size + 2 := by rw [hW]; simp
  have HB : Hid (Below w.heap.size w W) := by show Below _ _ _; rw [hW]; exact ((Below.refl _ _).alloc (Nat.le_refl _) _).alloc (by simp) _
  have hh : W.heap[w.heap.size]? = some (.cells #[.slice va V vcap, .map (some b), .slice (some ⟨g2, o2, none⟩) L scap, (.slice wa wl wc), .int .i64 (p : Int), .string u, .bool false] 60 (0, 0)) := by
    rw [hW, Lib.alloc_old _ _ _ (by simp)]; exact (MapKept.heap_alloc _ _).1
  have hq : W.heap[w.heap.size + 1]? = some (.cells #[.slice none 0 0, .map none, .slice none 0 0, .slice none 0 0, .int .i64 0, .string ⟨#[]⟩, .bool false] 60 (0, 0)) := by
    rw [hW, show w.heap.size + 1 = (w.alloc (.cells #[.slice va V vcap, .map (some b), .slice (some ⟨g2, o2, none⟩) L scap, (.slice wa wl wc), .int .i64 (p : Int), .string u, .bool false] 60)).heap.size by simp]; exact (MapKept.heap_alloc _ _).1
  rw [← hW]
  clear hW
  obtain ⟨b0, hb0⟩ : ∃ b0, b0 = w.heap.size := ⟨_, rfl⟩
  obtain ⟨b1, hb1⟩ : ∃ b1, b1 = w.heap.size + 1 := ⟨_, rfl⟩
  have hne : ¬ b0 = b1 := by omega
  have hne' : ¬ b1 = b0 := by omega
  have HB1 : Hid (w.heap.size ≤ b1) := by show _ ≤ _; omega
  rw [← hb1] at hq ⊢
  rw [← hb0] at hh ⊢
  clear hb0 hb1 hWs
  obtain ⟨m0, m1, m2, m3, m4, m5, m6, mf, ms⟩ := blk7 hh
  have HH := Lib.hid hh
  have HQ := Lib.hid hq
  clear hh hq
  refine (HTB.out _ HB.out).mono ?_
  rintro e w1 ⟨rfl, B1⟩
  all_goals
    have hh1 := heapk HH.out B1
    have hq1 := heapk HQ.out B1
    obtain ⟨m0, m1, m2, m3, m4, m5, m6, mf, ms⟩ := blk7 hh1
    obtain ⟨n0, n1, n2, n3, n4, n5, n6, nf, ns⟩ := blk7 hq1
    have HQ1 := Lib.hid hq1
    clear hh1 hq1
    go_wp2
  have hB : Below w.heap.size w w1 := HB.out.trans (B1.mono HB.out.size)
  have hqq := HQ1.out
  refine bodyPost_ret (results_cell_row rfl _ _ b1 60 #[.slice va V vcap, .map (some b), .slice (some ⟨g2, o2, none⟩) L scap, .slice wa wl wc, .int .i64 ((p : Int) + 1), .string Z, .bool (!R)] (0, 0) _ rfl ?_ Tryd.underlying60 rfl (by kernel_rfl)) rfl ⟨rfl, ?_⟩
  · simp [World.setCell, Array.getElem?_modify, hqq]
  · exact ((((((hB.setCell HB1.out _).setCell HB1.out _).setCell HB1.out _).setCell HB1.out _).setCell HB1.out _).setCell HB1.out _).setCell HB1.out _
end Go.Proofs.YtaomcimmhlpflaaDoor
