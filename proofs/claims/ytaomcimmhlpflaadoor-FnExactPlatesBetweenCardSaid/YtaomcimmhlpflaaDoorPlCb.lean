/-
  How many plates begin with a text: the program and the model.
-/
import Derived.Test.YtaomcimmhlpflaaDoorPlBg
import Derived.Test.YtaomcimmhlpflaaDoorPlIsS
import Derived.Deep.RegionLaw
namespace Go.Proofs.YtaomcimmhlpflaaDoor
open Go.RowKit Go.Maps

/-- The counts of a scheme, as a walk holds them. -/
structure PWk (P B : List UInt8) (n : Nat) (ts L : List (List UInt8)) (va : Option Addr) (vc bm N : Nat) (ga : Option Addr) (gc g : Nat) (w : World) : Prop where
  same : SameFree ts L
  l3 : L.length ≤ 3
  mem : ∀ x ∈ L, x ∈ ts
  rd : Rd L (.slice va L.length vc) w
  set : SetM w bm N (tlK L)
  rows : Rd (rowsF P B 0) (.slice ga n gc) w
  ways : Wys w (tlK L) (fun j t => (Gq L (qSuf L) ((rowsF P B 0).drop j) t : Int)) g 0 (n + 1)
theorem PWk.below {P B : List UInt8} {n : Nat} {ts L : List (List UInt8)} {va : Option Addr} {vc bm N : Nat} {ga : Option Addr} {gc g : Nat} {w w' : World} (h : PWk P B n ts L va vc bm N ga gc g w) (k : Below w.heap.size w w') : PWk P B n ts L va vc bm N ga gc g w' :=
  ⟨h.same, h.l3, h.mem, h.rd.below k, h.set.below k, h.rows.below k, h.ways.below k⟩
set_option maxRecDepth 100000 in
set_option maxHeartbeats 4000000 in
theorem newWalk_any (P B : ByteArray) (ts : List (List UInt8)) (v : Value) (w : World) (hs : schB P.data.toList B.data.toList ts = true) (h : Rd ts v w) (hmx : MaxIs w) :
    Calls Tryd.prog 50 #[.agg #[.string P, .string B, v]] w fun e w' => (∃ (L : List (List UInt8)) (va : Option Addr) (vc bm N : Nat) (ga : Option Addr) (gc g : Nat), e = .returned (.agg #[.slice va L.length vc, .map (some bm), .slice ga P.size gc, .slice (some ⟨g, 0, none⟩) (P.size + 1) (P.size + 1), .int .i64 0, .string ⟨#[]⟩, .bool false]) ∧ PWk P.data.toList B.data.toList P.size ts L va vc bm N ga gc g w') ∧ Below w.heap.size w w' := by
  obtain ⟨f1, f2, f3, f4, f5, f6, f7⟩ := sch_facts hs
  have HC := Lib.hid (fun (W : World) (hW : Below w.heap.size w W) => counts_any P B ts v W f1 f4 f5 (h.below hW) (hmx.below hW))
  obtain ⟨a, cap, rfl, _⟩ := h
  obtain ⟨m, hm⟩ : ∃ m, m = ts.length := ⟨_, rfl⟩
  rw [← hm] at HC ⊢
  clear hmx hs f2 f3 f4 f5 f6 f7 hm
  go_enter Tryd.func50, Tryd.ntmps50
  go_wp2_with (go_at_call 78; (with_reducible refine (HC.out _ (by go_grown)).mono ?_); rintro e w1 ⟨⟨L, va, vc, bm, N, ga, gc, g, rfl, k1, k2, k3, k4, k5, k6, k7, ⟨k8, k9⟩, k10⟩, b1⟩; have hq := heapk (heap_2nd w _ _) b1; obtain ⟨m0, m1, m2, m3, m4, m5, m6, mf, ms⟩ := blk7 hq; have B1 : Below w.heap.size w w1 := chain (w := w) (by go_grown) b1; have hlt : w.heap.size + 1 < w1.heap.size := (Array.getElem?_eq_some_iff.1 hq).1; simp only [World.size_alloc] at k4 k5 k7 k8 k9; have HW10 := Lib.hid k10; have HW9 := Lib.hid k9; clear b1 k10 k9)
  refine bodyPost_ret (results_cell_row rfl _ _ (w.heap.size + 1) 60 #[.slice va L.length vc, .map (some bm), .slice ga P.size gc, .slice (some ⟨g, 0, none⟩) (P.size + 1) (P.size + 1), .int .i64 0, .string ⟨#[]⟩, .bool false] (0, 0) _ rfl ?_ Tryd.underlying60 rfl (by kernel_rfl)) rfl ?_
  · exact heap7 hq
  · have hgw := gb_trans (gb_trans (gb_trans (gb_trans (gb_trans (gb_trans (gbS w1 (w.heap.size + 1) 0 (.slice va L.length vc)) (gbS _ (w.heap.size + 1) 1 (.map (some bm)))) (gbS _ (w.heap.size + 1) 2 (.slice ga P.size gc))) (gbS _ (w.heap.size + 1) 3 (.slice (some ⟨g, 0, none⟩) (P.size + 1) (P.size + 1)))) (gbS _ (w.heap.size + 1) 4 (.int .i64 0))) (gbS _ (w.heap.size + 1) 5 (.string ⟨#[]⟩))) (gbS _ (w.heap.size + 1) 6 (.bool false))
    refine ⟨⟨L, va, vc, bm, N, ga, gc, g, rfl, k1, k2, k3, (k4.kp hgw (fun q hq e => by cases e; have := (World.ownsRow.lt k4 _ hq).1; omega)).rd, k6.grown hgw (fun e => by cases e; omega), (k7.kp hgw (fun q hq e => by cases e; have := (World.ownsRow.lt k7 _ hq).1; omega)).rd, ?_⟩, ?_⟩
    · refine ⟨by have h1 := hgw.size; have h2 := HW10.out.1; omega, fun j h1 h2 => ?_⟩
      obtain ⟨bj, nj, c1, c2⟩ := HW10.out.2 j h1 h2
      have h9 := HW9.out j bj h2 c1
      refine ⟨bj, nj, ?_, c2.grown hgw (fun e => by cases e; omega)⟩
      rw [gb_cell hgw (p := ⟨g, j, none⟩) HW10.out.1 (by show g ≠ _; omega), c1]
    · exact B1.grown hgw (by omega) (fun e he => by cases he; omega)
end Go.Proofs.YtaomcimmhlpflaaDoor
