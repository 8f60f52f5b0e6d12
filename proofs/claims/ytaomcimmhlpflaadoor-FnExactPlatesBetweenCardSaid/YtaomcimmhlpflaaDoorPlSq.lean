/-
  A walk that is lost.
-/
import Derived.Test.YtaomcimmhlpflaaDoorPlSp
namespace Go.Proofs.YtaomcimmhlpflaaDoor
open Go.RowKit
theorem heap_2nd (w : World) (o1 o2 : Obj) : ((w.alloc o1).alloc o2).heap[w.heap.size + 1]? = some o2 := by
  rw [show w.heap.size + 1 = (w.alloc o1).heap.size by simp]; exact (MapKept.heap_alloc _ _).1
set_option maxRecDepth 100000 in
set_option maxHeartbeats 4000000 in
theorem step_lost (va : Option Addr) (V vcap : Nat) (ga : Option Addr) (L gc b : Nat) (wa : Option Addr) (wl wc p : Nat) (u : ByteArray) (c : UInt8) (w : World) :
    Calls Tryd.prog 55 #[.agg #[.slice va V vcap, .map (some b), .slice ga L gc, .slice wa wl wc, .int .i64 (p : Int), .string u, .bool true], .int .u8 (c.toNat : Int)] w fun e w' => e = .returned (.agg #[.slice va V vcap, .map (some b), .slice ga L gc, .slice wa wl wc, .int .i64 (p : Int), .string u, .bool true]) ∧ Below w.heap.size w w' := by
  have mixed : Tryd.prog.follows .mixedOrders = true := by kernel_rfl
  have late : Tryd.prog.follows .lateStores = true := by kernel_rfl
  go_enter Tryd.func55, Tryd.ntmps55
  go_wp2_with fail
  refine bodyPost_ret (results_cell_row rfl _ _ (w.heap.size + 1) 60 #[.slice va V vcap, .map (some b), .slice ga L gc, .slice wa wl wc, .int .i64 (p : Int), .string u, .bool true] (0, 0) _ rfl ?_ Tryd.underlying60 rfl (by kernel_rfl)) rfl ⟨rfl, ?_⟩
  · exact heap_2nd _ _ _
  · go_grown
set_option maxRecDepth 100000 in
set_option maxHeartbeats 4000000 in
theorem step_end (va : Option Addr) (V vcap : Nat) (ga : Option Addr) (L gc b : Nat) (wa : Option Addr) (wl wc p : Nat) (u : ByteArray) (c : UInt8) (w : World) (hp : p = L) :
    Calls Tryd.prog 55 #[.agg #[.slice va V vcap, .map (some b), .slice ga L gc, .slice wa wl wc, .int .i64 (p : Int), .string u, .bool false], .int .u8 (c.toNat : Int)] w fun e w' => e = .returned (.agg #[.slice va V vcap, .map (some b), .slice ga L gc, .slice wa wl wc, .int .i64 (p : Int), .string u, .bool true]) ∧ Below w.heap.size w w' := by
  subst hp
  have mixed : Tryd.prog.follows .mixedOrders = true := by kernel_rfl
  have late : Tryd.prog.follows .lateStores = true := by kernel_rfl
  go_enter Tryd.func55, Tryd.ntmps55
  go_wp2_with fail
  refine bodyPost_ret (results_cell_row rfl _ _ (w.heap.size + 1) 60 #[.slice va V vcap, .map (some b), .slice ga p gc, .slice wa wl wc, .int .i64 (p : Int), .string u, .bool true] (0, 0) _ rfl ?_ Tryd.underlying60 rfl (by kernel_rfl)) rfl ⟨rfl, ?_⟩
  · exact heap_2nd _ _ _
  · go_grown
set_option maxRecDepth 100000 in
set_option maxHeartbeats 4000000 in
theorem step_no (va : Option Addr) (V vcap : Nat) (ga : Option Addr) (L gc b : Nat) (wa : Option Addr) (wl wc p : Nat) (u : ByteArray) (c : UInt8) (w : World) (rows : List (List UInt8)) (hL : L = rows.length) (hL8 : L ≤ 8) (hp : p < rows.length) (hcr : ¬ c ∈ rows.getD p []) (hsg : Rd rows (.slice ga L gc) w) :
    Calls Tryd.prog 55 #[.agg #[.slice va V vcap, .map (some b), .slice ga L gc, .slice wa wl wc, .int .i64 (p : Int), .string u, .bool false], .int .u8 (c.toNat : Int)] w fun e w' => e = .returned (.agg #[.slice va V vcap, .map (some b), .slice ga L gc, .slice wa wl wc, .int .i64 (p : Int), .string u, .bool true]) ∧ Below w.heap.size w w' := by
  subst hL
  obtain ⟨sa, scap, hsv, hcs⟩ := hsg
  have hga : ga = sa := by simp only [Value.slice.injEq] at hsv; exact hsv.1
  subst hga
  clear hsv
  obtain ⟨g2, o2, hgo, hg2, hcell⟩ := hcs p hp
  subst hgo
  obtain ⟨bb, hbb⟩ : ∃ bb : ByteArray, bb = ⟨(rows.getD p []).toArray⟩ := ⟨_, rfl⟩
  have hbd : bb.data.toList = rows.getD p [] := by rw [hbb]
  unfold strV at hcell
  rw [← hbb] at hcell
  obtain ⟨z, hz⟩ : ∃ z, z = Lib.indexByte bb.data.toList c := ⟨_, rfl⟩
  have hzn : z < 0 := by
    have h1 := Lib.contains_iff_indexByte bb.data.toList c
    rw [← hz] at h1
    have h2 : bb.data.toList.contains c = false := by rw [hbd]; simpa using hcr
    rw [h2] at h1
    have := of_decide_eq_false h1.symm
    omega
  have HZ := Lib.hid hz.symm
  clear hcs hbb hbd hz hcr
  have hpI : ¬ (p : Int) = (rows.length : Int) := by omega
  have hpB : ((p : Int) == (rows.length : Int)) = false := by simpa using hpI
  have hpL : (p : Int) < (rows.length : Int) := by omega
  have hp0 : (0 : Int) ≤ (p : Int) := by omega
  have mixed : Tryd.prog.follows .mixedOrders = true := by kernel_rfl
  have late : Tryd.prog.follows .lateStores = true := by kernel_rfl
  go_enter Tryd.func55, Tryd.ntmps55
  go_wp2_with (go_at_call 75; refine (ixb_b bb c z _ HZ.out).mono ?_; rintro e w' ⟨rfl, rfl⟩)
  refine bodyPost_ret (results_cell_row rfl _ _ (w.heap.size + 1) 60 #[.slice va V vcap, .map (some b), .slice (some ⟨g2, o2, none⟩) rows.length gc, .slice wa wl wc, .int .i64 (p : Int), .string u, .bool true] (0, 0) _ rfl ?_ Tryd.underlying60 rfl (by kernel_rfl)) rfl ⟨rfl, ?_⟩
  · exact heap_2nd _ _ _
  · go_grown
end Go.Proofs.YtaomcimmhlpflaaDoor
