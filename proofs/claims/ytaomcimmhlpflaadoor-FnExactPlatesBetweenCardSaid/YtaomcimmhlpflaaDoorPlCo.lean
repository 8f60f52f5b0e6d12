/-
  How many plates begin as a walk did.
-/
import Derived.Test.YtaomcimmhlpflaaDoorPlWf
namespace Go.Proofs.YtaomcimmhlpflaaDoor
open Go.RowKit

theorem NumM.look {w : World} {b n : Nat} {K : List UInt8 → Bool} {f : List UInt8 → Int} (h : NumM w b n K f) (s : ByteArray) (hs : s.size ≤ maxLen) (hin : K s.data.toList = true) (r : Int) (hr : f s.data.toList = r) :
    (Instr.lookup 96 (.map (some b)) (.string s) false).run Tryd.prog w = .ok (.int .i64 r) w := by
  subst hr
  obtain ⟨D, h1, h2⟩ := h
  obtain ⟨v, ps, hrun, hv⟩ := h1.lookup keyedS Tryd.underlying96 (zeroIntS w) (show intR (.int .i64 0) = some (.lit (.int .i64 0), []) from rfl) (keyOfS s hs)
  rw [(h2 _).2, if_pos hin] at hv
  rw [intR_inv hv] at hrun
  exact hrun
set_option maxRecDepth 100000 in
set_option maxHeartbeats 4000000 in
theorem completions_lost (p : Int) (u : ByteArray) (v v2 v3 v4 : Value) (w : World) :
    Calls Tryd.prog 56 #[.agg #[v, v2, v3, v4, .int .i64 p, .string u, .bool true]] w fun e w' => e = .returned (.int .i64 0) ∧ Below w.heap.size w w' := by
  go_enter Tryd.func56, Tryd.ntmps56
  go_wp2_with fail
  go_ret
  exact ⟨rfl, by go_grown⟩
set_option maxRecDepth 100000 in
set_option maxHeartbeats 4000000 in
theorem completions_any (ts rows : List (List UInt8)) (v sg : Value) (b g cap p : Nat) (u : ByteArray) (w : World) (hu : u.size ≤ maxLen) (hr : rows.length ≤ 8) (hp : p ≤ rows.length) (hK : (decide (u.data.toList = []) || beg ts u.data.toList) = true)
    (hW : Wys w (fun t => decide (t = []) || beg ts t) (fun j t => (Gq ts (qSuf ts) (rows.drop j) t : Int)) g 0 (rows.length + 1)) :
    Calls Tryd.prog 56 #[.agg #[v, .map (some b), sg, .slice (some ⟨g, 0, none⟩) (rows.length + 1) cap, .int .i64 (p : Int), .string u, .bool false]] w fun e w' => e = .returned (.int .i64 (Gq ts (qSuf ts) (rows.drop p) u.data.toList : Int)) ∧ Below w.heap.size w w' := by
  have HW := Lib.hid hW
  have HU := Lib.hid hu
  have HK := Lib.hid hK
  obtain ⟨L1, hL1⟩ : ∃ L1, L1 = rows.length + 1 := ⟨_, rfl⟩
  rw [← hL1]
  have hL8 : L1 ≤ 9 := by omega
  have hpL : p < L1 := by omega
  have HL1 := Lib.hid hL1
  obtain ⟨Z, hZ⟩ : ∃ Z : Int, Z = (Gq ts (qSuf ts) (rows.drop p) u.data.toList : Int) := ⟨_, rfl⟩
  rw [← hZ]
  have HZ : Hid ((fun t => (Gq ts (qSuf ts) (rows.drop p) t : Int)) u.data.toList = Z) := hZ.symm
  clear hW hL1 hr hp hZ hu hK
  have hp0 : (0 : Int) ≤ (p : Int) := by omega
  have hpI : (p : Int) < (L1 : Int) := by omega
  obtain ⟨W, hWd⟩ : ∃ W, W = w.alloc (.cells #[v, .map (some b), sg, .slice (some ⟨g, 0, none⟩) L1 cap, .int .i64 (p : Int), .string u, .bool false] 60) := ⟨_, rfl⟩
  have HB : Hid (Below w.heap.size w W) := by show Below _ _ _; rw [hWd]; exact (Below.refl _ _).alloc (Nat.le_refl _) _
  obtain ⟨bj, nj, hbc, hbn⟩ := (HW.out.below HB.out).2 p (Nat.zero_le _) (by have := HL1.out; omega)
  have HBN := Lib.hid hbn
  have hW3 : W.cell? ⟨w.heap.size, 3, none⟩ = some (.slice (some ⟨g, 0, none⟩) L1 cap) := by rw [hWd]; simp [go_sem]
  have hW4 : W.cell? ⟨w.heap.size, 4, none⟩ = some (.int .i64 (p : Int)) := by rw [hWd]; simp [go_sem]
  have hW5 : W.cell? ⟨w.heap.size, 5, none⟩ = some (.string u) := by rw [hWd]; simp [go_sem]
  have HWD := Lib.hid hWd
  clear hbn hWd
  have mixed : Tryd.prog.follows .mixedOrders = true := by kernel_rfl
  have late : Tryd.prog.follows .lateStores = true := by kernel_rfl
  go_enter Tryd.func56, Tryd.ntmps56
  go_wp2_with fail
  rw [← HWD.out]
  clear HWD
  have hlk := (HBN.out.below (show Below W.heap.size W W.drew from below_drewN (Below.refl _ _) 1)).look u HU.out HK.out Z HZ.out
  go_region_with fail
  all_goals go_wp2
  all_goals go_ret
  all_goals exact ⟨rfl, below_drewN HB.out 1⟩
end Go.Proofs.YtaomcimmhlpflaaDoor
