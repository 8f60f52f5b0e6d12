/-
  Solutions, their number, the first one, whether there is just one: both sides.
-/
import Derived.Test.YtakckgbkfnogbabDoorPzLook
namespace Go.Proofs.YtakckgbkfnogbabDoor
open Go.RowKit
set_option maxRecDepth 100000

def solP (cs : List Cl) : List (List UInt8) := if pzB cs then sol cs else []
def cntA (cs : List Cl) : Int := ((solP cs).length : Nat)
def fsA (cs : List Cl) : ByteArray := ⟨((solP cs).getD 0 []).toArray⟩
def fsB (cs : List Cl) : Bool := decide (0 < (solP cs).length)
def isA (cs : List Cl) : Bool := decide ((solP cs).length = 1)
theorem solP_yes {cs : List Cl} (h : pzB cs = true) : solP cs = sol cs := by unfold solP; rw [if_pos h]
theorem solP_no {cs : List Cl} (h : pzB cs = false) : solP cs = [] := by unfold solP; rw [if_neg (by rw [h]; simp)]
theorem solP_len (cs : List Cl) : (solP cs).length ≤ 1296 := by
  unfold solP; split
  · exact sol_len cs
  · simp
theorem keep1' {w w1 : World} {b : Nat} {x : Value} (h : b < w.heap.size) (c0 : w.cell? ⟨b, 0, none⟩ = some x) (k : Below w.heap.size w w1) : w1.cell? ⟨b, 0, none⟩ = some x ∧ b < w1.heap.size :=
  ⟨(k.cell (p := ⟨b, 0, none⟩) h).trans c0, by have := k.size; omega⟩
theorem iSol_any (cs : List Cl) (v : Value) (w : World) (hn : cs.length ≤ 1048576) (h : RdC cs v w) :
    Calls Tryd.prog 82 #[.agg #[v]] w fun e w' => (∃ u, e = .returned (.tuple #[u, .bool (pzB cs)]) ∧ Strs w.heap.size (solP cs) u w') ∧ Below w.heap.size w w' := by
  have HV := Lib.hid h
  have HR := Lib.hid (h.alloc (.cells #[v] 30))
  clear h
  have hb : Below w.heap.size w (w.alloc (.cells #[v] 30)) := (Below.refl _ _).alloc (Nat.le_refl _) _
  have HB := Lib.hid hb
  clear hb
  cases hg : pzB cs with
  | false =>
    have HG := Lib.hid hg
    have HS := Lib.hid (solP_no hg)
    clear hg
    go_enter Tryd.func82, Tryd.ntmps82
    go_wp2_with (go_at_call 27; (with_reducible refine (isPuzzle_b cs false v _ hn HR.out HG.out).mono ?_); rintro e w1 ⟨rfl, b1⟩)
    go_ret2
    exact ⟨⟨_, rfl, by rw [HS.out]; exact Strs.nil _ _⟩, chain HB.out b1⟩
  | true =>
    have HG := Lib.hid hg
    have HS := Lib.hid (solP_yes hg)
    have hl6 := pz_len hg
    have hall := AllC.of hg
    have HQ := Lib.hid (fun W (hr : RdC cs v W) => solutions_any cs v W (by omega) hall hr)
    clear hg hall
    go_enter Tryd.func82, Tryd.ntmps82
    go_wp2_with (first
      | (go_at_call 27; (with_reducible refine (isPuzzle_b cs true v _ hn HR.out HG.out).mono ?_); rintro e w1 ⟨rfl, b1⟩; have e0 := (blk1 (box_at w _ b1)).1; have hz := box_lt w _ b1; have B1 := chain HB.out b1; have A1 := HV.out.below B1)
      | (go_at_call 58; (refine (HQ.out _ A1).mono ?_); rintro e w2 ⟨⟨u, rfl, hu⟩, b2⟩))
    go_ret2
    exact ⟨⟨_, rfl, by rw [HS.out]; exact hu.mono B1.size⟩, chain B1 b2⟩
set_option maxHeartbeats 1000000 in
theorem iCnt_any (cs : List Cl) (v : Value) (w : World) (hn : cs.length ≤ 1048576) (h : RdC cs v w) :
    Calls Tryd.prog 60 #[.agg #[v]] w fun e w' => e = .returned (.tuple #[.int .i64 (cntA cs), .bool (pzB cs)]) ∧ Below w.heap.size w w' := by
  have HR := Lib.hid (h.alloc (.cells #[v] 30))
  clear h
  have hb : Below w.heap.size w (w.alloc (.cells #[v] 30)) := (Below.refl _ _).alloc (Nat.le_refl _) _
  have HB := Lib.hid hb
  clear hb
  obtain ⟨b, hbb⟩ : ∃ b, b = pzB cs := ⟨_, rfl⟩
  have HI := Lib.hid (iSol_any cs v _ hn HR.out)
  rw [← hbb] at HI ⊢
  clear hbb
  go_enter Tryd.func60, Tryd.ntmps60
  go_wp2_with (go_at_call 82; (refine HI.out.mono ?_); rintro e w1 ⟨⟨u, rfl, hu⟩, b1⟩; obtain ⟨a, cap, rfl⟩ := hu.val)
  go_ret2
  exact ⟨rfl, chain HB.out b1⟩
set_option maxHeartbeats 1000000 in
theorem iIs_any (cs : List Cl) (v : Value) (w : World) (hn : cs.length ≤ 1048576) (h : RdC cs v w) :
    Calls Tryd.prog 34 #[.agg #[v]] w fun e w' => e = .returned (.tuple #[.bool (isA cs), .bool (pzB cs)]) ∧ Below w.heap.size w w' := by
  have HR := Lib.hid (h.alloc (.cells #[v] 30))
  clear h
  have hb : Below w.heap.size w (w.alloc (.cells #[v] 30)) := (Below.refl _ _).alloc (Nat.le_refl _) _
  have HB := Lib.hid hb
  clear hb
  have HI := Lib.hid (iCnt_any cs v _ hn HR.out)
  have HX : Hid ((cntA cs == 1) = isA cs) := by
    show _ = _; unfold cntA isA; rw [Bool.eq_iff_iff]; simp; try omega
  obtain ⟨c, hc⟩ : ∃ c, c = cntA cs := ⟨_, rfl⟩
  rw [← hc] at HI HX
  clear hc
  go_enter Tryd.func34, Tryd.ntmps34
  go_wp2_with (go_at_call 60; (refine HI.out.mono ?_); rintro e w1 ⟨rfl, b1⟩)
  go_ret2
  exact ⟨ret_bb HX.out rfl, chain HB.out b1⟩
end Go.Proofs.YtakckgbkfnogbabDoor
