/-
  The law of SureDigits.
-/
import Derived.Test.YtakckgbkfnogbaaDoorPzSui
namespace Go.Proofs.YtakckgbkfnogbaaDoor
open Go.RowKit Go.Deep
set_option maxRecDepth 100000

theorem box1_kept {w w1 : World} {x : Value} {T : TypeId} (b1 : Below (w.alloc (.cells #[x] T)).heap.size (w.alloc (.cells #[x] T)) w1) : w1.cell? ⟨w.heap.size, 0, none⟩ = some x ∧ w.heap.size < w1.heap.size :=
  ⟨(blk1 (box_at w _ b1)).1, box_lt w _ b1⟩
theorem keep1 {w w1 : World} {b : Nat} {x : Value} (h : b < w.heap.size) (c0 : w.cell? ⟨b, 0, none⟩ = some x) (k : Below w.heap.size w w1) : w1.cell? ⟨b, 0, none⟩ = some x ∧ b < w1.heap.size :=
  ⟨(k.cell (p := ⟨b, 0, none⟩) h).trans c0, by have := k.size; omega⟩

set_option maxHeartbeats 4000000 in
theorem FnExactSureDigits_law (cs : List Cl) (v : Value) (hn : cs.length ≤ maxLen) (w : World) (h : RdC cs v w) :
    Calls Tryd.prog 7 #[.agg #[v]] w fun e w' => e = .returned (.bool true) ∧ Below w.heap.size w w' := by
  have hnm := hn
  unfold maxLen at hn
  have HV := Lib.hid h
  have hs1 : cs.length ≤ 1048576 → ∀ u W, RdC cs u W → Calls Tryd.prog 27 #[.agg #[u]] W fun e w' => e = .returned ((.tuple #[.string (sdA cs), .bool (fsB cs)])) ∧ Below W.heap.size W w' := fun hn u W hr => sSd_any cs u W hn hr
  have hi1 : cs.length ≤ 1048576 → ∀ u W, RdC cs u W → Calls Tryd.prog 28 #[.agg #[u]] W fun e w' => e = .returned ((.tuple #[.string (sdA cs), .bool (fsB cs)])) ∧ Below W.heap.size W w' := fun hn u W hr => iSd_any cs u W hn hr
  obtain ⟨A0, hA0⟩ : ∃ A0 : ByteArray, A0 = sdA cs := ⟨_, rfl⟩
  obtain ⟨A1, hA1⟩ : ∃ A1 : Bool, A1 = fsB cs := ⟨_, rfl⟩
  rw [← hA0, ← hA1] at hs1 hi1
  have HS := Lib.hid hs1
  have HI := Lib.hid hi1
  clear h hs1 hi1 hA0 hA1
  go_enter Tryd.func7, Tryd.ntmps7
  go_wp2_with (go_at_call 14; go_must ((with_reducible refine (szPuzzle_any cs v _ hnm (HV.out.below (by go_grown))).mono ?_); rintro e w1 ⟨⟨r, rfl, hr⟩, b1⟩; obtain ⟨c0, hz⟩ := box1_kept b1; by_cases hr0 : r < 0))
  all_goals go_wp2_with fail
  · go_ret
    exact ⟨rfl, chain (w := w) (by go_grown) b1⟩
  · have hN := hr (by omega)
    have B1 : Below w.heap.size w w1 := chain (w := w) (by go_grown) b1
    have A1 := HV.out.below B1
    have HS' := Lib.hid (HS.out hN)
    have HI' := Lib.hid (HI.out hN)
    clear hr b1
    go_wp2_with (first
      | (go_at_call 16; (with_reducible refine (toPuzzle_any cs v _ hN A1).mono ?_); rintro e w2 ⟨⟨g2, rfl, u2⟩, b2⟩; obtain ⟨d0, dz⟩ := keep1 hz c0 b2; have B2 := chain B1 b2)
      | (go_at_call 27; (with_reducible refine (HS'.out _ _ u2.rd).mono ?_); rintro e w3 ⟨rfl, b3⟩; obtain ⟨e0, ez⟩ := keep1 dz d0 b3; have B3 := chain B2 b3; have A3 := HV.out.below B3)
      | (go_at_call 16; (with_reducible refine (toPuzzle_any cs v _ hN A3).mono ?_); rintro e w4 ⟨⟨g4, rfl, u4⟩, b4⟩; obtain ⟨f0, fz⟩ := keep1 ez e0 b4; have B4 := chain B3 b4; have u5 := u4.below ((Below.refl _ _).alloc (Nat.le_refl _) (.cells #[.slice (some ⟨g4, 0, none⟩) cs.length cs.length] 38)); have B5 : Below w.heap.size w (w4.alloc (.cells #[.slice (some ⟨g4, 0, none⟩) cs.length cs.length] 38)) := B4.alloc B4.size _)
      | (go_at_call 28; (with_reducible refine (HI'.out _ _ u5.rd).mono ?_); rintro e w6 ⟨rfl, b6⟩; obtain ⟨x0, xz⟩ := box1_kept b6; obtain ⟨y0, yz⟩ := keep1 fz f0 (chain (w := w4) (by go_grown) b6); have B6 := chain B5 b6; have A6 := HV.out.below B6; have u6 := u5.below b6))
    go_region_with (first
      | (go_at_call 16; (with_reducible refine (toPuzzle_any cs v _ hN (A6.below (by go_grown))).mono ?_); rintro e w7 ⟨⟨g7, rfl, u7⟩, b7⟩; have B7 : Below w6.heap.size w6 w7 := chain (w := w6) (by go_grown) b7; obtain ⟨z0, zz⟩ := keep1 xz x0 B7)
      | (go_at_call 19; (with_reducible refine (eqPuzzle_yes cs _ _ _ hN (u6.rd.below B7) u7.rd).mono ?_); rintro e w8 ⟨rfl, b8⟩; have B8 : Below w6.heap.size w6 w8 := chain B7 b8))
    all_goals go_wp2
    all_goals
      go_ret
      exact ⟨rfl, chain B6 B8⟩

end Go.Proofs.YtakckgbkfnogbaaDoor
