/-
  The law: CheckText.
-/
import Derived.Test.YtdjcgddcgjbboaaDoorSlTxI
namespace Go.Proofs.YtdjcgddcgjbboaaDoor
open Go.RowKit Go.Deep
set_option maxRecDepth 100000

set_option maxHeartbeats 2000000 in
theorem FnExactCheckText_law (xs : List Int) (m : Int) (v : Value) (hn : xs.length ≤ maxLen) (_hm : (Lit.int .i64 m).wf = true) (w : World) (h : RdI xs v w) :
    Calls Tryd.prog 6 #[.agg #[v, .int .i64 m]] w fun e w' => e = .returned (.bool true) ∧ Below w.heap.size w w' := by
  have hnm := hn
  unfold maxLen at hn
  have HV := Lib.hid h
  have hs1 : xs.length ≤ 1048576 → ∀ u W, RdI xs u W → Calls Tryd.prog 27 #[.agg #[u, .int .i64 m]] W fun e w' => e = .returned ((.tuple #[.string (if chkB xs m then ⟨(ctx xs m).toArray⟩ else ⟨#[]⟩), .bool (chkB xs m)])) ∧ Below W.heap.size W w' := fun hn u W hr => sCheckText_any xs m u W hn hr
  have hi1 : xs.length ≤ 1048576 → ∀ u W, RdI xs u W → Calls Tryd.prog 28 #[.agg #[u, .int .i64 m]] W fun e w' => e = .returned ((.tuple #[.string (if chkB xs m then ⟨(ctx xs m).toArray⟩ else ⟨#[]⟩), .bool (chkB xs m)])) ∧ Below W.heap.size W w' := fun hn u W hr => checkText_any xs m u W hn hr
  obtain ⟨A0, hA0⟩ : ∃ A0 : ByteArray, A0 = if chkB xs m then ⟨(ctx xs m).toArray⟩ else ⟨#[]⟩ := ⟨_, rfl⟩
  obtain ⟨A1, hA1⟩ : ∃ A1 : Bool, A1 = chkB xs m := ⟨_, rfl⟩
  rw [← hA0, ← hA1] at hs1 hi1
  have HS := Lib.hid hs1
  have HI := Lib.hid hi1
  clear h hs1 hi1 hA0 hA1
  go_enter Tryd.func6, Tryd.ntmps6
  go_wp2_with (go_at_call 8; go_must ((with_reducible refine (szCheck_any xs m v _ hnm (HV.out.below (by go_grown))).mono ?_); rintro e w1 ⟨⟨r, rfl, hr⟩, b1⟩; obtain ⟨c0, c1, hz⟩ := box2_kept b1; by_cases hr0 : r < 0))
  all_goals go_wp2_with fail
  · go_ret
    exact ⟨rfl, chain (w := w) (by go_grown) b1⟩
  · have hN := hr (by omega)
    have B1 : Below w.heap.size w w1 := chain (w := w) (by go_grown) b1
    have A1 := HV.out.below B1
    have HS' := Lib.hid (HS.out hN)
    have HI' := Lib.hid (HI.out hN)
    clear hr b1
    go_wp2_with (first
      | (go_at_call 10; (with_reducible refine (toCheck_any xs m v _ hN A1).mono ?_); rintro e w2 ⟨⟨g2, rfl, u2⟩, b2⟩; obtain ⟨d0, d1, dz⟩ := keep2 hz c0 c1 b2; have B2 := chain B1 b2)
      | (go_at_call 27; (with_reducible refine (HS'.out _ _ u2.rd).mono ?_); rintro e w3 ⟨rfl, b3⟩; obtain ⟨e0, e1, ez⟩ := keep2 dz d0 d1 b3; have B3 := chain B2 b3; have A3 := HV.out.below B3)
      | (go_at_call 10; (with_reducible refine (toCheck_any xs m v _ hN A3).mono ?_); rintro e w4 ⟨⟨g4, rfl, u4⟩, b4⟩; obtain ⟨f0, f1, fz⟩ := keep2 ez e0 e1 b4; have B4 := chain B3 b4; have u5 := u4.below ((Below.refl _ _).alloc (Nat.le_refl _) (.cells #[.slice (some ⟨g4, 0, none⟩) xs.length xs.length, .int .i64 m] 29)); have B5 : Below w.heap.size w (w4.alloc (.cells #[.slice (some ⟨g4, 0, none⟩) xs.length xs.length, .int .i64 m] 29)) := B4.alloc B4.size _)
      | (go_at_call 28; (with_reducible refine (HI'.out _ _ u5.rd).mono ?_); rintro e w6 ⟨rfl, b6⟩; obtain ⟨x0, x1, xz⟩ := box2_kept b6; obtain ⟨y0, y1, yz⟩ := keep2 fz f0 f1 (chain (w := w4) (by go_grown) b6); have B6 := chain B5 b6; have A6 := HV.out.below B6; have u6 := u5.below b6))
    go_region_with (first
      | (go_at_call 10; (with_reducible refine (toCheck_any xs m v _ hN (A6.below (by go_grown))).mono ?_); rintro e w7 ⟨⟨g7, rfl, u7⟩, b7⟩; have B7 : Below w6.heap.size w6 w7 := chain (w := w6) (by go_grown) b7; obtain ⟨z0, z1, zz⟩ := keep2 xz x0 x1 B7)
      | (go_at_call 13; (with_reducible refine (eqCheck_yes m _ _ xs _ _ _ hN (u6.below B7) u7).mono ?_); rintro e w8 ⟨rfl, b8⟩; have B8 : Below w6.heap.size w6 w8 := chain B7 b8))
    all_goals go_wp2
    all_goals
      go_ret
      exact ⟨rfl, chain B6 B8⟩
end Go.Proofs.YtdjcgddcgjbboaaDoor
