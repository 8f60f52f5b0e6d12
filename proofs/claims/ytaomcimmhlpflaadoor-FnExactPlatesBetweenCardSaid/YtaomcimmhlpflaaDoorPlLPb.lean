/-
  A law of counting plates.
-/
import Derived.Test.YtaomcimmhlpflaaDoorPlPd
import Derived.Test.YtaomcimmhlpflaaDoorPlEq
import Derived.Test.YtaomcimmhlpflaaDoorPlTo
namespace Go.Proofs.YtaomcimmhlpflaaDoor
open Go.RowKit

set_option maxRecDepth 100000 in
set_option maxHeartbeats 4000000 in
theorem FnExactPlatesBetween_law (P B : ByteArray) (ts : List (List UInt8)) (v : Value) (hP : P.size ≤ maxLen) (hB : B.size ≤ maxLen) (hn : ts.length ≤ maxLen) (ht : ∀ i, i < ts.length → (ts.getD i []).length ≤ maxLen) (s1 : ByteArray) (hs1 : s1.size ≤ maxLen) (s2 : ByteArray) (hs2 : s2.size ≤ maxLen) (w : World) (h : Rd ts v w) (hm : MaxIs w) :
    Calls Tryd.prog 8 #[.agg #[.string P, .string B, v], .string s1, .string s2] w fun e w' => e = .returned (.bool true) ∧ Below w.heap.size w w' := by
  have HV := Lib.hid h
  have HT := Lib.hid ht
  have HM := Lib.hid hm
  clear h ht hm
  unfold maxLen at hs1
  by_cases hz1 : s1.size ≤ 1048576
  rotate_left
  · go_enter Tryd.func8, Tryd.ntmps8
    go_wp2_with fail
    go_ret
    exact ⟨rfl, by go_grown⟩
  unfold maxLen at hs2
  by_cases hz2 : s2.size ≤ 1048576
  rotate_left
  · go_enter Tryd.func8, Tryd.ntmps8
    go_wp2_with fail
    go_ret
    exact ⟨rfl, by go_grown⟩
  obtain ⟨r, hr1⟩ : ∃ r : Int, r = btF P.data.toList B.data.toList ts s1 s2 := ⟨_, rfl⟩
  obtain ⟨b, hb1⟩ : ∃ b, b = btB P.data.toList B.data.toList ts s1 s2 := ⟨_, rfl⟩
  have hs : ∀ (u : Value) (W : World), Fit P B ts → Rd ts u W → Calls Tryd.prog 26 #[.agg #[.string P, .string B, u], .string s1, .string s2] W fun e w' => e = .returned (.tuple #[.int .i64 r, .bool b]) ∧ Below W.heap.size W w' := by
    intro u W hf hr
    rw [hr1, hb1]
    exact sBetween_any P B s1 s2 ts u W hf hz1 hz2 hr
  have hi : ∀ (u : Value) (W : World), Fit P B ts → Rd ts u W → MaxIs W → Calls Tryd.prog 27 #[.agg #[.string P, .string B, u], .string s1, .string s2] W fun e w' => e = .returned (.tuple #[.int .i64 r, .bool b]) ∧ Below W.heap.size W w' := by
    intro u W hf hr hm
    rw [hr1, hb1]
    exact iBetween_any P B s1 s2 ts u W hf hz1 hz2 hr hm
  clear hr1 hb1
  go_enter Tryd.func8, Tryd.ntmps8
  go_wp2_with (go_at_call 11; go_must ((with_reducible refine (szScheme_any P B ts v _ hP hB hn HT.out (HV.out.below (by go_grown))).mono ?_); rintro e w1 ⟨⟨r, rfl, hr⟩, b1⟩; obtain ⟨c0, c1, c2, hz⟩ := box_kept b1; by_cases hr0 : r < 0))
  all_goals go_wp2_with fail
  · go_ret
    exact ⟨rfl, chain (w := w) (by go_grown) b1⟩
  · have hfit := hr hr0
    have B1 : Below w.heap.size w w1 := chain (w := w) (by go_grown) b1
    have A1 := HV.out.below B1
    clear hr b1
    go_wp2_with (first
      | (go_at_call 13; (with_reducible refine (toScheme_any P B ts v _ hfit.n A1).mono ?_); rintro e w2 ⟨⟨g2, rfl, u2⟩, b2⟩; obtain ⟨d0, d1, d2, dz⟩ := keep3 hz c0 c1 c2 b2; have B2 := chain B1 b2)
      | (go_at_call 26; (with_reducible refine (hs _ _ hfit u2.rd).mono ?_); rintro e w3 ⟨rfl, b3⟩; obtain ⟨e0, e1, e2, ez⟩ := keep3 dz d0 d1 d2 b3; have B3 := chain B2 b3; have A3 := HV.out.below B3)
      | (go_at_call 13; (with_reducible refine (toScheme_any P B ts v _ hfit.n A3).mono ?_); rintro e w4 ⟨⟨g4, rfl, u4⟩, b4⟩; obtain ⟨f0, f1, f2, fz⟩ := keep3 ez e0 e1 e2 b4; have B4 := chain B3 b4; have u5 := u4.alloc (.cells #[.string P, .string B, .slice (some ⟨g4, 0, none⟩) ts.length ts.length] 26); have B5 : Below w.heap.size w (w4.alloc (.cells #[.string P, .string B, .slice (some ⟨g4, 0, none⟩) ts.length ts.length] 26)) := B4.alloc B4.size _)
      | (go_at_call 27; (with_reducible refine (hi _ _ hfit u5.rd (HM.out.below B5)).mono ?_); rintro e w6 ⟨rfl, b6⟩; obtain ⟨x0, x1, x2, xz⟩ := box_kept b6; obtain ⟨y0, y1, y2, yz⟩ := keep3 fz f0 f1 f2 (chain (w := w4) (by go_grown) b6); have B6 := chain B5 b6; have A6 := HV.out.below B6; have u6 := u5.below b6))
    go_region_with (first
      | (go_at_call 13; (with_reducible refine (toScheme_any P B ts v _ hfit.n (A6.below (by go_grown))).mono ?_); rintro e w7 ⟨⟨g7, rfl, u7⟩, b7⟩; have B7 : Below w6.heap.size w6 w7 := chain (w := w6) (by go_grown) b7; obtain ⟨z0, z1, z2, zz⟩ := keep3 xz x0 x1 x2 B7)
      | (go_at_call 15; (with_reducible refine (eqScheme_yes P B _ _ ts _ _ _ hfit.n (u6.below B7) u7).mono ?_); rintro e w8 ⟨rfl, b8⟩; have B8 : Below w6.heap.size w6 w8 := chain B7 b8))
    all_goals go_wp2
    all_goals
      go_ret
      exact ⟨rfl, chain B6 B8⟩
end Go.Proofs.YtaomcimmhlpflaaDoor
