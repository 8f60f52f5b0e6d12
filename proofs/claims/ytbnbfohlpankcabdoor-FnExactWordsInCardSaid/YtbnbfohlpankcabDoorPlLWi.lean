/-
  The law of WordsIn.
-/
import Derived.Test.YtbnbfohlpankcabDoorPlWi
import Derived.Test.YtbnbfohlpankcabDoorPlMark
import Derived.Test.YtbnbfohlpankcabDoorPlEq
namespace Go.Proofs.YtbnbfohlpankcabDoor
open Go.RowKit

theorem But.ints {g : Nat} {w w' : World} (h : But g w w') {C : Nat} {xs : List Int} {v : Value} (hs : Ints C xs v w) (hC : g < C) : Ints C xs v w' := by
  refine ⟨hs.1, ?_⟩
  rcases hs.2 with h0 | ⟨g', cap', cur, hv, hb, hg, r⟩
  · exact .inl h0
  · refine .inr ⟨g', cap', cur, hv, hb, ?_, r⟩
    rw [h.block g' (Array.getElem?_eq_some_iff.1 hg).1 (fun e => by cases e; omega)]
    exact hg
theorem wiX_len (P B t : ByteArray) (ts : List (List UInt8)) : (wiX P B t ts).length ≤ 3 := by
  unfold wiX
  split
  · rename_i h
    unfold wiB at h
    simp only [Bool.and_eq_true] at h
    exact Nat.le_trans (wix_len _ _ _) (sch_three' h.1)
  · simp
set_option maxRecDepth 100000 in
set_option maxHeartbeats 8000000 in
theorem FnExactWordsIn_law (P B : ByteArray) (ts : List (List UInt8)) (v : Value) (hP : P.size ≤ maxLen) (hB : B.size ≤ maxLen) (hn : ts.length ≤ maxLen) (ht : ∀ i, i < ts.length → (ts.getD i []).length ≤ maxLen) (s1 : ByteArray) (hs1 : s1.size ≤ maxLen) (w : World) (h : Rd ts v w) (hm : MaxIs w) :
    Calls Tryd.prog 9 #[.agg #[.string P, .string B, v], .string s1] w fun e w' => e = .returned (.bool true) ∧ Below w.heap.size w w' := by
  have HV := Lib.hid h
  have HT := Lib.hid ht
  have HM := Lib.hid hm
  clear h ht hm
  unfold maxLen at hs1
  by_cases hz1 : s1.size ≤ 1048576
  rotate_left
  · go_enter Tryd.func9, Tryd.ntmps9
    go_wp2_with fail
    go_ret
    exact ⟨rfl, by go_grown⟩
  obtain ⟨xs, hxs⟩ : ∃ xs, xs = wiX P B s1 ts := ⟨_, rfl⟩
  obtain ⟨r, hr1⟩ : ∃ r, r = wiB P B s1 ts := ⟨_, rfl⟩
  have hxl : xs.length ≤ 3 := by rw [hxs]; exact wiX_len _ _ _ _
  have hs : ∀ (u : Value) (W : World), Fit P B ts → Rd ts u W → Calls Tryd.prog 27 #[.agg #[.string P, .string B, u], .string s1] W fun e w' => (∃ u, e = .returned (.tuple #[u, .bool r]) ∧ Ints W.heap.size xs u w') ∧ Below W.heap.size W w' := by
    intro u W hf hr
    rw [hr1, hxs]
    exact sWordsIn_any P B ts s1 u W hf hz1 hr
  have hi : ∀ (u : Value) (W : World), Fit P B ts → Rd ts u W → MaxIs W → Calls Tryd.prog 28 #[.agg #[.string P, .string B, u], .string s1] W fun e w' => (∃ u, e = .returned (.tuple #[u, .bool r]) ∧ Ints W.heap.size xs u w') ∧ Below W.heap.size W w' := by
    intro u W hf hr hm
    rw [hr1, hxs]
    exact iWordsIn_any P B ts s1 u W hf hz1 hr hm
  clear hxs hr1
  go_enter Tryd.func9, Tryd.ntmps9
  go_wp2_with (go_at_call 10; go_must ((with_reducible refine (szScheme_any P B ts v _ hP hB hn HT.out (HV.out.below (by go_grown))).mono ?_); rintro e w1 ⟨⟨r, rfl, hr⟩, b1⟩; obtain ⟨c0, c1, c2, hz⟩ := box_kept b1; by_cases hr0 : r < 0))
  all_goals go_wp2_with fail
  · go_ret
    exact ⟨rfl, chain (w := w) (by go_grown) b1⟩
  · have hfit := hr hr0
    have B1 : Below w.heap.size w w1 := chain (w := w) (by go_grown) b1
    have A1 := HV.out.below B1
    clear hr b1
    refine (toScheme_any P B ts v _ hfit.n A1).mono ?_
    rintro e w2 ⟨⟨g2, rfl, u2⟩, b2⟩
    obtain ⟨d0, d1, d2, dz⟩ := keep3 hz c0 c1 c2 b2
    have B2 := chain B1 b2
    go_wp2_with fail
    refine (hs _ _ hfit u2.rd).mono ?_
    rintro e w3 ⟨⟨v0, rfl, i3⟩, b3⟩
    have i3' := i3
    obtain ⟨e0, e1, e2, ez⟩ := keep3 dz d0 d1 d2 b3
    have B3 := chain B2 b3
    have A3 := HV.out.below B3
    clear c0 c1 c2 d0 d1 d2 u2
    go_wp2_with fail
    refine (toScheme_any P B ts v _ hfit.n A3).mono ?_
    rintro e w4 ⟨⟨g4, rfl, u4⟩, b4⟩
    obtain ⟨f0, f1, f2, fz⟩ := keep3 ez e0 e1 e2 b4
    have B4 := chain B3 b4
    have u5 := u4.alloc (.cells #[.string P, .string B, .slice (some ⟨g4, 0, none⟩) ts.length ts.length] 27)
    have i5 := (i3.below b4).alloc (.cells #[.string P, .string B, .slice (some ⟨g4, 0, none⟩) ts.length ts.length] 27)
    have B5 : Below w.heap.size w (w4.alloc (.cells #[.string P, .string B, .slice (some ⟨g4, 0, none⟩) ts.length ts.length] 27)) := B4.alloc B4.size _
    have hg4 := u4.baseLe
    go_wp2_with fail
    refine (hi _ _ hfit u5.rd (HM.out.below B5)).mono ?_
    rintro e w6 ⟨⟨g0, rfl, j6⟩, b6⟩
    obtain ⟨x0, x1, x2, xz⟩ := box_kept b6
    obtain ⟨y0, y1, y2, yz⟩ := keep3 fz f0 f1 f2 (chain (w := w4) (by go_grown) b6)
    have B6 := chain B5 b6
    have u6 := u5.below b6
    have i6 := i5.below b6
    clear e0 e1 e2 f0 f1 f2 u5 i5 i3
    go_wp2_with fail
    refine (eqInts_yes _ _ xs _ _ _ (by omega) j6 i6).mono ?_
    rintro e w7 ⟨rfl, q7, rfl⟩
    have B7 : Below w6.heap.size w6 (w6.drewN q7) := below_drewN (Below.refl _ _) q7
    have A7 := HV.out.below (chain B6 B7)
    go_wp2_with fail
    obtain ⟨w7, hw7⟩ : ∃ w7, w7 = w6.drewN q7 := ⟨_, rfl⟩
    rw [← hw7] at B7 A7 ⊢
    clear hw7
    obtain ⟨p0, p1, p2, pz⟩ := keep3 xz x0 x1 x2 B7
    obtain ⟨o0, o1, o2, oz⟩ := keep3 yz y0 y1 y2 B7
    go_region_with (first
      | (go_at_call 12; (with_reducible refine (toScheme_any P B ts v _ hfit.n (A7.below (by go_grown))).mono ?_); rintro e w8 ⟨⟨g8, rfl, u8⟩, b8⟩; have B8 : Below w6.heap.size w6 w8 := chain B7 (chain (w := w7) (by go_grown) b8); obtain ⟨z0, z1, z2, zz⟩ := keep3 xz x0 x1 x2 B8)
      | (go_at_call 14; (with_reducible refine (eqScheme_yes P B _ _ ts _ _ _ hfit.n (u6.below B8) u8).mono ?_); rintro e w9 ⟨rfl, b9⟩; have B9 : Below w6.heap.size w6 w9 := chain B8 b9))
    all_goals
      obtain ⟨z0, z1, z2, zz⟩ := keep3 xz x0 x1 x2 B9
      obtain ⟨k0, k1, k2, kz⟩ := keep3 yz y0 y1 y2 B9
      have B10 := chain B6 B9
      have hne : w4.heap.size ≠ g4 := by have := hg4.2; omega
      have hne2 : w.heap.size ≠ g4 := by have := hg4.1; have := B3.size; omega
      have hgl : g4 < (w4.alloc (.cells #[.string P, .string B, .slice (some ⟨g4, 0, none⟩) ts.length ts.length] 27)).heap.size := by rw [World.size_alloc]; have := hg4.2; omega
      have hgw : w.heap.size ≤ g4 := by have := hg4.1; have := B3.size; omega
      have hw4 : g4 < w4.heap.size := hg4.2
      go_wp2_with fail
      refine (markScheme_any P B g4 ts.length ts.length ts _ rfl hfit.n (u6.below B9).self).mono ?_
      rintro e wa ⟨rfl, _, m10⟩
      have Ba := m10.below B10 hgw B10.size
      have ja := m10.ints (j6.below B9) hgl
      have ia : Ints w2.heap.size xs v0 wa := by
        have h1 := (i6.below B9)
        refine ⟨h1.1, ?_⟩
        rcases h1.2 with h0 | ⟨g', cap', cur, hv, hb, hg, r⟩
        · exact .inl h0
        · refine .inr ⟨g', cap', cur, hv, hb, ?_, r⟩
          have hlt3 : g' < w3.heap.size := by
            rcases i3'.2 with h0 | ⟨g'', cap'', cur'', hv'', _, hg'', _⟩
            · rw [hv] at h0; cases h0.1
            · rw [hv] at hv''; cases hv''; exact (Array.getElem?_eq_some_iff.1 hg'').1
          rw [m10.block g' (Array.getElem?_eq_some_iff.1 hg).1 (fun e => by cases e; have := hg4.1; omega)]
          exact hg
      obtain ⟨l0, l1, l2, lz⟩ := keep3B kz hne2 k0 k1 k2 m10
      have hkn : ¬ (1 : Int) + (ts.length : Int) < 0 := by omega
      go_wp2_with fail
      refine (eqInts_yes _ _ xs _ _ _ (by omega) ja ia).mono ?_
      rintro e wb ⟨rfl, qb, rfl⟩
      go_wp2_with fail
      refine (mark_any _ xs g0 1 _ (by omega) (by omega) (ja.drewN qb)).mono ?_
      rintro e wc ⟨rfl, mc, bc⟩
      have hmx : w.heap.size ≤ (w4.alloc (.cells #[.string P, .string B, .slice (some ⟨g4, 0, none⟩) ts.length ts.length] 27)).heap.size := B5.size
      have Bc : Below w.heap.size w wc := (below_drewN Ba qb).trans (bc.mono hmx)
      have hcz : w.heap.size < (w4.alloc (.cells #[.string P, .string B, .slice (some ⟨g4, 0, none⟩) ts.length ts.length] 27)).heap.size := by rw [World.size_alloc]; omega
      have n0 := (bc.cell (p := ⟨w.heap.size, 0, none⟩) hcz).trans l0
      have n1 := (bc.cell (p := ⟨w.heap.size, 1, none⟩) hcz).trans l1
      have n2 := (bc.cell (p := ⟨w.heap.size, 2, none⟩) hcz).trans l2
      have nz : w.heap.size < wc.heap.size := by have h9 := bc.size; have h8 : (wa.drewN qb).heap.size = wa.heap.size := rfl; omega
      have ic : Ints w2.heap.size xs v0 wc := (ia.drewN qb).apart (.inr (fun k hk => by have h7 := i3'.own_lt k hk; have h6 := b4.size; rw [World.size_alloc]; omega)) bc
      go_wp2_with fail
      refine (held_any _ xs.length g0 1 _ (by omega) (by omega) mc).mono ?_
      rintro e wd ⟨rfl, rfl⟩
      have hkm : ¬ (1 : Int) + (xs.length : Int) < 0 := by omega
      go_wp2_with fail
      refine (toScheme_any P B ts v _ hfit.n (HV.out.below Bc)).mono ?_
      rintro e wf ⟨⟨gf, rfl, uf⟩, bf⟩
      have Bf := chain Bc bf
      go_wp2_with fail
      refine (hi _ _ hfit uf.rd (HM.out.below Bf)).mono ?_
      rintro e wg ⟨⟨h0, rfl, jg⟩, bg⟩
      have Bg := chain Bf bg
      have ig := (ic.below bf).below bg
      have mg := (mc.below bf).below bg
      go_wp2_with fail
      refine (eqInts_yes _ _ xs _ _ _ (by omega) jg ig).mono ?_
      rintro e wh ⟨rfl, qh, rfl⟩
      go_wp2_with fail
      refine (held_any _ xs.length g0 1 _ (by omega) (by omega) (mg.drewN qh)).mono ?_
      rintro e wi ⟨rfl, rfl⟩
      go_wp2_with fail
      go_ret
      exact ⟨rfl, below_drewN Bg qh⟩
end Go.Proofs.YtbnbfohlpankcabDoor
