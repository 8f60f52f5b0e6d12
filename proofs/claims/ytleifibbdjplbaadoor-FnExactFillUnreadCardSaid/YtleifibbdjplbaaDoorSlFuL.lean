/-
  The law of FillUnread.
-/
import Derived.Test.YtleifibbdjplbaaDoorSlFuS
namespace Go.Proofs.YtleifibbdjplbaaDoor
open Go.RowKit

set_option maxRecDepth 100000 in
set_option maxHeartbeats 8000000 in
theorem FnExactFillUnread_law (xs : List Int) (m : Int) (v : Value) (hn : xs.length ≤ maxLen) (_hm : (Lit.int .i64 m).wf = true) (s : ByteArray) (hs : s.size ≤ maxLen) (w : World) (h : RdI xs v w) :
    Calls Tryd.prog 7 #[.agg #[v, .int .i64 m], .string s] w fun e w' => e = .returned (.bool true) ∧ Below w.heap.size w w' := by
  have hnm := hn
  unfold maxLen at hn
  have HV := Lib.hid h
  have hs1 : xs.length ≤ 1048576 → ∀ u W, RdI xs u W → Calls Tryd.prog 24 #[.agg #[u, .int .i64 m], .string s] W fun e w' => (∃ u, e = .returned (.tuple #[u, .bool (fuO xs m s.data.toList)]) ∧ Ints W.heap.size (fuL xs m s.data.toList) u w') ∧ Below W.heap.size W w' := fun hn u W hr => sFu_any xs m s u W hn hs hr
  have hi1 : xs.length ≤ 1048576 → ∀ u W, RdI xs u W → Calls Tryd.prog 25 #[.agg #[u, .int .i64 m], .string s] W fun e w' => (∃ u, e = .returned (.tuple #[u, .bool (fuO xs m s.data.toList)]) ∧ Ints W.heap.size (fuL xs m s.data.toList) u w') ∧ Below W.heap.size W w' := fun hn u W hr => iFu_any xs m s u W hn hs hr
  have hyl : (fuL xs m s.data.toList).length ≤ 2000000 := fuL_len _ _ _
  obtain ⟨ys, hys⟩ : ∃ ys : List Int, ys = fuL xs m s.data.toList := ⟨_, rfl⟩
  obtain ⟨rb, hrb⟩ : ∃ rb : Bool, rb = (fuO xs m s.data.toList) := ⟨_, rfl⟩
  rw [← hys, ← hrb] at hs1 hi1
  rw [← hys] at hyl
  have HS := Lib.hid hs1
  have HI := Lib.hid hi1
  clear h hs1 hi1 hys hrb
  have hs' := hs
  unfold maxLen at hs'
  by_cases hbs : (s.size : Int) ≤ 1048576
  case neg =>
    go_enter Tryd.func7, Tryd.ntmps7
    go_wp2
    go_ret
    exact ⟨rfl, by first | exact Below.refl _ _ | exact (Below.refl _ _).alloc (Nat.le_refl _) _⟩
  go_enter Tryd.func7, Tryd.ntmps7
  go_wp2_with (go_at_call 9; go_must ((with_reducible refine (szCheck_any xs m v _ hnm (HV.out.below (by go_grown))).mono ?_); rintro e w1 ⟨⟨r, rfl, hr⟩, b1⟩; obtain ⟨c0, c1, hz⟩ := box2_kept b1; by_cases hr0 : r < 0))
  all_goals go_wp2_with fail
  · go_ret
    exact ⟨rfl, chain (w := w) (by go_grown) b1⟩
  · have hN := hr (by omega)
    have HI' := Lib.hid (HI.out hN)
    have HS' := Lib.hid (HS.out hN)
    have B1 : Below w.heap.size w w1 := chain (w := w) (by go_grown) b1
    have A1 := HV.out.below B1
    clear hr b1
    refine (toCheck_any xs m v _ hN A1).mono ?_
    rintro e w2 ⟨⟨g2, rfl, u2⟩, b2⟩
    obtain ⟨d0, d1, dz⟩ := keep2 hz c0 c1 b2
    have B2 := chain B1 b2
    go_wp2_with fail
    refine (HS'.out _ _ u2.rd).mono ?_
    rintro e w3 ⟨⟨v0, rfl, i3⟩, b3⟩
    have i3' := i3
    obtain ⟨e0, e1, ez⟩ := keep2 dz d0 d1 b3
    have B3 := chain B2 b3
    have A3 := HV.out.below B3
    clear c0 c1 d0 d1 u2
    go_wp2_with fail
    refine (toCheck_any xs m v _ hN A3).mono ?_
    rintro e w4 ⟨⟨g4, rfl, u4⟩, b4⟩
    obtain ⟨f0, f1, fz⟩ := keep2 ez e0 e1 b4
    have B4 := chain B3 b4
    have u5 := u4.alloc (.cells #[.slice (some ⟨g4, 0, none⟩) xs.length xs.length, .int .i64 m] 28)
    have i5 := (i3.below b4).alloc (.cells #[.slice (some ⟨g4, 0, none⟩) xs.length xs.length, .int .i64 m] 28)
    have B5 : Below w.heap.size w (w4.alloc (.cells #[.slice (some ⟨g4, 0, none⟩) xs.length xs.length, .int .i64 m] 28)) := B4.alloc B4.size _
    have hg4 := u4.baseLe
    go_wp2_with fail
    refine (HI'.out _ _ u5.rd).mono ?_
    rintro e w6 ⟨⟨g0, rfl, j6⟩, b6⟩
    obtain ⟨x0, x1, xz⟩ := box2_kept b6
    obtain ⟨y0, y1, yz⟩ := keep2 fz f0 f1 (chain (w := w4) (by go_grown) b6)
    have B6 := chain B5 b6
    have u6 := u5.below b6
    have i6 := i5.below b6
    clear e0 e1 f0 f1 u5 i5 i3
    go_wp2_with fail
    refine (eqInts_yes _ _ ys _ _ _ (by omega) j6 i6).mono ?_
    rintro e w7 ⟨rfl, q7, rfl⟩
    have B7 : Below w6.heap.size w6 (w6.drewN q7) := below_drewN (Below.refl _ _) q7
    have A7 := HV.out.below (chain B6 B7)
    go_wp2_with fail
    obtain ⟨w7, hw7⟩ : ∃ w7, w7 = w6.drewN q7 := ⟨_, rfl⟩
    rw [← hw7] at B7 A7 ⊢
    clear hw7
    obtain ⟨p0, p1, pz⟩ := keep2 xz x0 x1 B7
    obtain ⟨o0, o1, oz⟩ := keep2 yz y0 y1 B7
    go_region_with (first
      | (go_at_call 11; (with_reducible refine (toCheck_any xs m v _ hN (A7.below (by go_grown))).mono ?_); rintro e w8 ⟨⟨g8, rfl, u8⟩, b8⟩; have B8 : Below w6.heap.size w6 w8 := chain B7 (chain (w := w7) (by go_grown) b8); obtain ⟨z0, z1, zz⟩ := keep2 xz x0 x1 B8)
      | (go_at_call 13; (with_reducible refine (eqCheck_yes m _ _ xs _ _ _ hN (u6.below B8) u8).mono ?_); rintro e w9 ⟨rfl, b9⟩; have B9 : Below w6.heap.size w6 w9 := chain B8 b9))
    all_goals
      obtain ⟨z0, z1, zz⟩ := keep2 xz x0 x1 B9
      obtain ⟨k0, k1, kz⟩ := keep2 yz y0 y1 B9
      have B10 := chain B6 B9
      have hne : w4.heap.size ≠ g4 := by have := hg4.2; omega
      have hne2 : w.heap.size ≠ g4 := by have := hg4.1; have := B3.size; omega
      have hgl : g4 < (w4.alloc (.cells #[.slice (some ⟨g4, 0, none⟩) xs.length xs.length, .int .i64 m] 28)).heap.size := by rw [World.size_alloc]; have := hg4.2; omega
      have hgw : w.heap.size ≤ g4 := by have := hg4.1; have := B3.size; omega
      have hw4 : g4 < w4.heap.size := hg4.2
      go_wp2_with fail
      refine (markCheck_any m g4 xs.length xs.length xs _ rfl hN (u6.below B9).self).mono ?_
      rintro e wa ⟨rfl, _, m10⟩
      have Ba := m10.below B10 hgw B10.size
      have ja := m10.ints (j6.below B9) hgl
      have ia : Ints w2.heap.size ys v0 wa := by
        have h1 := (i6.below B9)
        refine ⟨h1.1, ?_⟩
        rcases h1.2 with h0 | ⟨g', cap', cur, hv, hb, hg, r⟩
        · exact .inl h0
        · refine .inr ⟨g', cap', cur, hv, hb, ?_, r⟩
          have hlt3 : g' < w3.heap.size := by
            rcases i3'.2 with h0 | ⟨g'', cap'', cur'', hv'', _, hg'', _⟩
            · rw [hv] at h0; cases h0.1
            · rw [hv] at hv''; cases hv''; exact (Array.getElem?_eq_some_iff.1 hg'').1
          rw [m10.block g' (Array.getElem?_eq_some_iff.1 hg).1 (fun e => by cases e; have := hg4.1; omega)]
          exact hg
      obtain ⟨l0, l1, lz⟩ := keep2B kz hne2 k0 k1 m10
      have hkn : ¬ (1 : Int) + (xs.length : Int) < 0 := by omega
      go_wp2_with fail
      refine (eqInts_yes _ _ ys _ _ _ (by omega) ja ia).mono ?_
      rintro e wb ⟨rfl, qb, rfl⟩
      go_wp2_with fail
      refine (mark_any _ ys g0 1 _ (by omega) (by omega) (ja.drewN qb)).mono ?_
      rintro e wc ⟨rfl, mc, bc⟩
      have hmx : w.heap.size ≤ (w4.alloc (.cells #[.slice (some ⟨g4, 0, none⟩) xs.length xs.length, .int .i64 m] 28)).heap.size := B5.size
      have Bc : Below w.heap.size w wc := (below_drewN Ba qb).trans (bc.mono hmx)
      have hcz : w.heap.size < (w4.alloc (.cells #[.slice (some ⟨g4, 0, none⟩) xs.length xs.length, .int .i64 m] 28)).heap.size := by rw [World.size_alloc]; omega
      have n0 := (bc.cell (p := ⟨w.heap.size, 0, none⟩) hcz).trans l0
      have n1 := (bc.cell (p := ⟨w.heap.size, 1, none⟩) hcz).trans l1
      have nz : w.heap.size < wc.heap.size := by have h9 := bc.size; have h8 : (wa.drewN qb).heap.size = wa.heap.size := rfl; omega
      have ic : Ints w2.heap.size ys v0 wc := (ia.drewN qb).apart (.inr (fun k hk => by have h7 := i3'.own_lt k hk; have h6 := b4.size; rw [World.size_alloc]; omega)) bc
      go_wp2_with fail
      refine (held_any _ ys.length g0 1 _ (by omega) (by omega) mc).mono ?_
      rintro e wd ⟨rfl, rfl⟩
      have hkm : ¬ (1 : Int) + (ys.length : Int) < 0 := by omega
      go_wp2_with fail
      refine (toCheck_any xs m v _ hN (HV.out.below Bc)).mono ?_
      rintro e wf ⟨⟨gf, rfl, uf⟩, bf⟩
      have Bf := chain Bc bf
      go_wp2_with fail
      refine (HI'.out _ _ uf.rd).mono ?_
      rintro e wg ⟨⟨h0, rfl, jg⟩, bg⟩
      have Bg := chain Bf bg
      have ig := (ic.below bf).below bg
      have mg := (mc.below bf).below bg
      go_wp2_with fail
      refine (eqInts_yes _ _ ys _ _ _ (by omega) jg ig).mono ?_
      rintro e wh ⟨rfl, qh, rfl⟩
      go_wp2_with fail
      refine (held_any _ ys.length g0 1 _ (by omega) (by omega) (mg.drewN qh)).mono ?_
      rintro e wi ⟨rfl, rfl⟩
      go_wp2_with fail
      go_ret
      exact ⟨rfl, below_drewN Bg qh⟩
end Go.Proofs.YtleifibbdjplbaaDoor
