/-
  The laws of NeedlessClues and LeftByClues.
-/
import Derived.Test.YtakckgbkfnogbaaDoorPzInt
import Derived.Test.YtakckgbkfnogbaaDoorPzMark
namespace Go.Proofs.YtakckgbkfnogbaaDoor
open Go.RowKit Go.Deep
set_option maxRecDepth 100000

theorem box1_kept {w w1 : World} {x : Value} {T : TypeId} (b1 : Below (w.alloc (.cells #[x] T)).heap.size (w.alloc (.cells #[x] T)) w1) : w1.cell? ⟨w.heap.size, 0, none⟩ = some x ∧ w.heap.size < w1.heap.size :=
  ⟨(blk1 (box_at w _ b1)).1, box_lt w _ b1⟩
theorem keep1 {w w1 : World} {b : Nat} {x : Value} (h : b < w.heap.size) (c0 : w.cell? ⟨b, 0, none⟩ = some x) (k : Below w.heap.size w w1) : w1.cell? ⟨b, 0, none⟩ = some x ∧ b < w1.heap.size :=
  ⟨(k.cell (p := ⟨b, 0, none⟩) h).trans c0, by have := k.size; omega⟩

theorem gkeep {w w1 : World} {row : Option Nat} {b : Nat} {x : Value} (h : b < w.heap.size) (c0 : w.cell? ⟨b, 0, none⟩ = some x) (g : w.grownBy w1 row) (hne : row ≠ some b) : w1.cell? ⟨b, 0, none⟩ = some x ∧ b < w1.heap.size :=
  ⟨g.cell c0 (fun e => hne e.symm), by have := g.size; omega⟩
theorem Clu.rdv {B : Nat} {cs : List Cl} {v : Value} {w : World} (h : Clu B cs v w) : RdC cs v w := h.rd

set_option maxHeartbeats 16000000 in
theorem FnExactNeedlessClues_law (cs : List Cl) (v : Value) (hn : cs.length ≤ maxLen) (w : World) (h : RdC cs v w) :
    Calls Tryd.prog 9 #[.agg #[v]] w fun e w' => e = .returned (.bool true) ∧ Below w.heap.size w w' := by
  have hnm := hn
  unfold maxLen at hn
  have HV := Lib.hid h
  have hs1 : cs.length ≤ 1048576 → ∀ (ad : Addr) (n c : Nat) (W : World), RdC cs (.slice (some ad) n c) W → Calls Tryd.prog 31 #[.agg #[.slice (some ad) n c]] W fun e w' => (∃ u, e = .returned (.tuple #[u, .bool (pzB cs)]) ∧ Ints W.heap.size (ndP cs) u w') ∧ Below W.heap.size W w' := fun hn ad n c W hr => sNd_any cs ad n c W hn hr
  have hi1 : cs.length ≤ 1048576 → ∀ (ad : Addr) (n c : Nat) (W : World), RdC cs (.slice (some ad) n c) W → Calls Tryd.prog 32 #[.agg #[.slice (some ad) n c]] W fun e w' => (∃ u, e = .returned (.tuple #[u, .bool (pzB cs)]) ∧ Ints W.heap.size (ndP cs) u w') ∧ Below W.heap.size W w' := fun hn ad n c W hr => iNd_any cs ad n c W hn hr
  have hyl : (ndP cs).length ≤ 2000000 := ndP_len cs
  obtain ⟨ys, hys⟩ : ∃ ys : List Int, ndP cs = ys := ⟨_, rfl⟩
  obtain ⟨rb, hrb⟩ : ∃ rb : Bool, pzB cs = rb := ⟨_, rfl⟩
  rw [hys] at hs1 hi1 hyl
  rw [hrb] at hs1 hi1
  have HS := Lib.hid hs1
  have HI := Lib.hid hi1
  clear h hs1 hi1 hys hrb
  go_enter Tryd.func9, Tryd.ntmps9
  go_wp2_with (go_at_call 14; go_must ((with_reducible refine (szPuzzle_any cs v _ hnm (HV.out.below (by go_grown))).mono ?_); rintro e w1 ⟨⟨r, rfl, hr⟩, b1⟩; obtain ⟨c0, hz⟩ := box1_kept b1; by_cases hr0 : r < 0))
  all_goals go_wp2_with fail
  · go_ret
    exact ⟨rfl, chain (w := w) (by go_grown) b1⟩
  · have hN := hr (by omega)
    have HI' := Lib.hid (HI.out hN)
    have HS' := Lib.hid (HS.out hN)
    have B1 : Below w.heap.size w w1 := chain (w := w) (by go_grown) b1
    have A1 := HV.out.below B1
    clear hr b1
    refine (toPuzzle_any cs v _ hN A1).mono ?_
    rintro e w2 ⟨⟨g2, rfl, u2⟩, b2⟩
    obtain ⟨d0, dz⟩ := keep1 hz c0 b2
    have B2 := chain B1 b2
    go_wp2_with fail
    refine (HS'.out _ _ _ _ u2.rd).mono ?_
    rintro e w3 ⟨⟨v0, rfl, i3⟩, b3⟩
    obtain ⟨e0, ez⟩ := keep1 dz d0 b3
    have B3 := chain B2 b3
    have A3 := HV.out.below B3
    clear c0 d0 u2
    go_wp2_with fail
    refine (toPuzzle_any cs v _ hN A3).mono ?_
    rintro e w4 ⟨⟨g4, rfl, u4⟩, b4⟩
    obtain ⟨f0, fz⟩ := keep1 ez e0 b4
    have B4 := chain B3 b4
    have b45 : Below w4.heap.size w4 (w4.alloc (.cells #[.slice (some ⟨g4, 0, none⟩) cs.length cs.length] 38)) := (Below.refl _ _).alloc (Nat.le_refl _) _
    have u5 := u4.below b45
    have i5 := (i3.below b4).below b45
    have B5 : Below w.heap.size w (w4.alloc (.cells #[.slice (some ⟨g4, 0, none⟩) cs.length cs.length] 38)) := chain B4 b45
    have hg4 := u4.own_lt g4 rfl
    have hz4 : (w4.alloc (.cells #[.slice (some ⟨g4, 0, none⟩) cs.length cs.length] 38)).heap.size = w4.heap.size + 1 := World.size_alloc _ _
    have hs34 := b4.size
    have hs03 := B3.size
    go_wp2_with fail
    refine (HI'.out _ _ _ _ u5.rd).mono ?_
    rintro e w6 ⟨⟨g0, rfl, j6⟩, b6⟩
    obtain ⟨x0, xz⟩ := box1_kept b6
    obtain ⟨y0, yz⟩ := keep1 fz f0 (chain b45 b6)
    have B6 := chain B5 b6
    have u6 := u5.below b6
    have i6 := i5.below b6
    have hio : ∀ k, v0.ownBlock = some k → k < w3.heap.size := fun k hk => i3.own_lt k hk
    have hjo : ∀ k, g0.ownBlock = some k → (w4.alloc (.cells #[.slice (some ⟨g4, 0, none⟩) cs.length cs.length] 38)).heap.size ≤ k := fun k hk => (World.ownsRow.lt j6 k hk).1
    have HIO := Lib.hid hio
    have HJO := Lib.hid hjo
    clear e0 f0 u5 i5 i3 hio hjo
    go_wp2_with fail
    refine (eqInts_yes _ _ ys _ _ _ (by omega) j6 i6).mono ?_
    rintro e w7 ⟨rfl, q7, rfl⟩
    have B7 : Below w6.heap.size w6 (w6.drewN q7) := below_drewN (Below.refl _ _) q7
    have A7 := HV.out.below (chain B6 B7)
    go_wp2_with fail
    obtain ⟨w7, hw7⟩ : ∃ w7, w7 = w6.drewN q7 := ⟨_, rfl⟩
    rw [← hw7] at B7 A7 ⊢
    clear hw7
    obtain ⟨p0, pz⟩ := keep1 xz x0 B7
    obtain ⟨o0, oz⟩ := keep1 yz y0 B7
    go_region_with (first
      | (go_at_call 16; (with_reducible refine (toPuzzle_any cs v _ hN (A7.below (by go_grown))).mono ?_); rintro e w8 ⟨⟨g8, rfl, u8⟩, b8⟩; have B8 : Below w6.heap.size w6 w8 := chain B7 (chain (w := w7) (by go_grown) b8); obtain ⟨z0, zz⟩ := keep1 xz x0 B8)
      | (go_at_call 19; (with_reducible refine (eqPuzzle_yes cs _ _ _ hN (u6.rd.below B8) u8.rd).mono ?_); rintro e w9 ⟨rfl, b9⟩; have B9 : Below w6.heap.size w6 w9 := chain B8 b9))
    all_goals
      obtain ⟨z0, zz⟩ := keep1 xz x0 B9
      obtain ⟨k0, kz⟩ := keep1 yz y0 B9
      have B10 := chain B6 B9
      go_wp2_with fail
      refine (markPz_any _ cs _ _ hN (u6.below B9)).mono ?_
      rintro e wa ⟨rfl, _, m10⟩
      have Ba := B10.grown m10 B10.size (fun q hq => by simp only [Value.ownBlock, Option.some.injEq] at hq; omega)
      have ja : Ints _ ys g0 wa := World.ownsRow.kept (j6.below B9) m10 (by cases hv : g0.ownBlock with | none => exact .inl rfl | some k => exact .inr (fun e => by have := HJO.out k hv; simp only [Value.ownBlock, Option.some.injEq] at e; omega))
      have ia : Ints _ ys v0 wa := World.ownsRow.kept (i6.below B9) m10 (by cases hv : v0.ownBlock with | none => exact .inl rfl | some k => exact .inr (fun e => by have := HIO.out k hv; simp only [Value.ownBlock, Option.some.injEq] at e; omega))
      obtain ⟨l0, lz⟩ := gkeep kz k0 m10 (fun e => by simp only [Value.ownBlock, Option.some.injEq] at e; omega)
      have hsa := m10.size
      have hs9 := B9.size
      have hs6 := b6.size
      have hkn : ¬ (1 : Int) + 3 * (cs.length : Int) < 0 := by omega
      go_wp2_with fail
      refine (eqInts_yes _ _ ys _ _ _ (by omega) ja ia).mono ?_
      rintro e wb ⟨rfl, qb, rfl⟩
      go_wp2_with fail
      refine (mark_any _ ys g0 1 _ (by omega) (by omega) (ja.drewN qb)).mono ?_
      rintro e wc ⟨rfl, mc, bc⟩
      have Bc : Below w.heap.size w wc := (below_drewN Ba qb).trans (bc.mono (by omega))
      have hcz : w.heap.size < (w4.alloc (.cells #[.slice (some ⟨g4, 0, none⟩) cs.length cs.length] 38)).heap.size := by omega
      have n0 := (bc.cell (p := ⟨w.heap.size, 0, none⟩) hcz).trans l0
      have nz : w.heap.size < wc.heap.size := by have h9 := bc.size; have h8 : (wa.drewN qb).heap.size = wa.heap.size := rfl; omega
      have ic := (ia.drewN qb).apart (.inr (fun k hk => by have h7 := HIO.out k hk; omega)) bc
      go_wp2_with fail
      refine (held_any _ ys.length g0 1 _ (by omega) (by omega) mc).mono ?_
      rintro e wd ⟨rfl, rfl⟩
      have hkm : ¬ (1 : Int) + (ys.length : Int) < 0 := by omega
      go_wp2_with fail
      refine (toPuzzle_any cs v _ hN (HV.out.below Bc)).mono ?_
      rintro e wf ⟨⟨gf, rfl, uf⟩, bf⟩
      have Bf := chain Bc bf
      go_wp2_with fail
      refine (HI'.out _ _ _ _ uf.rd).mono ?_
      rintro e wg ⟨⟨h0, rfl, jg⟩, bg⟩
      have Bg := chain Bf bg
      have ig := (ic.below bf).below bg
      have mg := (mc.below bf).below bg
      go_wp2_with fail
      refine (eqInts_yes _ _ ys _ _ _ (by omega) jg ig).mono ?_
      rintro e wh ⟨rfl, qh, rfl⟩
      go_wp2_with fail
      refine (held_any _ ys.length g0 1 _ (by omega) (by omega) (mg.drewN qh)).mono ?_
      rintro e wi ⟨rfl, rfl⟩
      go_wp2_with fail
      go_ret
      exact ⟨rfl, below_drewN Bg qh⟩

set_option maxHeartbeats 16000000 in
theorem FnExactLeftByClues_law (cs : List Cl) (v : Value) (hn : cs.length ≤ maxLen) (w : World) (h : RdC cs v w) :
    Calls Tryd.prog 10 #[.agg #[v]] w fun e w' => e = .returned (.bool true) ∧ Below w.heap.size w w' := by
  have hnm := hn
  unfold maxLen at hn
  have HV := Lib.hid h
  have hs1 : cs.length ≤ 1048576 → ∀ (ad : Addr) (n c : Nat) (W : World), RdC cs (.slice (some ad) n c) W → Calls Tryd.prog 36 #[.agg #[.slice (some ad) n c]] W fun e w' => (∃ u, e = .returned (.tuple #[u, .bool (pzB cs)]) ∧ Ints W.heap.size (lfP cs) u w') ∧ Below W.heap.size W w' := fun hn ad n c W hr => sLf_any cs ad n c W hn hr
  have hi1 : cs.length ≤ 1048576 → ∀ (ad : Addr) (n c : Nat) (W : World), RdC cs (.slice (some ad) n c) W → Calls Tryd.prog 37 #[.agg #[.slice (some ad) n c]] W fun e w' => (∃ u, e = .returned (.tuple #[u, .bool (pzB cs)]) ∧ Ints W.heap.size (lfP cs) u w') ∧ Below W.heap.size W w' := fun hn ad n c W hr => iLf_any cs ad n c W hn hr
  have hyl : (lfP cs).length ≤ 2000000 := lfP_len cs
  obtain ⟨ys, hys⟩ : ∃ ys : List Int, lfP cs = ys := ⟨_, rfl⟩
  obtain ⟨rb, hrb⟩ : ∃ rb : Bool, pzB cs = rb := ⟨_, rfl⟩
  rw [hys] at hs1 hi1 hyl
  rw [hrb] at hs1 hi1
  have HS := Lib.hid hs1
  have HI := Lib.hid hi1
  clear h hs1 hi1 hys hrb
  go_enter Tryd.func10, Tryd.ntmps10
  go_wp2_with (go_at_call 14; go_must ((with_reducible refine (szPuzzle_any cs v _ hnm (HV.out.below (by go_grown))).mono ?_); rintro e w1 ⟨⟨r, rfl, hr⟩, b1⟩; obtain ⟨c0, hz⟩ := box1_kept b1; by_cases hr0 : r < 0))
  all_goals go_wp2_with fail
  · go_ret
    exact ⟨rfl, chain (w := w) (by go_grown) b1⟩
  · have hN := hr (by omega)
    have HI' := Lib.hid (HI.out hN)
    have HS' := Lib.hid (HS.out hN)
    have B1 : Below w.heap.size w w1 := chain (w := w) (by go_grown) b1
    have A1 := HV.out.below B1
    clear hr b1
    refine (toPuzzle_any cs v _ hN A1).mono ?_
    rintro e w2 ⟨⟨g2, rfl, u2⟩, b2⟩
    obtain ⟨d0, dz⟩ := keep1 hz c0 b2
    have B2 := chain B1 b2
    go_wp2_with fail
    refine (HS'.out _ _ _ _ u2.rd).mono ?_
    rintro e w3 ⟨⟨v0, rfl, i3⟩, b3⟩
    obtain ⟨e0, ez⟩ := keep1 dz d0 b3
    have B3 := chain B2 b3
    have A3 := HV.out.below B3
    clear c0 d0 u2
    go_wp2_with fail
    refine (toPuzzle_any cs v _ hN A3).mono ?_
    rintro e w4 ⟨⟨g4, rfl, u4⟩, b4⟩
    obtain ⟨f0, fz⟩ := keep1 ez e0 b4
    have B4 := chain B3 b4
    have b45 : Below w4.heap.size w4 (w4.alloc (.cells #[.slice (some ⟨g4, 0, none⟩) cs.length cs.length] 38)) := (Below.refl _ _).alloc (Nat.le_refl _) _
    have u5 := u4.below b45
    have i5 := (i3.below b4).below b45
    have B5 : Below w.heap.size w (w4.alloc (.cells #[.slice (some ⟨g4, 0, none⟩) cs.length cs.length] 38)) := chain B4 b45
    have hg4 := u4.own_lt g4 rfl
    have hz4 : (w4.alloc (.cells #[.slice (some ⟨g4, 0, none⟩) cs.length cs.length] 38)).heap.size = w4.heap.size + 1 := World.size_alloc _ _
    have hs34 := b4.size
    have hs03 := B3.size
    go_wp2_with fail
    refine (HI'.out _ _ _ _ u5.rd).mono ?_
    rintro e w6 ⟨⟨g0, rfl, j6⟩, b6⟩
    obtain ⟨x0, xz⟩ := box1_kept b6
    obtain ⟨y0, yz⟩ := keep1 fz f0 (chain b45 b6)
    have B6 := chain B5 b6
    have u6 := u5.below b6
    have i6 := i5.below b6
    have hio : ∀ k, v0.ownBlock = some k → k < w3.heap.size := fun k hk => i3.own_lt k hk
    have hjo : ∀ k, g0.ownBlock = some k → (w4.alloc (.cells #[.slice (some ⟨g4, 0, none⟩) cs.length cs.length] 38)).heap.size ≤ k := fun k hk => (World.ownsRow.lt j6 k hk).1
    have HIO := Lib.hid hio
    have HJO := Lib.hid hjo
    clear e0 f0 u5 i5 i3 hio hjo
    go_wp2_with fail
    refine (eqInts_yes _ _ ys _ _ _ (by omega) j6 i6).mono ?_
    rintro e w7 ⟨rfl, q7, rfl⟩
    have B7 : Below w6.heap.size w6 (w6.drewN q7) := below_drewN (Below.refl _ _) q7
    have A7 := HV.out.below (chain B6 B7)
    go_wp2_with fail
    obtain ⟨w7, hw7⟩ : ∃ w7, w7 = w6.drewN q7 := ⟨_, rfl⟩
    rw [← hw7] at B7 A7 ⊢
    clear hw7
    obtain ⟨p0, pz⟩ := keep1 xz x0 B7
    obtain ⟨o0, oz⟩ := keep1 yz y0 B7
    go_region_with (first
      | (go_at_call 16; (with_reducible refine (toPuzzle_any cs v _ hN (A7.below (by go_grown))).mono ?_); rintro e w8 ⟨⟨g8, rfl, u8⟩, b8⟩; have B8 : Below w6.heap.size w6 w8 := chain B7 (chain (w := w7) (by go_grown) b8); obtain ⟨z0, zz⟩ := keep1 xz x0 B8)
      | (go_at_call 19; (with_reducible refine (eqPuzzle_yes cs _ _ _ hN (u6.rd.below B8) u8.rd).mono ?_); rintro e w9 ⟨rfl, b9⟩; have B9 : Below w6.heap.size w6 w9 := chain B8 b9))
    all_goals
      obtain ⟨z0, zz⟩ := keep1 xz x0 B9
      obtain ⟨k0, kz⟩ := keep1 yz y0 B9
      have B10 := chain B6 B9
      go_wp2_with fail
      refine (markPz_any _ cs _ _ hN (u6.below B9)).mono ?_
      rintro e wa ⟨rfl, _, m10⟩
      have Ba := B10.grown m10 B10.size (fun q hq => by simp only [Value.ownBlock, Option.some.injEq] at hq; omega)
      have ja : Ints _ ys g0 wa := World.ownsRow.kept (j6.below B9) m10 (by cases hv : g0.ownBlock with | none => exact .inl rfl | some k => exact .inr (fun e => by have := HJO.out k hv; simp only [Value.ownBlock, Option.some.injEq] at e; omega))
      have ia : Ints _ ys v0 wa := World.ownsRow.kept (i6.below B9) m10 (by cases hv : v0.ownBlock with | none => exact .inl rfl | some k => exact .inr (fun e => by have := HIO.out k hv; simp only [Value.ownBlock, Option.some.injEq] at e; omega))
      obtain ⟨l0, lz⟩ := gkeep kz k0 m10 (fun e => by simp only [Value.ownBlock, Option.some.injEq] at e; omega)
      have hsa := m10.size
      have hs9 := B9.size
      have hs6 := b6.size
      have hkn : ¬ (1 : Int) + 3 * (cs.length : Int) < 0 := by omega
      go_wp2_with fail
      refine (eqInts_yes _ _ ys _ _ _ (by omega) ja ia).mono ?_
      rintro e wb ⟨rfl, qb, rfl⟩
      go_wp2_with fail
      refine (mark_any _ ys g0 1 _ (by omega) (by omega) (ja.drewN qb)).mono ?_
      rintro e wc ⟨rfl, mc, bc⟩
      have Bc : Below w.heap.size w wc := (below_drewN Ba qb).trans (bc.mono (by omega))
      have hcz : w.heap.size < (w4.alloc (.cells #[.slice (some ⟨g4, 0, none⟩) cs.length cs.length] 38)).heap.size := by omega
      have n0 := (bc.cell (p := ⟨w.heap.size, 0, none⟩) hcz).trans l0
      have nz : w.heap.size < wc.heap.size := by have h9 := bc.size; have h8 : (wa.drewN qb).heap.size = wa.heap.size := rfl; omega
      have ic := (ia.drewN qb).apart (.inr (fun k hk => by have h7 := HIO.out k hk; omega)) bc
      go_wp2_with fail
      refine (held_any _ ys.length g0 1 _ (by omega) (by omega) mc).mono ?_
      rintro e wd ⟨rfl, rfl⟩
      have hkm : ¬ (1 : Int) + (ys.length : Int) < 0 := by omega
      go_wp2_with fail
      refine (toPuzzle_any cs v _ hN (HV.out.below Bc)).mono ?_
      rintro e wf ⟨⟨gf, rfl, uf⟩, bf⟩
      have Bf := chain Bc bf
      go_wp2_with fail
      refine (HI'.out _ _ _ _ uf.rd).mono ?_
      rintro e wg ⟨⟨h0, rfl, jg⟩, bg⟩
      have Bg := chain Bf bg
      have ig := (ic.below bf).below bg
      have mg := (mc.below bf).below bg
      go_wp2_with fail
      refine (eqInts_yes _ _ ys _ _ _ (by omega) jg ig).mono ?_
      rintro e wh ⟨rfl, qh, rfl⟩
      go_wp2_with fail
      refine (held_any _ ys.length g0 1 _ (by omega) (by omega) (mg.drewN qh)).mono ?_
      rintro e wi ⟨rfl, rfl⟩
      go_wp2_with fail
      go_ret
      exact ⟨rfl, below_drewN Bg qh⟩

end Go.Proofs.YtakckgbkfnogbaaDoor
