/-
  The law of UntoldSingles: answers that are rows of numbers.
-/
import Derived.Test.YtdjcgddcgjbboaaDoorSlVi
import Derived.Test.YtdjcgddcgjbboaaDoorSlLawI
import Derived.Test.YtdjcgddcgjbboaaDoorSlMark
namespace Go.Proofs.YtdjcgddcgjbboaaDoor
open Go.RowKit Go.Deep

theorem RwsOf.keepOff {B : Nat} {ps : List Rw} {v : Value} {w w' : World} (h : RwsOf B ps v w) (hblk : ∀ g, B ≤ g → g < w.heap.size → w'.heap[g]? = w.heap[g]?) : RwsOf B ps v w' := by
  refine ⟨⟨h.own.1, ?_⟩, h.inj, h.base, h.off, fun i hi => ?_⟩
  · rcases h.own.2 with h0 | ⟨g, cap, cur, hv, hbg, hg, r⟩
    · exact .inl h0
    · refine .inr ⟨g, cap, cur, hv, hbg, ?_, r⟩
      rw [hblk g hbg (Array.getElem?_eq_some_iff.1 hg).1]; exact hg
  · have := h.blk i hi
    unfold Blk at *
    rw [hblk _ (h.base i hi) (h.row_lt i hi)]; exact this
theorem Ints.al {B : Nat} {xs : List Int} {v : Value} {w : World} (h : Ints B xs v w) (o : Obj) : Ints B xs v (w.alloc o) := h.below ((Below.refl _ _).alloc (Nat.le_refl _) o)
theorem rows_le {ps : List Rw} {ys : List (List Int)} (h : ps.map Prod.snd = ys) (hy : ys.length ≤ 1000000 ∧ ∀ r ∈ ys, r.length ≤ 1000) : ps.length ≤ 1000000 ∧ ∀ i (hi : i < ps.length), ps[i].2.length ≤ 1000 := by
  refine ⟨?_, fun i hi => hy.2 _ ?_⟩
  · rw [← h, List.length_map] at hy; exact hy.1
  · rw [← h]; exact List.mem_map.2 ⟨_, List.getElem_mem hi, rfl⟩
theorem usgA_le (xs : List Int) (m : Int) : (usgA xs m).length ≤ 1000000 ∧ ∀ r ∈ usgA xs m, r.length ≤ 1000 := by
  unfold usgA
  cases hb : chkB xs m with
  | false => exact ⟨by simp, fun r hr => by simp at hr⟩
  | true =>
    have h := ((chkB_iff _ _).1 hb).2.long
    simp only [if_true]
    exact ⟨Nat.le_trans (rwS_len xs m _) (by omega), fun r hr => by rw [rwS_wide xs m _ r hr]; omega⟩
set_option maxRecDepth 100000 in
set_option maxHeartbeats 8000000 in
theorem FnExactUntoldSingles_law (xs : List Int) (m : Int) (v : Value) (hn : xs.length ≤ maxLen) (_hm : (Lit.int .i64 m).wf = true) (w : World) (h : RdI xs v w) :
    Calls Tryd.prog 3 #[.agg #[v, .int .i64 m]] w fun e w' => e = .returned (.bool true) ∧ Below w.heap.size w w' := by
  have hnm := hn
  unfold maxLen at hn
  have HV := Lib.hid h
  have hs1 : xs.length ≤ 1048576 → ∀ u W, RdI xs u W → Calls Tryd.prog 9 #[.agg #[u, .int .i64 m]] W fun e w' => (∃ u, e = .returned (.tuple #[u, .bool (chkB xs m)]) ∧ SRw W.heap.size (usgA xs m) u w') ∧ Below W.heap.size W w' := fun hn u W hr => sUsg_any xs m u W hn hr
  have hi1 : xs.length ≤ 1048576 → ∀ u W, RdI xs u W → Calls Tryd.prog 11 #[.agg #[u, .int .i64 m]] W fun e w' => (∃ u, e = .returned (.tuple #[u, .bool (chkB xs m)]) ∧ Rws W.heap.size (usgA xs m) u w') ∧ Below W.heap.size W w' := fun hn u W hr => iUsg_any xs m u W hn hr
  have hyl : (usgA xs m).length ≤ 1000000 ∧ ∀ r ∈ (usgA xs m), r.length ≤ 1000 := usgA_le xs m
  obtain ⟨ys, hys⟩ : ∃ ys : List (List Int), ys = usgA xs m := ⟨_, rfl⟩
  obtain ⟨rb, hrb⟩ : ∃ rb : Bool, rb = (chkB xs m) := ⟨_, rfl⟩
  rw [← hys, ← hrb] at hs1 hi1
  rw [← hys] at hyl
  have HS := Lib.hid hs1
  have HI := Lib.hid hi1
  have HY := Lib.hid hyl
  clear h hs1 hi1 hys hrb hyl
  go_enter Tryd.func3, Tryd.ntmps3
  go_wp2_with (go_at_call 8; go_must ((with_reducible refine (szCheck_any xs m v _ hnm (HV.out.below (by go_grown))).mono ?_); rintro e w1 ⟨⟨r, rfl, hr⟩, b1⟩; obtain ⟨c0, c1, hz⟩ := box2_kept b1; by_cases hr0 : r < 0))
  all_goals go_wp2_with fail
  · go_ret
    exact ⟨rfl, chain (w := w) (by go_grown) b1⟩
  · have hN := hr (by omega)
    have HI' := Lib.hid (HI.out hN)
    have HS' := Lib.hid (HS.out hN)
    have B1 : Below w.heap.size w w1 := chain (w := w) (by go_grown) b1
    have A1 := HV.out.below B1
    clear hr b1
    refine (toCheck_any xs m v _ hN A1).mono ?_
    rintro e w2 ⟨⟨g2, rfl, u2⟩, b2⟩
    obtain ⟨d0, d1, dz⟩ := keep2 hz c0 c1 b2
    have B2 := chain B1 b2
    go_wp2_with fail
    refine (HS'.out _ _ u2.rd).mono ?_
    rintro e w3 ⟨⟨v0, rfl, i3⟩, b3⟩
    have I3 := Lib.hid i3
    obtain ⟨e0, e1, ez⟩ := keep2 dz d0 d1 b3
    have B3 := chain B2 b3
    have A3 := HV.out.below B3
    clear c0 c1 d0 d1 u2
    go_wp2_with fail
    refine (toCheck_any xs m v _ hN A3).mono ?_
    rintro e w4 ⟨⟨g4, rfl, u4⟩, b4⟩
    obtain ⟨f0, f1, fz⟩ := keep2 ez e0 e1 b4
    have B4 := chain B3 b4
    have u5 := Ints.al u4 (.cells #[.slice (some ⟨g4, 0, none⟩) xs.length xs.length, .int .i64 m] 29)
    have K5 : Below w3.heap.size w3 (w4.alloc (.cells #[.slice (some ⟨g4, 0, none⟩) xs.length xs.length, .int .i64 m] 29)) := b4.alloc b4.size _
    have B5 : Below w.heap.size w (w4.alloc (.cells #[.slice (some ⟨g4, 0, none⟩) xs.length xs.length, .int .i64 m] 29)) := B4.alloc B4.size _
    have hg4 := u4.baseLe
    go_wp2_with fail
    refine (HI'.out _ _ u5.rd).mono ?_
    rintro e w6 ⟨⟨g0, rfl, ps, hps, j6⟩, b6⟩
    have HP := Lib.hid hps
    obtain ⟨hN1, hW1⟩ := rows_le hps HY.out
    have HN1 := Lib.hid hN1
    have HW1 := Lib.hid hW1
    have htt : totR ps ≤ 1000000000 := Nat.le_trans (totR_le ps 1000 hW1) (Nat.mul_le_mul_right 1000 hN1)
    clear hps hN1 hW1
    obtain ⟨x0, x1, xz⟩ := box2_kept b6
    obtain ⟨y0, y1, yz⟩ := keep2 fz f0 f1 (chain (w := w4) (by go_grown) b6)
    have B6 := chain B5 b6
    have u6 := u5.below b6
    have K6 := chain K5 b6
    clear e0 e1 f0 f1 u5 i3
    go_wp2_with fail
    refine (eqSR_any _ _ ps ys _ _ _ HN1.out HW1.out HP.out j6 (I3.out.below K6)).mono ?_
    rintro e w7 ⟨rfl, q7, rfl⟩
    have B7 : Below w6.heap.size w6 (w6.drewN q7) := below_drewN (Below.refl _ _) q7
    have A7 := HV.out.below (chain B6 B7)
    go_wp2_with fail
    obtain ⟨w7, hw7⟩ : ∃ w7, w7 = w6.drewN q7 := ⟨_, rfl⟩
    rw [← hw7] at B7 A7 ⊢
    clear hw7
    obtain ⟨p0, p1, pz⟩ := keep2 xz x0 x1 B7
    obtain ⟨o0, o1, oz⟩ := keep2 yz y0 y1 B7
    go_region_with (first
      | (go_at_call 10; (with_reducible refine (toCheck_any xs m v _ hN (A7.below (by go_grown))).mono ?_); rintro e w8 ⟨⟨g8, rfl, u8⟩, b8⟩; have B8 : Below w6.heap.size w6 w8 := chain B7 (chain (w := w7) (by go_grown) b8); obtain ⟨z0, z1, zz⟩ := keep2 xz x0 x1 B8)
      | (go_at_call 13; (with_reducible refine (eqCheck_yes m _ _ xs _ _ _ hN (u6.below B8) u8).mono ?_); rintro e w9 ⟨rfl, b9⟩; have B9 : Below w6.heap.size w6 w9 := chain B8 b9))
    all_goals
      obtain ⟨z0, z1, zz⟩ := keep2 xz x0 x1 B9
      obtain ⟨k0, k1, kz⟩ := keep2 yz y0 y1 B9
      have B10 := chain B6 B9
      have hne : w4.heap.size ≠ g4 := by have := hg4.2; omega
      have hne2 : w.heap.size ≠ g4 := by have := hg4.1; have := B3.size; omega
      have hgl : g4 < (w4.alloc (.cells #[.slice (some ⟨g4, 0, none⟩) xs.length xs.length, .int .i64 m] 29)).heap.size := by rw [World.size_alloc]; have := hg4.2; omega
      have hgw : w.heap.size ≤ g4 := by have := hg4.1; have := B3.size; omega
      have hw4 : g4 < w4.heap.size := hg4.2
      go_wp2_with fail
      refine (markCheck_any m g4 xs.length xs.length xs _ rfl hN (u6.below B9).self).mono ?_
      rintro e wa ⟨rfl, _, m10⟩
      have Ba := m10.below B10 hgw B10.size
      have ja := (j6.below B9).keepOff (fun b h1 h2 => m10.block b h2 (fun e => by cases e; omega))
      have K9 := chain K6 B9
      have hg43 : w3.heap.size ≤ g4 := hg4.1
      have Ka := m10.below K9 hg43 K9.size
      have ia := I3.out.below Ka
      obtain ⟨l0, l1, lz⟩ := keep2B kz hne2 k0 k1 m10
      have hkn : ¬ (1 : Int) + (xs.length : Int) < 0 := by omega
      go_wp2_with fail
      refine (eqSR_any _ _ ps ys _ _ _ HN1.out HW1.out HP.out ja ia).mono ?_
      rintro e wb ⟨rfl, qb, rfl⟩
      go_wp2_with fail
      refine (markSS_any _ ps g0 _ HN1.out HW1.out (ja.drewN qb)).mono ?_
      rintro e wc ⟨rfl, mc, bc⟩
      have hmx : w.heap.size ≤ (w4.alloc (.cells #[.slice (some ⟨g4, 0, none⟩) xs.length xs.length, .int .i64 m] 29)).heap.size := B5.size
      have Bc : Below w.heap.size w wc := (below_drewN Ba qb).trans (bc.mono hmx)
      have hcz : w.heap.size < (w4.alloc (.cells #[.slice (some ⟨g4, 0, none⟩) xs.length xs.length, .int .i64 m] 29)).heap.size := by rw [World.size_alloc]; omega
      have n0 := (bc.cell (p := ⟨w.heap.size, 0, none⟩) hcz).trans l0
      have n1 := (bc.cell (p := ⟨w.heap.size, 1, none⟩) hcz).trans l1
      have nz : w.heap.size < wc.heap.size := by have h9 := bc.size; have h8 : (wa.drewN qb).heap.size = wa.heap.size := rfl; omega
      have Kc : Below w3.heap.size w3 wc := (below_drewN Ka qb).trans (bc.mono K5.size)
      go_wp2_with fail
      refine (heldSS_any _ ps g0 _ HN1.out HW1.out mc).mono ?_
      rintro e wd ⟨rfl, rfl⟩
      have hkm : ¬ (1 : Int) + (totR ps : Int) < 0 := by omega
      go_wp2_with fail
      refine (toCheck_any xs m v _ hN (HV.out.below Bc)).mono ?_
      rintro e wf ⟨⟨gf, rfl, uf⟩, bf⟩
      have Bf := chain Bc bf
      go_wp2_with fail
      refine (HI'.out _ _ uf.rd).mono ?_
      rintro e wg ⟨⟨h0, rfl, rs, hrs, jg⟩, bg⟩
      obtain ⟨hN2, hW2⟩ := rows_le hrs HY.out
      have Bg := chain Bf bg
      have ig := I3.out.below (chain (chain Kc bf) bg)
      have mg := (mc.below bf).below bg
      go_wp2_with fail
      refine (eqSR_any _ _ rs ys _ _ _ hN2 hW2 hrs jg ig).mono ?_
      rintro e wh ⟨rfl, qh, rfl⟩
      go_wp2_with fail
      refine (heldSS_any _ ps g0 _ HN1.out HW1.out (mg.drewN qh)).mono ?_
      rintro e wi ⟨rfl, rfl⟩
      go_wp2_with fail
      go_ret
      exact ⟨rfl, below_drewN Bg qh⟩
end Go.Proofs.YtdjcgddcgjbboaaDoor
