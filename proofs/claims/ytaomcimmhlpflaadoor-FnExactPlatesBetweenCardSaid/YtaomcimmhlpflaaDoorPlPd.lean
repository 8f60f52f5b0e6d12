/-
  How many plates lie between two: the program.
-/
import Derived.Test.YtaomcimmhlpflaaDoorPlPb
namespace Go.Proofs.YtaomcimmhlpflaaDoor
open Go.RowKit Go.Maps

set_option maxRecDepth 100000 in
set_option maxHeartbeats 4000000 in
theorem iBetween_any (P B s t : ByteArray) (ts : List (List UInt8)) (v : Value) (w : World) (hf : Fit P B ts) (hs0 : s.size ≤ 1048576) (ht0 : t.size ≤ 1048576) (h : Rd ts v w) (hmx : MaxIs w) :
    Calls Tryd.prog 27 #[.agg #[.string P, .string B, v], .string s, .string t] w fun e w' => e = .returned (.tuple #[.int .i64 (btF P.data.toList B.data.toList ts s t), .bool (btB P.data.toList B.data.toList ts s t)]) ∧ Below w.heap.size w w' := by
  have mixed : Tryd.prog.follows .mixedOrders = true := by kernel_rfl
  have late : Tryd.prog.follows .lateStores = true := by kernel_rfl
  have HI := Lib.hid (fun (b : Bool) (hb : schB P.data.toList B.data.toList ts = b) (W : World) (hW : Below w.heap.size w W) => iIsS_b P B ts v b W hf (h.below hW) hb)
  have HP := Lib.hid (fun (x : ByteArray) (hx : x.size ≤ 1048576) (b : Bool) (hs : schB P.data.toList B.data.toList ts = true) (hb : isP P.data.toList B.data.toList ts x.data.toList = b) (W : World) (hW : Below w.heap.size w W) => isPl_b P B x ts v b W hf (sch_facts hs).2.2.2.1 hx (h.below hW) (hmx.below hW) hb)
  have HN := Lib.hid (fun (hb : schB P.data.toList B.data.toList ts = true) (W : World) (hW : Below w.heap.size w W) => newWalk_any P B ts v W hb (h.below hW) (hmx.below hW))
  obtain ⟨a, cap, rfl, _⟩ := h
  obtain ⟨m, hm⟩ : ∃ m, m = ts.length := ⟨_, rfl⟩
  rw [← hm] at HI HN HP ⊢
  clear hmx hf hm
  cases h1 : schB P.data.toList B.data.toList ts with
  | false =>
    have H1 := Lib.hid h1
    have HE : Hid (btB P.data.toList B.data.toList ts s t = false) := by show _ = _; unfold btB rkB; rw [h1]; rfl
    clear h1
    go_enter Tryd.func27, Tryd.ntmps27
    go_wp2_with (go_at_call 38; (with_reducible refine (HI.out false H1.out _ (by go_grown)).mono ?_); rintro e w1 ⟨rfl, b1⟩; obtain ⟨c0, c1, c2, hz⟩ := box_kept b1; have B1 : Below w.heap.size w w1 := chain (w := w) (by go_grown) b1)
    go_ret2
    exact ⟨by unfold btF; rw [HE.out]; rfl, B1⟩
  | true =>
    have H1 := Lib.hid h1
    have HS := Lib.hid h1
    cases h2 : isP P.data.toList B.data.toList ts s.data.toList with
    | false =>
      have H2 := Lib.hid h2
      have HE : Hid (btB P.data.toList B.data.toList ts s t = false) := by show _ = _; unfold btB rkB; rw [h2]; simp
      clear h1 h2
      go_enter Tryd.func27, Tryd.ntmps27
      go_wp2_with (first | (go_at_call 38; (with_reducible refine (HI.out true H1.out _ (by go_grown)).mono ?_); rintro e w1 ⟨rfl, b1⟩; obtain ⟨c0, c1, c2, hz⟩ := box_kept b1; have B1 : Below w.heap.size w w1 := chain (w := w) (by go_grown) b1) | (go_at_call 49; (with_reducible refine (HP.out s hs0 false HS.out H2.out _ B1).mono ?_); rintro e w2 ⟨rfl, b2⟩; obtain ⟨d0, d1, d2, dz⟩ := keep3 hz c0 c1 c2 b2; have B2 := chain B1 b2))
      go_ret2
      exact ⟨by unfold btF; rw [HE.out]; rfl, B2⟩
    | true =>
      have H2 := Lib.hid h2
      cases h3 : isP P.data.toList B.data.toList ts t.data.toList with
      | false =>
        have H3 := Lib.hid h3
        have HE : Hid (btB P.data.toList B.data.toList ts s t = false) := by show _ = _; unfold btB rkB; rw [h3]; simp
        clear h1 h2 h3
        go_enter Tryd.func27, Tryd.ntmps27
        go_wp2_with (first | (go_at_call 38; (with_reducible refine (HI.out true H1.out _ (by go_grown)).mono ?_); rintro e w1 ⟨rfl, b1⟩; obtain ⟨c0, c1, c2, hz⟩ := box_kept b1; have B1 : Below w.heap.size w w1 := chain (w := w) (by go_grown) b1) | (go_at_call 49; (with_reducible refine (HP.out s hs0 true HS.out H2.out _ B1).mono ?_); rintro e w2 ⟨rfl, b2⟩; obtain ⟨d0, d1, d2, dz⟩ := keep3 hz c0 c1 c2 b2; have B2 := chain B1 b2) | (go_at_call 49; (with_reducible refine (HP.out t ht0 false HS.out H3.out _ B2).mono ?_); rintro e w3 ⟨rfl, b3⟩; obtain ⟨e0, e1, e2, ez⟩ := keep3 dz d0 d1 d2 b3; have B3 := chain B2 b3))
        go_ret2
        exact ⟨by unfold btF; rw [HE.out]; rfl, B3⟩
      | true =>
        have H3 := Lib.hid h3
        cases h4 : Op.bytesLess t.toList s.toList with
        | true =>
          have HE : Hid (btB P.data.toList B.data.toList ts s t = false) := by show _ = _; unfold btB; rw [h4]; simp
          clear h1 h2 h3
          go_enter Tryd.func27, Tryd.ntmps27
          go_wp2_with (first | (go_at_call 38; (with_reducible refine (HI.out true H1.out _ (by go_grown)).mono ?_); rintro e w1 ⟨rfl, b1⟩; obtain ⟨c0, c1, c2, hz⟩ := box_kept b1; have B1 : Below w.heap.size w w1 := chain (w := w) (by go_grown) b1) | (go_at_call 49; (with_reducible refine (HP.out s hs0 true HS.out H2.out _ B1).mono ?_); rintro e w2 ⟨rfl, b2⟩; obtain ⟨d0, d1, d2, dz⟩ := keep3 hz c0 c1 c2 b2; have B2 := chain B1 b2) | (go_at_call 49; (with_reducible refine (HP.out t ht0 true HS.out H3.out _ B2).mono ?_); rintro e w3 ⟨rfl, b3⟩; obtain ⟨e0, e1, e2, ez⟩ := keep3 dz d0 d1 d2 b3; have B3 := chain B2 b3))
          go_ret2
          exact ⟨by unfold btF; rw [HE.out]; rfl, B3⟩
        | false =>
          have hr1 : rkB P.data.toList B.data.toList ts s.data.toList = true := by unfold rkB; rw [h1, h2]; rfl
          have hr2 : rkB P.data.toList B.data.toList ts t.data.toList = true := by unfold rkB; rw [h1, h3]; rfl
          have HE : Hid (btB P.data.toList B.data.toList ts s t = true) := by show _ = _; unfold btB; rw [hr1, hr2, h4]; rfl
          obtain ⟨x, hx⟩ : ∃ x, x = rkF P.data.toList B.data.toList ts s.data.toList := ⟨_, rfl⟩
          obtain ⟨y, hy⟩ : ∃ y, y = rkF P.data.toList B.data.toList ts t.data.toList := ⟨_, rfl⟩
          have hx1 : x ≤ 208827064576 := by rw [hx]; exact rkF_le hr1
          have hy1 : y ≤ 208827064576 := by rw [hy]; exact rkF_le hr2
          have HX : Hid (rkU ts (rowsF P.data.toList B.data.toList 0) [] s.data.toList = x) := by show _ = _; rw [hx]; unfold rkF; rw [if_pos hr1]
          have HY : Hid (rkU ts (rowsF P.data.toList B.data.toList 0) [] t.data.toList = y) := by show _ = _; rw [hy]; unfold rkF; rw [if_pos hr2]
          have HF : Hid (btF P.data.toList B.data.toList ts s t = if (y : Int) - (x : Int) - 1 < 0 then 0 else (y : Int) - (x : Int) - 1) := by show _ = _; unfold btF; rw [if_pos HE.out]; unfold btD; rw [← hx, ← hy]
          have hw1 : IntKind.i64.wrap ((y : Int) - (x : Int)) = (y : Int) - (x : Int) := IntWalk.i64_in _ (by omega)
          have hw2 : IntKind.i64.wrap ((y : Int) - (x : Int) - 1) = (y : Int) - (x : Int) - 1 := IntWalk.i64_in _ (by omega)
          have h8 : P.size ≤ 8 := (sch_facts h1).1
          obtain ⟨n, hn⟩ : ∃ n, n = P.size := ⟨_, rfl⟩
          have HPN : Hid (P.data.toList.length = n) := by show _ = _; rw [hn]; simp
          rw [← hn] at HN h8
          clear h1 h2 h3 hx hy hr1 hr2 hn
          go_enter Tryd.func27, Tryd.ntmps27
          go_wp2_with (first
            | (go_at_call 38; (with_reducible refine (HI.out true H1.out _ (by go_grown)).mono ?_); rintro e w1 ⟨rfl, b1⟩; obtain ⟨c0, c1, c2, hz⟩ := box_kept b1; have B1 : Below w.heap.size w w1 := chain (w := w) (by go_grown) b1)
            | (go_at_call 49; (with_reducible refine (HP.out s hs0 true HS.out H2.out _ B1).mono ?_); rintro e w2 ⟨rfl, b2⟩; obtain ⟨d0, d1, d2, dz⟩ := keep3 hz c0 c1 c2 b2; have B2 := chain B1 b2)
            | (go_at_call 49; (with_reducible refine (HP.out t ht0 true HS.out H3.out _ B2).mono ?_); rintro e w3 ⟨rfl, b3⟩; obtain ⟨e0, e1, e2, ez⟩ := keep3 dz d0 d1 d2 b3; have B3 := chain B2 b3)
            | (go_at_call 50; (with_reducible refine (HN.out H1.out _ B3).mono ?_); rintro e w4 ⟨⟨L, va, vc, bm, N, ga, gc, g, rfl, hk⟩, b4⟩; have B4 := chain B3 b4; have HK := Lib.hid hk; clear hk))
          obtain ⟨W, hWd⟩ : ∃ W, W = w4.alloc (.cells #[.slice va L.length vc, .map (some bm), .slice ga n gc, .slice (some ⟨g, 0, none⟩) (n + 1) (n + 1), .int .i64 0, .string ⟨#[]⟩, .bool false] 60) := ⟨_, rfl⟩
          have hq : W.heap[w4.heap.size]? = some (.cells #[.slice va L.length vc, .map (some bm), .slice ga n gc, .slice (some ⟨g, 0, none⟩) (n + 1) (n + 1), .int .i64 0, .string ⟨#[]⟩, .bool false] 60 (0, 0)) := by rw [hWd]; exact heap_alloc_last w4 _
          have hbw : Below w4.heap.size w4 W := by rw [hWd]; exact (Below.refl _ _).alloc (Nat.le_refl _) _
          rw [← hWd]
          obtain ⟨b0, hb0⟩ : ∃ b0, b0 = w4.heap.size := ⟨_, rfl⟩
          rw [← hb0] at hq ⊢
          have HQ := Lib.hid hq
          have HWR := Lib.hid (fun (x : ByteArray) (hx : isP P.data.toList B.data.toList ts x.data.toList = true) (W' : World) (hW' : Below w4.heap.size w4 W') => walk_rank HPN.out h8 HK.out hx W' hW')
          obtain ⟨m0, m1, m2, m3, m4, m5, m6, mf, ms⟩ := blk7 hq
          clear hWd hq hb0
          have HBW := Lib.hid hbw
          clear hbw
          go_region_with (first
            | (go_at_call 51; (with_reducible refine (HWR.out t H3.out _ (HBW.out.trans ((show Below W.heap.size W _ by go_grown).mono HBW.out.size))).mono ?_); rw [HY.out]; rintro e w5 ⟨rfl, b5⟩; have B5 : Below W.heap.size W w5 := chain (w := W) (by go_grown) b5; have hh5 := heapk HQ.out B5; obtain ⟨n0, n1, n2, n3, n4, n5, n6, nf, ns⟩ := blk7 hh5)
            | (go_at_call 51; (with_reducible refine (HWR.out s H2.out _ (HBW.out.trans (B5.mono HBW.out.size))).mono ?_); rw [HX.out]; rintro e w6 ⟨rfl, b6⟩; have B6 : Below W.heap.size W w6 := chain B5 b6))
          all_goals go_wp2
          all_goals
            go_ret2
            refine ⟨?_, (B4.trans (HBW.out.mono B4.size)).trans (B6.mono (by have h1 := HBW.out.size; have h2 := B4.size; omega))⟩
            have hmax : max 0 ((y : Int) - (x : Int) - 1) = if (y : Int) - (x : Int) - 1 < 0 then 0 else (y : Int) - (x : Int) - 1 := by split <;> omega
            exact (show _ = Ending.returned (Value.tuple #[.int .i64 (max 0 ((y : Int) - (x : Int) - 1)), .bool true]) from rfl).trans (by rw [hmax, HF.out, HE.out])
end Go.Proofs.YtaomcimmhlpflaaDoor
