/-
  The law of AddWord.
-/
import Derived.Test.YtbnbfohlpankcabDoorPlAw
import Derived.Test.YtbnbfohlpankcabDoorPlMark
import Derived.Test.YtbnbfohlpankcabDoorPlEq
import Derived.Deep.RegionHeld3
namespace Go.Proofs.YtbnbfohlpankcabDoor
open Go.RowKit

theorem But.strs {g : Nat} {w w' : World} (h : But g w w') {C : Nat} {xs : List (List UInt8)} {v : Value} (hs : Strs C xs v w) (hC : ∀ k, v.ownBlock = some k → k ≠ g) : Strs C xs v w' := by
  refine ⟨hs.1, ?_⟩
  rcases hs.2 with h0 | ⟨g', cap', cur, hv, hb, hg, r⟩
  · exact .inl h0
  · refine .inr ⟨g', cap', cur, hv, hb, ?_, r⟩
    rw [h.block g' (Array.getElem?_eq_some_iff.1 hg).1 (fun e => hC g' (by rw [hv]; rfl) (by cases e; rfl))]
    exact hg
theorem markR_any (P B : ByteArray) (E : Nat) (ts : List (List UInt8)) (v : Value) (w : World) (hn : ts.length ≤ 1000) (h1 : Strs E ts v w) (hE : E ≤ w.heap.size) :
    Calls Tryd.prog 19 #[.agg #[.string P, .string B, v], .int .i64 1] w fun e w' => e = .returned (.int .i64 (1 + (ts.length : Int))) ∧ Strs E (smarks 1 ts.length) v w' ∧ Below E w w' := by
  have H1 := Lib.hid h1
  clear h1
  have hb : Below w.heap.size w (w.alloc (.cells #[.string P, .string B, v] 27)) := (Below.refl _ _).alloc (Nat.le_refl _) _
  have hc := smark_any E ts v 1 _ (by omega) (by omega) (H1.out.below hb) (by rw [World.size_alloc]; omega)
  rw [show ((1 : Nat) : Int) = 1 from rfl] at hc
  go_enter Tryd.func19, Tryd.ntmps19
  go_wp2_with (go_at_call 45; go_must ((with_reducible refine hc.mono ?_); rintro e w1 ⟨rfl, hs1, hb1⟩))
  go_ret
  exact ⟨rfl, hs1, ((Below.refl E w).alloc hE _).trans hb1⟩
theorem markRB_any (P B : ByteArray) (E g : Nat) (ts : List (List UInt8)) (v : Value) (w : World) (hn : ts.length ≤ 1000) (h1 : Strs E ts v w) (_hE : E ≤ w.heap.size) (hg : ∀ k, v.ownBlock = some k → k = g) :
    Calls Tryd.prog 19 #[.agg #[.string P, .string B, v], .int .i64 1] w fun e w' => e = .returned (.int .i64 (1 + (ts.length : Int))) ∧ Strs E (smarks 1 ts.length) v w' ∧ But g w w' := by
  rcases h1.2 with ⟨hv, h0⟩ | ⟨g', cap, cur, hv, hb, hgg, r⟩
  · have hts : ts = [] := List.eq_nil_of_length_eq_zero h0
    subst hts
    subst hv
    refine (markR_any P B w.heap.size [] (.slice none 0 0) w (by simp) (World.ownsRow_nil _ _ _ _) (Nat.le_refl _)).mono ?_
    rintro e w' ⟨he, _, hb⟩
    exact ⟨he, World.ownsRow_nil _ _ _ _, But.of hb⟩
  · subst hv
    obtain rfl : g' = g := hg g' rfl
    refine (markScheme_any P B g' ts.length cap ts w rfl (by omega) h1.self).mono ?_
    rintro e w' ⟨he, hs, hb⟩
    exact ⟨he, hs.mono h1.baseLe.1, hb⟩
theorem heldR_any (P B : ByteArray) (E n : Nat) (v : Value) (w : World) (hn : n ≤ 1000) (h1 : Strs E (smarks 1 n) v w) :
    Calls Tryd.prog 20 #[.agg #[.string P, .string B, v], .int .i64 1] w fun e w' => e = .returned (.int .i64 (1 + (n : Int))) ∧ Below w.heap.size w w' := by
  have H1 := Lib.hid h1
  clear h1
  have hb : Below w.heap.size w (w.alloc (.cells #[.string P, .string B, v] 27)) := (Below.refl _ _).alloc (Nat.le_refl _) _
  have hc := sheld_any E n v 1 _ hn (by omega) (H1.out.below hb)
  have hng : ¬ (1 : Int) + (n : Int) < 0 := by omega
  rw [show ((1 : Nat) : Int) = 1 from rfl] at hc
  go_enter Tryd.func20, Tryd.ntmps20
  go_wp2_with (go_at_call 46; go_must ((with_reducible refine hc.mono ?_); rintro e w1 ⟨rfl, hb1⟩))
  go_ret
  exact ⟨rfl, chain hb hb1⟩
theorem awT_len (P B : ByteArray) (ts : List (List UInt8)) (s : ByteArray) : (awT (awB P B ts s) (ts ++ [s.data.toList])).length ≤ 4 := by
  unfold awT
  split
  · rename_i h
    unfold awB at h
    simp only [Bool.and_eq_true] at h
    have := sch_three' h.1
    simp; omega
  · simp
set_option maxRecDepth 100000 in
set_option maxHeartbeats 8000000 in
theorem FnExactAddWord_law (P B : ByteArray) (ts : List (List UInt8)) (v : Value) (hP : P.size ≤ maxLen) (hB : B.size ≤ maxLen) (hn : ts.length ≤ maxLen) (ht : ∀ i, i < ts.length → (ts.getD i []).length ≤ maxLen) (s1 : ByteArray) (hs1 : s1.size ≤ maxLen) (w : World) (h : Rd ts v w) :
    Calls Tryd.prog 5 #[.agg #[.string P, .string B, v], .string s1] w fun e w' => e = .returned (.bool true) ∧ Below w.heap.size w w' := by
  have HV := Lib.hid h
  have HT := Lib.hid ht
  clear h ht
  unfold maxLen at hs1
  by_cases hz1 : s1.size ≤ 1048576
  rotate_left
  · go_enter Tryd.func5, Tryd.ntmps5
    go_wp2_with fail
    go_ret
    exact ⟨rfl, by go_grown⟩
  obtain ⟨rP, hrP⟩ : ∃ r, r = awP (awB P B ts s1) P := ⟨_, rfl⟩
  obtain ⟨rB, hrB⟩ : ∃ r, r = awP (awB P B ts s1) B := ⟨_, rfl⟩
  obtain ⟨us, hus⟩ : ∃ us, us = awT (awB P B ts s1) (ts ++ [s1.data.toList]) := ⟨_, rfl⟩
  obtain ⟨r, hr1⟩ : ∃ r, r = awB P B ts s1 := ⟨_, rfl⟩
  have hul : us.length ≤ 4 := by rw [hus]; exact awT_len _ _ _ _
  have hs : ∀ (g c E : Nat) (W : World), Fit P B ts → Strs E ts (.slice (some ⟨g, 0, none⟩) ts.length c) W → Calls Tryd.prog 17 #[.agg #[.string P, .string B, .slice (some ⟨g, 0, none⟩) ts.length c], .string s1] W fun e w' => (∃ a cap, e = .returned (.tuple #[.agg #[.string rP, .string rB, .slice a us.length cap], .bool r]) ∧ Strs W.heap.size us (.slice a us.length cap) w') ∧ Below W.heap.size W w' := by
    intro g c E W hf hr
    rw [hrP, hrB, hus, hr1]
    exact sAddWord_any P B ts s1 g c E W hf hz1 hr
  have hi : ∀ (g c E : Nat) (W : World), Fit P B ts → Strs E ts (.slice (some ⟨g, 0, none⟩) ts.length c) W → Calls Tryd.prog 18 #[.agg #[.string P, .string B, .slice (some ⟨g, 0, none⟩) ts.length c], .string s1] W fun e w' => (∃ a cap, e = .returned (.tuple #[.agg #[.string rP, .string rB, .slice a us.length cap], .bool r]) ∧ Strs W.heap.size us (.slice a us.length cap) w') ∧ Below W.heap.size W w' := by
    intro g c E W hf hr
    rw [hrP, hrB, hus, hr1]
    exact iAddWord_any P B ts s1 g c E W hf hz1 hr
  clear hrP hrB hus hr1
  go_enter Tryd.func5, Tryd.ntmps5
  go_wp2_with (go_at_call 10; go_must ((with_reducible refine (szScheme_any P B ts v _ hP hB hn HT.out (HV.out.below (by go_grown))).mono ?_); rintro e w1 ⟨⟨r, rfl, hr⟩, b1⟩; obtain ⟨c0, c1, c2, hz⟩ := box_kept b1; by_cases hr0 : r < 0))
  all_goals go_wp2_with fail
  · go_ret
    exact ⟨rfl, chain (w := w) (by go_grown) b1⟩
  · have hfit := hr hr0
    have B1 : Below w.heap.size w w1 := chain (w := w) (by go_grown) b1
    have A1 := HV.out.below B1
    clear hr b1
    refine (toScheme_any P B ts v _ hfit.n A1).mono ?_
    rintro e w2 ⟨⟨g2, rfl, u2⟩, b2⟩
    obtain ⟨d0, d1, d2, dz⟩ := keep3 hz c0 c1 c2 b2
    have B2 := chain B1 b2
    go_wp2_with fail
    refine (hs _ _ _ _ hfit u2).mono ?_
    rintro e w3 ⟨⟨a0, p0, rfl, i3⟩, b3⟩
    obtain ⟨e0, e1, e2, ez⟩ := keep3 dz d0 d1 d2 b3
    have B3 := chain B2 b3
    clear c0 c1 c2 d0 d1 d2 u2
    have i3' := i3.alloc (.cells #[.string rP, .string rB, .slice a0 us.length p0] 27)
    obtain ⟨e0, e1, e2, ez⟩ := keep3 ez e0 e1 e2 (show Below w3.heap.size w3 (w3.alloc (.cells #[.string rP, .string rB, .slice a0 us.length p0] 27)) from (Below.refl _ _).alloc (Nat.le_refl _) _)
    have B3' : Below w.heap.size w (w3.alloc (.cells #[.string rP, .string rB, .slice a0 us.length p0] 27)) := B3.alloc B3.size _
    have A3 := HV.out.below B3'
    go_wp2_with fail
    refine (toScheme_any P B ts v _ hfit.n A3).mono ?_
    rintro e w4 ⟨⟨g4, rfl, u4⟩, b4⟩
    obtain ⟨v0, v1, v2, vz⟩ := box_kept b4
    obtain ⟨f0, f1, f2, fz⟩ := keep3 ez e0 e1 e2 b4
    have B4 := chain B3' b4
    have u5 := u4.alloc (.cells #[.string P, .string B, .slice (some ⟨g4, 0, none⟩) ts.length ts.length] 27)
    have i4 := i3'.below b4
    have i5 := i4.alloc (.cells #[.string P, .string B, .slice (some ⟨g4, 0, none⟩) ts.length ts.length] 27)
    have B5 : Below w.heap.size w (w4.alloc (.cells #[.string P, .string B, .slice (some ⟨g4, 0, none⟩) ts.length ts.length] 27)) := B4.alloc B4.size _
    have hg4 := u4.baseLe
    go_wp2_with fail
    refine (hi _ _ _ _ hfit u5).mono ?_
    rintro e w6 ⟨⟨a1, p1, rfl, j6⟩, b6⟩
    obtain ⟨x0, x1, x2, xz⟩ := box_kept b6
    have b46 : Below w4.heap.size w4 w6 := chain (w := w4) (by go_grown) b6
    obtain ⟨y0, y1, y2, yz⟩ := keep3 fz f0 f1 f2 b46
    obtain ⟨v0, v1, v2, vz⟩ := keep3 vz v0 v1 v2 b46
    have B6 := chain B5 b6
    have u6 := u5.below b6
    have i6 := i5.below b6
    clear e0 e1 e2 f0 f1 f2
    have hs6 : w6.heap.size = w6.heap.size := rfl
    have b67 : Below w6.heap.size w6 (w6.alloc (.cells #[.string rP, .string rB, .slice a1 us.length p1] 27)) := (Below.refl _ _).alloc (Nat.le_refl _) _
    obtain ⟨x0, x1, x2, xz⟩ := keep3 xz x0 x1 x2 b67
    obtain ⟨y0, y1, y2, yz⟩ := keep3 yz y0 y1 y2 b67
    obtain ⟨v0, v1, v2, vz⟩ := keep3 vz v0 v1 v2 b67
    have j7 := j6.below b67
    have i7 := i6.below b67
    have u7 := u6.below b67
    have B7 := chain B6 b67
    go_wp2_with fail
    refine (eqScheme_yes rP rB _ _ us _ _ _ (by omega) j7 i7).mono ?_
    rintro e w8 ⟨rfl, b8⟩
    obtain ⟨q0, q1, q2, qz⟩ := box_kept (w := w6) b8
    obtain ⟨x0, x1, x2, xz⟩ := keep3 xz x0 x1 x2 b8
    obtain ⟨y0, y1, y2, yz⟩ := keep3 yz y0 y1 y2 b8
    obtain ⟨v0, v1, v2, vz⟩ := keep3 vz v0 v1 v2 b8
    have j8 := j7.below b8
    have i8 := i7.below b8
    have u8 := u7.below b8
    have B8 := chain B7 b8
    have A8 := HV.out.below B8
    go_wp2_with fail
    obtain ⟨g1, hg1, hg1a, hg1b⟩ : ∃ g, (∀ k, (Value.slice a1 us.length p1).ownBlock = some k → k = g) ∧ (w4.alloc (.cells #[.string P, .string B, .slice (some ⟨g4, 0, none⟩) ts.length ts.length] 27)).heap.size ≤ g ∧ g ≠ w6.heap.size := by
      rcases j6.2 with ⟨hv, _⟩ | ⟨g', cap', cur', hv, hb, hg', _⟩
      · exact ⟨w6.heap.size + 1, fun k hk => by (rw [hv] at hk; cases hk), by (have := b6.size; omega), by omega⟩
      · exact ⟨g', fun k hk => by (rw [hv] at hk; cases hk; rfl), hb, by (have := (Array.getElem?_eq_some_iff.1 hg').1; omega)⟩
    have hz4 : (w4.alloc (.cells #[.string P, .string B, .slice (some ⟨g4, 0, none⟩) ts.length ts.length] 27)).heap.size = w4.heap.size + 1 := World.size_alloc _ _
    have hz3 : (w3.alloc (.cells #[.string rP, .string rB, .slice a0 us.length p0] 27)).heap.size = w3.heap.size + 1 := World.size_alloc _ _
    have hsz34 := b4.size
    have hsz46 := b6.size
    have hsz03 := B3.size
    have hio : ∀ k, (Value.slice a0 us.length p0).ownBlock = some k → k < w3.heap.size := fun k hk => i3.own_lt k hk
    have hjo : ∀ k, (Value.slice a1 us.length p1).ownBlock = some k → (w4.alloc (.cells #[.string P, .string B, .slice (some ⟨g4, 0, none⟩) ts.length ts.length] 27)).heap.size ≤ k := fun k hk => by rw [hg1 k hk]; exact hg1a
    have HIO := Lib.hid hio
    have HJO := Lib.hid hjo
    have HG1 := Lib.hid hg1
    clear hio hjo hg1
    go_region_held3 (fun w' => w'.cell? ⟨w4.heap.size, 0, none⟩ = some (.string P) ∧ w'.cell? ⟨w4.heap.size, 1, none⟩ = some (.string B) ∧ w'.cell? ⟨w4.heap.size, 2, none⟩ = some (.slice (some ⟨g4, 0, none⟩) ts.length ts.length) ∧ w'.cell? ⟨w.heap.size, 0, none⟩ = some (.string P) ∧ w'.cell? ⟨w.heap.size, 1, none⟩ = some (.string B) ∧ w'.cell? ⟨w.heap.size, 2, none⟩ = some v)
      (first | go_keep | exact ⟨k0, k1, k2, l0, l1, l2⟩)
      (first
      | (go_at_call 12; (with_reducible refine (toScheme_any P B ts v _ hfit.n (A8.below (by go_grown))).mono ?_); rintro e w9 ⟨⟨g9, rfl, u9⟩, b9⟩; have B9 : Below w8.heap.size w8 w9 := chain (w := w8) (by go_grown) b9; obtain ⟨k0, k1, k2, kz⟩ := keep3 xz x0 x1 x2 B9; obtain ⟨l0, l1, l2, lz⟩ := keep3 yz y0 y1 y2 B9)
      | (go_at_call 14; (with_reducible refine (eqScheme_yes P B _ _ ts _ _ _ hfit.n (u8.below B9) u9).mono ?_); rintro e wa ⟨rfl, ba⟩; have Ba : Below w8.heap.size w8 wa := chain B9 ba; obtain ⟨k0, k1, k2, kz⟩ := keep3 xz x0 x1 x2 Ba; obtain ⟨l0, l1, l2, lz⟩ := keep3 yz y0 y1 y2 Ba))
    all_goals
      have Bwa := chain B8 Ba
      obtain ⟨k0, k1, k2, kz⟩ := keep3 xz x0 x1 x2 Ba
      obtain ⟨l0, l1, l2, lz⟩ := keep3 yz y0 y1 y2 Ba
      obtain ⟨m0, m1, m2, mz⟩ := keep3 vz v0 v1 v2 Ba
      obtain ⟨n0, n1, n2, nz⟩ := keep3 qz q0 q1 q2 Ba
      go_wp2_with fail
      refine (markScheme_any P B g4 ts.length ts.length ts _ rfl hfit.n (u8.below Ba).self).mono ?_
      rintro e wb ⟨rfl, _, mb⟩
      have Bb := mb.below Bwa (by omega) Bwa.size
      have jb := mb.strs (j8.below Ba) (fun k hk => by have := HJO.out k hk; omega)
      have ib := mb.strs (i8.below Ba) (fun k hk => by have := HIO.out k hk; omega)
      obtain ⟨l0, l1, l2, lz⟩ := keep3B lz (by omega) l0 l1 l2 mb
      obtain ⟨m0, m1, m2, mz⟩ := keep3B mz (by omega) m0 m1 m2 mb
      obtain ⟨n0, n1, n2, nz⟩ := keep3B nz (by omega) n0 n1 n2 mb
      have hkn : ¬ (1 : Int) + (ts.length : Int) < 0 := by omega
      go_wp2_with fail
      refine (eqScheme_yes rP rB _ _ us _ _ _ (by omega) jb ib).mono ?_
      rintro e wc ⟨rfl, bc⟩
      have Bc := chain Bb bc
      have jc := jb.below bc
      have ic := ib.below bc
      obtain ⟨l0, l1, l2, lz⟩ := keep3 lz l0 l1 l2 bc
      obtain ⟨m0, m1, m2, mz⟩ := keep3 mz m0 m1 m2 bc
      obtain ⟨n0, n1, n2, nz⟩ := keep3 nz n0 n1 n2 bc
      go_wp2_with fail
      refine (markRB_any rP rB _ g1 us _ _ (by omega) jc (by have h9 := Ba.size; have h8 := b8.size; have h7 := mb.size; have h6 := bc.size; rw [World.size_alloc] at h8; omega) HG1.out).mono ?_
      rintro e wd ⟨rfl, hd, md⟩
      have Bd := md.below Bc (by omega) Bc.size
      have id' := md.strs ic (fun k hk => by have := HIO.out k hk; omega)
      obtain ⟨l0, l1, l2, lz⟩ := keep3B lz (by omega) l0 l1 l2 md
      obtain ⟨m0, m1, m2, mz⟩ := keep3B mz (by omega) m0 m1 m2 md
      obtain ⟨n0, n1, n2, nz⟩ := keep3B nz (fun e => hg1b e.symm) n0 n1 n2 md
      have hkm : ¬ (1 : Int) + (us.length : Int) < 0 := by omega
      go_wp2_with fail
      refine (heldR_any rP rB _ us.length _ _ (by omega) hd).mono ?_
      rintro e we ⟨rfl, be⟩
      have Be := chain Bd be
      have ie := id'.below be
      have he := hd.below be
      obtain ⟨l0, l1, l2, lz⟩ := keep3 lz l0 l1 l2 be
      obtain ⟨m0, m1, m2, mz⟩ := keep3 mz m0 m1 m2 be
      obtain ⟨n0, n1, n2, nz⟩ := keep3 nz n0 n1 n2 be
      go_wp2_with fail
      refine (toScheme_any P B ts v _ hfit.n (HV.out.below Be)).mono ?_
      rintro e wf ⟨⟨gf, rfl, uf⟩, bf⟩
      have Bf := chain Be bf
      obtain ⟨m0, m1, m2, mz⟩ := keep3 mz m0 m1 m2 bf
      obtain ⟨n0, n1, n2, nz⟩ := keep3 nz n0 n1 n2 bf
      go_wp2_with fail
      refine (hi _ _ _ _ hfit uf).mono ?_
      rintro e wg ⟨⟨a2, p2, rfl, jg⟩, bg⟩
      have Bg := chain Bf bg
      have ig := (ie.below bf).below bg
      have mg := (he.below bf).below bg
      obtain ⟨m0, m1, m2, mz⟩ := keep3 mz m0 m1 m2 bg
      obtain ⟨n0, n1, n2, nz⟩ := keep3 nz n0 n1 n2 bg
      have bgh : Below wg.heap.size wg (wg.alloc (.cells #[.string rP, .string rB, .slice a2 us.length p2] 27)) := (Below.refl _ _).alloc (Nat.le_refl _) _
      obtain ⟨m0, m1, m2, mz⟩ := keep3 mz m0 m1 m2 bgh
      obtain ⟨n0, n1, n2, nz⟩ := keep3 nz n0 n1 n2 bgh
      have Bh := chain Bg bgh
      go_wp2_with fail
      refine (eqScheme_yes rP rB _ _ us _ _ _ (by omega) (jg.below bgh) (ig.below bgh)).mono ?_
      rintro e wh ⟨rfl, bh⟩
      obtain ⟨n0, n1, n2, nz⟩ := keep3 nz n0 n1 n2 bh
      go_wp2_with fail
      refine (heldR_any rP rB _ us.length _ _ (by omega) ((mg.below bgh).below bh)).mono ?_
      rintro e wi ⟨rfl, bi⟩
      go_wp2_with fail
      go_ret
      exact ⟨rfl, chain (chain Bh bh) bi⟩
end Go.Proofs.YtbnbfohlpankcabDoor
