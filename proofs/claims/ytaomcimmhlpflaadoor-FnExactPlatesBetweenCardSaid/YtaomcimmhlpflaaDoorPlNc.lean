/-
  The counts of a scheme's plates, made: the program.
-/
import Derived.Test.YtaomcimmhlpflaaDoorPlLw
import Derived.Test.YtaomcimmhlpflaaDoorPlSp
import Derived.Test.YtaomcimmhlpflaaDoorPlFr
import Derived.Test.YtaomcimmhlpflaaDoorPlSf
import Derived.Deep.RegionLaw
import Derived.Deep.RegionHeld3
namespace Go.Proofs.YtaomcimmhlpflaaDoor
open Go.RowKit Go.Maps

theorem blk4 {w : World} {b : Nat} {x0 x1 x2 x3 : Value} {T : TypeId} (h : w.heap[b]? = some (.cells #[x0, x1, x2, x3] T (0, 0))) : w.cell? ⟨b, 0, none⟩ = some x0 ∧ w.cell? ⟨b, 1, none⟩ = some x1 ∧ w.cell? ⟨b, 2, none⟩ = some x2 ∧ w.cell? ⟨b, 3, none⟩ = some x3 ∧ (∀ i, w.frozen? ⟨b, i, none⟩ = false) ∧ w.shape? b = some (T, 4) := by
  refine ⟨by rw [Lib.cell_of_heap h]; rfl, by rw [Lib.cell_of_heap h]; rfl, by rw [Lib.cell_of_heap h]; rfl, by rw [Lib.cell_of_heap h]; rfl, fun i => Lib.frozen_of_heap h i, ?_⟩
  unfold World.shape?; rw [h]; rfl
theorem blk3s {w : World} {b : Nat} {x0 x1 x2 : Value} {T : TypeId} (h : w.heap[b]? = some (.cells #[x0, x1, x2] T (0, 0))) : w.cell? ⟨b, 0, none⟩ = some x0 ∧ w.cell? ⟨b, 1, none⟩ = some x1 ∧ w.cell? ⟨b, 2, none⟩ = some x2 := by
  refine ⟨by rw [Lib.cell_of_heap h]; rfl, by rw [Lib.cell_of_heap h]; rfl, by rw [Lib.cell_of_heap h]; rfl⟩
theorem range_setN (w : World) {ops : Array Oper} {rest : List Oper} {o : Oper} {a : Act} {Q : Exit → Act → World → Prop} (hg : o.guard = none) (m : Operand) (hop : o.op = Op.range 55 m) (b n : Nat) (K : List UInt8 → Bool)
    (hm : a.eval m = .map (some b)) (hown : SetM w b n K)
    (hK : ∀ w' left cnt, SetR w' b w.heap.size n K left cnt → (∀ z, left (.string z) = K z) → cnt ≤ n → w.grownBy w' none → w'.heap.size = w.heap.size + 1 → wpList Tryd.prog ops Q rest (a.put o.dst (.pointer (some ⟨w.heap.size, 0, none⟩))) w') :
    wpList Tryd.prog ops Q (o :: rest) a w := by
  obtain ⟨D, h1, h2⟩ := hown
  refine wpList_range_own w hg m 55 hop 9 4 keyedS Tryd.underlying55 boolR b n D hm h1 ?_
  intro w' hr hg' hs
  exact hK w' _ _ ⟨D, hr, h2⟩ (fun z => (h2 z).1) h1.size_le hg' hs
theorem NumM.low {w w' : World} {b n C : Nat} {K : List UInt8 → Bool} {f : List UInt8 → Int} (h : NumM w b n K f) (k : Below C w w') (hb : b < C) : NumM w' b n K f := by
  obtain ⟨D, ⟨es, clock, h1, h2⟩, m2⟩ := h
  exact ⟨D, ⟨es, clock, (k.block b hb).trans h1, h2⟩, m2⟩
theorem NumM.store' {w : World} {b n : Nat} {K : List UInt8 → Bool} {f : List UInt8 → Int} (h : NumM w b n K f) (hn : n ≤ 1000000) (s : ByteArray) (hs : s.size ≤ maxLen) (G : Int) (hG : f s.data.toList = G) :
    ∃ w', (Instr.mapUpdate 96 (.map (some b)) (.string s) (.int .i64 G)).run Tryd.prog w = .ok () w' ∧ NumM w' b (n + 1) (fun t => K t || decide (t = s.data.toList)) f ∧ w.grownBy w' (some b) := by
  subst hG
  obtain ⟨D, h1, h2⟩ := h
  obtain ⟨w', k0, k1, k2⟩ := h1.update keyedS Tryd.underlying96 (by unfold maxLen; omega) (keyOfS s hs) (show intR (.int .i64 (f s.data.toList)) = some (.lit (.int .i64 (f s.data.toList)), []) from rfl)
  exact ⟨w', k0, ⟨_, k1, h2.put h1.isMap _⟩, k2⟩
theorem below_drwY {B : Nat} {w w' : World} (h : Below B w w') : Below B w w'.drew := ⟨h.os, h.tape, h.output, h.size, fun i hi => h.block i hi⟩
theorem gbS (w : World) (b i : Nat) (v : Value) : w.grownBy (w.setCell ⟨b, i, none⟩ v) (some b) := ⟨rfl, rfl, rfl, by simp [World.setCell], fun k _ hi => Below.heap_setCell _ _ _ _ (fun e => hi (by rw [e]))⟩
theorem fS_asciiN (p c : UInt8) (h : c ∈ fS p) : c.toNat < 128 := by
  unfold fS at h
  have hd : ∀ c ∈ dgS, c.toNat < 128 := by decide
  have hl : ∀ c ∈ ltS, c.toNat < 128 := by decide
  split at h
  · exact hd c h
  · exact hl c h
/-- The keys of the tails of words. -/
def tlK (L : List (List UInt8)) : List UInt8 → Bool := fun t => decide (t = []) || beg L t
theorem strs_val {B : Nat} {ts : List (List UInt8)} {v : Value} {w : World} (h : Strs B ts v w) : ∃ a c, v = .slice a ts.length c := by
  rcases h.form with ⟨hv, h0⟩ | ⟨g, cap, hv, _⟩
  · exact ⟨none, 0, by rw [hv, h0]⟩
  · exact ⟨_, cap, hv⟩
set_option maxRecDepth 100000 in
set_option maxHeartbeats 8000000 in
theorem counts_any (P B : ByteArray) (ts : List (List UInt8)) (v : Value) (w : World) (hPs : P.size ≤ 8) (hn : ts.length ≤ 3) (ht : ∀ i, i < ts.length → (ts.getD i []).length ≤ 4) (h : Rd ts v w) (hmx : MaxIs w) :
    Calls Tryd.prog 78 #[.agg #[.string P, .string B, v]] w fun e w' => (∃ (L : List (List UInt8)) (va : Option Addr) (vc bm N : Nat) (ga : Option Addr) (gc g : Nat), e = .returned (.agg #[.slice va L.length vc, .map (some bm), .slice ga P.size gc, .slice (some ⟨g, 0, none⟩) (P.size + 1) (P.size + 1)]) ∧ SameFree ts L ∧ L.length ≤ 3 ∧ (∀ x ∈ L, x ∈ ts) ∧ Strs w.heap.size L (.slice va L.length vc) w' ∧ w.heap.size ≤ bm ∧ SetM w' bm N (tlK L) ∧ Strs w.heap.size (rowsF P.data.toList B.data.toList 0) (.slice ga P.size gc) w' ∧ (w.heap.size ≤ g ∧ ∀ j bj, j < P.size + 1 → w'.cell? ⟨g, j, none⟩ = some (.map (some bj)) → w.heap.size ≤ bj) ∧ Wys w' (tlK L) (fun j t => (Gq L (qSuf L) ((rowsF P.data.toList B.data.toList 0).drop j) t : Int)) g 0 (P.size + 1)) ∧ Below w.heap.size w w' := by
  have HV := Lib.hid h
  have HT4 := Lib.hid ht
  have HM := Lib.hid hmx
  have HPL : Hid (P.data.toList.length = P.size) := by show _ = _; simp
  obtain ⟨a, cap, rfl, _⟩ := h
  obtain ⟨m, hm⟩ : ∃ m, m = ts.length := ⟨_, rfl⟩
  have HN := Lib.hid hm
  rw [← hm]
  obtain ⟨w1, hw1⟩ : ∃ w1, w1 = (w.alloc (.cells #[.string P, .string B, .slice a m cap] 26)).alloc (.cells #[.slice none 0 0, .map none, .slice none 0 0, .slice none 0 0] 58) := ⟨_, rfl⟩
  have HW1 := Lib.hid hw1
  have HB1 : Hid (Below w.heap.size w w1) := by show Below _ _ _; rw [hw1]; exact ((Below.refl _ _).alloc (Nat.le_refl _) _).alloc (by rw [World.size_alloc]; omega) _
  have hz1 : w1.heap.size = w.heap.size + 1 + 1 := by rw [hw1, World.size_alloc, World.size_alloc]
  have HBX : Hid (∀ W, Below w1.heap.size w1 W → W.heap[w.heap.size]? = some (.cells #[.string P, .string B, .slice a m cap] 26) ∧ W.heap[w.heap.size + 1]? = some (.cells #[.slice none 0 0, .map none, .slice none 0 0, .slice none 0 0] 58)) := fun W hW => by
    rw [hw1] at hW
    refine ⟨?_, ?_⟩
    · rw [hW.block _ (by rw [World.size_alloc, World.size_alloc]; omega), Lib.alloc_old _ _ _ (by rw [World.size_alloc]; omega)]; exact heap_alloc_last w _
    · rw [hW.block _ (by rw [World.size_alloc, World.size_alloc]; omega)]
      have := heap_alloc_last (w.alloc (.cells #[.string P, .string B, .slice a m cap] 26)) (.cells #[.slice none 0 0, .map none, .slice none 0 0, .slice none 0 0] 58)
      rw [World.size_alloc] at this
      exact this
  have HLW : Hid (Calls Tryd.prog 106 #[.slice a m cap] w1 fun e w' => (∃ L u, e = .returned u ∧ Strs (w1.heap.size + 1) L u w' ∧ SameFree ts L ∧ L.length ≤ 3 ∧ ∀ x ∈ L, x ∈ ts) ∧ Below w1.heap.size w1 w') := by
    have h0 := HV.out.below HB1.out
    rw [← hm] at h0
    exact lasting_any ts (.slice a m cap) w1 hn ht h0 (HM.out.below HB1.out)
  clear hm hw1 ht hmx hn
  go_enter Tryd.func78, Tryd.ntmps78
  go_wp2_with (first
    | (go_at_call 106; rw [← HW1.out]; (refine HLW.out.mono ?_); rintro e w2 ⟨⟨L, u, rfl, hu, hsf, hl3, hlm⟩, b2⟩; obtain ⟨ua, uc, hue⟩ := strs_val hu; subst hue; have HU := Lib.hid hu; have HSF := Lib.hid hsf; have HLM := Lib.hid hlm; have HB2 := Lib.hid b2; have hb2s := b2.size; clear hu hsf hlm b2)
    | (go_at_call 107; (refine (tailsOf_any L _ _ hl3 (fun i hi => by have h1 := HLM.out (L.getD i []) (by rw [List.getD_eq_getElem?_getD, List.getElem?_eq_getElem hi]; exact List.getElem_mem _); obtain ⟨q, hq, hqe⟩ := List.getElem_of_mem h1; have h2 := HT4.out q hq; rw [List.getD_eq_getElem?_getD, List.getElem?_eq_getElem hq] at h2; rw [← hqe]; exact h2) HU.out.rd).mono ?_); rintro e w3 ⟨⟨N, rfl, hN, hs3⟩, b3⟩; have HS3 : Hid (SetM w3 w2.heap.size N (tlK L)) := hs3; have HB3 := Lib.hid (HB2.out.trans (b3.mono HB2.out.size)); have HB3' := Lib.hid b3; have hp3 := HBX.out _ HB3.out; obtain ⟨d0, d1, d2⟩ := blk3s hp3.1; have hz3 := HB3.out.size; have hlt3 : w.heap.size < w3.heap.size := (by omega); clear hs3 b3 hp3))
  -- the box of the counts
  obtain ⟨bc, hbc⟩ : ∃ bc, bc = w3.heap.size := ⟨_, rfl⟩
  obtain ⟨bm, hbm⟩ : ∃ bm, bm = w2.heap.size := ⟨_, rfl⟩
  obtain ⟨w4, hw4⟩ : ∃ w4, w4 = w3.alloc (.cells #[.slice ua L.length uc, .map (some w2.heap.size), .slice none 0 0, .slice none 0 0] 58) := ⟨_, rfl⟩
  have hmb : bm < bc := by rw [hbm, hbc]; exact HS3.out.lt
  have hsb : w.heap.size + 1 < bc := by omega
  have HBM : Hid (w.heap.size + 1 < bm) := by show _ < _; rw [hbm]; omega
  have HB34 : Hid (Below w3.heap.size w3 w4) := by show Below _ _ _; rw [hw4]; exact (Below.refl _ _).alloc (Nat.le_refl _) _
  have HBC0 : Hid (w4.heap[bc]? = some (.cells #[.slice ua L.length uc, .map (some bm), .slice none 0 0, .slice none 0 0] 58)) := by show _ = _; rw [hw4, hbc, hbm]; exact heap_alloc_last w3 _
  have HSB : Hid (∀ W, Below bc w4 W → W.heap[w.heap.size]? = some (.cells #[.string P, .string B, .slice a m cap] 26) ∧ W.heap[w.heap.size + 1]? = some (.cells #[.slice none 0 0, .map none, .slice none 0 0, .slice none 0 0] 58)) := fun W hW => HBX.out W (by
    have h1 : Below w1.heap.size w1 w4 := HB3.out.trans (HB34.out.mono HB3.out.size)
    exact h1.trans (hW.mono (by rw [hbc]; exact HB3.out.size)))
  have HWB : Hid (∀ W, Below bc w4 W → Below w.heap.size w W) := fun W hW => by
    have h1 : Below w1.heap.size w1 w4 := HB3.out.trans (HB34.out.mono HB3.out.size)
    exact (HB1.out.trans (h1.mono HB1.out.size)).trans (hW.mono (by omega))
  have HRL : Hid (∀ W, Below bc w4 W → Strs (w1.heap.size + 1) L (.slice ua L.length uc) W) := fun W hW => by
    have h3 := HU.out.below HB3'.out
    have hc : Below bc w3 W := (HB34.out.mono (by rw [hbc]; exact Nat.le_refl _)).trans hW
    exact h3.below (by rw [← hbc]; exact hc)
  have HSM : Hid (∀ W, Below bc w4 W → SetM W bm N (tlK L)) := fun W hW => by
    have hc : Below bc w3 W := (HB34.out.mono (by rw [hbc]; exact Nat.le_refl _)).trans hW
    rw [hbm]
    exact HS3.out.below (by rw [← hbc]; exact hc)
  have hb4 : bc < w4.heap.size := (Array.getElem?_eq_some_iff.1 HBC0.out).1
  rw [← hw4, ← hbm, ← hbc]
  clear hw4 hbm hbc hb2s hz3 hlt3 d0 d1 d2
  obtain ⟨rows, hrows⟩ : ∃ rows, rows = rowsF P.data.toList B.data.toList 0 := ⟨_, rfl⟩
  have HRO := Lib.hid hrows
  have HRLEN : Hid (rows.length = P.size) := by show _ = _; rw [hrows, rowsF_len]; simp
  clear hrows
  go_loopw [18] (fun i wr => ∃ (k : Nat) (sv : Value), k ≤ P.size ∧ i = .int .i64 k ∧ Hid (wr.heap[bc]? = some (.cells #[.slice ua L.length uc, .map (some bm), sv, .slice none 0 0] 58)) ∧ Hid (Strs (bc + 1) (rows.take k) sv wr) ∧ Hid (Below bc w4 wr)) (fun i _ => P.size - (intOf i).toNat)
  case atStart => exact ⟨0, _, Nat.zero_le _, rfl, HBC0.out, Strs.nil _ _, Below.refl _ _⟩
  case round =>
    obtain ⟨k, sv, hk, rfl, HC, HSV, HB⟩ := hrel
    obtain ⟨wo, rfl⟩ : ∃ wo : World, wo = wr := ⟨_, rfl⟩
    obtain ⟨d0, d1, d2⟩ := blk3s (HSB.out _ HB.out).1
    obtain ⟨c0, c1, c2, c3, cf, cs⟩ := blk4 HC.out
    by_cases hlt : k < P.size
    · obtain ⟨sgb, hsgb⟩ : ∃ sgb : ByteArray, sgb = ⟨(sgRow (P[k]'hlt) B.data.toList).toArray⟩ := ⟨_, rfl⟩
      have HSG : Hid (∀ W, Calls Tryd.prog 76 #[.int .u8 ((P[k]'hlt).toNat : Int), .string B] W fun e w' => e = .returned (.string sgb) ∧ Below W.heap.size W w') := fun W => by rw [hsgb]; exact signsFor_any _ B W
      have HTK : Hid (rows.take (k + 1) = rows.take k ++ [sgb.data.toList]) := by
        show _ = _
        have hkr : k < rows.length := by rw [HRLEN.out]; exact hlt
        rw [List.take_succ_eq_append_getElem hkr]
        congr 2
        have h1 : rows[k] = sgRow (P[k]'hlt) B.data.toList := by
          have e := HRO.out
          subst e
          simp [rowsF, ByteArray.getElem_eq_getElem_data]
        rw [h1, hsgb]
      have HNB : Hid (Below w.heap.size w wo) := HWB.out _ HB.out
      have hltI : (k : Int) < (P.size : Int) := by omega
      have hk0 : (0 : Int) ≤ (k : Int) := by omega
      have hkl : (rows.take k).length ≤ 8 := by rw [List.length_take]; omega
      have HWC := Lib.hid (rfl : wo = wo)
      clear hsgb
      go_wp2_with fail
      go_region_law (first
        | (go_simp; go_at_call 76; (refine (HSG.out _).mono ?_); rintro e w6 ⟨rfl, b6'⟩; have b6 : Below wo.heap.size wo w6 := chain (w := wo) (by go_grown) b6'; have hB6 : Below bc w4 w6 := HB.out.trans (b6.mono (by have h1 := HB.out.size; omega)); obtain ⟨d0, d1, d2⟩ := blk3s (HSB.out _ hB6).1; have hC6 := heapk HC.out b6; obtain ⟨c0, c1, c2, c3, cf, cs⟩ := blk4 hC6; have HS6 := Lib.hid (HSV.out.below b6); have HC6 := Lib.hid hC6; have HB6 := Lib.hid hB6; have hbl6 := (Array.getElem?_eq_some_iff.1 hC6).1; clear hC6 hB6 b6 b6')
        | (refine step_append_strs _ (by rfl) _ _ (by rfl) (bc + 1) (rows.take k) sv (by rfl) (HS6.out.alloc (.cells #[.string sgb] 9)) w6.heap.size [sgb.data.toList] (by rfl) (news1 _ _ (x := sgb) (by simp)) (by simp) (by simp; omega) (by rw [World.size_alloc]; omega) ?_; intro v7 w7 hs7 hb7; have hB7 : Below bc w4 w7 := (HB6.out.alloc (by omega) _).trans (hb7.mono (Nat.le_succ bc)); have hC7 : w7.heap[bc]? = some (.cells #[.slice ua L.length uc, .map (some bm), sv, .slice none 0 0] 58) := (hb7.block bc (Nat.lt_succ_self bc)).trans ((Lib.alloc_old _ _ _ hbl6).trans HC6.out); obtain ⟨c0, c1, c2, c3, cf, cs⟩ := blk4 hC7; obtain ⟨va7, vc7, hv7⟩ := strs_val hs7; obtain ⟨q7, hq7⟩ : ∃ q, (rows.take k ++ [sgb.data.toList]).length = q := ⟨_, rfl⟩; rw [hq7] at hv7; subst hv7; clear hq7; have HS7 := Lib.hid hs7; have HB7 := Lib.hid hB7; have HC7 := Lib.hid hC7; clear hs7 hb7 hB7 hC7))
      all_goals
        go_wp2
        go_roundw
        case rel =>
          refine ⟨k + 1, .slice va7 q7 vc7, by omega, by go_num, ?_, ?_, HB7.out.setCell (Nat.le_refl _) _⟩
          · have h1 := heap_setCell_same w7 bc 2 _ _ (.slice va7 q7 vc7) HC7.out
            show _ = _
            simpa using h1
          · show Strs _ _ _ _
            rw [HTK.out]
            refine HS7.out.kp (row := some bc) ⟨rfl, rfl, rfl, by simp [World.setCell], fun i _ hi => Below.heap_setCell _ _ _ _ (fun e => hi (by rw [e]))⟩ (fun q hq e => by cases e; have := (World.ownsRow.lt HS7.out bc hq).1; omega)
        case measure => simp [intOf]; omega
    · have hkp : k = P.size := by omega
      have HSV2 : Hid (Strs (bc + 1) rows sv wo) := by show Strs _ _ _ _; have := HSV.out; rwa [List.take_of_length_le (by rw [HRLEN.out]; omega)] at this
      obtain ⟨sa, sc, hsv⟩ := strs_val HSV2.out
      rw [HRLEN.out] at hsv
      subst hsv
      have HBw := Lib.hid HB.out
      have HCw := Lib.hid HC.out
      clear HSV HB HC hkp hk
      obtain ⟨i0, hi, hz0, hz1, hz2⟩ := info_parts (show (Tryd.prog.info? 96).map (fun i => (i.zero, i.size, i.bytes)) = some (some (.map none), 1, 8) by kernel_rfl)
      have hbo : bc < wo.heap.size := (Array.getElem?_eq_some_iff.1 HCw.out).1
      have hso : w.heap.size < wo.heap.size := by omega
      have hn1 : ¬ w.heap.size = bc := by omega
      have hn2 : ¬ bc = w.heap.size := by omega
      have hn3 : ¬ bc = wo.heap.size := by omega
      have hwl : IntKind.i64.wrap ((P.size : Int) + 1) = (P.size : Int) + 1 := IntWalk.i64_in _ (by omega)
      go_wp2_with (refine wpList_make_rowL _ rfl _ _ 56 rfl 96 i0 (.map none) Tryd.underlying56 hi hz0 hz1 rfl .i64 .i64 _ _ (P.size + 1) rfl rfl (by omega) (by omega) (by rw [hz2]; omega) (by omega) ?_)
      obtain ⟨wb, hwb⟩ : ∃ wb, wb = wo.setCell ⟨bc, 3, none⟩ (.slice (some ⟨wo.heap.size, 0, none⟩) (P.size + 1) (P.size + 1)) := ⟨_, rfl⟩
      obtain ⟨w5, hw5⟩ : ∃ w5, w5 = wb.alloc (.cells (madeCells #[.map none] (P.size + 1)) 96) := ⟨_, rfl⟩
      obtain ⟨g, hg⟩ : ∃ g, g = wo.heap.size := ⟨_, rfl⟩
      have hgb : wb.heap.size = g := by rw [hwb, hg]; simp [World.setCell]
      have hbg : bc < g := by rw [hg]; exact hbo
      have hCb : wb.heap[bc]? = some (.cells #[.slice ua L.length uc, .map (some bm), .slice sa P.size sc, .slice (some ⟨g, 0, none⟩) (P.size + 1) (P.size + 1)] 58) := by
        have h1 := heap_setCell_same wo bc 3 _ _ (.slice (some ⟨wo.heap.size, 0, none⟩) (P.size + 1) (P.size + 1)) HCw.out
        rw [hwb, hg]; simpa using h1
      have hBb : Below bc w4 wb := by rw [hwb]; exact HBw.out.setCell (Nat.le_refl _) _
      have hSb : Strs (bc + 1) rows (.slice sa P.size sc) wb := by
        rw [hwb]
        refine HSV2.out.kp (row := some bc) ⟨rfl, rfl, rfl, by simp [World.setCell], fun i _ hi => Below.heap_setCell _ _ _ _ (fun e => hi (by rw [e]))⟩ (fun q hq e => by cases e; have := (World.ownsRow.lt HSV2.out bc hq).1; omega)
      have hb5 : Below g wb w5 := by rw [hw5]; exact ((Below.refl wb.heap.size wb).alloc (Nat.le_refl _) _).mono (by omega)
      have HC5 : Hid (∀ W, Below g w5 W → W.heap[bc]? = some (.cells #[.slice ua L.length uc, .map (some bm), .slice sa P.size sc, .slice (some ⟨g, 0, none⟩) (P.size + 1) (P.size + 1)] 58)) := fun W hW => by rw [hW.block bc hbg, hb5.block bc hbg]; exact hCb
      have HR5 : Hid (w5.rowIs g 96 (P.size + 1) (fun _ => .map none)) := by
        show World.rowIs _ _ _ _ _
        have := World.rowIs_made wb (.map none) (P.size + 1) 96
        rw [hgb] at this
        rw [hw5]; exact this
      have HB5 : Hid (∀ W, Below g w5 W → Below bc w4 W) := fun W hW => hBb.trans ((hb5.trans hW).mono (Nat.le_of_lt hbg))
      have HSG5 : Hid (∀ W, Below g w5 W → Strs (bc + 1) rows (.slice sa P.size sc) W) := fun W hW => hSb.below (by rw [hgb]; exact hb5.trans hW)
      have hg5 : g < w5.heap.size := HR5.out.lt
      rw [← hg]
      rw [← hg] at hwb
      rw [← hwb, ← hw5]
      have H26 : Hid (∀ r ∈ rows, r.length ≤ 26) := fun r hr => by
        rw [HRO.out] at hr; unfold rowsF at hr
        obtain ⟨p, _, rfl⟩ := List.mem_map.1 hr
        exact sgRow_len p _
      have HASC : Hid (∀ r ∈ rows, ∀ c ∈ r, c.toNat < 128) := fun r hr c hc => by
        rw [HRO.out] at hr; unfold rowsF at hr
        obtain ⟨p, _, rfl⟩ := List.mem_map.1 hr
        rw [row_fS] at hc
        exact fS_asciiN p c (List.mem_filter.1 hc).1
      have HTK4 : Hid (∀ z, tlK L z = true → z.length < 4) := fun z hz => by
        unfold tlK at hz
        rw [Bool.or_eq_true, decide_eq_true_eq] at hz
        rcases hz with hz | hz
        · rw [hz]; decide
        · obtain ⟨x, hx, _, hl⟩ := (beg_iff L z).1 hz
          obtain ⟨q, hq, hqe⟩ := List.getElem_of_mem (HLM.out x hx)
          have h2 := HT4.out q hq
          rw [List.getD_eq_getElem?_getD, List.getElem?_eq_getElem hq] at h2
          simp only [Option.getD_some] at h2
          rw [hqe] at h2
          omega
      clear hwb hw5 hg hgb hCb hBb hSb hb5 hbo hso hn1 hn2 hn3 hwl d0 d1 d2 c0 c1 c2 c3 cf cs HSV2 HBw HCw
      go_loopw [6] (fun pv wr => ∃ (K : Nat) (bs : Nat → Option Nat), K ≤ P.size + 1 ∧ pv = .int .i64 ((K : Int) - 1) ∧ Hid (wr.rowIs g 96 (P.size + 1) (fun j => .map (bs j))) ∧ Hid (∀ j, K ≤ j → j < P.size + 1 → ∃ bj nj, bs j = some bj ∧ g < bj ∧ NumM wr bj nj (tlK L) (fun t => (Gq L (qSuf L) (rows.drop j) t : Int))) ∧ Hid (Below g w5 wr)) (fun pv _ => (intOf pv + 1).toNat)
      case atStart => exact ⟨P.size + 1, fun _ => none, Nat.le_refl _, (by go_num), HR5.out, fun j h1 h2 => by omega, Below.refl _ _⟩
      case round =>
        obtain ⟨K, bs, hK, rfl, HR6, HN6, HB6⟩ := hrel
        obtain ⟨wp, rfl⟩ : ∃ wp : World, wp = wr := ⟨_, rfl⟩
        obtain ⟨d0, d1, d2⟩ := blk3s (HSB.out _ (HB5.out _ HB6.out)).1
        obtain ⟨c0, c1, c2, c3, cf, cs⟩ := blk4 (HC5.out _ HB6.out)
        by_cases hpos : 0 < K
        · obtain ⟨q, rfl⟩ : ∃ q, K = q + 1 := ⟨K - 1, by omega⟩
          have e1 : ((q + 1 : Nat) : Int) - 1 = (q : Int) := by omega
          rw [e1]
          have hq0 : (0 : Int) ≤ (q : Int) := by omega
          have hq1 : (q : Int) < ((P.size + 1 : Nat) : Int) := by omega
          have hq1' : (q : Int) < (P.size : Int) + 1 := by omega
          have hqn : q < P.size + 1 := by omega
          have rf := HR6.out.frozen q
          have rc := HR6.out.cell hqn
          have hgp := HR6.out.lt
          have hmm := @run_makeMap Tryd.prog
          have hn1 : ¬ bc = g := by omega
          have hn2 : ¬ g = bc := by omega
          have hbp0 : bc < wp.heap.size := by omega
          obtain ⟨W6, hW6⟩ : ∃ W6, W6 = (wp.setCell ⟨g, q, none⟩ (.map (some wp.heap.size))).alloc (.map #[] 0) := ⟨_, rfl⟩
          have hsz : (wp.setCell ⟨g, q, none⟩ (.map (some wp.heap.size))).heap.size = wp.heap.size := by simp [World.setCell]
          have HBQ : Hid (Below g w5 W6) := by show Below _ _ _; rw [hW6]; exact (HB6.out.setCell (Nat.le_refl _) _).alloc (by rw [hsz]; omega) _
          have HNQ : Hid (NumM W6 wp.heap.size 0 (fun _ => false) (fun t => (Gq L (qSuf L) (rows.drop q) t : Int))) := by
            have := NumM.made (wp.setCell ⟨g, q, none⟩ (.map (some wp.heap.size))) (fun t => (Gq L (qSuf L) (rows.drop q) t : Int))
            rw [hsz] at this
            show NumM _ _ _ _ _
            rw [hW6]; exact this
          have HRQ : Hid (W6.rowIs g 96 (P.size + 1) (fun j => .map (if j = q then some wp.heap.size else bs j))) := by
            show World.rowIs _ _ _ _ _
            rw [hW6]
            refine ((HR6.out.set q (.map (some wp.heap.size))).congr fun j hj => ?_).alloc _
            by_cases hjq : j = q
            · rw [if_pos hjq, if_pos hjq]
            · rw [if_neg hjq, if_neg hjq]
          have HNJ : Hid (∀ j, q + 1 ≤ j → j < P.size + 1 → ∃ bj nj, bs j = some bj ∧ g < bj ∧ bj < wp.heap.size ∧ NumM W6 bj nj (tlK L) (fun t => (Gq L (qSuf L) (rows.drop j) t : Int))) := fun j h1 h2 => by
            obtain ⟨bj, nj, k1, kg, k2⟩ := HN6.out j h1 h2
            refine ⟨bj, nj, k1, kg, k2.lt, ?_⟩
            rw [hW6]
            exact (k2.grown (gbS wp g q (.map (some wp.heap.size))) (fun e => by cases e; omega)).below ((Below.refl _ _).alloc (Nat.le_refl _) _)
          have HPW : Hid (g < wp.heap.size) := hgp
          have HZ6 : Hid (W6.heap.size = wp.heap.size + 1) := by show _ = _; rw [hW6, World.size_alloc, hsz]
          have HW6 := Lib.hid hW6
          clear hW6 hsz e1 HR6 HN6 HB6
          go_wp2_with (at_range; rw [← HW6.out]; refine range_setN _ rfl _ rfl bm N (tlK L) rfl (HSM.out _ (HB5.out _ HBQ.out)) ?_; intro w7 left cnt hr7 hlf7 hcn hg7 hs7; have HR7 := Lib.hid hr7; have HLF7 := Lib.hid hlf7; have HG7 := Lib.hid hg7; clear hr7 hlf7 hg7 hs7)
          go_frame
          obtain ⟨bp, hbp⟩ : ∃ bp, bp = wp.heap.size := ⟨_, rfl⟩
          obtain ⟨r, hr⟩ : ∃ r, r = W6.heap.size := ⟨_, rfl⟩
          rw [← hbp] at HNQ HRQ HNJ HPW HZ6 hbp0 hgp
          rw [← hr] at HR7 ⊢
          have hrp : r = bp + 1 := by rw [hr]; exact HZ6.out
          have hg67 := gbB HG7.out
          have HB7 : Hid (Below g w5 w7) := HBQ.out.trans (hg67.mono (by have := HPW.out; rw [← hr]; omega))
          have HN7 : Hid (NumM w7 bp 0 (fun _ => false) (fun t => (Gq L (qSuf L) (rows.drop q) t : Int))) := HNQ.out.below hg67
          have HRW7 : Hid (w7.rowIs g 96 (P.size + 1) (fun j => .map (if j = q then some bp else bs j))) := HRQ.out.of_block (hg67.block g HRQ.out.lt)
          have HNJ7 : Hid (∀ j, q + 1 ≤ j → j < P.size + 1 → ∃ bj nj, bs j = some bj ∧ g < bj ∧ bj < bp ∧ NumM w7 bj nj (tlK L) (fun t => (Gq L (qSuf L) (rows.drop j) t : Int))) := fun j h1 h2 => by
            obtain ⟨bj, nj, k1, kg, kp, k2⟩ := HNJ.out j h1 h2
            exact ⟨bj, nj, k1, kg, kp, k2.below hg67⟩
          have hgbp : g < bp := HPW.out
          have hmbp : bm < bp := by omega
          have hrbp : bp < r := by omega
          clear hg67 hr hbp HNQ HRQ HNJ HG7 HBQ HW6 HZ6 hrp
          go_loopw [] (fun wr => ∃ (left' : Lit → Bool) (cnt' N' : Nat), Hid (SetR wr bm r N (tlK L) left' cnt') ∧ Hid (∀ z, left' (.string z) = true → tlK L z = true) ∧ Hid (NumM wr bp N' (fun z => tlK L z && !left' (.string z)) (fun t => (Gq L (qSuf L) (rows.drop q) t : Int))) ∧ N' + cnt' ≤ 40 ∧ Hid (Below bp w7 wr)) (fun wr => wr.rangeLeft bm r)
          case atStart =>
            refine ⟨left, cnt, 0, HR7.out, fun z hz => by rw [← HLF7.out z]; exact hz, ?_, by omega, Below.refl _ _⟩
            have e : (fun _ => false : List UInt8 → Bool) = fun z => tlK L z && !left (.string z) := by funext z; rw [HLF7.out z]; cases tlK L z <;> rfl
            show NumM _ _ _ _ _
            rw [← e]; exact HN7.out
          case round =>
            obtain ⟨left', cnt', N', HR8, HLF8, HN8, hN8, HB8⟩ := hrel
            have HBG : Hid (Below g w5 wr) := HB7.out.trans (HB8.out.mono (Nat.le_of_lt hgbp))
            go_wp2_with (at_next; refine next_set _ rfl _ rfl bm r N (tlK L) left' cnt' rfl HR8.out ?_ ?_)
            · intro hl0
              have HN9 : Hid (NumM wr bp N' (tlK L) (fun t => (Gq L (qSuf L) (rows.drop q) t : Int))) := by
                have e : tlK L = fun z => tlK L z && !left' (.string z) := by funext z; rw [hl0 z]; cases tlK L z <;> rfl
                show NumM _ _ _ _ _
                rw [e]; exact HN8.out
              go_wp2
              go_roundw
              case rel =>
                refine ⟨q, fun j => if j = q then some bp else bs j, by omega, rfl, HRW7.out.of_block (HB8.out.block g hgbp), ?_, HBG.out⟩
                show ∀ j, _
                intro j h1 h2
                by_cases hjq : j = q
                · subst hjq
                  exact ⟨bp, N', (by show (if j = j then some bp else bs j) = some bp; rw [if_pos rfl]), hgbp, HN9.out⟩
                · obtain ⟨bj, nj, k1, kg, kp, k2⟩ := HNJ7.out j (by omega) h2
                  exact ⟨bj, nj, (by show (if j = q then some bp else bs j) = some bj; rw [if_neg hjq]; exact k1), kg, k2.low HB8.out kp⟩
              case measure => first | (simp [intOf]; done) | (simp [intOf]; omega)
            · intro x c w8 left8 cnt8 hxs hlx hr8 hlf8 hlt8 hg8 hs8 hen
              have hKx := HLF8.out _ hlx
              have hx4 : x.size ≤ 4 := by
                have h1 := HTK4.out _ hKx
                have h2 : x.data.toList.length = x.size := by simp
                omega
              have hB88 : Below bp w7 w8 := HB8.out.trans (gb_to hg8 (Nat.le_of_lt hrbp) (by have h1 := HB8.out.size; have h2 := HN7.out.lt; omega))
              have HBG8 : Hid (Below g w5 w8) := HB7.out.trans (hB88.mono (Nat.le_of_lt hgbp))
              have HN88 : Hid (NumM w8 bp N' (fun z => tlK L z && !left' (.string z)) (fun t => (Gq L (qSuf L) (rows.drop q) t : Int))) := HN8.out.grown hg8 (fun e => by cases e; omega)
              have hrow := HRW7.out.of_block (hB88.block g hgbp)
              have rc8 : w8.cell? ⟨g, q, none⟩ = some (.map (some bp)) := by have := hrow.cell hqn; simpa using this
              obtain ⟨c0, c1, c2, c3, cf, cs⟩ := blk4 (HC5.out _ HBG8.out)
              have hWY : Wys w8 (tlK L) (fun j t => (Gq L (qSuf L) (rows.drop j) t : Int)) g (q + 1) (P.size + 1) := by
                refine ⟨hrow.lt, fun j h1 h2 => ?_⟩
                obtain ⟨bj, nj, k1, kg, kp, k2⟩ := HNJ7.out j h1 h2
                refine ⟨bj, nj, ?_, k2.low hB88 kp⟩
                have := hrow.cell h2
                rw [if_neg (by omega), k1] at this
                exact this
              obtain ⟨G, hG⟩ : ∃ G : Int, G = (Gq L (qSuf L) (rows.drop q) x.data.toList : Int) := ⟨_, rfl⟩
              have hwf := waysFrom_any L rows (.slice ua L.length uc) (.slice sa P.size sc) bm N g (P.size + 1) q x w8.drew hl3 (by omega) (by rw [HRLEN.out]; omega) H26.out HASC.out (by rw [HRLEN.out]; omega) (HRL.out _ (HB5.out _ (below_drwY HBG8.out))).rd (HSM.out _ (HB5.out _ (below_drwY HBG8.out))) (HSG5.out _ (below_drwY HBG8.out)).rd (by rw [HRLEN.out]; exact hWY)
              rw [HRLEN.out, ← hG] at hwf
              have HWF := Lib.hid hwf
              have HGX : Hid ((Gq L (qSuf L) (rows.drop q) x.data.toList : Int) = G) := hG.symm
              have HR88 := Lib.hid hr8
              have HB88 := Lib.hid hB88
              have HRO8 := Lib.hid hrow
              have HLF88 : Hid (∀ z, left8 (.string z) = (left' (.string z) && !decide (z = x.data.toList))) := hlf8
              have HLT8 := Lib.hid hlt8
              have HKX := Lib.hid hKx
              have hb8s : bc < w8.heap.size ∧ g < w8.heap.size := by have h1 := HBG8.out.size; omega
              have hxm : x.size ≤ maxLen := hxs
              clear hG hwf hWY hrow hB88 hr8 hlf8 hlt8 hg8 hs8 hlx hKx
              go_wp2_with fail
              go_region_held3 (fun w' => w'.cell? ⟨bc, 0, none⟩ = some (.slice ua L.length uc) ∧ w'.cell? ⟨bc, 1, none⟩ = some (.map (some bm)) ∧ w'.cell? ⟨bc, 2, none⟩ = some (.slice sa P.size sc) ∧ w'.cell? ⟨bc, 3, none⟩ = some (.slice (some ⟨g, 0, none⟩) (P.size + 1) (P.size + 1)) ∧ w'.cell? ⟨g, q, none⟩ = some (.map (some bp)))
                (first | with_reducible exact ⟨e0, e1, e2, e3, e4⟩ | with_reducible exact ⟨c0, c1, c2, c3, rc8⟩ | exact ⟨c0, c1, c2, c3, rc8⟩)
                ((go_at_call 108; (refine HWF.out.mono ?_); rintro e w9 ⟨rfl, b9⟩; have hb9 : Below w8.heap.size w8 w9 := chain (w := w8) (by go_grown) b9; have hn9 := HN88.out.below hb9; obtain ⟨w10, hrun, hn10, hg10⟩ := hn9.store' (by omega) x hxm G HGX.out; have rc8 := (hb9.cell (p := ⟨g, q, none⟩) hb8s.2).trans rc8; have c0 := (hb9.cell (p := ⟨bc, 0, none⟩) hb8s.1).trans c0; have c1 := (hb9.cell (p := ⟨bc, 1, none⟩) hb8s.1).trans c1; have c2 := (hb9.cell (p := ⟨bc, 2, none⟩) hb8s.1).trans c2; have c3 := (hb9.cell (p := ⟨bc, 3, none⟩) hb8s.1).trans c3; have HB9 := Lib.hid hb9; have hz9 := hb9.size; have e4 := (gb_cell hg10 (p := ⟨g, q, none⟩) (by show g < _; omega) (by show g ≠ bp; omega)).trans rc8; have e0 := (gb_cell hg10 (p := ⟨bc, 0, none⟩) (by show bc < _; omega) (by show bc ≠ bp; omega)).trans c0; have e1 := (gb_cell hg10 (p := ⟨bc, 1, none⟩) (by show bc < _; omega) (by show bc ≠ bp; omega)).trans c1; have e2 := (gb_cell hg10 (p := ⟨bc, 2, none⟩) (by show bc < _; omega) (by show bc ≠ bp; omega)).trans c2; have e3 := (gb_cell hg10 (p := ⟨bc, 3, none⟩) (by show bc < _; omega) (by show bc ≠ bp; omega)).trans c3; have HN10 := Lib.hid hn10; have HG10 := Lib.hid hg10; clear hn9 hn10 hg10 b9 hb9))
              all_goals
                go_wp2
                go_roundw
                case rel =>
                  refine ⟨left8, cnt8, N' + 1, (HR88.out.kept (below_gb HB9.out) (by simp) (by simp)).kept HG10.out (fun e => by cases e; omega) (fun e => by cases e; omega), ?_, ?_, by have h1 := HLT8.out; omega, ?_⟩
                  · show ∀ z, _
                    intro z hz
                    rw [HLF88.out z, Bool.and_eq_true] at hz
                    exact HLF8.out z hz.1
                  · have e : (fun z => (tlK L z && !left' (.string z)) || decide (z = x.data.toList)) = fun z => tlK L z && !left8 (.string z) := by
                      funext z
                      rw [HLF88.out z]
                      by_cases hz : z = x.data.toList
                      · rw [hz, HKX.out]; simp
                      · simp [hz]
                    show NumM _ _ _ _ _
                    rw [← e]; exact HN10.out
                  · exact HB88.out.trans ((HB9.out.mono (by have h1 := HN88.out.lt; omega)).trans (gb_to HG10.out (Nat.le_refl _) (by have h1 := HN88.out.lt; have h2 := HB9.out.size; omega)))
                case measure =>
                  have h1 := ((HR88.out.kept (below_gb HB9.out) (by simp) (by simp)).kept HG10.out (fun e => by cases e; omega) (fun e => by cases e; omega)).left_eq
                  rw [h1, HR8.out.left_eq]; exact HLT8.out
        · obtain rfl : K = 0 := by omega
          have e1 : ((0 : Nat) : Int) - 1 = -1 := rfl
          rw [e1]
          have HWY : Hid (Wys wp (tlK L) (fun j t => (Gq L (qSuf L) (rows.drop j) t : Int)) g 0 (P.size + 1)) := by
            refine ⟨HR6.out.lt, fun j h1 h2 => ?_⟩
            obtain ⟨bj, nj, k1, _, k2⟩ := HN6.out j h1 h2
            exact ⟨bj, nj, by rw [HR6.out.cell h2, k1], k2⟩
          have hp1 := (HSB.out _ (HB5.out _ HB6.out)).2
          obtain ⟨p0, p1, p2, p3, pf, ps⟩ := blk4 hp1
          have hlw := (Array.getElem?_eq_some_iff.1 hp1).1
          have hn1 : ¬ bc = w.heap.size + 1 := by omega
          have hn2 : ¬ w.heap.size + 1 = bc := by omega
          go_wp2
          refine bodyPost_ret (results_cell_row rfl _ _ (w.heap.size + 1) 58 #[.slice ua L.length uc, .map (some bm), .slice sa P.size sc, .slice (some ⟨g, 0, none⟩) (P.size + 1) (P.size + 1)] (0, 0) _ rfl ?_ Tryd.underlying58 rfl (by kernel_rfl)) rfl ?_
          · have h1 := heap_setCell_same wp (w.heap.size + 1) 0 _ _ (.slice ua L.length uc) hp1
            have h2 := heap_setCell_same _ (w.heap.size + 1) 1 _ _ (.map (some bm)) h1
            have h3 := heap_setCell_same _ (w.heap.size + 1) 2 _ _ (.slice sa P.size sc) h2
            have h4 := heap_setCell_same _ (w.heap.size + 1) 3 _ _ (.slice (some ⟨g, 0, none⟩) (P.size + 1) (P.size + 1)) h3
            simpa using h4
          · have hgw : wp.grownBy ((((wp.setCell ⟨w.heap.size + 1, 0, none⟩ (.slice ua L.length uc)).setCell ⟨w.heap.size + 1, 1, none⟩ (.map (some bm))).setCell ⟨w.heap.size + 1, 2, none⟩ (.slice sa P.size sc)).setCell ⟨w.heap.size + 1, 3, none⟩ (.slice (some ⟨g, 0, none⟩) (P.size + 1) (P.size + 1))) (some (w.heap.size + 1)) :=
              gb_trans (gb_trans (gb_trans (gbS _ _ _ _) (gbS _ _ _ _)) (gbS _ _ _ _)) (gbS _ _ _ _)
            have hbb := HB5.out _ HB6.out
            have hrl := (HRL.out _ hbb).kp hgw (fun q hq e => by cases e; have := (World.ownsRow.lt (HRL.out _ hbb) _ hq).1; omega)
            have hsg := (HSG5.out _ HB6.out).kp hgw (fun q hq e => by cases e; have := (World.ownsRow.lt (HSG5.out _ HB6.out) _ hq).1; omega)
            have hmb2 : some bm ≠ some (w.heap.size + 1) := fun e => by cases e; have h1 := HBM.out; omega
            refine ⟨⟨L, ua, uc, bm, N, sa, sc, g, rfl, HSF.out, hl3, HLM.out, hrl.mono (by omega), (by have h1 := HBM.out; omega), (HSM.out _ hbb).grown hgw hmb2, by rw [← HRO.out]; exact hsg.mono (by omega), ⟨by have h1 := HR6.out.lt; omega, fun j bj hj hc => ?_⟩, ?_⟩, ?_⟩
            · obtain ⟨bj', nj, k1, kg, k2⟩ := HN6.out j (Nat.zero_le _) hj
              rw [gb_cell hgw (p := ⟨g, j, none⟩) HR6.out.lt (by show g ≠ _; omega), HR6.out.cell hj, k1] at hc
              cases hc
              omega
            · rw [← HRO.out]
              refine ⟨by have := hgw.size; have := HWY.out.1; omega, fun j h1 h2 => ?_⟩
              obtain ⟨bj, nj, k1, kg, k2⟩ := HN6.out j h1 h2
              refine ⟨bj, nj, ?_, k2.grown hgw (fun e => by cases e; omega)⟩
              rw [gb_cell hgw (p := ⟨g, j, none⟩) HR6.out.lt (by show g ≠ _; omega), HR6.out.cell h2, k1]
            · exact (HWB.out _ hbb).grown hgw (by omega) (fun e he => by cases he; omega)
end Go.Proofs.YtaomcimmhlpflaaDoor
