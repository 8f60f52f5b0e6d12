/-
  Contract of newSumCounts: the rows of counts.
-/
import Derived.Test.YtghjpanabphbpaaDoorDiWays
import Derived.Lib.Builder
namespace Go.Proofs.YtghjpanabphbpaaDoor
open Go.RowKit
set_option maxRecDepth 100000

/-- A value leads to the rows of counts 0, .., D; all of it lies from block B on. -/
def Cnts (w : World) (v : Value) (D B : Nat) : Prop :=
  ∃ g cap, v = .slice (some ⟨g, 0, none⟩) (D + 1) cap ∧ g < w.heap.size ∧ B ≤ g ∧
    ∀ i, i ≤ D → ∃ gi, w.cell? ⟨g, i, none⟩ = some (.slice (some ⟨gi, 0, none⟩) (9 * i + 1) (9 * i + 1)) ∧ IRow w gi (9 * i + 1) (W i) ∧ B ≤ gi
theorem Cnts.below {w w' : World} {v : Value} {D B : Nat} (h : Cnts w v D B) (k : Below w.heap.size w w') : Cnts w' v D B := by
  obtain ⟨g, cap, hv, hg, hB, h⟩ := h
  refine ⟨g, cap, hv, Nat.lt_of_lt_of_le hg k.size, hB, fun i hi => ?_⟩
  obtain ⟨gi, h1, h2, h3⟩ := h i hi
  exact ⟨gi, by rw [k.cell (p := ⟨g, i, none⟩) hg]; exact h1, h2.below k h2.lt, h3⟩
/-- The value of row i. -/
def rv' (i g : Nat) : Value := .slice (some ⟨g, 0, none⟩) (9 * i + 1) (9 * i + 1)
/-- .. as it grows: n rows are there. -/
def RowsAt (w : World) (xs : List Value) (n B : Nat) : Prop :=
  ∀ i, i < n → ∃ gi, xs[i]? = some (rv' i gi) ∧ IRow w gi (9 * i + 1) (W i) ∧ B ≤ gi
theorem RowsAt.below {w w' : World} {xs : List Value} {n B : Nat} (h : RowsAt w xs n B) (k : Below w.heap.size w w') : RowsAt w' xs n B := fun i hi => by
  obtain ⟨gi, h1, h2, h3⟩ := h i hi
  exact ⟨gi, h1, h2.below k h2.lt, h3⟩
theorem own_below {w w' : World} {B : Nat} {e : TypeId} {v : Value} {n : Nat} {xs : List Value} (h : w.ownsRow B e 1 v n xs) (k : Below w.heap.size w w') : w'.ownsRow B e 1 v n xs :=
  h.kept (row := none) ⟨k.os, k.tape, k.output, k.size, fun i hi _ => k.block i hi⟩ (by cases v.ownBlock <;> simp)
theorem RowsAt.push {w w' : World} {xs : List Value} {n B gn : Nat} {v : Value} (h : RowsAt w xs n B) (hx : xs.length = n) (hn : IRow w gn (9 * n + 1) (W n)) (hB : B ≤ gn)
    (hown : w.ownsRow B 33 1 v n xs) (hg : w.grownBy w' v.ownBlock) : RowsAt w' (xs ++ [rv' n gn]) (n + 1) B := by
  have keep : ∀ {g m : Nat} {f : Nat → Int}, IRow w g m f → IRow w' g m f := fun {g m f} r => by
    refine World.rowIs.of_block r (hg.block g r.lt ?_)
    obtain ⟨c, hc, _⟩ := r
    exact fun e => Lib.ownBlock_ne hown hc (by decide) e.symm
  intro i hi
  by_cases hin : i < n
  · obtain ⟨gi, h1, h2, h3⟩ := h i hin
    exact ⟨gi, by rw [List.getElem?_append_left (by omega)]; exact h1, keep h2, h3⟩
  · have : i = n := by omega
    subst this
    exact ⟨gn, by rw [List.getElem?_append_right (by omega), hx]; simp, keep hn, hB⟩

set_option maxHeartbeats 1000000 in
theorem cnts_any (D : Nat) (hD : D ≤ 12) (w : World) :
    Calls Tryd.prog 84 #[.int .i64 D] w fun e w' => ∃ v, e = .returned v ∧ Cnts w' v D w.heap.size ∧ Below w.heap.size w w' := by
  obtain ⟨i0, hi, hz0, hz1, hz2⟩ := info_parts (show (Tryd.prog.info? 3).map (fun i => (i.zero, i.size, i.bytes)) = some (some (.int .i64 0), 1, 8) by kernel_rfl)
  obtain ⟨i1, hi1, hy0, hy1, hy2⟩ := info_parts (show (Tryd.prog.info? 33).map (fun i => (i.zero, i.size, i.bytes)) = some (some (.slice none 0 0), 1, 24) by kernel_rfl)
  go_enter Tryd.func84, Tryd.ntmps84
  go_wp2
  go_loopw [3, 4] (fun cv nv wr => ∃ n m g cap : Nat, ∃ xs, n ≤ D ∧ Hid (m = n + 1) ∧ nv = .int .i64 ((n : Int) + 1) ∧ cv = .slice (some ⟨g, 0, none⟩) m cap ∧ wr.ownsRow w.heap.size 33 1 cv m xs ∧ RowsAt wr xs m w.heap.size ∧ Below w.heap.size w wr) (fun _ nv _ => (D + 1 - (intOf nv).toNat))
  case atStart => 
    refine ⟨0, 1, w.heap.size + 1, 1, [rv' 0 w.heap.size], Nat.zero_le _, rfl, rfl, rfl, ?_, ?_, by go_grown⟩
    · have := World.ownsRow_lit (base := w.heap.size) (e := 33) (size := 1) (w.alloc (.cells #[.int .i64 1] 3)) #[rv' 0 w.heap.size] 1 (by simp) (by unfold maxLen; omega) (by simp)
      rw [World.size_alloc] at this; exact this
    · intro i hi
      obtain rfl : i = 0 := by omega
      exact ⟨w.heap.size, rfl, ((IRow.one w 1).same (fun j hj => by simp [W]; omega)).alloc _, Nat.le_refl _⟩
  case round =>
    obtain ⟨n, m, g, cap, xs, hn, hm, rfl, rfl, hown, hrows, hbl⟩ := hrel
    obtain ⟨wo, rfl⟩ : ∃ wo : World, wo = wr := ⟨_, rfl⟩
    have hmn : m ≤ n + 1 ∧ n + 1 ≤ m := by have := hm.out; omega
    obtain ⟨hm1, hm2⟩ := hmn
    by_cases hnd : n < D
    · obtain ⟨gp, hxp, hrp, hBp⟩ := hrows n (by omega)
      obtain ⟨q, hq⟩ : ∃ q, q = 9 * n + 1 := ⟨_, rfl⟩
      have hcp : wo.cell? ⟨g, n, none⟩ = some (.slice (some ⟨gp, 0, none⟩) q q) := by
        rw [hown.cellAt n (by omega), hxp, rv', hq]
      rw [← hq] at hrp
      have hqb : q ≤ 9 * n + 1 ∧ 9 * n + 1 ≤ q := by omega
      have HQ := Lib.hid hq
      clear hq
      obtain ⟨hq1, hq2⟩ := hqb
      have hlt := hrp.lt
      have hgl : g < wo.heap.size := (hown.lt g rfl).2
      go_wp2_with (refine wpList_make_rowL _ rfl _ _ 33 rfl 3 i0 (.int .i64 0) Tryd.underlying33 hi hz0 hz1 rfl .i64 .i64 _ _ (q + 9) rfl rfl (by omega) (by omega) (by rw [hz2]; omega) (by omega) ?_)
      have hr1 := hrp.alloc (.cells (madeCells #[.int .i64 0] (q + 9)) 3)
      have hr2 := IRow.made wo (q + 9)
      have hne : gp ≠ wo.heap.size := by omega
      go_loopw [26] (fun kv wq => ∃ k : Nat, k ≤ q ∧ kv = .int .i64 k ∧ IRow wq wo.heap.size (q + 9) (outp (W n) k) ∧ IRow wq gp q (W n) ∧ Below wo.heap.size wo wq ∧ wo.heap.size < wq.heap.size) (fun kv _ => q - (intOf kv).toNat)
      case atStart => exact ⟨0, Nat.zero_le _, rfl, hr2.same (fun _ _ => rfl), hr1, by go_grown, by simp⟩
      case round =>
        obtain ⟨k, hk, rfl, hw2, hw1, hqb, hqs⟩ := hrel
        obtain ⟨wp, rfl⟩ : ∃ wp : World, wp = wr := ⟨_, rfl⟩
        by_cases hkm : k < q
        · have hc1 := hw1.cell hkm
          have hW := W_12 (n := n) (by omega) k
          obtain ⟨hW1, hW2⟩ := hW
          go_wp2_with fail
          go_loopw [31] (fun dv ws => ∃ d : Nat, d ≤ 10 ∧ dv = .int .i64 d ∧ IRow ws wo.heap.size (q + 9) (mid (W n) k d) ∧ IRow ws gp q (W n) ∧ Below wo.heap.size wo ws ∧ wo.heap.size < ws.heap.size) (fun dv _ => 10 - (intOf dv).toNat)
          case atStart => exact ⟨0, Nat.zero_le _, rfl, hw2.same (fun j _ => (mid_zero _ _ _).symm), hw1, hqb, hqs⟩
          case round =>
            obtain ⟨d, hd, rfl, hs2, hs1, hsb, hss⟩ := hrel
            by_cases hd10 : d < 10
            · have hc2 := hs2.cell (i := k + d) (by omega)
              have hf2 := hs2.frozen (k + d)
              have hM := mid_12 (n := n) (by omega) k d (k + d)
              obtain ⟨hM1, hM2⟩ := hM
              go_wp2
              go_roundw
              case rel => exact ⟨d + 1, by omega, by go_num, hs2.put (k + d) _ (fun j => mid_succ (W n) k d j), hs1.other (by simpa using hne) _, hsb.setCell (by simp) _, by simp [World.setCell]; omega⟩
              case measure => simp [intOf]; omega
            · go_wp2
              go_roundw
              case rel => exact ⟨k + 1, by omega, by go_num, hs2.same (fun j _ => by rw [show d = 10 by omega, mid_ten]), hs1, hsb, hss⟩
              case measure => simp [intOf]; omega
        · have hown2 := own_below hown hqb
          have hrow2 := hrows.below hqb
          have hw3 : IRow wp wo.heap.size (9 * (n + 1) + 1) (W (n + 1)) := by
            have e : q + 9 = 9 * (n + 1) + 1 := by have := HQ.out; omega
            rw [← e]
            exact hw2.same (fun j _ => by rw [W, ← HQ.out, show k = q by omega])
          have hbs := hbl.size
          go_wp2_with (at_builtin; refine wpList_append_own _ rfl _ _ 46 rfl w.heap.size 33 i1 (.slice none 0 0) 1 24 Tryd.underlying46 hi1 hy0 hy1 hy2 rfl (by decide) _ _ _ rfl (hown2.alloc _) ⟨wp.heap.size, 0, none⟩ 1 1 [.slice (some ⟨wo.heap.size, 0, none⟩) (q + 9) (q + 9)] rfl rfl ?c1 ?c2 ?c3 ?c4 ?c5 ?_)
          case c1 =>
            intro j u hj
            match j, hj with
            | 0, hj => simp at hj; subst hj; simp [Addr.add]
          case c2 => intro u hu; simp at hu; subst hu; rfl
          case c3 => unfold maxLen; omega
          case c4 => omega
          case c5 => simp; omega
          intro v' w2 hown' hgrow _
          have hP : RowsAt w2 (xs ++ [.slice (some ⟨wo.heap.size, 0, none⟩) (q + 9) (q + 9)]) (m + 1) w.heap.size := by
            have em : m = n + 1 := hm.out
            have e1 : q + 9 = 9 * m + 1 := by have := HQ.out; omega
            have hw4 : IRow (wp.alloc (.cells #[.slice (some ⟨wo.heap.size, 0, none⟩) (q + 9) (q + 9)] 33)) wo.heap.size (9 * m + 1) (W m) := by
              refine IRow.alloc ?_ _
              rw [em]; exact hw3
            have := RowsAt.push (hrow2.below ((Below.refl _ _).alloc (Nat.le_refl _) (.cells #[.slice (some ⟨wo.heap.size, 0, none⟩) (q + 9) (q + 9)] 33))) (by simpa using hown2.1) hw4 (by omega) (hown2.alloc _) hgrow
            rw [rv', ← e1] at this; exact this
          have HP := Lib.hid hP
          clear hP
          have hbz := hqb.size
          have hbb : Below w.heap.size w w2 := ((hbl.trans (hqb.mono (by omega))).alloc (by omega) _).grown hgrow (by simp; omega) (fun k hk => (hown2.lt k hk).1)
          obtain ⟨g', cap', rfl⟩ : ∃ g' cap', v' = .slice (some ⟨g', 0, none⟩) (m + 1) cap' := by
            rcases hown'.2 with ⟨_, h0⟩ | ⟨g', cap', cur, hv, _⟩
            · omega
            · exact ⟨g', cap', hv⟩
          have HO := Lib.hid hown'
          clear hown' hgrow hown2 hrow2 hw3 hw2 hw1 hown hrows hrp
          go_wp2
          go_roundw
          case rel => exact ⟨n + 1, m + 1, g', cap', _, by omega, show m + 1 = n + 1 + 1 by omega, val_int (by omega), rfl, HO.out, HP.out, hbb⟩
          case measure => simp [intOf]; omega
    · have hnD : n = D := by omega
      have HD' := Lib.hid hnD
      clear hnD
      go_wp2
      go_ret
      refine ⟨.slice (some ⟨g, 0, none⟩) m cap, rfl, ⟨g, cap, ?_, (hown.lt g rfl).2, (hown.lt g rfl).1, fun i hi => ?_⟩, hbl⟩
      · rw [show m = D + 1 by have := HD'.out; omega]
      · obtain ⟨gi, h1, h2, h3⟩ := hrows i (by have := HD'.out; omega)
        exact ⟨gi, by rw [hown.cellAt i (by have := HD'.out; omega), h1]; rfl, h2, h3⟩
end Go.Proofs.YtghjpanabphbpaaDoor
