/-
  The text of a check, as the program writes it.
-/
import Derived.Test.YtdjcgddcgjbboaaDoorSlTxT
namespace Go.Proofs.YtdjcgddcgjbboaaDoor
open Go.RowKit Go.Deep
set_option maxRecDepth 100000

set_option maxHeartbeats 4000000 in
theorem checkText_any (xs : List Int) (m : Int) (v : Value) (w : World) (hn : xs.length ≤ 1048576) (h : RdI xs v w) :
    Calls Tryd.prog 28 #[.agg #[v, .int .i64 m]] w fun e w' => e = .returned (.tuple #[.string (if chkB xs m then ⟨(ctx xs m).toArray⟩ else ⟨#[]⟩), .bool (chkB xs m)]) ∧ Below w.heap.size w w' := by
  have HV := Lib.hid h
  cases hb : chkB xs m with
  | false =>
    go_enter Tryd.func28, Tryd.ntmps28
    go_wp2_with (go_at_call 53; (with_reducible refine (isCheck_any xs m v _ hn (HV.out.below (by go_grown))).mono ?_); rintro e w1 ⟨rfl, b1⟩; rw [hb])
    go_ret2
    exact ⟨rfl, by first | exact b1 | exact chain (w := w) (by go_grown) b1⟩
  | true =>
    obtain ⟨hl, hm, hin⟩ := chk_in hb
    obtain ⟨a, cap, rfl, hc⟩ := h
    have HC := Lib.hid hc
    have HCK := Lib.hid hb
    have HIN : Hid (∀ j, j < xs.length → 0 ≤ xs.getD j 0 ∧ xs.getD j 0 ≤ 11) := fun j hj => by have := hin j hj; omega
    obtain ⟨T, hT⟩ : ∃ T : ByteArray, T = ⟨(ctx xs m).toArray⟩ := ⟨_, rfl⟩
    have HT := Lib.hid hT
    obtain ⟨ts, hts⟩ : ∃ ts, ts = xs.map ddx := ⟨_, rfl⟩
    have HTS := Lib.hid hts
    obtain ⟨n, hnn⟩ : ∃ n, n = xs.length := ⟨_, rfl⟩
    have HN := Lib.hid hnn
    have HTL : Hid (ts.length = n) := by show _ = _; rw [hts, List.length_map, hnn]
    have HNB : Hid (xs.length ≤ 1048576) := hn
    rw [← hnn] at hl hn HV ⊢
    rw [← hT]
    obtain ⟨hl1, hl2⟩ := hl
    obtain ⟨hm1, hm2⟩ := hm
    have hmk := fun w => makeSx w n hn
    clear hc hin hb hnn hT hts
    go_enter Tryd.func28, Tryd.ntmps28
    go_wp2_with (go_at_call 53; (with_reducible refine (isCheck_any xs m _ _ HNB.out (HV.out.below (by go_grown))).mono ?_); rintro e w1 ⟨rfl, b1⟩; rw [HCK.out]; obtain ⟨c0, c1, hz⟩ := box2_kept b1; have B1 := chain (w := w) (by go_grown) b1)
    obtain ⟨g, hg⟩ : ∃ g, g = w1.heap.size := ⟨_, rfl⟩
    have HG := Lib.hid hg
    have HS : Hid (Strx g (ptx ts 0) (.slice (some ⟨g, 0, none⟩) n n) (w1.alloc (.cells (madeCells #[.string ⟨#[]⟩] n) 9))) := by
      show Strx _ _ _ _
      rw [ptx_zero, HTL.out, hg]; exact Strx.made w1 n hn
    have HW : Hid (w.heap.size < w1.heap.size) := hz
    rw [← hg]
    clear hmk hg b1
    go_loopw [17] (fun iv wr => ∃ k : Nat, k ≤ n ∧ iv = .int .i64 k ∧ Hid (Strx g (ptx ts k) (.slice (some ⟨g, 0, none⟩) n n) wr) ∧ Below w1.heap.size w1 wr ∧ g < wr.heap.size) (fun iv _ => n - (intOf iv).toNat)
    case atStart => exact ⟨0, Nat.zero_le _, rfl, HS, (Below.refl _ _).alloc (Nat.le_refl _) _, by have := HG.out; simp; omega⟩
    case round =>
      obtain ⟨k, hk, rfl, hI, hbl, hgs⟩ := hrel
      have B2 := chain B1 hbl
      by_cases hlt : k < n
      · have hlt2 : k < xs.length := by rw [← HN.out]; exact hlt
        have hlt3 : k < ts.length := by rw [HTL.out]; exact hlt
        obtain ⟨g0, o, rfl, hg0, hcell⟩ := HC.out k hlt2
        have hcell2 := (B2.cell (p := ⟨g0, o + k, none⟩) hg0).trans hcell
        have hlen : (ptx ts k).length = n := by rw [ptx_len _ _ (by omega), HTL.out]
        have hff : wr.frozen? ⟨g, k, none⟩ = false := by
          have h := hI.out; unfold Strx at h; rw [hlen] at h; exact h.frozenAt k
        have hcc : wr.cell? ⟨g, k, none⟩ = some (strVx ((ptx ts k).getD k [])) := by
          have h := hI.out; unfold Strx at h; rw [hlen] at h; rw [h.cellAt k (by omega)]; simp [List.getElem?_eq_getElem (show k < (ptx ts k).length by rw [hlen]; exact hlt)]
        have hx := HIN.out k hlt2
        obtain ⟨x, hxe⟩ : ∃ x, x = xs.getD k 0 := ⟨_, rfl⟩
        have HXT : Hid (ts.getD k [] = ddx x) := by show _ = _; rw [HTS.out, hxe]; simp [List.getD, List.getElem?_eq_getElem hlt2]
        obtain ⟨D, hD⟩ : ∃ D : ByteArray, D = ⟨(ddx x).toArray⟩ := ⟨_, rfl⟩
        have HD := Lib.hid hD
        have HS2 : Hid (Strx g (ptx ts (k + 1)) (.slice (some ⟨g, 0, none⟩) n n) (wr.setCell ⟨g, k, none⟩ (.string D))) := by
          have h := Strx.store hlen hI.out k (ts.getD k [])
          rw [ptx_succ ts k hlt3] at h
          rw [show Value.string D = strVx (ts.getD k []) by rw [HXT.out, hD]; rfl]; exact h
        have HBL : Hid (w1.heap.size ≤ g) := by show _ ≤ _; rw [HG.out]; exact Nat.le_refl _
        obtain ⟨y, hy⟩ : ∃ y : Value, y = strVx ((ptx ts k).getD k []) := ⟨_, rfl⟩
        rw [← hy] at hcc
        rw [← hxe] at hcell2 hx
        clear hcell hlen hy hD hxe
        go_wp2_with (go_at_call 54; refine (itoaX x D _ hx HD.out).mono ?_; rintro e w2 ⟨rfl, rfl⟩)
        go_roundw
        case rel => exact ⟨k + 1, by omega, by go_num, HS2, hbl.setCell HBL.out _, by simp [World.setCell]; omega⟩
        case measure => simp [intOf]; omega
      · have hke : k = n := by omega
        have hlen : (ptx ts k).length = n := by rw [ptx_len _ _ (by rw [HTL.out]; omega), HTL.out]
        have HCL : Hid (∀ j, j < n → wr.cell? ⟨g, j, none⟩ = some (.string ⟨(ddx (xs.getD j 0)).toArray⟩)) := by
          intro j hj
          have h := hI.out
          unfold Strx at h
          rw [hlen] at h
          rw [h.cellAt j (by omega), hke, show n = ts.length by rw [HTL.out], ptx_all]
          have hj2 : j < xs.length := by rw [← HN.out]; exact hj
          rw [HTS.out]
          simp [List.getD, List.getElem?_eq_getElem hj2, strVx]
        obtain ⟨D, hD⟩ : ∃ D : ByteArray, D = ⟨(ddx m).toArray⟩ := ⟨_, rfl⟩
        have HD := Lib.hid hD
        have hDz : D.size ≤ 2 := by rw [hD, szb]; exact (ddx_len (by omega)).1
        obtain ⟨J, hJ⟩ : ∃ J : ByteArray, J = ⟨(wtx xs n).toArray⟩ := ⟨_, rfl⟩
        have HJ := Lib.hid hJ
        have hJz : J.size ≤ 36 := by rw [hJ, szb]; have := wtx_len HIN.out n (by rw [HN.out]; exact Nat.le_refl _); omega
        have HRES : Hid (T = (J ++ ⟨#[109]⟩) ++ D) := by
          show _ = _; rw [HT.out, hJ, hD]; unfold ctx; rw [HN.out]; simp [bytes_two, List.append_assoc]
        have hmi : 0 ≤ m ∧ m ≤ 11 := by omega
        have d0 := (hbl.cell (p := ⟨w.heap.size, 0, none⟩) hz).trans c0
        have d1 := (hbl.cell (p := ⟨w.heap.size, 1, none⟩) hz).trans c1
        have HBJ : Hid (∀ W, Below wr.heap.size wr W → W.cell? ⟨w.heap.size, 1, none⟩ = some (.int .i64 m)) := fun W hW => (hW.cell (p := ⟨w.heap.size, 1, none⟩) (by have := hbl.size; show w.heap.size < _; omega)).trans d1
        have HJC : Hid (∀ W, Below wr.heap.size wr W → Calls Tryd.prog 55 #[.slice (some ⟨g, 0, none⟩) n n, .string ⟨#[44]⟩] W fun e w' => e = .returned (.string J) ∧ Below W.heap.size W w') := fun W hW =>
          joinX xs n g J W HN.out hl2 HIN.out HJ.out (by have := hW.size; omega) (fun j hj => (hW.cell (p := ⟨g, j, none⟩) hgs).trans (HCL.out j hj))
        clear hD hJ hke hlen
        go_wp2
        go_region_with (first
          | (go_at_call 55; refine (HJC.out _ (by go_grown)).mono ?_; rintro e w2 ⟨rfl, b2⟩; have B3 := chain (w := wr) (by go_grown) b2; have e1 := HBJ.out _ B3)
          | (go_at_call 54; refine (itoaX m D _ hmi HD.out).mono ?_; rintro e w3 ⟨rfl, rfl⟩))
        all_goals go_wp2
        all_goals
          go_ret2
          exact ⟨by rw [HRES.out]; rfl, chain B2 (by first | exact B3 | exact below_drw B3 | go_grown)⟩
end Go.Proofs.YtdjcgddcgjbboaaDoor
