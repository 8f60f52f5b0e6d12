/-
  The text of a check, as the model writes it.
-/
import Derived.Test.YtdjcgddcgjbboaaDoorSlTxS
namespace Go.Proofs.YtdjcgddcgjbboaaDoor
open Go.RowKit Go.Deep
set_option maxRecDepth 100000

set_option maxHeartbeats 2000000 in
theorem slText_any (xs : List Int) (m : Int) (v : Value) (w : World) (hb : chkB xs m = true) (h : RdI xs v w) :
    Calls Tryd.prog 52 #[.agg #[v, .int .i64 m]] w fun e w' => e = .returned (.string ⟨(ctx xs m).toArray⟩) ∧ Below w.heap.size w w' := by
  obtain ⟨hl, hm, hin⟩ := chk_in hb
  obtain ⟨a, cap, rfl, hc⟩ := h
  have HC := Lib.hid hc
  have HIN : Hid (∀ j, j < xs.length → 0 ≤ xs.getD j 0 ∧ xs.getD j 0 ≤ 11) := fun j hj => by have := hin j hj; omega
  have HLEN : Hid (∀ k, k ≤ xs.length → (wtx xs k).length ≤ 3 * k) := fun k hk => wtx_len HIN.out k hk
  obtain ⟨n, hnn⟩ : ∃ n, n = xs.length := ⟨_, rfl⟩
  have HN := Lib.hid hnn
  rw [← hnn] at hl
  rw [← hnn]
  obtain ⟨hl1, hl2⟩ := hl
  obtain ⟨hm1, hm2⟩ := hm
  clear hc hin hb hnn
  go_enter Tryd.func52, Tryd.ntmps52
  go_wp2
  go_loopw [3, 9] (fun ov iv wr => ∃ (k : Nat) (B : ByteArray), k ≤ n ∧ iv = .int .i64 k ∧ ov = .string B ∧ Hid (B = ⟨(wtx xs k).toArray⟩) ∧ B.size ≤ 3 * k ∧ Below (w.alloc (.cells #[.slice a n cap, .int .i64 m] 29)).heap.size (w.alloc (.cells #[.slice a n cap, .int .i64 m] 29)) wr) (fun _ iv _ => n - (intOf iv).toNat)
  case atStart => exact ⟨0, ⟨#[]⟩, Nat.zero_le _, rfl, rfl, by show _ = _; rw [wtx_zero], by show 0 ≤ 0; omega, Below.refl _ _⟩
  case round =>
    obtain ⟨k, B, hk, rfl, rfl, HB, hBz, hbl⟩ := hrel
    obtain ⟨c0, c1, hz⟩ := box2_kept hbl
    have B1 := chain ((Below.refl w.heap.size w).alloc (Nat.le_refl _) (.cells #[.slice a n cap, .int .i64 m] 29)) hbl
    by_cases hlt : k < n
    · have hlt2 : k < xs.length := by rw [← HN.out]; exact hlt
      obtain ⟨g, o, rfl, hg, hcell⟩ := HC.out k hlt2
      have hcell2 := (B1.cell (p := ⟨g, o + k, none⟩) hg).trans hcell
      have hx := HIN.out k hlt2
      obtain ⟨x, hxe⟩ : ∃ x, x = xs.getD k 0 := ⟨_, rfl⟩
      obtain ⟨D, hD⟩ : ∃ D : ByteArray, D = ⟨(ddx x).toArray⟩ := ⟨_, rfl⟩
      have HD := Lib.hid hD
      have hDz : D.size ≤ 2 := by rw [hD, szb]; exact (ddx_len (by rw [hxe]; exact hx)).1
      rw [← hxe] at hcell2 hx
      by_cases h0 : k = 0
      · have HNX : Hid (wtx xs (k + 1) = wtx xs k ++ ddx x) := by show _ = _; rw [h0, wtx_zero, wtx_one (by omega), hxe, h0]; rfl
        have h0n : ¬ (0 < (k : Int)) := by omega
        clear hcell hD hxe h0
        go_wp2_with (go_at_call 66; refine (numX x D _ hx HD.out).mono ?_; rintro e w2 ⟨rfl, b2⟩)
        go_roundw
        case rel => exact ⟨k + 1, B ++ D, by omega, by go_num, rfl, by show _ = _; rw [HNX.out, HB.out, HD.out]; simp [bytes_two], by have h44 : (⟨#[44]⟩ : ByteArray).size = 1 := rfl; simp only [ByteArray.size_append]; omega, hbl.trans (b2.mono (by have := hbl.size; omega))⟩
        case measure => simp [intOf]; omega
      · have HNX : Hid (wtx xs (k + 1) = wtx xs k ++ [44] ++ ddx x) := by
          obtain ⟨j, hj⟩ : ∃ j, k = j + 1 := ⟨k - 1, by omega⟩
          subst hj
          show _ = _; rw [wtx_succ hlt2, hxe]
        have h0n : 0 < (k : Int) := by omega
        clear hcell hD hxe h0
        go_wp2_with (go_at_call 66; refine (numX x D _ hx HD.out).mono ?_; rintro e w2 ⟨rfl, b2⟩)
        go_roundw
        case rel => exact ⟨k + 1, (B ++ ⟨#[44]⟩) ++ D, by omega, by go_num, rfl, by show _ = _; rw [HNX.out, HB.out, HD.out]; simp [bytes_two, List.append_assoc], by have h44 : (⟨#[44]⟩ : ByteArray).size = 1 := rfl; simp only [ByteArray.size_append]; omega, hbl.trans (b2.mono (by have := hbl.size; omega))⟩
        case measure => simp [intOf]; omega
    · have hke : k = n := by omega
      obtain ⟨D, hD⟩ : ∃ D : ByteArray, D = ⟨(ddx m).toArray⟩ := ⟨_, rfl⟩
      have HD := Lib.hid hD
      have hDz : D.size ≤ 2 := by rw [hD, szb]; exact (ddx_len (by omega)).1
      have HK : Hid (ctx xs m = wtx xs k ++ [109] ++ ddx m) := by show _ = _; unfold ctx; rw [hke, HN.out]
      clear hD hke
      go_wp2_with (go_at_call 66; refine (numX m D _ (by omega) HD.out).mono ?_; rintro e w2 ⟨rfl, b2⟩)
      go_ret
      exact ⟨ret_str (by rw [HK.out, HB.out, HD.out]; simp [bytes_two, List.append_assoc]), chain B1 b2⟩
set_option maxHeartbeats 1000000 in
theorem sCheckText_any (xs : List Int) (m : Int) (v : Value) (w : World) (hn : xs.length ≤ 1048576) (h : RdI xs v w) :
    Calls Tryd.prog 27 #[.agg #[v, .int .i64 m]] w fun e w' => e = .returned (.tuple #[.string (if chkB xs m then ⟨(ctx xs m).toArray⟩ else ⟨#[]⟩), .bool (chkB xs m)]) ∧ Below w.heap.size w w' := by
  have HV := Lib.hid h
  cases hb : chkB xs m with
  | false =>
    go_enter Tryd.func27, Tryd.ntmps27
    go_wp2_with (go_at_call 33; (with_reducible refine (slGood_any xs m v _ hn (HV.out.below (by go_grown))).mono ?_); rintro e w1 ⟨rfl, b1⟩; rw [hb])
    go_ret2
    exact ⟨rfl, by first | exact b1 | exact chain (w := w) (by go_grown) b1⟩
  | true =>
    obtain ⟨T, hT⟩ : ∃ T : ByteArray, T = ⟨(ctx xs m).toArray⟩ := ⟨_, rfl⟩
    have HS : Hid (∀ W, RdI xs v W → Calls Tryd.prog 52 #[.agg #[v, .int .i64 m]] W fun e w' => e = .returned (.string T) ∧ Below W.heap.size W w') := fun W hr => by rw [hT]; exact slText_any xs m v W hb hr
    rw [← hT]
    clear hT
    go_enter Tryd.func27, Tryd.ntmps27
    go_wp2_with (first
      | (go_at_call 33; (with_reducible refine (slGood_any xs m v _ hn (HV.out.below (by go_grown))).mono ?_); rintro e w1 ⟨rfl, b1⟩; rw [hb]; obtain ⟨c0, c1, hz⟩ := box2_kept b1; have B1 := chain (w := w) (by go_grown) b1; have A1 := HV.out.below B1)
      | (go_at_call 52; (with_reducible refine (HS.out _ A1).mono ?_); rintro e w2 ⟨rfl, b2⟩))
    go_ret2
    exact ⟨rfl, chain B1 b2⟩
end Go.Proofs.YtdjcgddcgjbboaaDoor
