/-
  Digit sums and products, by both sides; made less again and again.
-/
import Derived.Test.YtghjpanabphbpaaDoorDiDig
import Derived.Test.YtghjpanabphbpaaDoorDiCup
import Derived.Lib.ConvBytes
namespace Go.Proofs.YtghjpanabphbpaaDoor
open Go.RowKit

theorem nsum_txt {n : Int} {s : ByteArray} (h : TxtOf n s) : nsum n = dsum s.data.toList := by unfold nsum; rw [h]
theorem nprod_txt {n : Int} {s : ByteArray} (h : TxtOf n s) : nprod n = dprod s.data.toList := by unfold nprod; rw [h]
/-- How often each digit is there, for the program. -/
theorem take_dct (s : ByteArray) (k : Nat) (h : k < s.size) (d : Nat) : dct d (s.data.toList.take (k + 1)) = if d = (dj s k).toNat ∧ 0 ≤ dj s k then dct d (s.data.toList.take k) + 1 else dct d (s.data.toList.take k) := by
  rw [take_dj s k h, dct_snoc]
  unfold dj
  by_cases e : dv (s.data.toList.getD k 48) = (d : Int)
  · rw [if_pos e, if_pos (by omega)]
  · rw [if_neg e, if_neg (by omega)]
set_option maxHeartbeats 1000000 in
theorem countsIn_any (n : Int) (s : ByteArray) (w : World) (h0 : 0 ≤ n) (h1 : n ≤ 1000000000000) (hs : TxtOf n s) (htab : Tab w) :
    Calls Tryd.prog 88 #[.int .i64 n] w fun e w' => e = .returned (.agg (A10 fun d => dct d s.data.toList)) ∧ Below w.heap.size w w' := by
  have HD := Lib.hid hs.dig
  have hsz := hs.size h1
  have HI := Lib.hid (fun W hW => decimals_any n s W h0 h1 hs (htab.keep hW))
  obtain ⟨hsz1, hsz2⟩ := hsz
  clear hs htab
  go_enter Tryd.func88, Tryd.ntmps88
  go_wp2_with fail
  have F0 := (Row10.new w (fun _ => 0)).alloc (.cells (A10 fun _ => 0) 63)
  have F1 := Row10.new (w.alloc (.cells (A10 fun _ => 0) 63)) (fun _ => 0)
  rw [World.size_alloc] at F1
  have H0 : Below w.heap.size w ((w.alloc (.cells (A10 fun _ => 0) 63)).alloc (.cells (A10 fun _ => 0) 63)) := by go_grown
  refine (HI.out _ H0).mono ?_
  rintro e w1 ⟨⟨g, rfl, hr, hg⟩, b1⟩
  have F0 := F0.keep b1
  have F1 := F1.keep b1
  have hb1 := H0.trans (b1.mono H0.size)
  have HG : Hid (w.heap.size + 1 + 1 ≤ g) := by show _ ≤ _; simpa using hg
  have HR := Lib.hid hr
  have HF0 := Lib.hid F0
  have HF1 := Lib.hid F1
  clear hr F0 F1 H0 b1 hg
  go_wp2_with fail
  go_loopw [9] (fun kv wr => ∃ k : Nat, k ≤ s.size ∧ kv = .int .i64 k ∧ Hid (Row10 wr w.heap.size (fun _ => 0)) ∧ Hid (Row10 wr (w.heap.size + 1) (fun d => dct d (s.data.toList.take k))) ∧ Hid (IRow wr g s.size (dj s)) ∧ Below w.heap.size w wr) (fun kv _ => s.size - (intOf kv).toNat)
  case atStart => exact ⟨0, by omega, rfl, HF0, HF1, HR, hb1⟩
  case round =>
    obtain ⟨k, hk, rfl, HQ0, HQ1, HQ2, hb⟩ := hrel
    obtain ⟨wo, rfl⟩ : ∃ wo : World, wo = wr := ⟨_, rfl⟩
    by_cases hlt : k < s.size
    · have hjb := dj_bd HD.out hlt
      obtain ⟨x, hx⟩ : ∃ x : Nat, dj s k = (x : Int) := ⟨(dj s k).toNat, by omega⟩
      have hx9 : x < 10 := by omega
      have c2 := HQ2.out.cell hlt
      rw [hx] at c2
      have c1 := HQ1.out.cell hx9
      have z1 := HQ1.out.frozen x
      have hcb := dct_bd x (s.data.toList.take k)
      have hl : (s.data.toList.take k).length ≤ k := List.length_take_le _ _
      obtain ⟨y, hy⟩ : ∃ y, dct x (s.data.toList.take k) = y := ⟨_, rfl⟩
      rw [hy] at c1 hcb
      have hy0 : 0 ≤ y := hcb.1
      have hy1 : y ≤ 13 := by have := hcb.2; omega
      have HF : Hid (∀ d : Nat, dct d (s.data.toList.take (k + 1)) = if d = x then y + 1 else dct d (s.data.toList.take k)) := fun d => by
        rw [take_dct s k hlt, hx]
        by_cases hd : d = x
        · rw [if_pos (by omega), if_pos hd, hd, hy]
        · rw [if_neg (by omega), if_neg hd]
      clear hcb hy hx hjb hl
      go_wp2
      go_roundw
      case rel =>
        refine ⟨k + 1, by omega, by go_num, HQ0.out.other (by simp) _, ?_, HQ2.out.other (by have := HG.out; simp; omega) _, hb.setCell (by simp) _⟩
        show Row10 _ _ _
        exact HQ1.out.put x (y + 1) HF.out
      case measure => simp [intOf]; omega
    · have HR3 : Row10 wo (w.heap.size + 1) (fun d => dct d s.data.toList) := HQ1.out.same (fun d _ => by rw [show k = s.size by omega, take_all])
      obtain ⟨d0, d1, d2, d3, d4, d5, d6, d7, d8, d9, df, ds⟩ := HR3.all
      obtain ⟨m0, m1, m2, m3, m4, m5, m6, m7, m8, m9, mf, ms⟩ := HQ0.out.all
      have hq := HQ0.out.blk
      have HQ := Lib.hid hq
      clear hq
      go_wp2
      refine bodyPost_ret (results_cell_row rfl _ _ w.heap.size 63 (A10 fun d => dct d s.data.toList) (0, 0) _ rfl ?_ Tryd.underlying63 rfl (by kernel_rfl)) rfl ⟨rfl, ?_⟩
      · have hqq := HQ.out
        unfold A10 at hqq
        simp [World.setCell, Array.getElem?_modify, hqq, A10]
      · exact (((((((((hb.setCell (Nat.le_refl _) _).setCell (Nat.le_refl _) _).setCell (Nat.le_refl _) _).setCell (Nat.le_refl _) _).setCell (Nat.le_refl _) _).setCell (Nat.le_refl _) _).setCell (Nat.le_refl _) _).setCell (Nat.le_refl _) _).setCell (Nat.le_refl _) _).setCell (Nat.le_refl _) _
theorem digitSum_any (n : Int) (w : World) (h0 : 0 ≤ n) (h1 : n ≤ 1000000000000) (htab : Tab w) :
    Calls Tryd.prog 70 #[.int .i64 n] w fun e w' => e = .returned (.int .i64 (nsum n)) ∧ Below w.heap.size w w' := by
  obtain ⟨s, hs⟩ := txt_ex n
  have HC0 := Lib.hid (countsIn_any n s w h0 h1 hs htab)
  have hb : ∀ d : Nat, 0 ≤ dct d s.data.toList ∧ dct d s.data.toList ≤ 13 := fun d => by
    have := dct_bd d s.data.toList
    have := hs.size h1
    have : s.data.toList.length = s.size := by simp
    omega
  have HS0 := Lib.hid (fun W => sum10_any (fun d => dct d s.data.toList) 13 W (by omega) (fun i _ => hb i))
  rw [nsum_txt hs, ← dsm_dct _ hs.dig]
  obtain ⟨C, hC⟩ : ∃ C, C = A10 fun d => dct d s.data.toList := ⟨_, rfl⟩
  obtain ⟨x, hx⟩ : ∃ x, dsm (fun d => dct d s.data.toList) 10 = x := ⟨_, rfl⟩
  rw [← hC] at HC0 HS0
  rw [hx] at HS0 ⊢
  clear hC hx hs hb htab
  go_enter Tryd.func70, Tryd.ntmps70
  go_wp2_with (first | (go_at_call 88; refine HC0.out.mono ?_; rintro e w1 ⟨rfl, b1⟩) | (go_at_call 89; refine (HS0.out _).mono ?_; rintro e w2 ⟨rfl, b2⟩))
  go_ret
  exact ⟨rfl, chain b1 b2⟩
set_option maxHeartbeats 1000000 in
theorem digitProduct_any (n : Int) (w : World) (h0 : 0 ≤ n) (h1 : n ≤ 1000000000000) (htab : Tab w) :
    Calls Tryd.prog 83 #[.int .i64 n] w fun e w' => e = .returned (.int .i64 (nprod n)) ∧ Below w.heap.size w w' := by
  obtain ⟨s, hs⟩ := txt_ex n
  have HD := Lib.hid hs.dig
  have hsz := hs.size h1
  have HI := Lib.hid (decimals_any n s w h0 h1 hs htab)
  obtain ⟨hsz1, hsz2⟩ := hsz
  rw [nprod_txt hs]
  clear hs htab
  go_enter Tryd.func83, Tryd.ntmps83
  go_wp2_with (go_at_call 87; refine HI.out.mono ?_; rintro e w1 ⟨⟨g, rfl, hr, hg⟩, b1⟩; have HR := Lib.hid hr; clear hr)
  go_loop [3, 9] (fun t i => ∃ (k : Nat) (S : Int), k ≤ s.size ∧ i = .int .i64 k ∧ t = .int .i64 S ∧ Hid (S = dprod (s.data.toList.take k))) (fun _ i => s.size - (intOf i).toNat)
  case atStart => exact ⟨0, 1, Nat.zero_le _, rfl, rfl, rfl⟩
  case round =>
    obtain ⟨k, S, hk, rfl, rfl, HS⟩ := hrel
    have hSb := dprod_13 (s.data.toList.take k) (digB_take _ _ HD.out) (by have : (s.data.toList.take k).length ≤ k := List.length_take_le _ _; omega)
    rw [← HS.out] at hSb
    obtain ⟨hS0, hS1⟩ := hSb
    by_cases hlt : k < s.size
    · have hjb := dj_bd HD.out hlt
      have c0 := HR.out.cell hlt
      obtain ⟨x, hx⟩ : ∃ x : Int, dj s k = x := ⟨_, rfl⟩
      rw [hx] at hjb c0
      obtain ⟨hx0, hx1⟩ := hjb
      have HS' : Hid (S * x = dprod (s.data.toList.take (k + 1))) := by show _ = _; rw [take_dj s k hlt, dprod_snoc, HS.out, ← hx]; rfl
      have hp : 0 ≤ S * x ∧ S * x ≤ 2541865828329 * 9 := ⟨Int.mul_nonneg hS0 (by omega), Int.mul_le_mul hS1 (by omega) (by omega) (by omega)⟩
      obtain ⟨hp0, hp1⟩ := hp
      clear hx
      go_wp2
      go_round
      case rel => exact ⟨k + 1, _, by omega, by go_num, rfl, HS'⟩
      case measure => simp [intOf]; omega
    · go_wp2
      go_ret
      exact ⟨ret_int (by rw [HS.out, show k = s.size by omega, take_all]), b1⟩
end Go.Proofs.YtghjpanabphbpaaDoor
