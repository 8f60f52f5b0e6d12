/-
  Counts of all digits up to a number, their sum; the model's count.
-/
import Derived.Test.YtdgdjgefjhkpbaaDiCnt
namespace Go.Proofs.Ytdgdjgefjhkpbaa
open Go.RowKit

set_option maxHeartbeats 1000000 in
theorem countsUpTo_any (n : Int) (w : World) (h0 : 0 ≤ n) (h1 : n ≤ 1000000000000) :
    Calls Try.prog 40 #[.int .i64 n] w fun e w' => e = .returned (.agg (A10 fun d => cn d n)) ∧ Below w.heap.size w w' := by
  go_enter Try.func40, Try.ntmps40
  go_wp2
  go_loopw [4] (fun tv wr => ∃ (j : Nat) (T : Int), j ≤ 13 ∧ Hid (T = tn j) ∧ tv = .int .i64 T ∧ Hid (Row10 wr w.heap.size (fun _ => 0)) ∧ Hid (Row10 wr (w.heap.size + 1) (fun d => cp d n j)) ∧ Below w.heap.size w wr) (fun tv _ => (10000000000000 - intOf tv).toNat)
  case atStart => exact ⟨0, 1, by omega, rfl, rfl, (Row10.new w (fun _ => 0)).alloc _, by have := Row10.new (w.alloc (.cells (A10 fun _ => 0) 42)) (fun _ => 0); rw [World.size_alloc] at this; exact this.same (fun j _ => rfl), by go_grown⟩
  case round =>
    obtain ⟨j, T, hj, HT, rfl, HR0, HR1, hb⟩ := hrel
    obtain ⟨wo, rfl⟩ : ∃ wo : World, wo = wr := ⟨_, rfl⟩
    have hT1 : 1 ≤ T := by rw [HT.out]; exact tn_pos j
    by_cases hlt : T ≤ n
    · have hj13 : j < 13 := tn_lt (n := n) (by rw [← HT.out]; exact hlt) h1
      have HT' : Hid (T * 10 = tn (j + 1)) := by show _ = _; rw [tn_succ, HT.out]
      have HC : Hid (∀ W, Calls Try.prog 48 #[.int .i64 n, .int .i64 T] W fun e w' => e = .returned (.agg (A10 fun d => ca n T d)) ∧ Below W.heap.size W w') := fun W => countsAt_any n T W h0 h1 hT1 hlt
      obtain ⟨C, hC⟩ : ∃ C, C = A10 fun d => ca n T d := ⟨_, rfl⟩
      rw [← hC] at HC
      have HCC := Lib.hid hC
      clear hC
      go_wp2_with (go_at_call 48; refine (HC.out _).mono ?_; rintro e w1 ⟨rfl, b1⟩; have HR0' : Hid (Row10 w1 w.heap.size (fun _ => 0)) := HR0.out.keep b1; have HR1' : Hid (Row10 w1 (w.heap.size + 1) (fun d => cp d n j)) := HR1.out.keep b1; have hb1 := hb.trans (b1.mono hb.size); clear b1)
      go_loopw [15] (fun kv wq => ∃ k : Nat, k ≤ 10 ∧ kv = .int .i64 k ∧ Hid (Row10 wq w.heap.size (fun _ => 0)) ∧ Hid (Row10 wq (w.heap.size + 1) (fun d => if d < k then cp d n (j + 1) else cp d n j)) ∧ Below w.heap.size w wq) (fun kv _ => 10 - (intOf kv).toNat)
      case atStart => exact ⟨0, by omega, rfl, HR0', HR1'.out.same (fun d _ => by rw [if_neg (by omega)]), hb1⟩
      case round =>
        obtain ⟨k, hk, rfl, HQ0, HQ1, hqb⟩ := hrel
        obtain ⟨wp, rfl⟩ : ∃ wp : World, wp = wr := ⟨_, rfl⟩
        by_cases hkl : k < 10
        · have hix : ∀ W, (Instr.index 42 (.agg C) (.int .i64 (k : Int))).run Try.prog W = .ok (.int .i64 (ca n T k)) W := fun W => by rw [HCC.out]; exact A10_idx _ hkl W
          obtain ⟨x, hx⟩ : ∃ x, ca n T (k : Int) = x := ⟨_, rfl⟩
          obtain ⟨y, hy⟩ : ∃ y, cp (k : Int) n j = y := ⟨_, rfl⟩
          have c1 := HQ1.out.cell hkl
          rw [if_neg (by omega), hy] at c1
          have z1 := HQ1.out.frozen k
          rw [hx] at hix
          have hxb : 0 ≤ x ∧ x ≤ n := by rw [← hx]; exact ca_bd h0 hT1 hlt ⟨by omega, by omega⟩
          have hyb : 0 ≤ y ∧ y ≤ 13000000000000 := by rw [← hy]; exact cp_13 h0 h1 ⟨by omega, by omega⟩ hj
          obtain ⟨hx0, hx1⟩ := hxb
          obtain ⟨hy0, hy1⟩ := hyb
          have HXY : Hid (cp (k : Int) n (j + 1) = y + x) := by show _ = _; rw [cp_go (by rw [← HT.out]; exact hlt), hy, ← HT.out, hx]
          clear hx hy
          go_wp2
          go_roundw
          case rel =>
            have HF : ∀ d : Nat, (if d < k + 1 then cp (d : Int) n (j + 1) else cp (d : Int) n j) = if d = k then y + x else (if d < k then cp (d : Int) n (j + 1) else cp (d : Int) n j) := fun d => by
              by_cases hd : d = k
              · rw [if_pos (by omega), if_pos hd, hd, HXY.out]
              · rw [if_neg hd]
                by_cases hd2 : d < k
                · rw [if_pos hd2, if_pos (by omega)]
                · rw [if_neg hd2, if_neg (by omega)]
            refine ⟨k + 1, by omega, by go_num, HQ0.out.other (by simp) _, ?_, hqb.setCell (by simp) _⟩
            show Row10 _ _ _
            exact HQ1.out.putv k (y + x) rfl HF
          case measure => simp [intOf]; omega
        · go_wp2
          go_roundw
          case rel => exact ⟨j + 1, _, by omega, HT', rfl, HQ0, HQ1.out.same (fun d hd => by rw [if_pos (by omega)]), hqb⟩
          case measure => simp [intOf]; omega
    · have HR3 : Row10 wo (w.heap.size + 1) (fun d => cn d n) := HR1.out.same (fun d _ => cp_all (by rw [← HT.out]; omega) hj)
      obtain ⟨d0, d1, d2, d3, d4, d5, d6, d7, d8, d9, df, ds⟩ := HR3.all
      obtain ⟨m0, m1, m2, m3, m4, m5, m6, m7, m8, m9, mf, ms⟩ := HR0.out.all
      simp at d0 d1 d2 d3 d4 d5 d6 d7 d8 d9
      have hq := HR0.out.blk
      have HQ := Lib.hid hq
      clear hq
      go_wp2
      refine bodyPost_ret (results_cell_row rfl _ _ w.heap.size 42 (A10 fun d => cn d n) (0, 0) _ rfl ?_ Try.underlying42 rfl (by kernel_rfl)) rfl ⟨rfl, ?_⟩
      · have hqq := HQ.out
        unfold A10 at hqq
        simp [World.setCell, Array.getElem?_modify, hqq, A10]
      · exact (((((((((hb.setCell (Nat.le_refl _) _).setCell (Nat.le_refl _) _).setCell (Nat.le_refl _) _).setCell (Nat.le_refl _) _).setCell (Nat.le_refl _) _).setCell (Nat.le_refl _) _).setCell (Nat.le_refl _) _).setCell (Nat.le_refl _) _).setCell (Nat.le_refl _) _).setCell (Nat.le_refl _) _
theorem A10_idxE (f : Nat → Int) {k : Nat} (hk : k < 10) (w : World) : (Instr.index 42 (.agg #[.int .i64 (f 0), .int .i64 (f 1), .int .i64 (f 2), .int .i64 (f 3), .int .i64 (f 4), .int .i64 (f 5), .int .i64 (f 6), .int .i64 (f 7), .int .i64 (f 8), .int .i64 (f 9)]) (.int .i64 (k : Int))).run Try.prog w = .ok (.int .i64 (f k)) w := A10_idx f hk w
/-- The sum of ten counts. -/
theorem sum10_any (f : Nat → Int) (M : Int) (w : World) (hM : M ≤ 13000000000000) (hf : ∀ i, i < 10 → 0 ≤ f i ∧ f i ≤ M) :
    Calls Try.prog 43 #[.agg (A10 f)] w fun e w' => e = .returned (.int .i64 (dsm f 10)) ∧ Below w.heap.size w w' := by
  have hM0 : 0 ≤ M := by have := hf 0 (by omega); omega
  have HF := Lib.hid hf
  obtain ⟨C, hC⟩ : ∃ C, C = A10 f := ⟨_, rfl⟩
  have HR : Row10 (w.alloc (.cells C 42)) w.heap.size f := by rw [hC]; exact Row10.new w f
  obtain ⟨d0, d1, d2, d3, d4, d5, d6, d7, d8, d9, df, ds⟩ := HR.all
  have HIX : Hid (∀ (k : Nat) W, k < 10 → (Instr.index 42 (.agg #[.int .i64 (f 0), .int .i64 (f 1), .int .i64 (f 2), .int .i64 (f 3), .int .i64 (f 4), .int .i64 (f 5), .int .i64 (f 6), .int .i64 (f 7), .int .i64 (f 8), .int .i64 (f 9)]) (.int .i64 (k : Int))).run Try.prog W = .ok (.int .i64 (f k)) W) := fun k W hk => A10_idxE f hk W
  clear hf HR
  rw [← hC]
  clear hC
  go_enter Try.func43, Try.ntmps43
  go_wp2
  go_loop [3, 7] (fun s kv => ∃ (k : Nat) (S : Int), k ≤ 10 ∧ kv = .int .i64 k ∧ s = .int .i64 S ∧ Hid (S = dsm f k)) (fun _ kv => 10 - (intOf kv).toNat)
  case atStart => exact ⟨0, 0, by omega, rfl, rfl, rfl⟩
  case round =>
    obtain ⟨k, S, hk, rfl, rfl, HS⟩ := hrel
    have hSb := dsm_bd (f := f) (M := M) HF.out hk
    have hkM : (k : Int) * M ≤ 10 * 13000000000000 := Int.mul_le_mul (by omega) hM hM0 (by omega)
    rw [← HS.out] at hSb
    obtain ⟨hS0, hS1⟩ := hSb
    by_cases hlt : k < 10
    · have hix := fun W => HIX.out k W hlt
      have hfb := HF.out k hlt
      have HS' : Hid (S + (k : Int) * f k = dsm f (k + 1)) := by show _ = _; rw [dsm, HS.out]
      obtain ⟨x, hx⟩ : ∃ x, f k = x := ⟨_, rfl⟩
      rw [hx] at hix hfb HS'
      obtain ⟨hx0, hx1⟩ := hfb
      have hp : 0 ≤ (k : Int) * x ∧ (k : Int) * x ≤ 10 * 13000000000000 := ⟨Int.mul_nonneg (by omega) hx0, Int.mul_le_mul (by omega) (by omega) hx0 (by omega)⟩
      obtain ⟨hp0, hp1⟩ := hp
      have hS2 : S ≤ 1300000000000000 := by omega
      clear hx hkM hS1
      go_wp2
      go_round
      case rel => exact ⟨k + 1, _, by omega, by go_num, rfl, HS'⟩
      case measure => simp [intOf]; omega
    · go_wp2
      go_ret
      exact ⟨ret_int (by rw [HS.out, show k = 10 by omega]), by go_grown⟩
end Go.Proofs.Ytdgdjgefjhkpbaa
