/-
  Counts of all digits up to a number, their sum; the model's count.
-/
import Derived.Test.YtghjpanabphbpaaDoorDiCnt
namespace Go.Proofs.YtghjpanabphbpaaDoor
open Go.RowKit

theorem A10_idxE (f : Nat → Int) {k : Nat} (hk : k < 10) (w : World) : (Instr.index 63 (.agg #[.int .i64 (f 0), .int .i64 (f 1), .int .i64 (f 2), .int .i64 (f 3), .int .i64 (f 4), .int .i64 (f 5), .int .i64 (f 6), .int .i64 (f 7), .int .i64 (f 8), .int .i64 (f 9)]) (.int .i64 (k : Int))).run Tryd.prog w = .ok (.int .i64 (f k)) w := A10_idx f hk w
/-- The sum of ten counts. -/
theorem sum10_any (f : Nat → Int) (M : Int) (w : World) (hM : M ≤ 13000000000000) (hf : ∀ i, i < 10 → 0 ≤ f i ∧ f i ≤ M) :
    Calls Tryd.prog 89 #[.agg (A10 f)] w fun e w' => e = .returned (.int .i64 (dsm f 10)) ∧ Below w.heap.size w w' := by
  have hM0 : 0 ≤ M := by have := hf 0 (by omega); omega
  have HF := Lib.hid hf
  obtain ⟨C, hC⟩ : ∃ C, C = A10 f := ⟨_, rfl⟩
  have HR : Row10 (w.alloc (.cells C 63)) w.heap.size f := by rw [hC]; exact Row10.new w f
  obtain ⟨d0, d1, d2, d3, d4, d5, d6, d7, d8, d9, df, ds⟩ := HR.all
  have HIX : Hid (∀ (k : Nat) W, k < 10 → (Instr.index 63 (.agg #[.int .i64 (f 0), .int .i64 (f 1), .int .i64 (f 2), .int .i64 (f 3), .int .i64 (f 4), .int .i64 (f 5), .int .i64 (f 6), .int .i64 (f 7), .int .i64 (f 8), .int .i64 (f 9)]) (.int .i64 (k : Int))).run Tryd.prog W = .ok (.int .i64 (f k)) W) := fun k W hk => A10_idxE f hk W
  clear hf HR
  rw [← hC]
  clear hC
  go_enter Tryd.func89, Tryd.ntmps89
  go_wp2
  go_loop [3, 7] (fun s kv => ∃ (k : Nat) (S : Int), k ≤ 10 ∧ kv = .int .i64 k ∧ s = .int .i64 S ∧ Hid (S = dsm f k)) (fun _ kv => 10 - (intOf kv).toNat)
  case atStart => exact ⟨0, 0, by omega, rfl, rfl, rfl⟩
  case round =>
    obtain ⟨k, S, hk, rfl, rfl, HS⟩ := hrel
    have hSb := dsm_bd (f := f) (M := M) HF.out hk
    have hkM : (k : Int) * M ≤ 10 * 13000000000000 := Int.mul_le_mul (by omega) hM hM0 (by omega)
    rw [← HS.out] at hSb
    obtain ⟨hS0, hS1⟩ := hSb
    by_cases hlt : k < 10
    · have hix := fun W => HIX.out k W hlt
      have hfb := HF.out k hlt
      have HS' : Hid (S + (k : Int) * f k = dsm f (k + 1)) := by show _ = _; rw [dsm, HS.out]
      obtain ⟨x, hx⟩ : ∃ x, f k = x := ⟨_, rfl⟩
      rw [hx] at hix hfb HS'
      obtain ⟨hx0, hx1⟩ := hfb
      have hp : 0 ≤ (k : Int) * x ∧ (k : Int) * x ≤ 10 * 13000000000000 := ⟨Int.mul_nonneg (by omega) hx0, Int.mul_le_mul (by omega) (by omega) hx0 (by omega)⟩
      obtain ⟨hp0, hp1⟩ := hp
      have hS2 : S ≤ 1300000000000000 := by omega
      clear hx hkM hS1
      go_wp2
      go_round
      case rel => exact ⟨k + 1, _, by omega, by go_num, rfl, HS'⟩
      case measure => simp [intOf]; omega
    · go_wp2
      go_ret
      exact ⟨ret_int (by rw [HS.out, show k = 10 by omega]), by go_grown⟩
end Go.Proofs.YtghjpanabphbpaaDoor
