/-
  Contract of tkFrom at few digits, and at any.
-/
import Derived.Test.YtlkeemnnncnibabFrom
namespace Go.Proofs.Ytlkeemnnncnibab
open Go.RowKit
set_option maxRecDepth 100000

theorem from_low (h : Nat) (s : ByteArray) (w : World) (hh : h ≤ 6) (h1 : s.size ≤ h) (hd : digB s.data.toList = true) :
    Calls Try.prog 72 #[.int .i64 (2 * (h : Int)), .string s] w fun e w' => e = .returned (.int .i64 (comp h s.data.toList)) ∧ Below w.heap.size w w' := by
  have HD := Lib.hid hd; clear hd
  have hlen : s.data.toList.length = s.size := by simp
  obtain ⟨l, hl⟩ : ∃ l, l = s.data.toList := ⟨_, rfl⟩
  have hS := dsum_bd s.data.toList HD.out
  have hS1 : 0 ≤ dsA s ∧ dsA s ≤ 1000 := by unfold dsA; omega
  obtain ⟨hS1, hS2⟩ := hS1
  have HL := Lib.hid hlen
  have HT : Hid (∀ k, term h s.data.toList k = W (h - s.size) k * Wi h (dsA s + (k : Int))) := by
    intro k; unfold term dsA; rw [hlen]
  clear hS hlen hl l
  go_enter Try.func72, Try.ntmps72
  go_wp2_with fail
  refine (ways_at _ h (by omega) (by omega) _).mono ?_
  rintro e w1 ⟨g, rfl, hrow, hg, hb1⟩
  go_wp2_with fail
  refine (ways_at _ (h - s.size) (by omega) (by omega) _).mono ?_
  rintro e w2 ⟨g2, rfl, hrow2, hg2, hb2⟩
  have hrow1 := hrow.below hb2 hrow.lt
  have HB := Lib.hid (chain' hb1 hb2)
  clear hb1 hb2 hrow
  obtain ⟨m, hm⟩ : ∃ m, m = 9 * (h - s.size) + 1 := ⟨_, rfl⟩
  rw [← hm] at hrow2
  rw [← hm]
  have HM := Lib.hid hm
  clear hm
  go_wp2_with fail
  go_loop [6, 39] (fun cv kv => ∃ k : Nat, k ≤ m ∧ kv = .int .i64 k ∧ cv = .int .i64 (sumTo k (term h s.data.toList))) (fun _ kv => m - (intOf kv).toNat)
  case atStart => exact ⟨0, Nat.zero_le _, rfl, rfl⟩
  case round =>
    obtain ⟨k, hk, rfl, rfl⟩ := hrel
    by_cases hkm : k < m
    · have hc := hrow2.cell hkm
      have hp := term_part h hh s.data.toList (by rw [HL.out]; exact h1) k (by rw [HL.out]; have := HM.out; omega)
      have ht0 := term_nonneg h s.data.toList k
      rw [HT.out k] at hp ht0
      obtain ⟨hp1, hp2⟩ := hp
      have hm109 : m ≤ 109 := by have := HM.out; omega
      go_wp2_with (first | (go_at_call 88; go_must ((with_reducible refine (sum_all s _ (by omega) HD.out).mono ?_); rintro e w' ⟨rfl, rfl⟩)) | (go_at_call 86; go_must ((with_reducible refine (tkOf_any _ h _ _ hrow1).mono ?_); rintro e w' ⟨rfl, rfl⟩)))
      go_round
      case rel => exact ⟨k + 1, by omega, by go_num, val_int (by rw [sumTo_succ, HT.out k])⟩
      case measure => simp [intOf]; omega
    · have he : sumTo k (term h s.data.toList) = comp h s.data.toList := by
        rw [← comp_low h s.data.toList (by rw [HL.out]; exact h1), HL.out, ← HM.out, show k = m by omega]
      have HE := Lib.hid he; clear he
      go_wp2
      go_ret
      exact ⟨ret_int HE.out, HB.out⟩
/-- tkFrom at any first digits. -/
theorem from_any (h : Nat) (x : Int) (s : ByteArray) (w : World) (hx : x = 2 * (h : Int)) (hh : h ≤ 6) (h2 : s.size ≤ 2 * h) (hd : digB s.data.toList = true) :
    Calls Try.prog 72 #[.int .i64 x, .string s] w fun e w' => e = .returned (.int .i64 (comp h s.data.toList)) ∧ Below w.heap.size w w' := by
  subst hx
  by_cases h1 : s.size ≤ h
  · exact from_low h s w hh h1 hd
  · exact from_high h s w hh (by omega) h2 hd
end Go.Proofs.Ytlkeemnnncnibab
