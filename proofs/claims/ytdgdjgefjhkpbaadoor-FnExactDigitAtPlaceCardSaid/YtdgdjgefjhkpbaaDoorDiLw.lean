/-
  The laws of DigitsWritten, LastWritten and NumberAtPlace.
-/
import Derived.Test.YtdgdjgefjhkpbaaDoorDiSrch
namespace Go.Proofs.YtdgdjgefjhkpbaaDoor
open Go.RowKit

/-- What DigitsWritten answers. -/
def dwA (n : Int) : Int := if nuB n = true then wr n else 0
theorem ofW_no (n : Int) (f : Value) (w : World) (h : nuB n = false) :
    Calls Tryd.prog 25 #[.int .i64 n, f] w fun e w' => e = .returned (.tuple #[.int .i64 0, .bool false]) ∧ Below w.heap.size w w' := by
  go_enter Tryd.func25, Tryd.ntmps25
  go_wp2_with (go_at_call 32; refine (isWritable_any _ _).mono ?_; rintro e w' ⟨rfl, rfl⟩)
  go_ret2
  exact ⟨rfl, by go_grown⟩
theorem ofW_yes (n x : Int) (g : Nat) (cb : Array Value) (w : World) (h : nuB n = true) (eg : ∀ args w, (callFunc g args).run Tryd.prog w = .ok (.enter g args) w)
    (hf : Calls Tryd.prog g (#[.int .i64 n] ++ cb) w fun e w' => e = .returned (.int .i64 x) ∧ Below w.heap.size w w') :
    Calls Tryd.prog 25 #[.int .i64 n, .func (.func g) #[] cb] w fun e w' => e = .returned (.tuple #[.int .i64 x, .bool true]) ∧ Below w.heap.size w w' := by
  have HF := Lib.hid hf
  clear hf
  go_enter Tryd.func25, Tryd.ntmps25
  go_wp2_with (first | (go_at_call 32; refine (isWritable_any _ _).mono ?_; rintro e w' ⟨rfl, rfl⟩) | (go_at_fn g; refine HF.out.mono ?_; rintro e w1 ⟨rfl, b1⟩))
  go_ret2
  exact ⟨rfl, b1⟩
/-- The greatest one for which so many digits are written. -/
def LastW (k l : Int) : Prop := 0 ≤ l ∧ l < 1000000000000 ∧ wr l ≤ k ∧ k < wr (l + 1)
theorem LastW.uniq {k l m : Int} (u : LastW k l) (v : LastW k m) : l = m := by
  obtain ⟨u1, _, u3, u4⟩ := u
  obtain ⟨v1, _, v3, v4⟩ := v
  rcases Int.lt_trichotomy l m with h | h | h
  · have := wr_mono (a := l + 1) (b := m) (by omega) (by omega); omega
  · exact h
  · have := wr_mono (a := m + 1) (b := l) (by omega) (by omega); omega
theorem LastW.bd {k l : Int} (u : LastW k l) : 0 ≤ l ∧ l ≤ 1000000000000 ∧ l + 1 ≤ 1000000000000 := by
  obtain ⟨u1, u2, _⟩ := u
  omega
def tooB (k n : Int) : Bool := decide (k < wr n)
theorem lwC_any (k n : Int) (b : Nat) (w : World) (c0 : w.cell? ⟨b, 0, none⟩ = some (.int .i64 k)) (h0 : 0 ≤ n) (h1 : n ≤ 1000000000000) :
    Calls Tryd.prog 41 #[.int .i64 n, .pointer (some ⟨b, 0, none⟩)] w fun e w' => e = .returned (.bool (tooB k n)) ∧ Below w.heap.size w w' := by
  have HZ : Hid (tooB k n = decide (wr n > k)) := rfl
  go_enter Tryd.func41, Tryd.ntmps41
  go_wp2
  go_region_with (go_at_call 34; (with_reducible refine (digitsWritten_any n _ h0 h1).mono ?_); rintro e w1 ⟨rfl, rfl⟩)
  all_goals go_wp2
  all_goals go_ret
  all_goals exact ⟨ret_bool (by rw [HZ.out]), by go_grown⟩
theorem lwL_any (k : Int) (b : Nat) (w X : World) (h0 : 0 ≤ k) (h1 : k ≤ 1000000000000) (F : Blk X b #[.int .i64 k] 3) (hX : Below w.heap.size w X) :
    Calls Tryd.prog 40 #[.int .i64 1, .int .i64 1000000000000, .func (.func 41) #[] #[.pointer (some ⟨b, 0, none⟩)]] X fun e w' => (∃ l : Int, e = .returned (.tuple #[.int .i64 (l + 1), .bool true]) ∧ LastW k l) ∧ Below w.heap.size w w' := by
  refine (leastIn_any 1 1000000000000 41 _ (tooB k) X (by omega) (by omega) (by omega) (enters_of Tryd.func41 (by kernel_rfl) rfl) ?_ ?_).mono ?_
  · intro h W hx hy hW
    exact lwC_any k h b W ((F.keep hW).cell 0) (by omega) hy
  · intro x y hx hxy hy h
    unfold tooB at *
    simp only [decide_eq_true_eq] at *
    have := wr_mono (a := x) (b := y) (by omega) hxy
    omega
  rintro e w1 ⟨⟨l, ok, rfl, hl⟩, b1⟩
  refine ⟨?_, hX.trans (b1.mono hX.size)⟩
  rcases hl with ⟨rfl, a1, a2, a3, a4⟩ | ⟨rfl, a1, a2⟩
  · refine ⟨l - 1, by rw [show l - 1 + 1 = l by omega], by omega, by omega, ?_, ?_⟩
    · by_cases hl1 : l = 1
      · subst hl1; rw [show (1 : Int) - 1 = 0 by omega, wr_0]; omega
      · have := a4 (l - 1) (by omega) (by omega)
        unfold tooB at this
        simp only [decide_eq_false_iff_not] at this
        omega
    · unfold tooB at a3
      rw [show l - 1 + 1 = l by omega]
      simpa using a3
  · have := a2 1000000000000 (by omega) (by omega)
    unfold tooB at this
    simp only [decide_eq_false_iff_not] at this
    have := wr_top
    omega
theorem iLw_yes (k : Int) (w : World) (h : nuB k = true) :
    Calls Tryd.prog 33 #[.int .i64 k] w fun e w' => (∃ l : Int, e = .returned (.tuple #[.int .i64 l, .bool true]) ∧ LastW k l) ∧ Below w.heap.size w w' := by
  obtain ⟨h0, h1⟩ := (nuB_iff k).1 h
  have HL := Lib.hid (fun X F hX => lwL_any k w.heap.size w X h0 h1 F hX)
  go_enter Tryd.func33, Tryd.ntmps33
  go_wp2_with (first | (go_at_call 32; refine (isWritable_any _ _).mono ?_; rintro e w' ⟨rfl, rfl⟩) | (go_at_call 40; go_must (refine (HL.out _ (Blk.new w _ _) (by go_grown)).mono ?_); go_must (rintro e w1 ⟨⟨l, rfl, hl⟩, b1⟩); go_must (have e1 : l + 1 - 1 = l := by omega); go_must (have hlb := hl.bd; have HL2 := Lib.hid hl; clear hl; obtain ⟨hlb1, hlb2, hlb3⟩ := hlb)))
  go_ret2
  exact ⟨⟨l, rfl, HL2.out⟩, b1⟩
theorem iLw_no (k : Int) (w : World) (h : nuB k = false) :
    Calls Tryd.prog 33 #[.int .i64 k] w fun e w' => e = .returned (.tuple #[.int .i64 0, .bool false]) ∧ Below w.heap.size w w' := by
  go_enter Tryd.func33, Tryd.ntmps33
  go_wp2_with (go_at_call 32; refine (isWritable_any _ _).mono ?_; rintro e w' ⟨rfl, rfl⟩)
  go_ret2
  exact ⟨rfl, by go_grown⟩
theorem diLast_any (k : Int) (w : World) (h0 : 0 ≤ k) (h1 : k ≤ 1000000000000) :
    Calls Tryd.prog 30 #[.int .i64 k] w fun e w' => (∃ l : Int, e = .returned (.int .i64 l) ∧ LastW k l) ∧ w = w' := by
  go_enter Tryd.func30, Tryd.ntmps30
  go_wp2
  go_loop [3, 4] (fun l h => ∃ lo hi : Int, l = .int .i64 lo ∧ h = .int .i64 hi ∧ 0 ≤ lo ∧ lo ≤ hi ∧ hi ≤ 1000000000000 ∧ Hid (wr lo ≤ k ∧ k < wr (hi + 1))) (fun l h => (intOf h - intOf l).toNat)
  case atStart => exact ⟨0, 1000000000000, rfl, rfl, by omega, by omega, by omega, ⟨by rw [wr_0]; omega, by have := wr_top; have := wr_lt1 (n := 1000000000000) (by omega); omega⟩⟩
  case round =>
    obtain ⟨lo, hi, rfl, rfl, hlo, hlh, hhi, HK⟩ := hrel
    by_cases hlt : lo < hi
    · obtain ⟨m, hm⟩ : ∃ m, m = (lo + hi + 1) / 2 := ⟨_, rfl⟩
      have hm1 : lo < m := by omega
      have hm2 : m ≤ hi := by omega
      have hm0 : 0 ≤ m := by omega
      have hm3 : m ≤ 1000000000000 := by omega
      have hr : ((lo + hi + 1) / 2 : Int) = m := hm.symm
      clear hm
      by_cases hc : wr m ≤ k
      · go_wp2_with (go_at_call 31; refine (diWritten_any m _ hm0 hm3).mono ?_; rintro e w' ⟨rfl, rfl⟩)
        go_round
        case rel => exact ⟨m, hi, rfl, rfl, by omega, by omega, by omega, ⟨hc, HK.out.2⟩⟩
        case measure => simp [intOf]; omega
      · go_wp2_with (go_at_call 31; refine (diWritten_any m _ hm0 hm3).mono ?_; rintro e w' ⟨rfl, rfl⟩)
        go_round
        case rel => exact ⟨lo, m - 1, rfl, rfl, by omega, by omega, by omega, ⟨HK.out.1, by rw [show m - 1 + 1 = m by omega]; omega⟩⟩
        case measure => simp [intOf]; omega
    · go_wp2
      go_ret
      refine ⟨⟨lo, rfl, by omega, ?_, HK.out.1, by rw [show lo = hi by omega]; exact HK.out.2⟩, rfl⟩
      have h2 := HK.out.1
      have := wr_top
      rcases Int.lt_or_le lo 1000000000000 with h | h
      · exact h
      · rw [show lo = 1000000000000 by omega] at h2; omega
end Go.Proofs.YtdgdjgefjhkpbaaDoor
