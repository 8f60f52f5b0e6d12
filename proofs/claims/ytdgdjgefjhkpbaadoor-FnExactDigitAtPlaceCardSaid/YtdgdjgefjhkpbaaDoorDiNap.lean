/-
  The law of NumberAtPlace.
-/
import Derived.Test.YtdgdjgefjhkpbaaDoorDiLw
import Derived.Test.YtdgdjgefjhkpbaaDoorDiNum
namespace Go.Proofs.YtdgdjgefjhkpbaaDoor
open Go.RowKit

/-- There is a place. -/
def plB (k : Int) : Bool := decide (1 ≤ k ∧ k ≤ 1000000000000)
theorem plB_iff (k : Int) : plB k = true ↔ 1 ≤ k ∧ k ≤ 1000000000000 := by simp [plB]
/-- The number and which of its digits. -/
def PlaceIs (k n a : Int) : Prop := LastW (k - 1) (n - 1) ∧ a = k - wr (n - 1)
theorem PlaceIs.uniq {k n m a b : Int} (u : PlaceIs k n a) (v : PlaceIs k m b) : n = m ∧ a = b := by
  have := u.1.uniq v.1
  have e : n = m := by omega
  subst e
  exact ⟨rfl, by rw [u.2, v.2]⟩
theorem place_at {k l : Int} (h1 : 1 ≤ k) (h : LastW k l) (h0 : k - wr l = 0) : PlaceIs k l ((Lib.decDigits l.toNat).length : Int) ∧ 1 ≤ l := by
  obtain ⟨a, b, c, d⟩ := h
  have hl : 1 ≤ l := by
    rcases Int.lt_or_le 0 l with h | h
    · omega
    · have : l = 0 := by omega
      subst this; rw [wr_0] at h0; omega
  have hu := wr_up (l - 1)
  rw [show l - 1 + 1 = l by omega] at hu
  have hln := dec_ln l.toNat 13 (by omega) (by omega)
  rw [show ((l.toNat : Nat) : Int) = l by omega] at hln
  have hp := ln_pos (n := l) hl 12
  have hp : 1 ≤ ln l 13 := hp
  refine ⟨⟨⟨by omega, by omega, by omega, ?_⟩, by rw [hln]; omega⟩, hl⟩
  rw [show l - 1 + 1 = l by omega]; omega
theorem place_next {k l : Int} (h : LastW k l) (h0 : ¬ k - wr l = 0) : PlaceIs k (l + 1) (k - wr l) := by
  obtain ⟨a, b, c, d⟩ := h
  refine ⟨⟨by omega, by omega, ?_, ?_⟩, ?_⟩
  · rw [show l + 1 - 1 = l by omega]; omega
  · rw [show l + 1 - 1 + 1 = l + 1 by omega]; omega
  · rw [show l + 1 - 1 = l by omega]
theorem PlaceIs.bd {k n a : Int} (h : PlaceIs k n a) : 1 ≤ n ∧ n ≤ 1000000000000 ∧ 1 ≤ a ∧ a ≤ ((Lib.decDigits n.toNat).length : Int) := by
  obtain ⟨⟨h1, h2, h3, h4⟩, h5⟩ := h
  have hu := wr_up (n - 1)
  have hln := dec_ln n.toNat 13 (by omega) (by omega)
  rw [show ((n.toNat : Nat) : Int) = n by omega] at hln
  rw [show n - 1 + 1 = n by omega] at *
  omega
theorem iNap_no (k : Int) (w : World) (h : plB k = false) :
    Calls Tryd.prog 21 #[.int .i64 k] w fun e w' => e = .returned (.tuple #[.int .i64 0, .int .i64 0, .bool false]) ∧ Below w.heap.size w w' := by
  cases hb : nuB k with
  | true =>
    have hk : (k == 0) = true := by
      have := (nuB_iff k).1 hb
      unfold plB at h
      simp only [decide_eq_false_iff_not] at h
      simp; omega
    clear h
    go_enter Tryd.func21, Tryd.ntmps21
    go_wp2_with (go_at_call 32; refine (isWritable_any _ _).mono ?_; rintro e w' ⟨rfl, rfl⟩)
    go_ret3
    exact ⟨rfl, Below.refl _ _⟩
  | false =>
    clear h
    go_enter Tryd.func21, Tryd.ntmps21
    go_wp2_with (go_at_call 32; refine (isWritable_any _ _).mono ?_; rintro e w' ⟨rfl, rfl⟩)
    go_ret3
    exact ⟨rfl, Below.refl _ _⟩
theorem iNap_yes (k : Int) (w : World) (h : plB k = true) :
    Calls Tryd.prog 21 #[.int .i64 k] w fun e w' => (∃ n a : Int, e = .returned (.tuple #[.int .i64 n, .int .i64 a, .bool true]) ∧ PlaceIs k n a) ∧ Below w.heap.size w w' := by
  obtain ⟨h1, h2⟩ := (plB_iff k).1 h
  have hb : nuB k = true := (nuB_iff k).2 ⟨by omega, h2⟩
  have hb1 : nuB (k - 1) = true := (nuB_iff _).2 ⟨by omega, by omega⟩
  have HL := Lib.hid (fun W => iLw_yes (k - 1) W hb1)
  have hk : (k == 0) = false := by simp; omega
  clear h
  go_enter Tryd.func21, Tryd.ntmps21
  go_wp2_with (first | (go_at_call 32; refine (isWritable_any _ _).mono ?_; rintro e w' ⟨rfl, rfl⟩) | (go_at_call 33; refine (HL.out _).mono ?_; rintro e w1 ⟨⟨l, rfl, hl⟩, b1⟩; have hlb := hl.bd; have hwb := wp_13 (k := 13) hlb.1 hlb.2.1 (Nat.le_refl _); have HL2 := Lib.hid hl; clear hl; obtain ⟨hlb1, hlb2, hlb3⟩ := hlb; obtain ⟨hwb1, hwb2⟩ := hwb) | (go_at_call 34; refine (digitsWritten_any l _ hlb1 hlb2).mono ?_; rintro e w' ⟨rfl, rfl⟩; have hq1 : 0 ≤ wr l := hwb1; have hq2 : wr l ≤ 13000000000000 := hwb2))
  go_ret3
  exact ⟨⟨l + 1, k - wr l, rfl, by rw [show l + 1 - 1 = l by omega]; exact HL2.out, by rw [show l + 1 - 1 = l by omega]⟩, b1⟩
theorem diPlace_any (k : Int) (w : World) (h1 : 1 ≤ k) (h2 : k ≤ 1000000000000) :
    Calls Tryd.prog 19 #[.int .i64 k] w fun e w' => (∃ n a : Int, e = .returned (.tuple #[.int .i64 n, .int .i64 a]) ∧ PlaceIs k n a) ∧ Below w.heap.size w w' := by
  have HL := Lib.hid (fun W => diLast_any k W (by omega) h2)
  have hn : ∀ l : Int, 1 ≤ l → l ≤ 1000000000000 → ∀ W, Calls Tryd.prog 20 #[.int .i64 l] W fun e w' => e = .returned (.string ⟨(Lib.decDigits l.toNat).toArray⟩) ∧ Below W.heap.size W w' := fun l a b W => l1Num_dec l.toNat l W (by omega) (by omega)
  have HN := Lib.hid hn
  clear hn
  go_enter Tryd.func19, Tryd.ntmps19
  go_wp2_with (first | (go_at_call 30; refine (HL.out _).mono ?_; rintro e w' ⟨⟨l, rfl, hl⟩, rfl⟩) | fail)
  have hlb := hl.bd
  have hwb := wp_13 (k := 13) hlb.1 hlb.2.1 (Nat.le_refl _)
  have HL2 := Lib.hid hl
  clear hl
  obtain ⟨hlb1, hlb2, hlb3⟩ := hlb
  obtain ⟨hwb1, hwb2⟩ := hwb
  obtain ⟨x, hx⟩ : ∃ x, wr l = x := ⟨_, rfl⟩
  have hq1 : 0 ≤ x := by rw [← hx]; exact hwb1
  have hq2 : x ≤ 13000000000000 := by rw [← hx]; exact hwb2
  have HX := Lib.hid hx
  clear hx hwb1 hwb2
  by_cases hz : k - x = 0
  · have hz' : (k - x == 0) = true := by simp; omega
    have hp := place_at h1 HL2.out (by rw [HX.out]; exact hz)
    have hl1 := hp.2
    have HP := Lib.hid hp.1
    obtain ⟨D, hD⟩ : ∃ D, D = Lib.decDigits l.toNat := ⟨_, rfl⟩
    have hDl : D.length ≤ 13 := by rw [hD]; exact dec_13 (by omega)
    have HN2 := Lib.hid (fun W => HN.out l hl1 hlb2 W)
    rw [← hD] at HP HN2
    clear hp hD
    go_wp2_with (first | (go_at_call 31; refine (diWritten_any l _ hlb1 hlb2).mono ?_; rintro e w' ⟨rfl, rfl⟩; rw [HX.out]) | (go_at_call 20; refine (HN2.out _).mono ?_; rintro e w1 ⟨rfl, b1⟩))
    go_ret2
    exact ⟨⟨l, _, rfl, HP.out⟩, b1⟩
  · have hz' : (k - x == 0) = false := by simp; omega
    have HP : Hid (PlaceIs k (l + 1) (k - x)) := by show PlaceIs _ _ _; have := place_next HL2.out (by rw [HX.out]; exact hz); rwa [HX.out] at this
    go_wp2_with (go_at_call 31; refine (diWritten_any l _ hlb1 hlb2).mono ?_; rintro e w' ⟨rfl, rfl⟩; rw [HX.out])
    go_ret2
    exact ⟨⟨l + 1, _, rfl, HP.out⟩, Below.refl _ _⟩
end Go.Proofs.YtdgdjgefjhkpbaaDoor
