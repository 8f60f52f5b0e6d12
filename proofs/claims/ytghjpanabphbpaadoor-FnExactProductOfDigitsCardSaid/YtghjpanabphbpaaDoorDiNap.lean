/-
  The law of NumberAtPlace.
-/
import Derived.Test.YtghjpanabphbpaaDoorDiLw
import Derived.Test.YtghjpanabphbpaaDoorDiNum
namespace Go.Proofs.YtghjpanabphbpaaDoor
open Go.RowKit

/-- There is a place. -/
def plB (k : Int) : Bool := decide (1 ≤ k ∧ k ≤ 1000000000000)
theorem plB_iff (k : Int) : plB k = true ↔ 1 ≤ k ∧ k ≤ 1000000000000 := by simp [plB]
/-- The number and which of its digits. -/
def PlaceIs (k n a : Int) : Prop := LastW (k - 1) (n - 1) ∧ a = k - wr (n - 1)
theorem PlaceIs.uniq {k n m a b : Int} (u : PlaceIs k n a) (v : PlaceIs k m b) : n = m ∧ a = b := by
  have := u.1.uniq v.1
  have e : n = m := by omega
  subst e
  exact ⟨rfl, by rw [u.2, v.2]⟩
theorem place_at {k l : Int} (h1 : 1 ≤ k) (h : LastW k l) (h0 : k - wr l = 0) : PlaceIs k l ((Lib.decDigits l.toNat).length : Int) ∧ 1 ≤ l := by
  obtain ⟨a, b, c, d⟩ := h
  have hl : 1 ≤ l := by
    rcases Int.lt_or_le 0 l with h | h
    · omega
    · have : l = 0 := by omega
      subst this; rw [wr_0] at h0; omega
  have hu := wr_up (l - 1)
  rw [show l - 1 + 1 = l by omega] at hu
  have hln := dec_ln l.toNat 13 (by omega) (by omega)
  rw [show ((l.toNat : Nat) : Int) = l by omega] at hln
  have hp := ln_pos (n := l) hl 12
  have hp : 1 ≤ ln l 13 := hp
  refine ⟨⟨⟨by omega, by omega, by omega, ?_⟩, by rw [hln]; omega⟩, hl⟩
  rw [show l - 1 + 1 = l by omega]; omega
theorem place_next {k l : Int} (h : LastW k l) (h0 : ¬ k - wr l = 0) : PlaceIs k (l + 1) (k - wr l) := by
  obtain ⟨a, b, c, d⟩ := h
  refine ⟨⟨by omega, by omega, ?_, ?_⟩, ?_⟩
  · rw [show l + 1 - 1 = l by omega]; omega
  · rw [show l + 1 - 1 + 1 = l + 1 by omega]; omega
  · rw [show l + 1 - 1 = l by omega]
theorem PlaceIs.bd {k n a : Int} (h : PlaceIs k n a) : 1 ≤ n ∧ n ≤ 1000000000000 ∧ 1 ≤ a ∧ a ≤ ((Lib.decDigits n.toNat).length : Int) := by
  obtain ⟨⟨h1, h2, h3, h4⟩, h5⟩ := h
  have hu := wr_up (n - 1)
  have hln := dec_ln n.toNat 13 (by omega) (by omega)
  rw [show ((n.toNat : Nat) : Int) = n by omega] at hln
  rw [show n - 1 + 1 = n by omega] at *
  omega
end Go.Proofs.YtghjpanabphbpaaDoor
