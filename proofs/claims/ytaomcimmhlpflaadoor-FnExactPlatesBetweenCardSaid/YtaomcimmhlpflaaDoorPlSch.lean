/-
  The law's own helpers over schemes: their size, copies, comparison.
-/
import Derived.Test.YtaomcimmhlpflaaDoorPlLeaf
namespace Go.Proofs.YtaomcimmhlpflaaDoor
open Go.RowKit

set_option maxHeartbeats 800000 in
theorem szScheme_any (P B : ByteArray) (ts : List (List UInt8)) (v : Value) (w : World) (hP : P.size ≤ maxLen) (hB : B.size ≤ maxLen) (hn : ts.length ≤ maxLen) (ht : ∀ i, i < ts.length → (ts.getD i []).length ≤ maxLen) (h : Rd ts v w) :
    Calls Tryd.prog 11 #[.agg #[.string P, .string B, v], .int .i64 1048576] w fun e w' => (∃ r : Int, e = .returned (.int .i64 r) ∧ (0 ≤ r → Fit P B ts)) ∧ Below w.heap.size w w' := by
  unfold maxLen at hP hB hn ht
  have HT := Lib.hid ht
  have HV := Lib.hid h
  clear h ht
  by_cases h1 : 1048576 - (P.size : Int) < 0
  · go_enter Tryd.func11, Tryd.ntmps11
    go_wp2
    go_ret
    exact ⟨⟨_, rfl, fun h => by omega⟩, (Below.refl _ _).alloc (Nat.le_refl _) _⟩
  · by_cases h2 : 1048576 - (P.size : Int) - (B.size : Int) < 0
    · go_enter Tryd.func11, Tryd.ntmps11
      go_wp2
      go_ret
      exact ⟨⟨_, rfl, fun h => by omega⟩, (Below.refl _ _).alloc (Nat.le_refl _) _⟩
    · have hV2 : Rd ts v (w.alloc (.cells #[.string P, .string B, v] 24)) := HV.out.below ((Below.refl _ _).alloc (Nat.le_refl _) _)
      obtain ⟨r, hr⟩ : ∃ r : Int, 1048576 - (P.size : Int) - (B.size : Int) = r := ⟨_, rfl⟩
      have hc := szS_any ts v r _ (by omega) (by omega) hn HT.out hV2
      have HR := Lib.hid hr
      rw [← hr] at hc
      clear hr
      go_enter Tryd.func11, Tryd.ntmps11
      go_wp2_with (go_at_call 32; go_must ((with_reducible refine hc.mono ?_); rintro e w' ⟨⟨q, rfl, hq1, hq2⟩, rfl⟩; by_cases hq : q < 0))
      all_goals go_wp2
      · go_ret
        exact ⟨⟨_, rfl, fun h => by omega⟩, (Below.refl _ _).alloc (Nat.le_refl _) _⟩
      · go_ret
        exact ⟨⟨_, rfl, fun h => by
          have := hq2 h
          exact ⟨by omega, by omega, this.1, this.2⟩⟩, (Below.refl _ _).alloc (Nat.le_refl _) _⟩
end Go.Proofs.YtaomcimmhlpflaaDoor
