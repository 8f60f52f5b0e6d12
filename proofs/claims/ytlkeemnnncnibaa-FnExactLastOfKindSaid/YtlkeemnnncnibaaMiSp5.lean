/-
  Readings: letters of kinds; what can be the beginning of a reading of a kind.
-/
import Derived.Test.YtlkeemnnncnibaaMiSp4
namespace Go.Proofs.Ytlkeemnnncnibaa
open Go.RowKit

/-- The letters, in their order. -/
def ltr (k : Nat) : UInt8 := if k = 0 then 97 else if k = 1 then 109 else if k = 2 then 117 else if k = 3 then 114 else if k = 4 then 102 else 100
theorem kB_ltr (s : ByteArray) : kB s = true ↔ ∃ k, k < 6 ∧ s.toList = [ltr k] := by
  unfold kB
  simp only [Bool.or_eq_true, beq_iff_eq]
  constructor
  · rintro (((((h | h) | h) | h) | h) | h)
    · exact ⟨0, by omega, h⟩
    · exact ⟨1, by omega, h⟩
    · exact ⟨2, by omega, h⟩
    · exact ⟨3, by omega, h⟩
    · exact ⟨4, by omega, h⟩
    · exact ⟨5, by omega, h⟩
  · rintro ⟨k, hk, h⟩
    have : k = 0 ∨ k = 1 ∨ k = 2 ∨ k = 3 ∨ k = 4 ∨ k = 5 := by omega
    rcases this with e | e | e | e | e | e <;> subst e
    · exact .inl (.inl (.inl (.inl (.inl h))))
    · exact .inl (.inl (.inl (.inl (.inr h))))
    · exact .inl (.inl (.inl (.inr h)))
    · exact .inl (.inl (.inr h))
    · exact .inl (.inr h)
    · exact .inr h
theorem hasK_any (s : ByteArray) (b : Nat) (w : World) (hc : ∀ k, k < 6 → w.cell? ⟨b, k, none⟩ = some (.string ⟨[ltr k].toArray⟩)) :
    Calls Try.prog 62 #[.slice (some ⟨b, 0, none⟩) 6 6, .string s] w fun e w' => e = .returned (.bool (kB s)) ∧ w = w' := by
  have HC := Lib.hid hc
  clear hc
  go_enter Try.func62, Try.ntmps62
  go_wp2
  go_loop [9] (fun i => ∃ k : Nat, k ≤ 6 ∧ i = .int .i64 k ∧ Hid (∀ j, j < k → ¬ s.toList = [ltr j])) (fun i => 6 - (intOf i).toNat)
  case atStart => exact ⟨0, Nat.zero_le _, rfl, fun j hj => by omega⟩
  case round =>
    obtain ⟨k, hk, rfl, HJ⟩ := hrel
    by_cases hlt : k < 6
    · have hcell := HC.out k hlt
      obtain ⟨X, hX⟩ : ∃ X : ByteArray, X = ⟨[ltr k].toArray⟩ := ⟨_, rfl⟩
      have HX : Hid (X.toList = [ltr k]) := by show _ = _; rw [hX, toL]
      rw [← hX] at hcell
      clear hX
      by_cases hb : s.toList = [ltr k]
      · have hq : (X.toList == s.toList) = true := by rw [beq_iff_eq, HX.out, hb]
        have HR : Hid (kB s = true) := (kB_ltr s).2 ⟨k, hlt, hb⟩
        clear hb
        go_wp2
        go_ret
        exact ⟨ret_bool HR.out.symm, rfl⟩
      · have hq : (X.toList == s.toList) = false := by rw [beq_eq_false_iff_ne, HX.out]; exact fun h => hb h.symm
        have HJ2 : Hid (∀ j, j < k + 1 → ¬ s.toList = [ltr j]) := by
          intro j hj
          rcases Nat.lt_or_ge j k with h | h
          · exact HJ.out j h
          · rw [show j = k by omega]; exact hb
        clear hb
        go_wp2
        go_round
        case rel => exact ⟨k + 1, by omega, by go_num, HJ2⟩
        case measure => simp [intOf]; omega
    · have HR : Hid (kB s = false) := by
        show _ = _
        cases h : kB s with
        | false => rfl
        | true =>
          obtain ⟨j, hj, hjs⟩ := (kB_ltr s).1 h
          exact absurd hjs (HJ.out j (by omega))
      go_wp2
      go_ret
      exact ⟨ret_bool HR.out.symm, rfl⟩
theorem kB_size {s : ByteArray} (h : kB s = true) : s.size = 1 := by
  rcases kB_of h with h | h | h | h | h | h <;> subst h <;> rfl
theorem ltr_cells (W : World) (T : TypeId) (k : Nat) (hk : k < 6) : (W.alloc (.cells #[.string ⟨#[97]⟩, .string ⟨#[109]⟩, .string ⟨#[117]⟩, .string ⟨#[114]⟩, .string ⟨#[102]⟩, .string ⟨#[100]⟩] T)).cell? ⟨W.heap.size, k, none⟩ = some (.string ⟨[ltr k].toArray⟩) := by
  have : k = 0 ∨ k = 1 ∨ k = 2 ∨ k = 3 ∨ k = 4 ∨ k = 5 := by omega
  rcases this with e | e | e | e | e | e <;> subst e <;> simp [ltr]
theorem miKind_any (s : ByteArray) (w : World) :
    Calls Try.prog 38 #[.string s] w fun e w' => e = .returned (.bool (kB s)) ∧ Below w.heap.size w w' := by
  by_cases h1 : s.size = 1
  · have h1' : ((s.size : Int) == 1) = true := by simp [h1]
    have HK := Lib.hid (hasK_any s w.heap.size _ (fun k hk => ltr_cells w 9 k hk))
    clear h1
    go_enter Try.func38, Try.ntmps38
    go_wp2_with (go_at_call 62; refine HK.out.mono ?_; rintro e w1 ⟨rfl, rfl⟩)
    go_ret
    exact ⟨rfl, by go_grown⟩
  · have HR : Hid (kB s = false) := by
      show _ = _
      cases h : kB s with
      | false => rfl
      | true => exact absurd (kB_size h) h1
    have h1' : ((s.size : Int) == 1) = false := by simp; omega
    clear h1
    go_enter Try.func38, Try.ntmps38
    go_wp2
    go_ret
    exact ⟨ret_bool HR.out.symm, Below.refl _ _⟩
end Go.Proofs.Ytlkeemnnncnibaa
