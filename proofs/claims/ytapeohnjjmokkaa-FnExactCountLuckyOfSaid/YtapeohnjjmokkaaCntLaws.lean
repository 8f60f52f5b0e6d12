/-
  The laws of CountTickets and CountLuckyOf.
-/
import Derived.Test.YtapeohnjjmokkaaCntOf
import Derived.WalkSpells
namespace Go.Proofs.Ytapeohnjjmokkaa
open Go.RowKit

theorem sz_double {d : Int} (h : szB d = true) : ∃ D : Nat, d = 2 * (D : Int) ∧ 1 ≤ D ∧ D ≤ 6 := by
  have := (szB_iff d).1 h
  exact ⟨(d / 2).toNat, by omega, by omega, by omega⟩
theorem sCT_no (d a b : Int) (w : World) (h : szB d = false ∨ a < 0 ∨ b < 0) :
    Calls Try.prog 26 #[.int .i64 d, .int .i64 a, .int .i64 b] w fun e w' => e = .returned (.tuple #[.int .i64 0, .bool false]) ∧ Below w.heap.size w w' := by
  cases hz : szB d with
  | false =>
    go_enter Try.func26, Try.ntmps26
    go_wp2_with (go_at_call 46; go_must ((with_reducible refine (tkSize_any _ _).mono ?_); rintro e w' ⟨rfl, rfl⟩))
    go_ret2
    exact ⟨rfl, by go_grown⟩
  | true =>
    by_cases ha : a < 0
    · have hd : decide (a < 0) = true := by simpa using ha
      go_enter Try.func26, Try.ntmps26
      go_wp2_with (go_at_call 46; go_must ((with_reducible refine (tkSize_any _ _).mono ?_); rintro e w' ⟨rfl, rfl⟩))
      go_ret2
      exact ⟨rfl, by go_grown⟩
    · have hd : decide (a < 0) = false := by simpa using ha
      have hb : b < 0 := by rcases h with h | h | h <;> simp_all
      have hd2 : decide (b < 0) = true := by simpa using hb
      go_enter Try.func26, Try.ntmps26
      go_wp2_with (go_at_call 46; go_must ((with_reducible refine (tkSize_any _ _).mono ?_); rintro e w' ⟨rfl, rfl⟩))
      go_ret2
      exact ⟨rfl, by go_grown⟩
theorem iCT_no (d a b : Int) (w : World) (h : szB d = false ∨ a < 0 ∨ b < 0) :
    Calls Try.prog 27 #[.int .i64 d, .int .i64 a, .int .i64 b] w fun e w' => e = .returned (.tuple #[.int .i64 0, .bool false]) ∧ Below w.heap.size w w' := by
  cases hz : szB d with
  | false =>
    go_enter Try.func27, Try.ntmps27
    go_wp2_with (go_at_call 37; go_must ((with_reducible refine (isSize_any _ _).mono ?_); rintro e w' ⟨rfl, rfl⟩))
    go_ret2
    exact ⟨rfl, by go_grown⟩
  | true =>
    by_cases ha : a < 0
    · have hd : decide (a < 0) = true := by simpa using ha
      go_enter Try.func27, Try.ntmps27
      go_wp2_with (go_at_call 37; go_must ((with_reducible refine (isSize_any _ _).mono ?_); rintro e w' ⟨rfl, rfl⟩))
      go_ret2
      exact ⟨rfl, by go_grown⟩
    · have hd : decide (a < 0) = false := by simpa using ha
      have hb : b < 0 := by rcases h with h | h | h <;> simp_all
      have hd2 : decide (b < 0) = true := by simpa using hb
      go_enter Try.func27, Try.ntmps27
      go_wp2_with (go_at_call 37; go_must ((with_reducible refine (isSize_any _ _).mono ?_); rintro e w' ⟨rfl, rfl⟩))
      go_ret2
      exact ⟨rfl, by go_grown⟩
theorem sCT_yes (D : Nat) (a b : Int) (w : World) (hz : szB (2 * (D : Int)) = true) (h6 : D ≤ 6) (ha : 0 ≤ a) (hb : 0 ≤ b) :
    Calls Try.prog 26 #[.int .i64 (2 * (D : Int)), .int .i64 a, .int .i64 b] w fun e w' => e = .returned (.tuple #[.int .i64 (wrap64 (Wi D a * Wi D b)), .bool true]) ∧ Below w.heap.size w w' := by
  have hd : decide (a < 0) = false := by simpa using ha
  have hd2 : decide (b < 0) = false := by simpa using hb
  go_enter Try.func26, Try.ntmps26
  go_wp2_with (first | (go_at_call 46; go_must ((with_reducible refine (tkSize_any _ _).mono ?_); rintro e w' ⟨rfl, rfl⟩)) | (go_at_call 51; go_must ((with_reducible refine (ways_any D (by omega) _).mono ?_); rintro e w1 ⟨g, rfl, hrow, hg, hbl⟩)) | (go_at_call 50; go_must ((with_reducible refine (tkOf_any _ D _ _ hrow).mono ?_); rintro e w' ⟨rfl, rfl⟩)))
  go_ret2
  exact ⟨rfl, by go_grown⟩
theorem iCT_yes (D : Nat) (a b : Int) (w : World) (hz : szB (2 * (D : Int)) = true) (h6 : D ≤ 6) (ha : 0 ≤ a) (hb : 0 ≤ b) :
    Calls Try.prog 27 #[.int .i64 (2 * (D : Int)), .int .i64 a, .int .i64 b] w fun e w' => e = .returned (.tuple #[.int .i64 (wrap64 (Wi D a * Wi D b)), .bool true]) ∧ Below w.heap.size w w' := by
  have hd : decide (a < 0) = false := by simpa using ha
  have hd2 : decide (b < 0) = false := by simpa using hb
  go_enter Try.func27, Try.ntmps27
  go_wp2_with (first | (go_at_call 37; go_must ((with_reducible refine (isSize_any _ _).mono ?_); rintro e w' ⟨rfl, rfl⟩)) | (go_at_call 52; go_must ((with_reducible refine (cnts_any D (by omega) _).mono ?_); rintro e w1 ⟨v, rfl, hcn, hbl⟩)) | (go_at_call 53; go_must ((with_reducible refine (cOf_any D _ D _ _ _ (Nat.le_refl _) hcn).mono ?_); rintro e w' ⟨rfl, rfl⟩)))
  go_ret2
  exact ⟨rfl, by go_grown⟩
theorem FnExactCountTickets_law (d a b : Int) (_h0 : (Lit.int .i64 d).wf = true) (_h1 : (Lit.int .i64 a).wf = true) (_h2 : (Lit.int .i64 b).wf = true) (w : World) :
    Calls Try.prog 9 #[.int .i64 d, .int .i64 a, .int .i64 b] w fun e w' => e = .returned (.bool true) ∧ Below w.heap.size w w' := by
  by_cases hok : szB d = true ∧ 0 ≤ a ∧ 0 ≤ b
  · obtain ⟨hz, ha, hb⟩ := hok
    obtain ⟨D, rfl, _, h6⟩ := sz_double hz
    go_enter Try.func9, Try.ntmps9
    go_wp2_with (first | (go_at_call 26; refine (sCT_yes D _ _ _ hz h6 ha hb).mono ?_; rintro e w1 ⟨rfl, hb1⟩; have H1 := chain' (w := w) (by go_grown) hb1; clear hb1) | (go_at_call 27; refine (iCT_yes D _ _ _ hz h6 ha hb).mono ?_; rintro e w2 ⟨rfl, hb2⟩; have H2 := chain' (w := w) (by go_grown) hb2; clear hb2))
    go_ret
    exact ⟨rfl, by go_grown⟩
  · have hno : szB d = false ∨ a < 0 ∨ b < 0 := by
      by_cases h1 : szB d = true
      · by_cases h2 : a < 0
        · exact .inr (.inl h2)
        · exact .inr (.inr (by simp_all))
      · exact .inl (by simpa using h1)
    go_enter Try.func9, Try.ntmps9
    go_wp2_with (first | (go_at_call 26; refine (sCT_no _ _ _ _ hno).mono ?_; rintro e w1 ⟨rfl, hb1⟩; have H1 := chain' (w := w) (by go_grown) hb1; clear hb1) | (go_at_call 27; refine (iCT_no _ _ _ _ hno).mono ?_; rintro e w2 ⟨rfl, hb2⟩; have H2 := chain' (w := w) (by go_grown) hb2; clear hb2))
    go_ret
    exact ⟨rfl, by go_grown⟩
theorem sCL_no (d a : Int) (w : World) (h : szB d = false ∨ a < 0) :
    Calls Try.prog 24 #[.int .i64 d, .int .i64 a] w fun e w' => e = .returned (.tuple #[.int .i64 0, .bool false]) ∧ Below w.heap.size w w' := by
  cases hz : szB d with
  | false =>
    go_enter Try.func24, Try.ntmps24
    go_wp2_with (go_at_call 46; go_must ((with_reducible refine (tkSize_any _ _).mono ?_); rintro e w' ⟨rfl, rfl⟩))
    go_ret2
    exact ⟨rfl, by go_grown⟩
  | true =>
    have ha : a < 0 := by rcases h with h | h <;> simp_all
    have hd : decide (a < 0) = true := by simpa using ha
    go_enter Try.func24, Try.ntmps24
    go_wp2_with (go_at_call 46; go_must ((with_reducible refine (tkSize_any _ _).mono ?_); rintro e w' ⟨rfl, rfl⟩))
    go_ret2
    exact ⟨rfl, by go_grown⟩
theorem sCL_yes (D : Nat) (a : Int) (w : World) (hz : szB (2 * (D : Int)) = true) (h6 : D ≤ 6) (ha : 0 ≤ a) :
    Calls Try.prog 24 #[.int .i64 (2 * (D : Int)), .int .i64 a] w fun e w' => e = .returned (.tuple #[.int .i64 (wrap64 (Wi D a * Wi D a)), .bool true]) ∧ Below w.heap.size w w' := by
  have hd : decide (a < 0) = false := by simpa using ha
  go_enter Try.func24, Try.ntmps24
  go_wp2_with (first | (go_at_call 46; go_must ((with_reducible refine (tkSize_any _ _).mono ?_); rintro e w' ⟨rfl, rfl⟩)) | (go_at_call 51; go_must ((with_reducible refine (ways_any D (by omega) _).mono ?_); rintro e w1 ⟨g, rfl, hrow, hg, hbl⟩)) | (go_at_call 50; go_must ((with_reducible refine (tkOf_any _ D _ _ hrow).mono ?_); rintro e w' ⟨rfl, rfl⟩)))
  go_ret2
  exact ⟨rfl, by go_grown⟩
theorem iCL_yes (D : Nat) (a : Int) (w : World) (hz : szB (2 * (D : Int)) = true) (h6 : D ≤ 6) (ha : 0 ≤ a) :
    Calls Try.prog 25 #[.int .i64 (2 * (D : Int)), .int .i64 a] w fun e w' => e = .returned (.tuple #[.int .i64 (wrap64 (Wi D a * Wi D a)), .bool true]) ∧ Below w.heap.size w w' := by
  go_enter Try.func25, Try.ntmps25
  go_wp2_with (first | (go_at_call 27; go_must ((with_reducible refine (iCT_yes D _ _ _ hz h6 ha ha).mono ?_); rintro e w1 ⟨rfl, hbl⟩)))
  go_ret2
  exact ⟨rfl, by go_grown⟩
theorem iCL_no (d a : Int) (w : World) (h : szB d = false ∨ a < 0) :
    Calls Try.prog 25 #[.int .i64 d, .int .i64 a] w fun e w' => e = .returned (.tuple #[.int .i64 0, .bool false]) ∧ Below w.heap.size w w' := by
  have h' : szB d = false ∨ a < 0 ∨ a < 0 := h.elim .inl (fun x => .inr (.inl x))
  go_enter Try.func25, Try.ntmps25
  go_wp2_with (first | (go_at_call 27; go_must ((with_reducible refine (iCT_no _ _ _ _ h').mono ?_); rintro e w1 ⟨rfl, hbl⟩)))
  go_ret2
  exact ⟨rfl, by go_grown⟩
theorem FnExactCountLuckyOf_law (d a : Int) (_h0 : (Lit.int .i64 d).wf = true) (_h1 : (Lit.int .i64 a).wf = true) (w : World) :
    Calls Try.prog 8 #[.int .i64 d, .int .i64 a] w fun e w' => e = .returned (.bool true) ∧ Below w.heap.size w w' := by
  by_cases hok : szB d = true ∧ 0 ≤ a
  · obtain ⟨hz, ha⟩ := hok
    obtain ⟨D, rfl, _, h6⟩ := sz_double hz
    go_enter Try.func8, Try.ntmps8
    go_wp2_with (first | (go_at_call 24; refine (sCL_yes D _ _ hz h6 ha).mono ?_; rintro e w1 ⟨rfl, hb1⟩; have H1 := chain' (w := w) (by go_grown) hb1; clear hb1) | (go_at_call 25; refine (iCL_yes D _ _ hz h6 ha).mono ?_; rintro e w2 ⟨rfl, hb2⟩; have H2 := chain' (w := w) (by go_grown) hb2; clear hb2))
    go_ret
    exact ⟨rfl, by go_grown⟩
  · have hno : szB d = false ∨ a < 0 := by
      by_cases h1 : szB d = true
      · exact .inr (by simp_all)
      · exact .inl (by simpa using h1)
    go_enter Try.func8, Try.ntmps8
    go_wp2_with (first | (go_at_call 24; refine (sCL_no _ _ _ hno).mono ?_; rintro e w1 ⟨rfl, hb1⟩; have H1 := chain' (w := w) (by go_grown) hb1; clear hb1) | (go_at_call 25; refine (iCL_no _ _ _ hno).mono ?_; rintro e w2 ⟨rfl, hb2⟩; have H2 := chain' (w := w) (by go_grown) hb2; clear hb2))
    go_ret
    exact ⟨rfl, by go_grown⟩
end Go.Proofs.Ytapeohnjjmokkaa
