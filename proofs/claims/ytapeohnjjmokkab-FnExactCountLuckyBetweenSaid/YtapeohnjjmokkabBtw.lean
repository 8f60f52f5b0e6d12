/-
  The law of CountLuckyBetween.
-/
import Derived.Test.YtapeohnjjmokkabNext
import Derived.WalkLawsBesides
namespace Go.Proofs.Ytapeohnjjmokkab
open Go.RowKit

theorem ret_ib' {a b : Int} {p : Bool} (h : a = b) : Ending.returned (.tuple #[.int .i64 a, .bool p]) = .returned (.tuple #[.int .i64 b, .bool p]) := by rw [h]
/-- What comes out. -/
def btw (z : Nat) (a b : ByteArray) : Int := (rank z b + comp z b.data.toList) - (rank z a + comp z a.data.toList)
theorem iBtw_yes (z : Nat) (a b : ByteArray) (w : World) (hma : a.size ≤ maxLen) (hmb : b.size ≤ maxLen) (ha : goodB a = true) (hb : goodB b = true) (hsa : a.size = 2 * z) (hsb : b.size = 2 * z) (h6 : z ≤ 6) (hlt : Op.bytesLess b.toList a.toList = false) :
    Calls Try.prog 14 #[.string a, .string b] w fun e w' => e = .returned (.tuple #[.int .i64 (btw z a b), .bool true]) ∧ Below w.heap.size w w' := by
  have hA := rank_bd z h6 a hsa (good_dig ha)
  have hB := rank_bd z h6 b hsb (good_dig hb)
  have hC := comp_bd h6 a.data.toList
  have hD := comp_bd h6 b.data.toList
  obtain ⟨hA1, hA2⟩ := hA
  obtain ⟨hB1, hB2⟩ := hB
  obtain ⟨hC1, hC2⟩ := hC
  obtain ⟨hD1, hD2⟩ := hD
  have HA := Lib.hid hsa
  have HB := Lib.hid hsb
  have hne : ((a.size : Int) != (b.size : Int)) = false := by rw [hsa, hsb]; simp
  clear hsa hsb
  go_enter Try.func14, Try.ntmps14
  go_wp2_with (first | (go_at_call 37; go_must (first | ((with_reducible refine (isTicket_any a _ hma).mono ?_); rintro e w' ⟨rfl, rfl⟩) | ((with_reducible refine (isTicket_any b _ hmb).mono ?_); rintro e w' ⟨rfl, rfl⟩))) | (go_at_call 38; go_must (first | ((with_reducible refine (upTo_any z a _ h6 HA.out (good_dig ha)).mono ?_); rintro e w1 ⟨rfl, hb1⟩; have H1 := chain' (w := w) (by go_grown) hb1; clear hb1) | ((with_reducible refine (upTo_any z b _ h6 HB.out (good_dig hb)).mono ?_); rintro e w1 ⟨rfl, hb1⟩; have H2 := chain' (w := w) (by go_grown) hb1; clear hb1))))
  go_ret2
  exact ⟨rfl, by go_grown⟩
theorem sBtw_YY (z : Nat) (a b : ByteArray) (w : World) (hma : a.size ≤ maxLen) (hmb : b.size ≤ maxLen) (ha : goodB a = true) (hb : goodB b = true) (hsa : a.size = 2 * z) (hsb : b.size = 2 * z) (h6 : z ≤ 6) (hlt : Op.bytesLess b.toList a.toList = false) (la : lucky a = true) (lb : lucky b = true) :
    Calls Try.prog 13 #[.string a, .string b] w fun e w' => e = .returned (.tuple #[.int .i64 (btw z a b), .bool true]) ∧ Below w.heap.size w w' := by
  have hA := rank_bd z h6 a hsa (good_dig ha)
  have hB := rank_bd z h6 b hsb (good_dig hb)
  obtain ⟨hA1, hA2⟩ := hA
  obtain ⟨hB1, hB2⟩ := hB
  have HA := Lib.hid hsa
  have HB := Lib.hid hsb
  have HC : Hid (comp z a.data.toList = 1) := by show _ = _; rw [comp_full z a hsa, if_pos la]
  have HD : Hid (comp z b.data.toList = 1) := by show _ = _; rw [comp_full z b hsb, if_pos lb]
  have hne : ((a.size : Int) != (b.size : Int)) = false := by rw [hsa, hsb]; simp
  clear hsa hsb
  go_enter Try.func13, Try.ntmps13
  go_wp2_with (first | (go_at_call 30; go_must (first | ((with_reducible refine (tkGood_any a _ hma).mono ?_); rintro e w' ⟨rfl, rfl⟩) | ((with_reducible refine (tkGood_any b _ hmb).mono ?_); rintro e w' ⟨rfl, rfl⟩))) | (go_at_call 35; go_must (first | ((with_reducible refine (tkRank_any z a _ h6 HA.out (good_dig ha)).mono ?_); rintro e w1 ⟨rfl, hb1⟩; have H1 := chain' (w := w) (by go_grown) hb1; clear hb1) | ((with_reducible refine (tkRank_any z b _ h6 HB.out (good_dig hb)).mono ?_); rintro e w1 ⟨rfl, hb1⟩; have H2 := chain' (w := w) (by go_grown) hb1; clear hb1))) | (go_at_call 36; go_must (first | ((with_reducible refine (tkLucky_any a _ ha).mono ?_); rintro e w1 ⟨rfl, hb1⟩; have H3 := chain' (w := w) (by go_grown) hb1; clear hb1) | ((with_reducible refine (tkLucky_any b _ hb).mono ?_); rintro e w1 ⟨rfl, hb1⟩; have H4 := chain' (w := w) (by go_grown) hb1; clear hb1))))
  go_ret2
  exact ⟨ret_ib' (by unfold btw; rw [HC.out, HD.out]; omega), by go_grown⟩
theorem sBtw_YN (z : Nat) (a b : ByteArray) (w : World) (hma : a.size ≤ maxLen) (hmb : b.size ≤ maxLen) (ha : goodB a = true) (hb : goodB b = true) (hsa : a.size = 2 * z) (hsb : b.size = 2 * z) (h6 : z ≤ 6) (hlt : Op.bytesLess b.toList a.toList = false) (la : lucky a = true) (lb : lucky b = false) :
    Calls Try.prog 13 #[.string a, .string b] w fun e w' => e = .returned (.tuple #[.int .i64 (btw z a b), .bool true]) ∧ Below w.heap.size w w' := by
  have hA := rank_bd z h6 a hsa (good_dig ha)
  have hB := rank_bd z h6 b hsb (good_dig hb)
  obtain ⟨hA1, hA2⟩ := hA
  obtain ⟨hB1, hB2⟩ := hB
  have HA := Lib.hid hsa
  have HB := Lib.hid hsb
  have HC : Hid (comp z a.data.toList = 1) := by show _ = _; rw [comp_full z a hsa, if_pos la]
  have HD : Hid (comp z b.data.toList = 0) := by show _ = _; rw [comp_full z b hsb, if_neg (by rw [lb]; simp)]
  have hne : ((a.size : Int) != (b.size : Int)) = false := by rw [hsa, hsb]; simp
  clear hsa hsb
  go_enter Try.func13, Try.ntmps13
  go_wp2_with (first | (go_at_call 30; go_must (first | ((with_reducible refine (tkGood_any a _ hma).mono ?_); rintro e w' ⟨rfl, rfl⟩) | ((with_reducible refine (tkGood_any b _ hmb).mono ?_); rintro e w' ⟨rfl, rfl⟩))) | (go_at_call 35; go_must (first | ((with_reducible refine (tkRank_any z a _ h6 HA.out (good_dig ha)).mono ?_); rintro e w1 ⟨rfl, hb1⟩; have H1 := chain' (w := w) (by go_grown) hb1; clear hb1) | ((with_reducible refine (tkRank_any z b _ h6 HB.out (good_dig hb)).mono ?_); rintro e w1 ⟨rfl, hb1⟩; have H2 := chain' (w := w) (by go_grown) hb1; clear hb1))) | (go_at_call 36; go_must (first | ((with_reducible refine (tkLucky_any a _ ha).mono ?_); rintro e w1 ⟨rfl, hb1⟩; have H3 := chain' (w := w) (by go_grown) hb1; clear hb1) | ((with_reducible refine (tkLucky_any b _ hb).mono ?_); rintro e w1 ⟨rfl, hb1⟩; have H4 := chain' (w := w) (by go_grown) hb1; clear hb1))))
  go_ret2
  exact ⟨ret_ib' (by unfold btw; rw [HC.out, HD.out]; omega), by go_grown⟩
theorem sBtw_NY (z : Nat) (a b : ByteArray) (w : World) (hma : a.size ≤ maxLen) (hmb : b.size ≤ maxLen) (ha : goodB a = true) (hb : goodB b = true) (hsa : a.size = 2 * z) (hsb : b.size = 2 * z) (h6 : z ≤ 6) (hlt : Op.bytesLess b.toList a.toList = false) (la : lucky a = false) (lb : lucky b = true) :
    Calls Try.prog 13 #[.string a, .string b] w fun e w' => e = .returned (.tuple #[.int .i64 (btw z a b), .bool true]) ∧ Below w.heap.size w w' := by
  have hA := rank_bd z h6 a hsa (good_dig ha)
  have hB := rank_bd z h6 b hsb (good_dig hb)
  obtain ⟨hA1, hA2⟩ := hA
  obtain ⟨hB1, hB2⟩ := hB
  have HA := Lib.hid hsa
  have HB := Lib.hid hsb
  have HC : Hid (comp z a.data.toList = 0) := by show _ = _; rw [comp_full z a hsa, if_neg (by rw [la]; simp)]
  have HD : Hid (comp z b.data.toList = 1) := by show _ = _; rw [comp_full z b hsb, if_pos lb]
  have hne : ((a.size : Int) != (b.size : Int)) = false := by rw [hsa, hsb]; simp
  clear hsa hsb
  go_enter Try.func13, Try.ntmps13
  go_wp2_with (first | (go_at_call 30; go_must (first | ((with_reducible refine (tkGood_any a _ hma).mono ?_); rintro e w' ⟨rfl, rfl⟩) | ((with_reducible refine (tkGood_any b _ hmb).mono ?_); rintro e w' ⟨rfl, rfl⟩))) | (go_at_call 35; go_must (first | ((with_reducible refine (tkRank_any z a _ h6 HA.out (good_dig ha)).mono ?_); rintro e w1 ⟨rfl, hb1⟩; have H1 := chain' (w := w) (by go_grown) hb1; clear hb1) | ((with_reducible refine (tkRank_any z b _ h6 HB.out (good_dig hb)).mono ?_); rintro e w1 ⟨rfl, hb1⟩; have H2 := chain' (w := w) (by go_grown) hb1; clear hb1))) | (go_at_call 36; go_must (first | ((with_reducible refine (tkLucky_any a _ ha).mono ?_); rintro e w1 ⟨rfl, hb1⟩; have H3 := chain' (w := w) (by go_grown) hb1; clear hb1) | ((with_reducible refine (tkLucky_any b _ hb).mono ?_); rintro e w1 ⟨rfl, hb1⟩; have H4 := chain' (w := w) (by go_grown) hb1; clear hb1))))
  go_ret2
  exact ⟨ret_ib' (by unfold btw; rw [HC.out, HD.out]; omega), by go_grown⟩
theorem sBtw_NN (z : Nat) (a b : ByteArray) (w : World) (hma : a.size ≤ maxLen) (hmb : b.size ≤ maxLen) (ha : goodB a = true) (hb : goodB b = true) (hsa : a.size = 2 * z) (hsb : b.size = 2 * z) (h6 : z ≤ 6) (hlt : Op.bytesLess b.toList a.toList = false) (la : lucky a = false) (lb : lucky b = false) :
    Calls Try.prog 13 #[.string a, .string b] w fun e w' => e = .returned (.tuple #[.int .i64 (btw z a b), .bool true]) ∧ Below w.heap.size w w' := by
  have hA := rank_bd z h6 a hsa (good_dig ha)
  have hB := rank_bd z h6 b hsb (good_dig hb)
  obtain ⟨hA1, hA2⟩ := hA
  obtain ⟨hB1, hB2⟩ := hB
  have HA := Lib.hid hsa
  have HB := Lib.hid hsb
  have HC : Hid (comp z a.data.toList = 0) := by show _ = _; rw [comp_full z a hsa, if_neg (by rw [la]; simp)]
  have HD : Hid (comp z b.data.toList = 0) := by show _ = _; rw [comp_full z b hsb, if_neg (by rw [lb]; simp)]
  have hne : ((a.size : Int) != (b.size : Int)) = false := by rw [hsa, hsb]; simp
  clear hsa hsb
  go_enter Try.func13, Try.ntmps13
  go_wp2_with (first | (go_at_call 30; go_must (first | ((with_reducible refine (tkGood_any a _ hma).mono ?_); rintro e w' ⟨rfl, rfl⟩) | ((with_reducible refine (tkGood_any b _ hmb).mono ?_); rintro e w' ⟨rfl, rfl⟩))) | (go_at_call 35; go_must (first | ((with_reducible refine (tkRank_any z a _ h6 HA.out (good_dig ha)).mono ?_); rintro e w1 ⟨rfl, hb1⟩; have H1 := chain' (w := w) (by go_grown) hb1; clear hb1) | ((with_reducible refine (tkRank_any z b _ h6 HB.out (good_dig hb)).mono ?_); rintro e w1 ⟨rfl, hb1⟩; have H2 := chain' (w := w) (by go_grown) hb1; clear hb1))) | (go_at_call 36; go_must (first | ((with_reducible refine (tkLucky_any a _ ha).mono ?_); rintro e w1 ⟨rfl, hb1⟩; have H3 := chain' (w := w) (by go_grown) hb1; clear hb1) | ((with_reducible refine (tkLucky_any b _ hb).mono ?_); rintro e w1 ⟨rfl, hb1⟩; have H4 := chain' (w := w) (by go_grown) hb1; clear hb1))))
  go_ret2
  exact ⟨ret_ib' (by unfold btw; rw [HC.out, HD.out]; omega), by go_grown⟩
theorem sBtw_yes (z : Nat) (a b : ByteArray) (w : World) (hma : a.size ≤ maxLen) (hmb : b.size ≤ maxLen) (ha : goodB a = true) (hb : goodB b = true) (hsa : a.size = 2 * z) (hsb : b.size = 2 * z) (h6 : z ≤ 6) (hlt : Op.bytesLess b.toList a.toList = false) :
    Calls Try.prog 13 #[.string a, .string b] w fun e w' => e = .returned (.tuple #[.int .i64 (btw z a b), .bool true]) ∧ Below w.heap.size w w' := by
  cases la : lucky a <;> cases lb : lucky b
  · exact sBtw_NN z a b w hma hmb ha hb hsa hsb h6 hlt la lb
  · exact sBtw_NY z a b w hma hmb ha hb hsa hsb h6 hlt la lb
  · exact sBtw_YN z a b w hma hmb ha hb hsa hsb h6 hlt la lb
  · exact sBtw_YY z a b w hma hmb ha hb hsa hsb h6 hlt la lb
theorem sBtw_no (a b : ByteArray) (w : World) (hma : a.size ≤ maxLen) (hmb : b.size ≤ maxLen) (h : goodB a = false ∨ goodB b = false ∨ a.size ≠ b.size ∨ Op.bytesLess b.toList a.toList = true) :
    Calls Try.prog 13 #[.string a, .string b] w fun e w' => e = .returned (.tuple #[.int .i64 0, .bool false]) ∧ Below w.heap.size w w' := by
  cases ha : goodB a with
  | false =>
    clear h
    go_enter Try.func13, Try.ntmps13
    go_wp2_with (first | (go_at_call 30; go_must (first | ((with_reducible refine (tkGood_any a _ hma).mono ?_); rintro e w' ⟨rfl, rfl⟩) | ((with_reducible refine (tkGood_any b _ hmb).mono ?_); rintro e w' ⟨rfl, rfl⟩))))
    go_ret2
    exact ⟨rfl, by go_grown⟩
  | true =>
    cases hb : goodB b with
    | false =>
      clear h
      go_enter Try.func13, Try.ntmps13
      go_wp2_with (first | (go_at_call 30; go_must (first | ((with_reducible refine (tkGood_any a _ hma).mono ?_); rintro e w' ⟨rfl, rfl⟩) | ((with_reducible refine (tkGood_any b _ hmb).mono ?_); rintro e w' ⟨rfl, rfl⟩))))
      go_ret2
      exact ⟨rfl, by go_grown⟩
    | true =>
      by_cases hs : a.size = b.size
      · have hl : Op.bytesLess b.toList a.toList = true := by
          rcases h with h | h | h | h
          · rw [ha] at h; cases h
          · rw [hb] at h; cases h
          · exact absurd hs h
          · exact h
        have hne : ((a.size : Int) != (b.size : Int)) = false := by rw [hs]; simp
        clear h hs
        go_enter Try.func13, Try.ntmps13
        go_wp2_with (first | (go_at_call 30; go_must (first | ((with_reducible refine (tkGood_any a _ hma).mono ?_); rintro e w' ⟨rfl, rfl⟩) | ((with_reducible refine (tkGood_any b _ hmb).mono ?_); rintro e w' ⟨rfl, rfl⟩))))
        go_ret2
        exact ⟨rfl, by go_grown⟩
      · have hne : ((a.size : Int) != (b.size : Int)) = true := by rw [bne_iff_ne]; omega
        clear h hs
        go_enter Try.func13, Try.ntmps13
        go_wp2_with (first | (go_at_call 30; go_must (first | ((with_reducible refine (tkGood_any a _ hma).mono ?_); rintro e w' ⟨rfl, rfl⟩) | ((with_reducible refine (tkGood_any b _ hmb).mono ?_); rintro e w' ⟨rfl, rfl⟩))))
        go_ret2
        exact ⟨rfl, by go_grown⟩
theorem iBtw_no (a b : ByteArray) (w : World) (hma : a.size ≤ maxLen) (hmb : b.size ≤ maxLen) (h : goodB a = false ∨ goodB b = false ∨ a.size ≠ b.size ∨ Op.bytesLess b.toList a.toList = true) :
    Calls Try.prog 14 #[.string a, .string b] w fun e w' => e = .returned (.tuple #[.int .i64 0, .bool false]) ∧ Below w.heap.size w w' := by
  cases ha : goodB a with
  | false =>
    clear h
    go_enter Try.func14, Try.ntmps14
    go_wp2_with (first | (go_at_call 37; go_must (first | ((with_reducible refine (isTicket_any a _ hma).mono ?_); rintro e w' ⟨rfl, rfl⟩) | ((with_reducible refine (isTicket_any b _ hmb).mono ?_); rintro e w' ⟨rfl, rfl⟩))))
    go_ret2
    exact ⟨rfl, by go_grown⟩
  | true =>
    cases hb : goodB b with
    | false =>
      clear h
      go_enter Try.func14, Try.ntmps14
      go_wp2_with (first | (go_at_call 37; go_must (first | ((with_reducible refine (isTicket_any a _ hma).mono ?_); rintro e w' ⟨rfl, rfl⟩) | ((with_reducible refine (isTicket_any b _ hmb).mono ?_); rintro e w' ⟨rfl, rfl⟩))))
      go_ret2
      exact ⟨rfl, by go_grown⟩
    | true =>
      by_cases hs : a.size = b.size
      · have hl : Op.bytesLess b.toList a.toList = true := by
          rcases h with h | h | h | h
          · rw [ha] at h; cases h
          · rw [hb] at h; cases h
          · exact absurd hs h
          · exact h
        have hne : ((a.size : Int) != (b.size : Int)) = false := by rw [hs]; simp
        clear h hs
        go_enter Try.func14, Try.ntmps14
        go_wp2_with (first | (go_at_call 37; go_must (first | ((with_reducible refine (isTicket_any a _ hma).mono ?_); rintro e w' ⟨rfl, rfl⟩) | ((with_reducible refine (isTicket_any b _ hmb).mono ?_); rintro e w' ⟨rfl, rfl⟩))))
        go_ret2
        exact ⟨rfl, by go_grown⟩
      · have hne : ((a.size : Int) != (b.size : Int)) = true := by rw [bne_iff_ne]; omega
        clear h hs
        go_enter Try.func14, Try.ntmps14
        go_wp2_with (first | (go_at_call 37; go_must (first | ((with_reducible refine (isTicket_any a _ hma).mono ?_); rintro e w' ⟨rfl, rfl⟩) | ((with_reducible refine (isTicket_any b _ hmb).mono ?_); rintro e w' ⟨rfl, rfl⟩))))
        go_ret2
        exact ⟨rfl, by go_grown⟩
theorem FnExactCountLuckyBetween_law (a b : ByteArray) (hsa : a.size ≤ maxLen) (hsb : b.size ≤ maxLen) (w : World) :
    Calls Try.prog 4 #[.string a, .string b] w fun e w' => e = .returned (.bool true) ∧ Below w.heap.size w w' := by
  have hma := hsa
  have hmb := hsb
  unfold maxLen at hsa hsb
  by_cases h1 : a.size ≤ 1048576
  · by_cases h2 : b.size ≤ 1048576
    · by_cases hok : goodB a = true ∧ goodB b = true ∧ a.size = b.size ∧ Op.bytesLess b.toList a.toList = false
      · obtain ⟨ha, hb, hs, hlt⟩ := hok
        obtain ⟨z, hsz, _, hz⟩ := good_half ha
        have HA := Lib.hid hsz
        have HB : Hid (b.size = 2 * z) := by show _ = _; omega
        clear hsz hs
        go_enter Try.func4, Try.ntmps4
        go_wp2_with (first | (go_at_call 13; refine (sBtw_yes z _ _ _ hma hmb ha hb HA.out HB.out hz hlt).mono ?_; rintro e w1 ⟨rfl, hb1⟩; have H1 := chain' (w := w) (by go_grown) hb1; clear hb1) | (go_at_call 14; refine (iBtw_yes z _ _ _ hma hmb ha hb HA.out HB.out hz hlt).mono ?_; rintro e w2 ⟨rfl, hb2⟩; have H2 := chain' (w := w) (by go_grown) hb2; clear hb2))
        go_ret
        exact ⟨rfl, by go_grown⟩
      · have hno : goodB a = false ∨ goodB b = false ∨ a.size ≠ b.size ∨ Op.bytesLess b.toList a.toList = true := by
          cases ha : goodB a with
          | false => exact .inl rfl
          | true =>
            cases hb : goodB b with
            | false => exact .inr (.inl rfl)
            | true =>
              by_cases hs : a.size = b.size
              · cases hl : Op.bytesLess b.toList a.toList with
                | true => exact .inr (.inr (.inr rfl))
                | false => exact absurd ⟨ha, hb, hs, hl⟩ hok
              · exact .inr (.inr (.inl hs))
        have HN := Lib.hid hno
        clear hok hno
        go_enter Try.func4, Try.ntmps4
        go_wp2_with (first | (go_at_call 13; refine (sBtw_no _ _ _ hma hmb HN.out).mono ?_; rintro e w1 ⟨rfl, hb1⟩; have H1 := chain' (w := w) (by go_grown) hb1; clear hb1) | (go_at_call 14; refine (iBtw_no _ _ _ hma hmb HN.out).mono ?_; rintro e w2 ⟨rfl, hb2⟩; have H2 := chain' (w := w) (by go_grown) hb2; clear hb2))
        go_ret
        exact ⟨rfl, by go_grown⟩
    · go_enter Try.func4, Try.ntmps4
      go_wp2_with fail
      go_ret
      exact ⟨rfl, by go_grown⟩
  · go_enter Try.func4, Try.ntmps4
    go_wp2_with fail
    go_ret
    exact ⟨rfl, by go_grown⟩
end Go.Proofs.Ytapeohnjjmokkab
