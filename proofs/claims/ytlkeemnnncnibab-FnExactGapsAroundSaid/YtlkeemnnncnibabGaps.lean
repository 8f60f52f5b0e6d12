/-
  The law of GapsAround.
-/
import Derived.Test.YtlkeemnnncnibabGapMath
namespace Go.Proofs.Ytlkeemnnncnibab
open Go.RowKit
set_option maxRecDepth 100000

theorem tup_iib {a b c d : Int} {p : Bool} (h : a = b) (g : c = d) : Ending.returned (.tuple #[.int .i64 a, .int .i64 c, .bool p]) = .returned (.tuple #[.int .i64 b, .int .i64 d, .bool p]) := by rw [h, g]
set_option maxHeartbeats 1000000 in
theorem sGapsYY (z : Nat) (s : ByteArray) (w : World) (hm : s.size ≤ maxLen) (hg : goodB s = true) (hs : s.size = 2 * z) (h6 : z ≤ 6) (h1 : lorB z (rank z s - 1) = true) (h2 : lorB z (nextR z s) = true) :
    Calls Try.prog 25 #[.string s] w fun e w' => e = .returned (.tuple #[.int .i64 (gapA z s), .int .i64 (gapB z s), .bool true]) ∧ Below w.heap.size w w' := by
  have E1 := Lib.hid (gapA_yes h1)
  have E2 := Lib.hid (gapB_yes h2)
  have HS := Lib.hid hs
  have t0 := tnum_bd s
  have t1 := tnum_bd (lorS z (rank z s - 1))
  have t2 := tnum_bd (lorS z (nextR z s))
  obtain ⟨t01, t02⟩ := t0
  obtain ⟨t11, t12⟩ := t1
  obtain ⟨t21, t22⟩ := t2
  have G1 := Lib.hid (lor_good (sz_good hg hs) h6 h1)
  have G2 := Lib.hid (lor_good (sz_good hg hs) h6 h2)
  clear hs
  go_enter Try.func25, Try.ntmps25
  go_wp2_with (first | (go_at_call 45; go_must ((with_reducible refine (tkGood_any _ _ hm).mono ?_); rintro e w' ⟨rfl, rfl⟩)) | (go_at_call 53; go_must (first | ((with_reducible refine (next_last z _ _ hg HS.out h6).mono ?_); rintro e w1 ⟨rfl, hb1⟩; have K1 := chain' (w := w) (by go_grown) hb1; clear hb1) | ((with_reducible refine (next_any z _ _ hg HS.out h6).mono ?_); rintro e w1 ⟨rfl, hb1⟩; have K2 := chain' (w := w) (by go_grown) hb1; clear hb1))) | (go_at_call 46; go_must ((first | (with_reducible refine (tkNum_t s _ hg).mono ?_) | (with_reducible refine (tkNum_t _ _ G1.out).mono ?_) | (with_reducible refine (tkNum_t _ _ G2.out).mono ?_)); rintro e w' ⟨rfl, rfl⟩)))
  go_ret3
  exact ⟨tup_iib E1.out.symm E2.out.symm, by go_grown⟩
set_option maxHeartbeats 1000000 in
theorem iGapsYY (z : Nat) (s : ByteArray) (w : World) (hm : s.size ≤ maxLen) (hg : goodB s = true) (hs : s.size = 2 * z) (h6 : z ≤ 6) (h1 : lorB z (rank z s - 1) = true) (h2 : lorB z (nextR z s) = true) :
    Calls Try.prog 26 #[.string s] w fun e w' => e = .returned (.tuple #[.int .i64 (gapA z s), .int .i64 (gapB z s), .bool true]) ∧ Below w.heap.size w w' := by
  have E1 := Lib.hid (gapA_yes h1)
  have E2 := Lib.hid (gapB_yes h2)
  have HS := Lib.hid hs
  have t0 := tnum_bd s
  have t1 := tnum_bd (lorS z (rank z s - 1))
  have t2 := tnum_bd (lorS z (nextR z s))
  obtain ⟨t01, t02⟩ := t0
  obtain ⟨t11, t12⟩ := t1
  obtain ⟨t21, t22⟩ := t2
  have G1 := Lib.hid (lor_good (sz_good hg hs) h6 h1)
  have G2 := Lib.hid (lor_good (sz_good hg hs) h6 h2)
  clear hs
  go_enter Try.func26, Try.ntmps26
  go_wp2_with (first | (go_at_call 54; go_must ((with_reducible refine (iLast_yes z _ _ hm hg HS.out h6).mono ?_); rintro e w1 ⟨rfl, hb1⟩; have K1 := chain' (w := w) (by go_grown) hb1; clear hb1)) | (go_at_call 55; go_must ((with_reducible refine (iNext_yes z _ _ hm hg HS.out h6).mono ?_); rintro e w1 ⟨rfl, hb1⟩; have K2 := chain' (w := w) (by go_grown) hb1; clear hb1)) | (go_at_call 20; go_must ((first | (with_reducible refine (iNum_t s _ hg).mono ?_) | (with_reducible refine (iNum_t _ _ G1.out).mono ?_) | (with_reducible refine (iNum_t _ _ G2.out).mono ?_)); rintro e w1 ⟨rfl, hb1⟩; have K3 := chain' (w := w) (by go_grown) hb1; clear hb1)))
  go_ret3
  exact ⟨tup_iib E1.out.symm E2.out.symm, by go_grown⟩
set_option maxHeartbeats 1000000 in
theorem sGapsYN (z : Nat) (s : ByteArray) (w : World) (hm : s.size ≤ maxLen) (hg : goodB s = true) (hs : s.size = 2 * z) (h6 : z ≤ 6) (h1 : lorB z (rank z s - 1) = true) (h2 : lorB z (nextR z s) = false) :
    Calls Try.prog 25 #[.string s] w fun e w' => e = .returned (.tuple #[.int .i64 (gapA z s), .int .i64 (gapB z s), .bool true]) ∧ Below w.heap.size w w' := by
  have E1 := Lib.hid (gapA_yes h1)
  have E2 := Lib.hid (gapB_no h2)
  have HS := Lib.hid hs
  have t0 := tnum_bd s
  have t1 := tnum_bd (lorS z (rank z s - 1))
  have t2 := tnum_bd (lorS z (nextR z s))
  obtain ⟨t01, t02⟩ := t0
  obtain ⟨t11, t12⟩ := t1
  obtain ⟨t21, t22⟩ := t2
  have G1 := Lib.hid (lor_good (sz_good hg hs) h6 h1)
  clear hs
  go_enter Try.func25, Try.ntmps25
  go_wp2_with (first | (go_at_call 45; go_must ((with_reducible refine (tkGood_any _ _ hm).mono ?_); rintro e w' ⟨rfl, rfl⟩)) | (go_at_call 53; go_must (first | ((with_reducible refine (next_last z _ _ hg HS.out h6).mono ?_); rintro e w1 ⟨rfl, hb1⟩; have K1 := chain' (w := w) (by go_grown) hb1; clear hb1) | ((with_reducible refine (next_any z _ _ hg HS.out h6).mono ?_); rintro e w1 ⟨rfl, hb1⟩; have K2 := chain' (w := w) (by go_grown) hb1; clear hb1))) | (go_at_call 46; go_must ((first | (with_reducible refine (tkNum_t s _ hg).mono ?_) | (with_reducible refine (tkNum_t _ _ G1.out).mono ?_)); rintro e w' ⟨rfl, rfl⟩)))
  go_ret3
  exact ⟨tup_iib E1.out.symm E2.out.symm, by go_grown⟩
set_option maxHeartbeats 1000000 in
theorem iGapsYN (z : Nat) (s : ByteArray) (w : World) (hm : s.size ≤ maxLen) (hg : goodB s = true) (hs : s.size = 2 * z) (h6 : z ≤ 6) (h1 : lorB z (rank z s - 1) = true) (h2 : lorB z (nextR z s) = false) :
    Calls Try.prog 26 #[.string s] w fun e w' => e = .returned (.tuple #[.int .i64 (gapA z s), .int .i64 (gapB z s), .bool true]) ∧ Below w.heap.size w w' := by
  have E1 := Lib.hid (gapA_yes h1)
  have E2 := Lib.hid (gapB_no h2)
  have HS := Lib.hid hs
  have t0 := tnum_bd s
  have t1 := tnum_bd (lorS z (rank z s - 1))
  have t2 := tnum_bd (lorS z (nextR z s))
  obtain ⟨t01, t02⟩ := t0
  obtain ⟨t11, t12⟩ := t1
  obtain ⟨t21, t22⟩ := t2
  have G1 := Lib.hid (lor_good (sz_good hg hs) h6 h1)
  clear hs
  go_enter Try.func26, Try.ntmps26
  go_wp2_with (first | (go_at_call 54; go_must ((with_reducible refine (iLast_yes z _ _ hm hg HS.out h6).mono ?_); rintro e w1 ⟨rfl, hb1⟩; have K1 := chain' (w := w) (by go_grown) hb1; clear hb1)) | (go_at_call 55; go_must ((with_reducible refine (iNext_yes z _ _ hm hg HS.out h6).mono ?_); rintro e w1 ⟨rfl, hb1⟩; have K2 := chain' (w := w) (by go_grown) hb1; clear hb1)) | (go_at_call 20; go_must ((first | (with_reducible refine (iNum_t s _ hg).mono ?_) | (with_reducible refine (iNum_t _ _ G1.out).mono ?_)); rintro e w1 ⟨rfl, hb1⟩; have K3 := chain' (w := w) (by go_grown) hb1; clear hb1)))
  go_ret3
  exact ⟨tup_iib E1.out.symm E2.out.symm, by go_grown⟩
set_option maxHeartbeats 1000000 in
theorem sGapsNY (z : Nat) (s : ByteArray) (w : World) (hm : s.size ≤ maxLen) (hg : goodB s = true) (hs : s.size = 2 * z) (h6 : z ≤ 6) (h1 : lorB z (rank z s - 1) = false) (h2 : lorB z (nextR z s) = true) :
    Calls Try.prog 25 #[.string s] w fun e w' => e = .returned (.tuple #[.int .i64 (gapA z s), .int .i64 (gapB z s), .bool true]) ∧ Below w.heap.size w w' := by
  have E1 := Lib.hid (gapA_no h1)
  have E2 := Lib.hid (gapB_yes h2)
  have HS := Lib.hid hs
  have t0 := tnum_bd s
  have t1 := tnum_bd (lorS z (rank z s - 1))
  have t2 := tnum_bd (lorS z (nextR z s))
  obtain ⟨t01, t02⟩ := t0
  obtain ⟨t11, t12⟩ := t1
  obtain ⟨t21, t22⟩ := t2
  have G2 := Lib.hid (lor_good (sz_good hg hs) h6 h2)
  clear hs
  go_enter Try.func25, Try.ntmps25
  go_wp2_with (first | (go_at_call 45; go_must ((with_reducible refine (tkGood_any _ _ hm).mono ?_); rintro e w' ⟨rfl, rfl⟩)) | (go_at_call 53; go_must (first | ((with_reducible refine (next_last z _ _ hg HS.out h6).mono ?_); rintro e w1 ⟨rfl, hb1⟩; have K1 := chain' (w := w) (by go_grown) hb1; clear hb1) | ((with_reducible refine (next_any z _ _ hg HS.out h6).mono ?_); rintro e w1 ⟨rfl, hb1⟩; have K2 := chain' (w := w) (by go_grown) hb1; clear hb1))) | (go_at_call 46; go_must ((first | (with_reducible refine (tkNum_t s _ hg).mono ?_) | (with_reducible refine (tkNum_t _ _ G2.out).mono ?_)); rintro e w' ⟨rfl, rfl⟩)))
  go_ret3
  exact ⟨tup_iib E1.out.symm E2.out.symm, by go_grown⟩
set_option maxHeartbeats 1000000 in
theorem iGapsNY (z : Nat) (s : ByteArray) (w : World) (hm : s.size ≤ maxLen) (hg : goodB s = true) (hs : s.size = 2 * z) (h6 : z ≤ 6) (h1 : lorB z (rank z s - 1) = false) (h2 : lorB z (nextR z s) = true) :
    Calls Try.prog 26 #[.string s] w fun e w' => e = .returned (.tuple #[.int .i64 (gapA z s), .int .i64 (gapB z s), .bool true]) ∧ Below w.heap.size w w' := by
  have E1 := Lib.hid (gapA_no h1)
  have E2 := Lib.hid (gapB_yes h2)
  have HS := Lib.hid hs
  have t0 := tnum_bd s
  have t1 := tnum_bd (lorS z (rank z s - 1))
  have t2 := tnum_bd (lorS z (nextR z s))
  obtain ⟨t01, t02⟩ := t0
  obtain ⟨t11, t12⟩ := t1
  obtain ⟨t21, t22⟩ := t2
  have G2 := Lib.hid (lor_good (sz_good hg hs) h6 h2)
  clear hs
  go_enter Try.func26, Try.ntmps26
  go_wp2_with (first | (go_at_call 54; go_must ((with_reducible refine (iLast_yes z _ _ hm hg HS.out h6).mono ?_); rintro e w1 ⟨rfl, hb1⟩; have K1 := chain' (w := w) (by go_grown) hb1; clear hb1)) | (go_at_call 55; go_must ((with_reducible refine (iNext_yes z _ _ hm hg HS.out h6).mono ?_); rintro e w1 ⟨rfl, hb1⟩; have K2 := chain' (w := w) (by go_grown) hb1; clear hb1)) | (go_at_call 20; go_must ((first | (with_reducible refine (iNum_t s _ hg).mono ?_) | (with_reducible refine (iNum_t _ _ G2.out).mono ?_)); rintro e w1 ⟨rfl, hb1⟩; have K3 := chain' (w := w) (by go_grown) hb1; clear hb1)))
  go_ret3
  exact ⟨tup_iib E1.out.symm E2.out.symm, by go_grown⟩
set_option maxHeartbeats 1000000 in
theorem sGapsNN (z : Nat) (s : ByteArray) (w : World) (hm : s.size ≤ maxLen) (hg : goodB s = true) (hs : s.size = 2 * z) (h6 : z ≤ 6) (h1 : lorB z (rank z s - 1) = false) (h2 : lorB z (nextR z s) = false) :
    Calls Try.prog 25 #[.string s] w fun e w' => e = .returned (.tuple #[.int .i64 (gapA z s), .int .i64 (gapB z s), .bool true]) ∧ Below w.heap.size w w' := by
  have E1 := Lib.hid (gapA_no h1)
  have E2 := Lib.hid (gapB_no h2)
  have HS := Lib.hid hs
  have t0 := tnum_bd s
  have t1 := tnum_bd (lorS z (rank z s - 1))
  have t2 := tnum_bd (lorS z (nextR z s))
  obtain ⟨t01, t02⟩ := t0
  obtain ⟨t11, t12⟩ := t1
  obtain ⟨t21, t22⟩ := t2
  clear hs
  go_enter Try.func25, Try.ntmps25
  go_wp2_with (first | (go_at_call 45; go_must ((with_reducible refine (tkGood_any _ _ hm).mono ?_); rintro e w' ⟨rfl, rfl⟩)) | (go_at_call 53; go_must (first | ((with_reducible refine (next_last z _ _ hg HS.out h6).mono ?_); rintro e w1 ⟨rfl, hb1⟩; have K1 := chain' (w := w) (by go_grown) hb1; clear hb1) | ((with_reducible refine (next_any z _ _ hg HS.out h6).mono ?_); rintro e w1 ⟨rfl, hb1⟩; have K2 := chain' (w := w) (by go_grown) hb1; clear hb1))) | (go_at_call 46; go_must ((first | (with_reducible refine (tkNum_t s _ hg).mono ?_)); rintro e w' ⟨rfl, rfl⟩)))
  go_ret3
  exact ⟨tup_iib E1.out.symm E2.out.symm, by go_grown⟩
set_option maxHeartbeats 1000000 in
theorem iGapsNN (z : Nat) (s : ByteArray) (w : World) (hm : s.size ≤ maxLen) (hg : goodB s = true) (hs : s.size = 2 * z) (h6 : z ≤ 6) (h1 : lorB z (rank z s - 1) = false) (h2 : lorB z (nextR z s) = false) :
    Calls Try.prog 26 #[.string s] w fun e w' => e = .returned (.tuple #[.int .i64 (gapA z s), .int .i64 (gapB z s), .bool true]) ∧ Below w.heap.size w w' := by
  have E1 := Lib.hid (gapA_no h1)
  have E2 := Lib.hid (gapB_no h2)
  have HS := Lib.hid hs
  have t0 := tnum_bd s
  have t1 := tnum_bd (lorS z (rank z s - 1))
  have t2 := tnum_bd (lorS z (nextR z s))
  obtain ⟨t01, t02⟩ := t0
  obtain ⟨t11, t12⟩ := t1
  obtain ⟨t21, t22⟩ := t2
  clear hs
  go_enter Try.func26, Try.ntmps26
  go_wp2_with (first | (go_at_call 54; go_must ((with_reducible refine (iLast_yes z _ _ hm hg HS.out h6).mono ?_); rintro e w1 ⟨rfl, hb1⟩; have K1 := chain' (w := w) (by go_grown) hb1; clear hb1)) | (go_at_call 55; go_must ((with_reducible refine (iNext_yes z _ _ hm hg HS.out h6).mono ?_); rintro e w1 ⟨rfl, hb1⟩; have K2 := chain' (w := w) (by go_grown) hb1; clear hb1)) | (go_at_call 20; go_must ((first | (with_reducible refine (iNum_t s _ hg).mono ?_)); rintro e w1 ⟨rfl, hb1⟩; have K3 := chain' (w := w) (by go_grown) hb1; clear hb1)))
  go_ret3
  exact ⟨tup_iib E1.out.symm E2.out.symm, by go_grown⟩
theorem sGaps_any (z : Nat) (s : ByteArray) (w : World) (hm : s.size ≤ maxLen) (hg : goodB s = true) (hs : s.size = 2 * z) (h6 : z ≤ 6) :
    Calls Try.prog 25 #[.string s] w fun e w' => e = .returned (.tuple #[.int .i64 (gapA z s), .int .i64 (gapB z s), .bool true]) ∧ Below w.heap.size w w' := by
  cases h1 : lorB z (rank z s - 1) <;> cases h2 : lorB z (nextR z s)
  · exact sGapsNN z s w hm hg hs h6 h1 h2
  · exact sGapsNY z s w hm hg hs h6 h1 h2
  · exact sGapsYN z s w hm hg hs h6 h1 h2
  · exact sGapsYY z s w hm hg hs h6 h1 h2
theorem iGaps_any (z : Nat) (s : ByteArray) (w : World) (hm : s.size ≤ maxLen) (hg : goodB s = true) (hs : s.size = 2 * z) (h6 : z ≤ 6) :
    Calls Try.prog 26 #[.string s] w fun e w' => e = .returned (.tuple #[.int .i64 (gapA z s), .int .i64 (gapB z s), .bool true]) ∧ Below w.heap.size w w' := by
  cases h1 : lorB z (rank z s - 1) <;> cases h2 : lorB z (nextR z s)
  · exact iGapsNN z s w hm hg hs h6 h1 h2
  · exact iGapsNY z s w hm hg hs h6 h1 h2
  · exact iGapsYN z s w hm hg hs h6 h1 h2
  · exact iGapsYY z s w hm hg hs h6 h1 h2
theorem sGaps_no (s : ByteArray) (w : World) (hm : s.size ≤ maxLen) (hg : goodB s = false) :
    Calls Try.prog 25 #[.string s] w fun e w' => e = .returned (.tuple #[.int .i64 0, .int .i64 0, .bool false]) ∧ Below w.heap.size w w' := by
  go_enter Try.func25, Try.ntmps25
  go_wp2_with (first | (go_at_call 45; go_must ((with_reducible refine (tkGood_any _ _ hm).mono ?_); rintro e w' ⟨rfl, rfl⟩)))
  go_ret3
  exact ⟨rfl, by go_grown⟩
theorem iGaps_no (s : ByteArray) (w : World) (hm : s.size ≤ maxLen) (hg : goodB s = false) :
    Calls Try.prog 26 #[.string s] w fun e w' => e = .returned (.tuple #[.int .i64 0, .int .i64 0, .bool false]) ∧ Below w.heap.size w w' := by
  go_enter Try.func26, Try.ntmps26
  go_wp2_with (first | (go_at_call 20; go_must ((with_reducible refine (iNumber_any _ _ hm).mono ?_); rintro e w1 ⟨rfl, hb1⟩)))
  go_ret3
  exact ⟨rfl, by go_grown⟩
theorem FnExactGapsAround_law (s : ByteArray) (hs : s.size ≤ maxLen) (w : World) :
    Calls Try.prog 10 #[.string s] w fun e w' => e = .returned (.bool true) ∧ Below w.heap.size w w' := by
  have hm := hs
  unfold maxLen at hs
  by_cases hb : s.size ≤ 1048576
  · cases hg : goodB s with
    | true =>
      obtain ⟨z, hsz, _, hz⟩ := good_half hg
      have HZ := Lib.hid hsz
      clear hsz
      go_enter Try.func10, Try.ntmps10
      go_wp2_with (first | (go_at_call 25; refine (sGaps_any z _ _ hm hg HZ.out hz).mono ?_; rintro e w1 ⟨rfl, hb1⟩; have H1 := chain' (w := w) (by go_grown) hb1; clear hb1) | (go_at_call 26; refine (iGaps_any z _ _ hm hg HZ.out hz).mono ?_; rintro e w2 ⟨rfl, hb2⟩; have H2 := chain' (w := w) (by go_grown) hb2; clear hb2))
      go_ret
      exact ⟨rfl, by go_grown⟩
    | false =>
      go_enter Try.func10, Try.ntmps10
      go_wp2_with (first | (go_at_call 25; refine (sGaps_no _ _ hm hg).mono ?_; rintro e w1 ⟨rfl, hb1⟩; have H1 := chain' (w := w) (by go_grown) hb1; clear hb1) | (go_at_call 26; refine (iGaps_no _ _ hm hg).mono ?_; rintro e w2 ⟨rfl, hb2⟩; have H2 := chain' (w := w) (by go_grown) hb2; clear hb2))
      go_ret
      exact ⟨rfl, by go_grown⟩
  · go_enter Try.func10, Try.ntmps10
    go_wp2_with fail
    go_ret
    exact ⟨rfl, by go_grown⟩
end Go.Proofs.Ytlkeemnnncnibab
