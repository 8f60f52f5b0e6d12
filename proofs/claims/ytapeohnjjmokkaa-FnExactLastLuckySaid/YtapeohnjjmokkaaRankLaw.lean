/-
  The laws of RankOfLucky and CountLucky.
-/
import Derived.Test.YtapeohnjjmokkaaUpTo
import Derived.Test.YtapeohnjjmokkaaTkRank
import Derived.Test.YtapeohnjjmokkaaTick
import Derived.WalkSmall
namespace Go.Proofs.Ytapeohnjjmokkaa
open Go.RowKit

theorem good_half {s : ByteArray} (h : goodB s = true) : ∃ z : Nat, s.size = 2 * z ∧ 1 ≤ z ∧ z ≤ 6 := by
  have := good_sz h
  exact ⟨s.size / 2, by omega, by omega, by omega⟩
theorem sRank_yes (z : Nat) (s : ByteArray) (w : World) (hm : s.size ≤ maxLen) (hg : goodB s = true) (hs : s.size = 2 * z) (hz : z ≤ 6) :
    Calls Try.prog 28 #[.string s] w fun e w' => e = .returned (.tuple #[.int .i64 (rank z s), .bool true]) ∧ Below w.heap.size w w' := by
  have HS := Lib.hid hs
  clear hs
  go_enter Try.func28, Try.ntmps28
  go_wp2_with (first | (go_at_call 36; go_must ((with_reducible refine (tkGood_any _ _ hm).mono ?_); rintro e w' ⟨rfl, rfl⟩)) | (go_at_call 54; go_must ((with_reducible refine (tkRank_any z _ _ hz HS.out (good_dig hg)).mono ?_); rintro e w1 ⟨rfl, hb⟩)))
  go_ret2
  exact ⟨rfl, by go_grown⟩
theorem sRank_no (s : ByteArray) (w : World) (hm : s.size ≤ maxLen) (hg : goodB s = false) :
    Calls Try.prog 28 #[.string s] w fun e w' => e = .returned (.tuple #[.int .i64 0, .bool false]) ∧ Below w.heap.size w w' := by
  go_enter Try.func28, Try.ntmps28
  go_wp2_with (first | (go_at_call 36; go_must ((with_reducible refine (tkGood_any _ _ hm).mono ?_); rintro e w' ⟨rfl, rfl⟩)))
  go_ret2
  exact ⟨rfl, by go_grown⟩
theorem iRank_yes (z : Nat) (s : ByteArray) (w : World) (hm : s.size ≤ maxLen) (hg : goodB s = true) (hs : s.size = 2 * z) (hz : z ≤ 6) :
    Calls Try.prog 29 #[.string s] w fun e w' => e = .returned (.tuple #[.int .i64 (rank z s), .bool true]) ∧ Below w.heap.size w w' := by
  have HS := Lib.hid hs
  clear hs
  go_enter Try.func29, Try.ntmps29
  go_wp2_with (first | (go_at_call 15; go_must ((with_reducible refine (isTicket_any _ _ hm).mono ?_); rintro e w' ⟨rfl, rfl⟩)) | (go_at_call 55; go_must ((with_reducible refine (upTo_any z _ _ hz HS.out (good_dig hg)).mono ?_); rintro e w1 ⟨rfl, hb⟩)))
  go_ret2
  exact ⟨rfl, by go_grown⟩
theorem iRank_no (s : ByteArray) (w : World) (hm : s.size ≤ maxLen) (hg : goodB s = false) :
    Calls Try.prog 29 #[.string s] w fun e w' => e = .returned (.tuple #[.int .i64 0, .bool false]) ∧ Below w.heap.size w w' := by
  go_enter Try.func29, Try.ntmps29
  go_wp2_with (first | (go_at_call 15; go_must ((with_reducible refine (isTicket_any _ _ hm).mono ?_); rintro e w' ⟨rfl, rfl⟩)))
  go_ret2
  exact ⟨rfl, by go_grown⟩
theorem FnExactRankOfLucky_law (s : ByteArray) (hs : s.size ≤ maxLen) (w : World) :
    Calls Try.prog 10 #[.string s] w fun e w' => e = .returned (.bool true) ∧ Below w.heap.size w w' := by
  have hm := hs
  unfold maxLen at hs
  by_cases hb : s.size ≤ 1048576
  · cases hg : goodB s with
    | true =>
      obtain ⟨z, hsz, _, hz⟩ := good_half hg
      have HZ := Lib.hid hsz
      clear hsz
      go_enter Try.func10, Try.ntmps10
      go_wp2_with (first | (go_at_call 28; refine (sRank_yes z _ _ hm hg HZ.out hz).mono ?_; rintro e w1 ⟨rfl, hb1⟩; have H1 := chain' (w := w) (by go_grown) hb1; clear hb1) | (go_at_call 29; refine (iRank_yes z _ _ hm hg HZ.out hz).mono ?_; rintro e w2 ⟨rfl, hb2⟩; have H2 := chain' (w := w) (by go_grown) hb2; clear hb2))
      go_ret
      exact ⟨rfl, by go_grown⟩
    | false =>
      go_enter Try.func10, Try.ntmps10
      go_wp2_with (first | (go_at_call 28; refine (sRank_no _ _ hm hg).mono ?_; rintro e w1 ⟨rfl, hb1⟩; have H1 := chain' (w := w) (by go_grown) hb1; clear hb1) | (go_at_call 29; refine (iRank_no _ _ hm hg).mono ?_; rintro e w2 ⟨rfl, hb2⟩; have H2 := chain' (w := w) (by go_grown) hb2; clear hb2))
      go_ret
      exact ⟨rfl, by go_grown⟩
  · go_enter Try.func10, Try.ntmps10
    go_wp2_with fail
    go_ret
    exact ⟨rfl, by go_grown⟩
theorem comp_nil (z : Nat) : comp z [] = cmp z 0 0 := by
  unfold comp bal; simp [dsum]
theorem iCount_yes (z : Nat) (w : World) (hz : szB (2 * (z : Int)) = true) (h6 : z ≤ 6) :
    Calls Try.prog 23 #[.int .i64 (2 * (z : Int))] w fun e w' => e = .returned (.tuple #[.int .i64 (cmp z 0 0), .bool true]) ∧ Below w.heap.size w w' := by
  go_enter Try.func23, Try.ntmps23
  go_wp2_with (first | (go_at_call 37; go_must ((with_reducible refine (isSize_any _ _).mono ?_); rintro e w' ⟨rfl, rfl⟩)) | (go_at_call 48; go_must ((with_reducible refine (newWalk_any z h6 _).mono ?_); rintro e w1 ⟨v, rfl, hcn, hb⟩; obtain ⟨g, cap, rfl⟩ := hcn.form)) | (go_at_call 49; go_must ((with_reducible refine (completions_at z 0 _ _ 0 0 _ rfl h6 (by omega) (by omega) hcn).mono ?_); rintro e w2 ⟨rfl, hb2⟩)))
  go_ret2
  exact ⟨rfl, chain' hb hb2⟩
theorem iCount_no (d : Int) (w : World) (hz : szB d = false) :
    Calls Try.prog 23 #[.int .i64 d] w fun e w' => e = .returned (.tuple #[.int .i64 0, .bool false]) ∧ Below w.heap.size w w' := by
  go_enter Try.func23, Try.ntmps23
  go_wp2_with (first | (go_at_call 37; go_must ((with_reducible refine (isSize_any _ _).mono ?_); rintro e w' ⟨rfl, rfl⟩)))
  go_ret2
  exact ⟨rfl, by go_grown⟩
theorem sCount_yes (z : Nat) (w : World) (hz : szB (2 * (z : Int)) = true) (h6 : z ≤ 6) :
    Calls Try.prog 22 #[.int .i64 (2 * (z : Int))] w fun e w' => e = .returned (.tuple #[.int .i64 (cmp z 0 0), .bool true]) ∧ Below w.heap.size w w' := by
  have E := Lib.hid (comp_nil z)
  go_enter Try.func22, Try.ntmps22
  go_wp2_with (first | (go_at_call 46; go_must ((with_reducible refine (tkSize_any _ _).mono ?_); rintro e w' ⟨rfl, rfl⟩)) | (go_at_call 47; go_must (refine (from_any z _ ByteArray.empty _ rfl h6 (by simp) (by rfl)).mono ?_; rintro e w1 ⟨rfl, hb⟩)))
  go_ret2
  exact ⟨by rw [E.out]; rfl, by go_grown⟩
theorem sCount_no (d : Int) (w : World) (hz : szB d = false) :
    Calls Try.prog 22 #[.int .i64 d] w fun e w' => e = .returned (.tuple #[.int .i64 0, .bool false]) ∧ Below w.heap.size w w' := by
  go_enter Try.func22, Try.ntmps22
  go_wp2_with (first | (go_at_call 46; go_must ((with_reducible refine (tkSize_any _ _).mono ?_); rintro e w' ⟨rfl, rfl⟩)))
  go_ret2
  exact ⟨rfl, by go_grown⟩
theorem FnExactCountLucky_law (d : Int) (_h0 : (Lit.int .i64 d).wf = true) (w : World) :
    Calls Try.prog 7 #[.int .i64 d] w fun e w' => e = .returned (.bool true) ∧ Below w.heap.size w w' := by
  cases hz : szB d with
  | true =>
    obtain ⟨z, rfl, _, h6⟩ : ∃ z : Nat, d = 2 * (z : Int) ∧ 1 ≤ z ∧ z ≤ 6 := by
      have := (szB_iff d).1 hz
      exact ⟨(d / 2).toNat, by omega, by omega, by omega⟩
    go_enter Try.func7, Try.ntmps7
    go_wp2_with (first | (go_at_call 22; refine (sCount_yes z _ hz h6).mono ?_; rintro e w1 ⟨rfl, hb1⟩; have H1 := chain' (w := w) (by go_grown) hb1; clear hb1) | (go_at_call 23; refine (iCount_yes z _ hz h6).mono ?_; rintro e w2 ⟨rfl, hb2⟩; have H2 := chain' (w := w) (by go_grown) hb2; clear hb2))
    go_ret
    exact ⟨rfl, by go_grown⟩
  | false =>
    go_enter Try.func7, Try.ntmps7
    go_wp2_with (first | (go_at_call 22; refine (sCount_no _ _ hz).mono ?_; rintro e w1 ⟨rfl, hb1⟩; have H1 := chain' (w := w) (by go_grown) hb1; clear hb1) | (go_at_call 23; refine (iCount_no _ _ hz).mono ?_; rintro e w2 ⟨rfl, hb2⟩; have H2 := chain' (w := w) (by go_grown) hb2; clear hb2))
    go_ret
    exact ⟨rfl, by go_grown⟩
end Go.Proofs.Ytapeohnjjmokkaa
