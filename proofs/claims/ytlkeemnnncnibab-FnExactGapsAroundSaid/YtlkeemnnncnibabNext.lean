/-
  Contracts of the next and the last lucky ticket.
-/
import Derived.Test.YtlkeemnnncnibabLor
import Derived.Test.YtlkeemnnncnibabTkRanked
import Derived.Test.YtlkeemnnncnibabTkLucky
namespace Go.Proofs.Ytlkeemnnncnibab
open Go.RowKit
set_option maxRecDepth 100000

/-- What the lucky ticket with a rank is. -/
def lorB (z : Nat) (r : Int) : Bool := decide (0 ≤ r ∧ r < comp z [])
def lorS (z : Nat) (r : Int) : ByteArray := if lorB z r = true then ⟨(ranked z (2 * z) [] r).toArray⟩ else ⟨#[]⟩
theorem lor_in {z : Nat} {r : Int} (h0 : 0 ≤ r) (h1 : r < comp z []) : lorB z r = true ∧ lorS z r = ⟨(ranked z (2 * z) [] r).toArray⟩ := by
  have e : lorB z r = true := by simp [lorB, h0, h1]
  exact ⟨e, by rw [lorS, if_pos e]⟩
theorem lor_out {z : Nat} {r : Int} (h : ¬ (0 ≤ r ∧ r < comp z [])) : lorB z r = false ∧ lorS z r = ⟨#[]⟩ := by
  have e : lorB z r = false := by simp only [lorB, decide_eq_false h]
  exact ⟨e, by rw [lorS, if_neg (by rw [e]; simp)]⟩
theorem tup_sb {a b : ByteArray} {p q : Bool} (h : a = b) (g : p = q) : Ending.returned (.tuple #[.string a, .bool p]) = .returned (.tuple #[.string b, .bool q]) := by rw [h, g]
theorem iLor_any (z : Nat) (r : Int) (w : World) (hz : szB (2 * (z : Int)) = true) (h6 : z ≤ 6) :
    Calls Try.prog 75 #[.int .i64 (2 * (z : Int)), .int .i64 r] w fun e w' => e = .returned (.tuple #[.string (lorS z r), .bool (lorB z r)]) ∧ Below w.heap.size w w' := by
  by_cases h : 0 ≤ r ∧ r < comp z []
  · obtain ⟨e1, e2⟩ := lor_in h.1 h.2
    refine (lor_yes z r w hz h6 h.1 h.2).mono fun e w' ⟨he, hb⟩ => ⟨by rw [he, e1, e2], hb⟩
  · obtain ⟨e1, e2⟩ := lor_out h
    have E1 := Lib.hid e1
    have E2 := Lib.hid e2
    clear e1 e2
    by_cases h0 : r < 0
    · have hd1 : decide (r < 0) = true := by simpa using h0
      go_enter Try.func75, Try.ntmps75
      go_wp2_with (go_at_call 92; go_must ((with_reducible refine (iCount_yes z _ hz h6).mono ?_); rintro e w2 ⟨rfl, hb0⟩))
      go_ret2
      exact ⟨tup_sb E2.out.symm E1.out.symm, hb0⟩
    · have hd1 : decide (r < 0) = false := by simpa using h0
      have hc0 : cmp z 0 0 ≤ r := by rw [← comp_nil]; omega
      have hd2 : decide (cmp z 0 0 ≤ r) = true := by simpa using hc0
      go_enter Try.func75, Try.ntmps75
      go_wp2_with (go_at_call 92; go_must ((with_reducible refine (iCount_yes z _ hz h6).mono ?_); rintro e w2 ⟨rfl, hb0⟩))
      go_ret2
      exact ⟨tup_sb E2.out.symm E1.out.symm, hb0⟩
theorem iLor_at (x : Int) (z : Nat) (r : Int) (w : World) (hx : x = 2 * (z : Int)) (hz : szB (2 * (z : Int)) = true) (h6 : z ≤ 6) :
    Calls Try.prog 75 #[.int .i64 x, .int .i64 r] w fun e w' => e = .returned (.tuple #[.string (lorS z r), .bool (lorB z r)]) ∧ Below w.heap.size w w' := by
  subst hx; exact iLor_any z r w hz h6
theorem from_nil (x : Int) (z : Nat) (w : World) (hx : x = 2 * (z : Int)) (hz : z ≤ 6) :
    Calls Try.prog 72 #[.int .i64 x, .string ⟨#[]⟩] w fun e w' => e = .returned (.int .i64 (comp z [])) ∧ Below w.heap.size w w' :=
  from_any z x ByteArray.empty w hx hz (by simp) rfl
/-- At a whole ticket. -/
theorem comp_full (z : Nat) (s : ByteArray) (hs : s.size = 2 * z) : comp z s.data.toList = if lucky s = true then 1 else 0 := by
  have h2 : 2 * z / 2 = z := by omega
  unfold comp cmp lucky bal lo hi
  rw [show s.data.toList.length = s.size by simp, hs, h2]
  simp only [Nat.sub_self, Nat.zero_min, V]
  by_cases e : dsum (s.data.toList.take z) = dsum (s.data.toList.drop z)
  · rw [if_pos (by omega), if_pos (by simpa using e)]
  · rw [if_neg (by omega), if_neg (by simpa using e)]
theorem rank_bd (z : Nat) (hz : z ≤ 6) (s : ByteArray) (hs : s.size = 2 * z) (hd : digB s.data.toList = true) : 0 ≤ rank z s ∧ rank z s ≤ 200000000000000 := by
  have := rkTo_bd z hz s hd s.size (Nat.le_refl _)
  unfold rank; omega
set_option maxHeartbeats 800000 in
theorem next_last (z : Nat) (s : ByteArray) (w : World) (hg : goodB s = true) (hs : s.size = 2 * z) (h6 : z ≤ 6) :
    Calls Try.prog 53 #[.string s, .bool false] w fun e w' => e = .returned (.tuple #[.string (lorS z (rank z s - 1)), .bool (lorB z (rank z s - 1))]) ∧ Below w.heap.size w w' := by
  have hR := rank_bd z h6 s hs (good_dig hg)
  obtain ⟨hR1, hR2⟩ := hR
  have HS := Lib.hid hs
  have HX : Hid ((s.size : Int) = 2 * (z : Int)) := by show _ = _; omega
  clear hs
  have hs12 := good_sz hg
  obtain ⟨_, hs13, _⟩ := hs12
  by_cases h : 0 ≤ rank z s - 1 ∧ rank z s - 1 < comp z []
  · obtain ⟨e1, e2⟩ := lor_in h.1 h.2
    have E1 := Lib.hid e1
    have E2 := Lib.hid e2
    clear e1 e2
    obtain ⟨h0, h1⟩ := h
    have hd1 : decide (rank z s - 1 < 0) = false := by simp; omega
    have hd2 : decide (comp z [] ≤ rank z s - 1) = false := by simp; omega
    go_enter Try.func53, Try.ntmps53
    go_wp2_with (first | (go_at_call 70; go_must ((with_reducible refine (tkRank_any z _ _ h6 HS.out (good_dig hg)).mono ?_); rintro e w1 ⟨rfl, hb1⟩)) | (go_at_call 72; go_must ((with_reducible refine (from_nil _ z _ HX.out h6).mono ?_); rintro e w2 ⟨rfl, hb2⟩; have H2 := chain' hb1 hb2; clear hb2)) | (go_at_call 73; go_must ((with_reducible refine (tkRanked_any z _ _ _ HX.out h6 h0 h1).mono ?_); rintro e w3 ⟨rfl, hb3⟩; have H3 := chain' H2 hb3; clear hb3)))
    go_ret2
    exact ⟨tup_sb E2.out.symm E1.out.symm, H3⟩
  · obtain ⟨e1, e2⟩ := lor_out h
    have E1 := Lib.hid e1
    have E2 := Lib.hid e2
    clear e1 e2
    by_cases h0 : rank z s - 1 < 0
    · have hd1 : decide (rank z s - 1 < 0) = true := by simp; omega
      go_enter Try.func53, Try.ntmps53
      go_wp2_with (first | (go_at_call 70; go_must ((with_reducible refine (tkRank_any z _ _ h6 HS.out (good_dig hg)).mono ?_); rintro e w1 ⟨rfl, hb1⟩)))
      go_ret2
      exact ⟨tup_sb E2.out.symm E1.out.symm, by go_grown⟩
    · have hd1 : decide (rank z s - 1 < 0) = false := by simp; omega
      have hc0 : comp z [] ≤ rank z s - 1 := by omega
      have hd2 : decide (comp z [] ≤ rank z s - 1) = true := by simp; omega
      go_enter Try.func53, Try.ntmps53
      go_wp2_with (first | (go_at_call 70; go_must ((with_reducible refine (tkRank_any z _ _ h6 HS.out (good_dig hg)).mono ?_); rintro e w1 ⟨rfl, hb1⟩)) | (go_at_call 72; go_must ((with_reducible refine (from_nil _ z _ HX.out h6).mono ?_); rintro e w2 ⟨rfl, hb2⟩; have H2 := chain' hb1 hb2; clear hb2)))
      go_ret2
      exact ⟨tup_sb E2.out.symm E1.out.symm, H2⟩
set_option maxHeartbeats 800000 in
theorem next_lucky (z : Nat) (s : ByteArray) (w : World) (hg : goodB s = true) (hs : s.size = 2 * z) (h6 : z ≤ 6) (hl : lucky s = true) :
    Calls Try.prog 53 #[.string s, .bool true] w fun e w' => e = .returned (.tuple #[.string (lorS z (rank z s + 1)), .bool (lorB z (rank z s + 1))]) ∧ Below w.heap.size w w' := by
  have hR := rank_bd z h6 s hs (good_dig hg)
  obtain ⟨hR1, hR2⟩ := hR
  have HS := Lib.hid hs
  have HX : Hid ((s.size : Int) = 2 * (z : Int)) := by show _ = _; omega
  clear hs
  have hs12 := good_sz hg
  obtain ⟨_, hs13, _⟩ := hs12
  by_cases h : 0 ≤ rank z s + 1 ∧ rank z s + 1 < comp z []
  · obtain ⟨e1, e2⟩ := lor_in h.1 h.2
    have E1 := Lib.hid e1
    have E2 := Lib.hid e2
    clear e1 e2
    obtain ⟨h0, h1⟩ := h
    have hd1 : decide (rank z s + 1 < 0) = false := by simp; omega
    have hd2 : decide (comp z [] ≤ rank z s + 1) = false := by simp; omega
    go_enter Try.func53, Try.ntmps53
    go_wp2_with (first | (go_at_call 70; go_must ((with_reducible refine (tkRank_any z _ _ h6 HS.out (good_dig hg)).mono ?_); rintro e w1 ⟨rfl, hb1⟩)) | (go_at_call 71; go_must ((with_reducible refine (tkLucky_any _ _ hg).mono ?_); rintro e w1b ⟨rfl, hb1b⟩; have H1 := chain' hb1 hb1b; clear hb1b)) | (go_at_call 72; go_must ((with_reducible refine (from_nil _ z _ HX.out h6).mono ?_); rintro e w2 ⟨rfl, hb2⟩; have H2 := chain' H1 hb2; clear hb2)) | (go_at_call 73; go_must ((with_reducible refine (tkRanked_any z _ _ _ HX.out h6 h0 h1).mono ?_); rintro e w3 ⟨rfl, hb3⟩; have H3 := chain' H2 hb3; clear hb3)))
    go_ret2
    exact ⟨tup_sb E2.out.symm E1.out.symm, H3⟩
  · obtain ⟨e1, e2⟩ := lor_out h
    have E1 := Lib.hid e1
    have E2 := Lib.hid e2
    clear e1 e2
    by_cases h0 : rank z s + 1 < 0
    · have hd1 : decide (rank z s + 1 < 0) = true := by simp; omega
      go_enter Try.func53, Try.ntmps53
      go_wp2_with (first | (go_at_call 70; go_must ((with_reducible refine (tkRank_any z _ _ h6 HS.out (good_dig hg)).mono ?_); rintro e w1 ⟨rfl, hb1⟩)) | (go_at_call 71; go_must ((with_reducible refine (tkLucky_any _ _ hg).mono ?_); rintro e w1b ⟨rfl, hb1b⟩; have H1 := chain' hb1 hb1b; clear hb1b)))
      go_ret2
      exact ⟨tup_sb E2.out.symm E1.out.symm, by go_grown⟩
    · have hd1 : decide (rank z s + 1 < 0) = false := by simp; omega
      have hc0 : comp z [] ≤ rank z s + 1 := by omega
      have hd2 : decide (comp z [] ≤ rank z s + 1) = true := by simp; omega
      go_enter Try.func53, Try.ntmps53
      go_wp2_with (first | (go_at_call 70; go_must ((with_reducible refine (tkRank_any z _ _ h6 HS.out (good_dig hg)).mono ?_); rintro e w1 ⟨rfl, hb1⟩)) | (go_at_call 71; go_must ((with_reducible refine (tkLucky_any _ _ hg).mono ?_); rintro e w1b ⟨rfl, hb1b⟩; have H1 := chain' hb1 hb1b; clear hb1b)) | (go_at_call 72; go_must ((with_reducible refine (from_nil _ z _ HX.out h6).mono ?_); rintro e w2 ⟨rfl, hb2⟩; have H2 := chain' H1 hb2; clear hb2)))
      go_ret2
      exact ⟨tup_sb E2.out.symm E1.out.symm, H2⟩
set_option maxHeartbeats 800000 in
theorem next_plain (z : Nat) (s : ByteArray) (w : World) (hg : goodB s = true) (hs : s.size = 2 * z) (h6 : z ≤ 6) (hl : lucky s = false) :
    Calls Try.prog 53 #[.string s, .bool true] w fun e w' => e = .returned (.tuple #[.string (lorS z (rank z s)), .bool (lorB z (rank z s))]) ∧ Below w.heap.size w w' := by
  have hR := rank_bd z h6 s hs (good_dig hg)
  obtain ⟨hR1, hR2⟩ := hR
  have HS := Lib.hid hs
  have HX : Hid ((s.size : Int) = 2 * (z : Int)) := by show _ = _; omega
  clear hs
  have hs12 := good_sz hg
  obtain ⟨_, hs13, _⟩ := hs12
  by_cases h : 0 ≤ rank z s ∧ rank z s < comp z []
  · obtain ⟨e1, e2⟩ := lor_in h.1 h.2
    have E1 := Lib.hid e1
    have E2 := Lib.hid e2
    clear e1 e2
    obtain ⟨h0, h1⟩ := h
    have hd1 : decide (rank z s < 0) = false := by simp; omega
    have hd2 : decide (comp z [] ≤ rank z s) = false := by simp; omega
    go_enter Try.func53, Try.ntmps53
    go_wp2_with (first | (go_at_call 70; go_must ((with_reducible refine (tkRank_any z _ _ h6 HS.out (good_dig hg)).mono ?_); rintro e w1 ⟨rfl, hb1⟩)) | (go_at_call 71; go_must ((with_reducible refine (tkLucky_any _ _ hg).mono ?_); rintro e w1b ⟨rfl, hb1b⟩; have H1 := chain' hb1 hb1b; clear hb1b)) | (go_at_call 72; go_must ((with_reducible refine (from_nil _ z _ HX.out h6).mono ?_); rintro e w2 ⟨rfl, hb2⟩; have H2 := chain' H1 hb2; clear hb2)) | (go_at_call 73; go_must ((with_reducible refine (tkRanked_any z _ _ _ HX.out h6 h0 h1).mono ?_); rintro e w3 ⟨rfl, hb3⟩; have H3 := chain' H2 hb3; clear hb3)))
    go_ret2
    exact ⟨tup_sb E2.out.symm E1.out.symm, H3⟩
  · obtain ⟨e1, e2⟩ := lor_out h
    have E1 := Lib.hid e1
    have E2 := Lib.hid e2
    clear e1 e2
    by_cases h0 : rank z s < 0
    · have hd1 : decide (rank z s < 0) = true := by simp; omega
      go_enter Try.func53, Try.ntmps53
      go_wp2_with (first | (go_at_call 70; go_must ((with_reducible refine (tkRank_any z _ _ h6 HS.out (good_dig hg)).mono ?_); rintro e w1 ⟨rfl, hb1⟩)) | (go_at_call 71; go_must ((with_reducible refine (tkLucky_any _ _ hg).mono ?_); rintro e w1b ⟨rfl, hb1b⟩; have H1 := chain' hb1 hb1b; clear hb1b)))
      go_ret2
      exact ⟨tup_sb E2.out.symm E1.out.symm, by go_grown⟩
    · have hd1 : decide (rank z s < 0) = false := by simp; omega
      have hc0 : comp z [] ≤ rank z s := by omega
      have hd2 : decide (comp z [] ≤ rank z s) = true := by simp; omega
      go_enter Try.func53, Try.ntmps53
      go_wp2_with (first | (go_at_call 70; go_must ((with_reducible refine (tkRank_any z _ _ h6 HS.out (good_dig hg)).mono ?_); rintro e w1 ⟨rfl, hb1⟩)) | (go_at_call 71; go_must ((with_reducible refine (tkLucky_any _ _ hg).mono ?_); rintro e w1b ⟨rfl, hb1b⟩; have H1 := chain' hb1 hb1b; clear hb1b)) | (go_at_call 72; go_must ((with_reducible refine (from_nil _ z _ HX.out h6).mono ?_); rintro e w2 ⟨rfl, hb2⟩; have H2 := chain' H1 hb2; clear hb2)))
      go_ret2
      exact ⟨tup_sb E2.out.symm E1.out.symm, H2⟩
/-- The rank of the next one. -/
def nextR (z : Nat) (s : ByteArray) : Int := rank z s + comp z s.data.toList
theorem next_any (z : Nat) (s : ByteArray) (w : World) (hg : goodB s = true) (hs : s.size = 2 * z) (h6 : z ≤ 6) :
    Calls Try.prog 53 #[.string s, .bool true] w fun e w' => e = .returned (.tuple #[.string (lorS z (nextR z s)), .bool (lorB z (nextR z s))]) ∧ Below w.heap.size w w' := by
  cases hl : lucky s with
  | true =>
    have e : nextR z s = rank z s + 1 := by rw [nextR, comp_full z s hs, if_pos hl]
    rw [e]; exact next_lucky z s w hg hs h6 hl
  | false =>
    have e : nextR z s = rank z s := by rw [nextR, comp_full z s hs, if_neg (by rw [hl]; simp)]; omega
    rw [e]; exact next_plain z s w hg hs h6 hl
theorem sz_good {z : Nat} {s : ByteArray} (hg : goodB s = true) (hs : s.size = 2 * z) : szB (2 * (z : Int)) = true := by
  have := good_sz hg; rw [szB_iff]; omega
theorem iNext_yes (z : Nat) (s : ByteArray) (w : World) (hm : s.size ≤ maxLen) (hg : goodB s = true) (hs : s.size = 2 * z) (h6 : z ≤ 6) :
    Calls Try.prog 55 #[.string s] w fun e w' => e = .returned (.tuple #[.string (lorS z (nextR z s)), .bool (lorB z (nextR z s))]) ∧ Below w.heap.size w w' := by
  have hR := rank_bd z h6 s hs (good_dig hg)
  obtain ⟨hR1, hR2⟩ := hR
  have HS := Lib.hid hs
  have HX : Hid ((s.size : Int) = 2 * (z : Int)) := by show _ = _; omega
  have HZ := Lib.hid (sz_good hg hs)
  clear hs
  go_enter Try.func55, Try.ntmps55
  go_wp2_with (first | (go_at_call 66; go_must ((with_reducible refine (isTicket_any _ _ hm).mono ?_); rintro e w' ⟨rfl, rfl⟩)) | (go_at_call 74; go_must ((with_reducible refine (upTo_any z _ _ h6 HS.out (good_dig hg)).mono ?_); rintro e w1 ⟨rfl, hb1⟩)) | (go_at_call 75; go_must ((with_reducible refine (iLor_at _ z _ _ HX.out HZ.out h6).mono ?_); rintro e w2 ⟨rfl, hb2⟩; have H2 := chain' hb1 hb2; clear hb2)))
  go_ret2
  exact ⟨rfl, H2⟩
theorem iNext_no (s : ByteArray) (w : World) (hm : s.size ≤ maxLen) (hg : goodB s = false) :
    Calls Try.prog 55 #[.string s] w fun e w' => e = .returned (.tuple #[.string ⟨#[]⟩, .bool false]) ∧ Below w.heap.size w w' := by
  go_enter Try.func55, Try.ntmps55
  go_wp2_with (first | (go_at_call 66; go_must ((with_reducible refine (isTicket_any _ _ hm).mono ?_); rintro e w' ⟨rfl, rfl⟩)))
  go_ret2
  exact ⟨rfl, by go_grown⟩
theorem iLast_yes (z : Nat) (s : ByteArray) (w : World) (hm : s.size ≤ maxLen) (hg : goodB s = true) (hs : s.size = 2 * z) (h6 : z ≤ 6) :
    Calls Try.prog 54 #[.string s] w fun e w' => e = .returned (.tuple #[.string (lorS z (rank z s - 1)), .bool (lorB z (rank z s - 1))]) ∧ Below w.heap.size w w' := by
  have hR := rank_bd z h6 s hs (good_dig hg)
  obtain ⟨hR1, hR2⟩ := hR
  have HS := Lib.hid hs
  have HX : Hid ((s.size : Int) = 2 * (z : Int)) := by show _ = _; omega
  have HZ := Lib.hid (sz_good hg hs)
  clear hs
  go_enter Try.func54, Try.ntmps54
  go_wp2_with (first | (go_at_call 66; go_must ((with_reducible refine (isTicket_any _ _ hm).mono ?_); rintro e w' ⟨rfl, rfl⟩)) | (go_at_call 74; go_must ((with_reducible refine (upTo_any z _ _ h6 HS.out (good_dig hg)).mono ?_); rintro e w1 ⟨rfl, hb1⟩)) | (go_at_call 75; go_must ((with_reducible refine (iLor_at _ z _ _ HX.out HZ.out h6).mono ?_); rintro e w2 ⟨rfl, hb2⟩; have H2 := chain' hb1 hb2; clear hb2)))
  go_ret2
  exact ⟨rfl, H2⟩
theorem iLast_no (s : ByteArray) (w : World) (hm : s.size ≤ maxLen) (hg : goodB s = false) :
    Calls Try.prog 54 #[.string s] w fun e w' => e = .returned (.tuple #[.string ⟨#[]⟩, .bool false]) ∧ Below w.heap.size w w' := by
  go_enter Try.func54, Try.ntmps54
  go_wp2_with (first | (go_at_call 66; go_must ((with_reducible refine (isTicket_any _ _ hm).mono ?_); rintro e w' ⟨rfl, rfl⟩)))
  go_ret2
  exact ⟨rfl, by go_grown⟩
end Go.Proofs.Ytlkeemnnncnibab
