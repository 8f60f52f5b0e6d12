/-
  The laws of HalfSums and IsLucky.
-/
import Derived.Test.YtapeohnjjmokkaaHalf
import Derived.WalkSmall
namespace Go.Proofs.Ytapeohnjjmokkaa
open Go.RowKit

theorem good_le {s : ByteArray} (h : goodB s = true) : s.size ≤ 1000 := by have := good_sz h; omega
theorem good_even {s : ByteArray} (h : goodB s = true) : s.size % 2 = 0 := by have := good_sz h; omega

theorem sums_any (a b c d : Int) (s : ByteArray) (w : World) :
    Calls Try.prog 41 #[.agg #[.int .i64 a, .int .i64 b, .int .i64 c, .int .i64 d, .string s]] w fun e w' => e = .returned (.agg #[.int .i64 a, .int .i64 b, .int .i64 c, .int .i64 d]) ∧ Below w.heap.size w w' := by
  go_enter Try.func41, Try.ntmps41
  go_wp2
  refine bodyPost_ret (v := .agg #[.int .i64 a, .int .i64 b, .int .i64 c, .int .i64 d]) (by simp [results, Try.results41, go_sem]) rfl ⟨rfl, by go_grown⟩

theorem alike_any (a b c d : Int) (w : World) :
    Calls Try.prog 44 #[.agg #[.int .i64 a, .int .i64 b, .int .i64 c, .int .i64 d]] w fun e w' => e = .returned (.bool (decide (a = c ∧ b = d))) ∧ Below w.heap.size w w' := by
  by_cases h1 : a = c <;> by_cases h2 : b = d
  · subst h1; subst h2
    go_enter Try.func44, Try.ntmps44
    go_wp2
    go_ret
    exact ⟨by simp, by go_grown⟩
  · subst h1
    have H2 : decide (a = a ∧ b = d) = false := by simp [h2]
    have H3 := Lib.hid H2; clear H2
    go_enter Try.func44, Try.ntmps44
    go_wp2
    go_ret
    exact ⟨by first | rfl | exact ret_bool H3.out.symm, by go_grown⟩
  · subst h2
    have H2 : decide (a = c ∧ b = b) = false := by simp [h1]
    have H3 := Lib.hid H2; clear H2
    go_enter Try.func44, Try.ntmps44
    go_wp2
    go_ret
    exact ⟨by first | rfl | exact ret_bool H3.out.symm, by go_grown⟩
  · have H2 : decide (a = c ∧ b = d) = false := by simp [h1]
    have H3 := Lib.hid H2; clear H2
    go_enter Try.func44, Try.ntmps44
    go_wp2
    go_ret
    exact ⟨by first | rfl | exact ret_bool H3.out.symm, by go_grown⟩

theorem four_new0 (w : World) : Four (w.alloc (.cells #[.int .i64 0, .int .i64 0, .int .i64 0, .int .i64 0] 43)) w.heap.size := four_new w
theorem ofH_yes (s : ByteArray) (w : World) (hs : s.size ≤ maxLen) (hg : goodB s = true) :
    Calls Try.prog 40 #[.string s, .func (Fn.func 41) #[] #[]] w fun e w' => e = .returned (.tuple #[.agg #[.int .i64 (hsz s), .int .i64 (dsum (lo s)), .int .i64 (hsz s), .int .i64 (dsum (hi s))], .bool true]) ∧ Below w.heap.size w w' := by
  have HG := Lib.hid hg
  go_enter Try.func40, Try.ntmps40
  go_wp2_with (first | (go_at_call 15; go_must ((with_reducible refine (isTicket_any _ _ hs).mono ?_); rintro e w' ⟨rfl, rfl⟩)) | (go_at_call 62; go_must ((with_reducible refine (halvesOf_any _ _ (good_le HG.out) (good_even HG.out) (good_dig HG.out)).mono ?_); rintro e w1 ⟨rfl, hb⟩; have H1 := chain (w := w) (by go_grown) hb; have F := four_keep (four_new0 _) hb; clear hb)) | (go_at_call 41; go_must ((with_reducible refine (sums_any _ _ _ _ _ _).mono ?_); rintro e w2 ⟨rfl, hb⟩; have H2 := chain (w := w) (by go_grown) hb; have F2 := four_keep F hb; clear hb; obtain ⟨c0, c1, c2, c3, c4, c5⟩ := F2.facts)))
  refine bodyPost_ret (v := .tuple #[.agg #[.int .i64 (hsz s), .int .i64 (dsum (lo s)), .int .i64 (hsz s), .int .i64 (dsum (hi s))], .bool true]) (by simp [results, Try.results40, go_sem, c0, c1, c2, c3]) rfl ⟨rfl, by go_grown⟩
theorem ofH_no (s : ByteArray) (f : Value) (w : World) (hs : s.size ≤ maxLen) (hg : goodB s = false) :
    Calls Try.prog 40 #[.string s, f] w fun e w' => e = .returned (.tuple #[.agg #[.int .i64 0, .int .i64 0, .int .i64 0, .int .i64 0], .bool false]) ∧ Below w.heap.size w w' := by
  go_enter Try.func40, Try.ntmps40
  go_wp2_with (first | (go_at_call 15; go_must ((with_reducible refine (isTicket_any _ _ hs).mono ?_); rintro e w' ⟨rfl, rfl⟩)))
  refine bodyPost_ret (v := .tuple #[.agg #[.int .i64 0, .int .i64 0, .int .i64 0, .int .i64 0], .bool false]) (by simp [results, Try.results40, go_sem]) rfl ⟨rfl, by go_grown⟩

/-- What HalfSums answers. -/
def hs1 (s : ByteArray) : Int := if goodB s = true then dsum (lo s) else 0
def hs2 (s : ByteArray) : Int := if goodB s = true then dsum (hi s) else 0
theorem hs1_yes {s : ByteArray} (h : goodB s = true) : hs1 s = dsum (lo s) := by rw [hs1, if_pos h]
theorem hs2_yes {s : ByteArray} (h : goodB s = true) : hs2 s = dsum (hi s) := by rw [hs2, if_pos h]
theorem hs1_no {s : ByteArray} (h : goodB s = false) : hs1 s = 0 := by rw [hs1, if_neg (by simp [h])]
theorem hs2_no {s : ByteArray} (h : goodB s = false) : hs2 s = 0 := by rw [hs2, if_neg (by simp [h])]
theorem iHalfSums_any (s : ByteArray) (w : World) (hs : s.size ≤ maxLen) :
    Calls Try.prog 17 #[.string s] w fun e w' => e = .returned (.tuple #[.int .i64 (hs1 s), .int .i64 (hs2 s), .bool (goodB s)]) ∧ Below w.heap.size w w' := by
  cases hg : goodB s with
  | true =>
    have E1 := Lib.hid (hs1_yes hg)
    have E2 := Lib.hid (hs2_yes hg)
    go_enter Try.func17, Try.ntmps17
    go_wp2_with ((go_at_call 40; go_must ((with_reducible refine (ofH_yes _ _ hs hg).mono ?_); rintro e w1 ⟨rfl, hb⟩; have hz := hb.size)))
    go_quiet (fail)
    go_wp2
    go_ret3
    exact ⟨by rw [E1.out, E2.out]; rfl, below_drewN (by go_grown) _⟩
  | false =>
    have E1 := Lib.hid (hs1_no hg)
    have E2 := Lib.hid (hs2_no hg)
    go_enter Try.func17, Try.ntmps17
    go_wp2_with ((go_at_call 40; go_must ((with_reducible refine (ofH_no _ _ _ hs hg).mono ?_); rintro e w1 ⟨rfl, hb⟩; have hz := hb.size)))
    go_quiet (fail)
    go_wp2
    go_ret3
    exact ⟨by rw [E1.out, E2.out]; rfl, below_drewN (by go_grown) _⟩
theorem sHalfSums_any (s : ByteArray) (w : World) (hs : s.size ≤ maxLen) :
    Calls Try.prog 16 #[.string s] w fun e w' => e = .returned (.tuple #[.int .i64 (hs1 s), .int .i64 (hs2 s), .bool (goodB s)]) ∧ Below w.heap.size w w' := by
  cases hg : goodB s with
  | true =>
    have E1 := Lib.hid (hs1_yes hg)
    have E2 := Lib.hid (hs2_yes hg)
    go_enter Try.func16, Try.ntmps16
    go_wp2_with (first | (go_at_call 36; go_must ((with_reducible refine (tkGood_any _ _ hs).mono ?_); rintro e w' ⟨rfl, rfl⟩)) | (go_at_call 39; go_must ((with_reducible refine (tkHalves_any _ _ (good_le hg) (good_dig hg)).mono ?_); rintro e w' ⟨rfl, ⟨nn, rfl⟩⟩)))
    go_ret3
    exact ⟨by rw [E1.out, E2.out]; rfl, below_drewN (Below.refl _ _) _⟩
  | false =>
    have E1 := Lib.hid (hs1_no hg)
    have E2 := Lib.hid (hs2_no hg)
    go_enter Try.func16, Try.ntmps16
    go_wp2_with (first | (go_at_call 36; go_must ((with_reducible refine (tkGood_any _ _ hs).mono ?_); rintro e w' ⟨rfl, rfl⟩)))
    go_ret3
    exact ⟨by rw [E1.out, E2.out]; rfl, by go_grown⟩
theorem FnExactHalfSums_law (s : ByteArray) (hs : s.size ≤ maxLen) (w : World) :
    Calls Try.prog 4 #[.string s] w fun e w' => e = .returned (.bool true) ∧ Below w.heap.size w w' := by
  have hm := hs
  unfold maxLen at hs
  by_cases hb : s.size ≤ 1048576
  all_goals
    go_enter Try.func4, Try.ntmps4
    go_wp2_with (first | (go_at_call 16; refine (sHalfSums_any _ _ hm).mono ?_; rintro e w1 ⟨rfl, hb1⟩; have H1 := chain (w := w) (by go_grown) hb1; clear hb1) | (go_at_call 17; refine (iHalfSums_any _ _ hm).mono ?_; rintro e w2 ⟨rfl, hb2⟩; have H2 := chain (w := w) (by go_grown) hb2; clear hb2))
    go_ret
    exact ⟨rfl, by go_grown⟩
end Go.Proofs.Ytapeohnjjmokkaa
