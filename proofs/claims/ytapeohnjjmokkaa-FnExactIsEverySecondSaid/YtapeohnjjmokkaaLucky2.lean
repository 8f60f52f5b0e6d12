/-
  The law of IsLucky.
-/
import Derived.Test.YtapeohnjjmokkaaLucky
namespace Go.Proofs.Ytapeohnjjmokkaa
open Go.RowKit

/-- A ticket is lucky. -/
def lucky (s : ByteArray) : Bool := decide (dsum (lo s) = dsum (hi s))
theorem lucky_yes {s : ByteArray} (h : dsum (lo s) = dsum (hi s)) : lucky s = true := by simp [lucky, h]
theorem lucky_no {s : ByteArray} (h : ¬ dsum (lo s) = dsum (hi s)) : lucky s = false := by simp [lucky, h]

theorem tkLucky_any (s : ByteArray) (w : World) (hg : goodB s = true) :
    Calls Try.prog 42 #[.string s] w fun e w' => e = .returned (.bool (lucky s)) ∧ Below w.heap.size w w' := by
  by_cases h : dsum (lo s) = dsum (hi s)
  · have E := Lib.hid (lucky_yes h)
    have hq : (dsum (lo s) == dsum (hi s)) = true := by simpa using h
    have H := Lib.hid h; clear h
    go_enter Try.func42, Try.ntmps42
    go_wp2_with (go_at_call 39; go_must ((with_reducible refine (tkHalves_any _ _ (good_le hg) (good_dig hg)).mono ?_); rintro e w' ⟨rfl, ⟨nn, rfl⟩⟩))
    go_ret
    exact ⟨ret_bool E.out.symm, below_drewN (Below.refl _ _) _⟩
  · have E := Lib.hid (lucky_no h)
    have hq : (dsum (lo s) == dsum (hi s)) = false := by simpa using h
    have H := Lib.hid h; clear h
    go_enter Try.func42, Try.ntmps42
    go_wp2_with (go_at_call 39; go_must ((with_reducible refine (tkHalves_any _ _ (good_le hg) (good_dig hg)).mono ?_); rintro e w' ⟨rfl, ⟨nn, rfl⟩⟩))
    go_ret
    exact ⟨ret_bool E.out.symm, below_drewN (Below.refl _ _) _⟩
theorem ofB_no (s : ByteArray) (f : Value) (w : World) (hs : s.size ≤ maxLen) (hg : goodB s = false) :
    Calls Try.prog 43 #[.string s, f] w fun e w' => e = .returned (.tuple #[.bool false, .bool false]) ∧ Below w.heap.size w w' := by
  go_enter Try.func43, Try.ntmps43
  go_wp2_with (first | (go_at_call 15; go_must ((with_reducible refine (isTicket_any _ _ hs).mono ?_); rintro e w' ⟨rfl, rfl⟩)))
  go_ret2
  exact ⟨rfl, by go_grown⟩
theorem ofB_alike (s : ByteArray) (w : World) (hs : s.size ≤ maxLen) (hg : goodB s = true) :
    Calls Try.prog 43 #[.string s, .func (Fn.methodOf 49 "loop.example/g01395/impl.areAlike") #[] #[]] w fun e w' => e = .returned (.tuple #[.bool (lucky s), .bool true]) ∧ Below w.heap.size w w' := by
  have HG := Lib.hid hg
  have hT : ∀ h, (Try.prog.types[43]'h).size = 4 := fun _ => by kernel_rfl
  go_enter Try.func43, Try.ntmps43
  go_wp2_with (first | (go_at_call 15; go_must ((with_reducible refine (isTicket_any _ _ hs).mono ?_); rintro e w' ⟨rfl, rfl⟩)) | (go_at_call 62; go_must ((with_reducible refine (halvesOf_any _ _ (good_le HG.out) (good_even HG.out) (good_dig HG.out)).mono ?_); rintro e w1 ⟨rfl, hb⟩)) | (go_at_call 44; go_must ((with_reducible refine (alike_any _ _ _ _ _).mono ?_); rintro e w2 ⟨rfl, hb2⟩)))
  go_ret2
  exact ⟨rfl, chain hb hb2⟩
theorem iIsLucky_any (s : ByteArray) (w : World) (hs : s.size ≤ maxLen) :
    Calls Try.prog 19 #[.string s] w fun e w' => e = .returned (.tuple #[.bool (goodB s && lucky s), .bool (goodB s)]) ∧ Below w.heap.size w w' := by
  cases hg : goodB s with
  | true =>
    go_enter Try.func19, Try.ntmps19
    go_wp2_with (go_at_call 43; go_must ((with_reducible refine (ofB_alike _ _ hs hg).mono ?_); rintro e w1 ⟨rfl, hb⟩))
    go_ret2
    exact ⟨rfl, by go_grown⟩
  | false =>
    go_enter Try.func19, Try.ntmps19
    go_wp2_with (go_at_call 43; go_must ((with_reducible refine (ofB_no _ _ _ hs hg).mono ?_); rintro e w1 ⟨rfl, hb⟩))
    go_ret2
    exact ⟨rfl, by go_grown⟩
theorem sIsLucky_any (s : ByteArray) (w : World) (hs : s.size ≤ maxLen) :
    Calls Try.prog 18 #[.string s] w fun e w' => e = .returned (.tuple #[.bool (goodB s && lucky s), .bool (goodB s)]) ∧ Below w.heap.size w w' := by
  cases hg : goodB s with
  | true =>
    go_enter Try.func18, Try.ntmps18
    go_wp2_with (first | (go_at_call 36; go_must ((with_reducible refine (tkGood_any _ _ hs).mono ?_); rintro e w' ⟨rfl, rfl⟩)) | (go_at_call 42; go_must ((with_reducible refine (tkLucky_any _ _ hg).mono ?_); rintro e w1 ⟨rfl, hb⟩)))
    go_ret2
    exact ⟨rfl, by go_grown⟩
  | false =>
    go_enter Try.func18, Try.ntmps18
    go_wp2_with (first | (go_at_call 36; go_must ((with_reducible refine (tkGood_any _ _ hs).mono ?_); rintro e w' ⟨rfl, rfl⟩)))
    go_ret2
    exact ⟨rfl, by go_grown⟩
theorem FnExactIsLucky_law (s : ByteArray) (hs : s.size ≤ maxLen) (w : World) :
    Calls Try.prog 5 #[.string s] w fun e w' => e = .returned (.bool true) ∧ Below w.heap.size w w' := by
  have hm := hs
  unfold maxLen at hs
  by_cases hb : s.size ≤ 1048576
  all_goals
    go_enter Try.func5, Try.ntmps5
    go_wp2_with (first | (go_at_call 18; refine (sIsLucky_any _ _ hm).mono ?_; rintro e w1 ⟨rfl, hb1⟩; have H1 := chain (w := w) (by go_grown) hb1; clear hb1) | (go_at_call 19; refine (iIsLucky_any _ _ hm).mono ?_; rintro e w2 ⟨rfl, hb2⟩; have H2 := chain (w := w) (by go_grown) hb2; clear hb2))
    go_ret
    exact ⟨rfl, by go_grown⟩
end Go.Proofs.Ytapeohnjjmokkaa
