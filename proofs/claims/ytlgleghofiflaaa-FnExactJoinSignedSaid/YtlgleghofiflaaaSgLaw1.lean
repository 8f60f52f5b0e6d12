/-
  The laws of IsSigned, ValueOfSigned, CountSigns and JoinSigned.
-/
import Derived.Test.YtlgleghofiflaaaSgSv
namespace Go.Proofs.Ytlgleghofiflaaa
open Go.RowKit

attribute [local go_sem] run_idx3
theorem good_any (s : ByteArray) (w : World) (hs : s.size ≤ maxLen) :
    Calls Try.prog 42 #[.string s] w fun e w' => e = .returned (.bool (sigB s.data.toList)) ∧ Below w.heap.size w w' := by
  go_enter Try.func42, Try.ntmps42
  go_wp2_with (go_at_call 67; go_must ((with_reducible refine (plain_any _ _ hs).mono ?_); rintro e w' ⟨t, rfl, _, b1⟩))
  go_ret
  exact ⟨rfl, b1⟩
theorem good_b (s : ByteArray) (b : Bool) (w : World) (hs : s.size ≤ maxLen) (h : sigB s.data.toList = b) :
    Calls Try.prog 42 #[.string s] w fun e w' => e = .returned (.bool b) ∧ Below w.heap.size w w' := by subst h; exact good_any s w hs
theorem isS_b (s : ByteArray) (b : Bool) (w : World) (hs : s.size ≤ maxLen) (h : sigB s.data.toList = b) :
    Calls Try.prog 16 #[.string s] w fun e w' => e = .returned (.bool b) ∧ w = w' := by subst h; exact iIsSigned_any s w hs
theorem sIsSigned_any (s : ByteArray) (w : World) (hs : s.size ≤ maxLen) :
    Calls Try.prog 15 #[.string s] w fun e w' => e = .returned (.bool (sigB s.data.toList)) ∧ Below w.heap.size w w' := by
  go_enter Try.func15, Try.ntmps15
  go_wp2_with (go_at_call 42; go_must ((with_reducible refine (good_any _ _ hs).mono ?_); rintro e w' ⟨rfl, b1⟩))
  go_ret
  exact ⟨rfl, b1⟩
theorem FnExactIsSigned_law (s : ByteArray) (hs : s.size ≤ maxLen) (w : World) :
    Calls Try.prog 3 #[.string s] w fun e w' => e = .returned (.bool true) ∧ Below w.heap.size w w' := by
  have hm := hs
  unfold maxLen at hs
  by_cases hb : s.size ≤ 1048576
  · go_enter Try.func3, Try.ntmps3
    go_wp2_with (first | (go_at_call 15; go_must ((with_reducible refine (sIsSigned_any _ _ hm).mono ?_); rintro e w' ⟨rfl, b1⟩)) | (go_at_call 16; go_must ((with_reducible refine (iIsSigned_any _ _ hm).mono ?_); rintro e w' ⟨rfl, rfl⟩)))
    go_ret
    exact ⟨rfl, b1⟩
  · go_enter Try.func3, Try.ntmps3
    go_wp2_with fail
    go_ret
    exact ⟨rfl, Below.refl _ _⟩
/-- Number and whether. -/
def vOf (s : ByteArray) : Int := if sigB s.data.toList then sval s.data.toList else 0
def cOf (s : ByteArray) : Int := if sigB s.data.toList then (nSg s.data.toList : Int) else 0
theorem sValueOfSigned_any (s : ByteArray) (w : World) (hs : s.size ≤ maxLen) :
    Calls Try.prog 17 #[.string s] w fun e w' => e = .returned (.tuple #[.int .i64 (vOf s), .bool (sigB s.data.toList)]) ∧ Below w.heap.size w w' := by
  cases hg : sigB s.data.toList with
  | true =>
    have HG := Lib.hid hg
    clear hg
    go_enter Try.func17, Try.ntmps17
    go_wp2_with (first | (go_at_call 42; go_must ((with_reducible refine (good_b _ true _ hs HG.out).mono ?_); rintro e w' ⟨rfl, b1⟩)) | (go_at_call 45; go_must ((with_reducible refine (sval_any _ _ hs HG.out).mono ?_); rintro e w' ⟨rfl, rfl⟩)))
    go_ret2
    exact ⟨ret_ib (by rw [vOf, if_pos HG.out]) rfl, b1⟩
  | false =>
    have HG := Lib.hid hg
    clear hg
    go_enter Try.func17, Try.ntmps17
    go_wp2_with (first | (go_at_call 42; go_must ((with_reducible refine (good_b _ false _ hs HG.out).mono ?_); rintro e w' ⟨rfl, b1⟩)))
    go_ret2
    exact ⟨ret_ib (by rw [vOf, if_neg (by rw [HG.out]; simp)]) rfl, b1⟩
theorem iValueOfSigned_any (s : ByteArray) (w : World) (hs : s.size ≤ maxLen) :
    Calls Try.prog 18 #[.string s] w fun e w' => e = .returned (.tuple #[.int .i64 (vOf s), .bool (sigB s.data.toList)]) ∧ Below w.heap.size w w' := by
  cases hg : sigB s.data.toList with
  | true =>
    have HG := Lib.hid hg
    have HF : Hid ((-100000000 ≤ (rk s.data.toList).S ∧ (rk s.data.toList).S ≤ 100000000) ∧ (-100000000 ≤ (rk s.data.toList).P * (rk s.data.toList).N ∧ (rk s.data.toList).P * (rk s.data.toList).N ≤ 100000000)) := by
      have h := rk_fine s.data.toList true (sigB_okSt hg).1 (sigB_okSt hg).2
      have a1 := h.s
      have a2 := h.pn
      exact ⟨⟨by omega, by omega⟩, ⟨by omega, by omega⟩⟩
    clear hg
    go_enter Try.func18, Try.ntmps18
    go_wp2_with (first | (go_at_call 16; go_must ((with_reducible refine (isS_b _ true _ hs HG.out).mono ?_); rintro e w' ⟨rfl, rfl⟩)) | (go_at_call 46; go_must ((with_reducible refine (rkOf_any _ _ hs HG.out).mono ?_); rintro e w1 ⟨rfl, b1⟩)) | (go_at_call 47; go_must ((with_reducible refine (value_at _ _ _ _ ((rk s.data.toList).P * (rk s.data.toList).N) _ rfl HF.out.2 HF.out.1).mono ?_); rintro e w2 ⟨rfl, rfl⟩)))
    go_ret2
    exact ⟨ret_ib (by rw [vOf, if_pos HG.out]; rfl) rfl, b1.alloc b1.size _⟩
  | false =>
    have HG := Lib.hid hg
    clear hg
    go_enter Try.func18, Try.ntmps18
    go_wp2_with (first | (go_at_call 16; go_must ((with_reducible refine (isS_b _ false _ hs HG.out).mono ?_); rintro e w' ⟨rfl, rfl⟩)))
    go_ret2
    exact ⟨ret_ib (by rw [vOf, if_neg (by rw [HG.out]; simp)]) rfl, Below.refl _ _⟩
theorem FnExactValueOfSigned_law (s : ByteArray) (hs : s.size ≤ maxLen) (w : World) :
    Calls Try.prog 4 #[.string s] w fun e w' => e = .returned (.bool true) ∧ Below w.heap.size w w' := by
  have hm := hs
  unfold maxLen at hs
  by_cases hb : s.size ≤ 1048576
  · go_enter Try.func4, Try.ntmps4
    go_wp2_with (first | (go_at_call 17; go_must ((with_reducible refine (sValueOfSigned_any _ _ hm).mono ?_); rintro e w1 ⟨rfl, b1⟩)) | (go_at_call 18; go_must ((with_reducible refine (iValueOfSigned_any _ _ hm).mono ?_); rintro e w2 ⟨rfl, b2⟩)))
    go_ret
    exact ⟨rfl, chain b1 b2⟩
  · go_enter Try.func4, Try.ntmps4
    go_wp2_with fail
    go_ret
    exact ⟨rfl, Below.refl _ _⟩
theorem sCountSigns_any (s : ByteArray) (w : World) (hs : s.size ≤ maxLen) :
    Calls Try.prog 19 #[.string s] w fun e w' => e = .returned (.tuple #[.int .i64 (cOf s), .bool (sigB s.data.toList)]) ∧ Below w.heap.size w w' := by
  cases hg : sigB s.data.toList with
  | true =>
    have HG := Lib.hid hg
    clear hg
    go_enter Try.func19, Try.ntmps19
    go_wp2_with (first | (go_at_call 42; go_must ((with_reducible refine (good_b _ true _ hs HG.out).mono ?_); rintro e w' ⟨rfl, b1⟩)) | (go_at_call 48; go_must ((with_reducible refine (cnt_any _ _ hs).mono ?_); rintro e w' ⟨rfl, rfl⟩)))
    go_ret2
    exact ⟨ret_ib (by rw [cOf, if_pos HG.out]) rfl, b1⟩
  | false =>
    have HG := Lib.hid hg
    clear hg
    go_enter Try.func19, Try.ntmps19
    go_wp2_with (first | (go_at_call 42; go_must ((with_reducible refine (good_b _ false _ hs HG.out).mono ?_); rintro e w' ⟨rfl, b1⟩)))
    go_ret2
    exact ⟨ret_ib (by rw [cOf, if_neg (by rw [HG.out]; simp)]) rfl, b1⟩
theorem iCountSigns_any (s : ByteArray) (w : World) (hs : s.size ≤ maxLen) :
    Calls Try.prog 20 #[.string s] w fun e w' => e = .returned (.tuple #[.int .i64 (cOf s), .bool (sigB s.data.toList)]) ∧ Below w.heap.size w w' := by
  cases hg : sigB s.data.toList with
  | true =>
    have HG := Lib.hid hg
    clear hg
    go_enter Try.func20, Try.ntmps20
    go_wp2_with (first | (go_at_call 16; go_must ((with_reducible refine (isS_b _ true _ hs HG.out).mono ?_); rintro e w' ⟨rfl, rfl⟩)) | (go_at_call 46; go_must ((with_reducible refine (rkOf_any _ _ hs HG.out).mono ?_); rintro e w1 ⟨rfl, b1⟩)))
    go_ret2
    exact ⟨ret_ib (by rw [cOf, if_pos HG.out]) rfl, b1⟩
  | false =>
    have HG := Lib.hid hg
    clear hg
    go_enter Try.func20, Try.ntmps20
    go_wp2_with (first | (go_at_call 16; go_must ((with_reducible refine (isS_b _ false _ hs HG.out).mono ?_); rintro e w' ⟨rfl, rfl⟩)))
    go_ret2
    exact ⟨ret_ib (by rw [cOf, if_neg (by rw [HG.out]; simp)]) rfl, Below.refl _ _⟩
theorem FnExactCountSigns_law (s : ByteArray) (hs : s.size ≤ maxLen) (w : World) :
    Calls Try.prog 5 #[.string s] w fun e w' => e = .returned (.bool true) ∧ Below w.heap.size w w' := by
  have hm := hs
  unfold maxLen at hs
  by_cases hb : s.size ≤ 1048576
  · go_enter Try.func5, Try.ntmps5
    go_wp2_with (first | (go_at_call 19; go_must ((with_reducible refine (sCountSigns_any _ _ hm).mono ?_); rintro e w1 ⟨rfl, b1⟩)) | (go_at_call 20; go_must ((with_reducible refine (iCountSigns_any _ _ hm).mono ?_); rintro e w2 ⟨rfl, b2⟩)))
    go_ret
    exact ⟨rfl, chain b1 b2⟩
  · go_enter Try.func5, Try.ntmps5
    go_wp2_with fail
    go_ret
    exact ⟨rfl, Below.refl _ _⟩
end Go.Proofs.Ytlgleghofiflaaa
