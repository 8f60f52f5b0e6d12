/-
  Readings: the laws of DifferentDigits and TurnReading.
-/
import Derived.Test.YtlkeemnnncnibabMiIm9
import Derived.Test.YtlkeemnnncnibabMiSp2
namespace Go.Proofs.Ytlkeemnnncnibab
open Go.RowKit

def ddA (s : ByteArray) : Int := if rdB s then (df s.data.toList : Nat) else 0
theorem ddA_no {s : ByteArray} (h : rdB s = false) : ddA s = 0 := by unfold ddA; rw [h]; rfl
theorem ddA_yes {s : ByteArray} (h : rdB s = true) : ddA s = (df s.data.toList : Nat) := by unfold ddA; rw [h]; rfl
theorem sDifferentDigits_any (s : ByteArray) (w : World) (hs : s.size ≤ maxLen) :
    Calls Try.prog 11 #[.string s] w fun e w' => e = .returned (.tuple #[.int .i64 (ddA s), .bool (rdB s)]) ∧ Below w.heap.size w w' := by
  have HG := Lib.hid (fun W => miGood_any s W hs)
  cases hb : rdB s with
  | false =>
    have HA := Lib.hid (ddA_no hb)
    rw [hb] at HG
    clear hb
    go_enter Try.func11, Try.ntmps11
    go_wp2_with (go_at_call 27; (with_reducible refine (HG.out _).mono ?_); rintro e w1 ⟨rfl, rfl⟩)
    go_ret2
    exact ⟨ret_ib HA.out.symm rfl, Below.refl _ _⟩
  | true =>
    have HA := Lib.hid (ddA_yes hb)
    rw [hb] at HG
    obtain ⟨h1, h9, hd⟩ := (rdB_iff s).1 hb
    have HU := Lib.hid (fun W => miDigits_any s W (by omega) hd)
    clear hb hd
    go_enter Try.func11, Try.ntmps11
    go_wp2_with (first | (go_at_call 27; (with_reducible refine (HG.out _).mono ?_); rintro e w1 ⟨rfl, rfl⟩) | (go_at_call 28; (with_reducible refine (HU.out _).mono ?_); rintro e w2 ⟨rfl, b2⟩))
    go_ret2
    exact ⟨ret_ib HA.out.symm rfl, b2⟩
theorem iDifferentDigits_any (s : ByteArray) (w : World) (hs : s.size ≤ maxLen) :
    Calls Try.prog 12 #[.string s] w fun e w' => e = .returned (.tuple #[.int .i64 (ddA s), .bool (rdB s)]) ∧ Below w.heap.size w w' := by
  have HG := Lib.hid (fun W => iIsReading_any s W hs)
  have HU := Lib.hid (fun W => differentDigits_any s W hs)
  cases hb : rdB s with
  | false =>
    have HA := Lib.hid (ddA_no hb)
    rw [hb] at HG
    clear hb
    go_enter Try.func12, Try.ntmps12
    go_wp2_with (go_at_call 29; (with_reducible refine (HG.out _).mono ?_); rintro e w1 ⟨rfl, rfl⟩)
    go_ret2
    exact ⟨ret_ib HA.out.symm rfl, Below.refl _ _⟩
  | true =>
    have HA := Lib.hid (ddA_yes hb)
    rw [hb] at HG
    clear hb
    go_enter Try.func12, Try.ntmps12
    go_wp2_with (first | (go_at_call 29; (with_reducible refine (HG.out _).mono ?_); rintro e w1 ⟨rfl, rfl⟩) | (go_at_call 30; (with_reducible refine (HU.out _).mono ?_); rintro e w2 ⟨rfl, rfl⟩))
    go_ret2
    exact ⟨ret_ib HA.out.symm rfl, Below.refl _ _⟩
set_option maxHeartbeats 1000000 in
theorem FnExactDifferentDigits_law (z0 : ByteArray) (hz0 : z0.size ≤ maxLen) (w : World) :
    Calls Try.prog 3 #[.string z0] w fun e w' => e = .returned (.bool true) ∧ Below w.heap.size w w' := by
  have hz0' := hz0
  unfold maxLen at hz0'
  have hs1 : ∀ W, Calls Try.prog 11 #[.string z0] W fun e w' => e = .returned (.tuple #[.int .i64 (ddA z0), .bool (rdB z0)]) ∧ Below W.heap.size W w' := fun W => sDifferentDigits_any z0 W hz0
  have hi1 : ∀ W, Calls Try.prog 12 #[.string z0] W fun e w' => e = .returned (.tuple #[.int .i64 (ddA z0), .bool (rdB z0)]) ∧ Below W.heap.size W w' := fun W => iDifferentDigits_any z0 W hz0
  obtain ⟨A0, hA0⟩ : ∃ A0 : Int, A0 = ddA z0 := ⟨_, rfl⟩
  obtain ⟨A1, hA1⟩ : ∃ A1 : Bool, A1 = rdB z0 := ⟨_, rfl⟩
  rw [← hA0, ← hA1] at hs1 hi1
  have HS := Lib.hid hs1
  have HI := Lib.hid hi1
  clear hs1 hi1 hA0 hA1
  by_cases hb0 : (z0.size : Int) ≤ 1048576
  case neg =>
    go_enter Try.func3, Try.ntmps3
    go_wp2
    go_ret
    exact ⟨rfl, Below.refl _ _⟩
  case pos =>
    go_enter Try.func3, Try.ntmps3
    go_wp2_with (first | (go_at_call 11; (with_reducible refine (HS.out _).mono ?_); rintro e w1 ⟨rfl, b1⟩) | (go_at_call 12; (with_reducible refine (HI.out _).mono ?_); rintro e w2 ⟨rfl, b2⟩))
    go_ret
    exact ⟨rfl, chain b1 b2⟩
set_option maxHeartbeats 400000 in
theorem turned_any (s : ByteArray) (w : World) (hs : s.size ≤ 12) :
    Calls Try.prog 44 #[.string s] w fun e w' => e = .returned (.string ⟨(rv s).toArray⟩) ∧ Below w.heap.size w w' := by
  go_enter Try.func44, Try.ntmps44
  go_wp2
  go_loopw [7] (fun i wr => ∃ k : Nat, k ≤ s.size ∧ i = .int .i64 k ∧ Lib.IsBuilder 70 5 w.heap.size w.heap.size (Lib.byteCells ((rv s).take k)) wr ∧ Below w.heap.size w wr ∧ w.heap.size ≤ wr.heap.size) (fun i _ => s.size - (intOf i).toNat)
  case atStart => exact ⟨0, Nat.zero_le _, rfl, Lib.fresh_isBuilder 70 5 w, by go_grown, by simp⟩
  case round =>
    obtain ⟨k, hk, rfl, hbld, hbl, hsz⟩ := hrel
    have HB := Lib.hid hbld
    clear hbld
    by_cases hlt : k < s.size
    · go_wp2_with (go_at_call 63; go_must (refine (wb_any w.heap.size _ _ _ _ HB.out (by have := bytes_len (rv s) k; omega) hsz).mono ?_); rintro e w1 ⟨rfl, h1, b1, _⟩; have H1 := Lib.hid h1; have hz := b1.size; have hb := hbl.trans (b1.mono (by omega)); clear b1 h1)
      go_roundw
      case rel => exact ⟨k + 1, by omega, by go_num, by rw [rv_snoc s k hlt, byteCells_snoc]; exact .inr H1.out, hb, by omega⟩
      case measure => simp [intOf]; omega
    · have he : (rv s).take k = rv s := by rw [show k = s.size by omega]; exact rv_all s
      have HE := Lib.hid he; clear he
      go_wp2_with (go_at_call 64; go_must (refine (bstr_any w.heap.size _ _ _ HB.out hsz).mono ?_); rintro e w1 ⟨rfl, b1⟩)
      go_ret
      exact ⟨by rw [HE.out]; rfl, hbl.trans (b1.mono (by omega))⟩
def trA (s : ByteArray) : ByteArray := if rdB s then ⟨(s.data.toList.reverse).toArray⟩ else ⟨#[]⟩
theorem trA_no {s : ByteArray} (h : rdB s = false) : trA s = ⟨#[]⟩ := by unfold trA; rw [h]; rfl
theorem trA_yes {s : ByteArray} (h : rdB s = true) : trA s = ⟨(s.data.toList.reverse).toArray⟩ := by unfold trA; rw [h]; rfl
theorem sTurnReading_any (s : ByteArray) (w : World) (hs : s.size ≤ maxLen) :
    Calls Try.prog 17 #[.string s] w fun e w' => e = .returned (.tuple #[.string (trA s), .bool (rdB s)]) ∧ Below w.heap.size w w' := by
  have HG := Lib.hid (fun W => miGood_any s W hs)
  cases hb : rdB s with
  | false =>
    have HA := Lib.hid (trA_no hb)
    rw [hb] at HG
    clear hb
    go_enter Try.func17, Try.ntmps17
    go_wp2_with (go_at_call 27; (with_reducible refine (HG.out _).mono ?_); rintro e w1 ⟨rfl, rfl⟩)
    go_ret2
    exact ⟨ret_sb HA.out.symm rfl, Below.refl _ _⟩
  | true =>
    have HA := Lib.hid (trA_yes hb)
    rw [hb] at HG
    obtain ⟨h1, h9, hd⟩ := (rdB_iff s).1 hb
    have HU := Lib.hid (fun W => miTurn_any s W (by omega))
    clear hb hd
    go_enter Try.func17, Try.ntmps17
    go_wp2_with (first | (go_at_call 27; (with_reducible refine (HG.out _).mono ?_); rintro e w1 ⟨rfl, rfl⟩) | (go_at_call 43; (with_reducible refine (HU.out _).mono ?_); rintro e w2 ⟨rfl, rfl⟩))
    go_ret2
    exact ⟨ret_sb HA.out.symm rfl, Below.refl _ _⟩
theorem iTurnReading_any (s : ByteArray) (w : World) (hs : s.size ≤ maxLen) :
    Calls Try.prog 18 #[.string s] w fun e w' => e = .returned (.tuple #[.string (trA s), .bool (rdB s)]) ∧ Below w.heap.size w w' := by
  have HG := Lib.hid (fun W => iIsReading_any s W hs)
  cases hb : rdB s with
  | false =>
    have HA := Lib.hid (trA_no hb)
    rw [hb] at HG
    clear hb
    go_enter Try.func18, Try.ntmps18
    go_wp2_with (go_at_call 29; (with_reducible refine (HG.out _).mono ?_); rintro e w1 ⟨rfl, rfl⟩)
    go_ret2
    exact ⟨ret_sb HA.out.symm rfl, Below.refl _ _⟩
  | true =>
    have HA := Lib.hid (trA_yes hb)
    rw [hb] at HG
    obtain ⟨h1, h9, hd⟩ := (rdB_iff s).1 hb
    have HU := Lib.hid (fun W => turned_any s W (by omega))
    clear hb hd
    go_enter Try.func18, Try.ntmps18
    go_wp2_with (first | (go_at_call 29; (with_reducible refine (HG.out _).mono ?_); rintro e w1 ⟨rfl, rfl⟩) | (go_at_call 44; (with_reducible refine (HU.out _).mono ?_); rintro e w2 ⟨rfl, b2⟩))
    go_ret2
    exact ⟨ret_sb HA.out.symm rfl, b2⟩
set_option maxHeartbeats 1000000 in
theorem FnExactTurnReading_law (z0 : ByteArray) (hz0 : z0.size ≤ maxLen) (w : World) :
    Calls Try.prog 6 #[.string z0] w fun e w' => e = .returned (.bool true) ∧ Below w.heap.size w w' := by
  have hz0' := hz0
  unfold maxLen at hz0'
  have hs1 : ∀ W, Calls Try.prog 17 #[.string z0] W fun e w' => e = .returned (.tuple #[.string (trA z0), .bool (rdB z0)]) ∧ Below W.heap.size W w' := fun W => sTurnReading_any z0 W hz0
  have hi1 : ∀ W, Calls Try.prog 18 #[.string z0] W fun e w' => e = .returned (.tuple #[.string (trA z0), .bool (rdB z0)]) ∧ Below W.heap.size W w' := fun W => iTurnReading_any z0 W hz0
  obtain ⟨A0, hA0⟩ : ∃ A0 : ByteArray, A0 = trA z0 := ⟨_, rfl⟩
  obtain ⟨A1, hA1⟩ : ∃ A1 : Bool, A1 = rdB z0 := ⟨_, rfl⟩
  rw [← hA0, ← hA1] at hs1 hi1
  have HS := Lib.hid hs1
  have HI := Lib.hid hi1
  clear hs1 hi1 hA0 hA1
  by_cases hb0 : (z0.size : Int) ≤ 1048576
  case neg =>
    go_enter Try.func6, Try.ntmps6
    go_wp2
    go_ret
    exact ⟨rfl, Below.refl _ _⟩
  case pos =>
    go_enter Try.func6, Try.ntmps6
    go_wp2_with (first | (go_at_call 17; (with_reducible refine (HS.out _).mono ?_); rintro e w1 ⟨rfl, b1⟩) | (go_at_call 18; (with_reducible refine (HI.out _).mono ?_); rintro e w2 ⟨rfl, b2⟩))
    go_ret
    exact ⟨rfl, chain b1 b2⟩
end Go.Proofs.Ytlkeemnnncnibab
