/-
  The law of CountNumbers.
-/
import Derived.Test.YtlgleghofiflaaaSgOnce
namespace Go.Proofs.Ytlgleghofiflaaa
open Go.RowKit

/-- What both answer. -/
def cnN (s : ByteArray) : Int := if dgsB s.data.toList then ((keysOf (rsAll false s)).length : Int) else 0
theorem vals_len (plain : Bool) (s : ByteArray) (h : dgsB s.data.toList = true) : (vals plain s).length ≤ 4096 := by
  obtain ⟨h1, h2, _⟩ := dgs_len h
  have hsl : s.data.toList.length = s.size := by simp
  unfold vals
  rw [List.length_map]
  exact allK_len_le _ _ _ (by omega)
theorem sCn_any (s : ByteArray) (w : World) (hs : s.size ≤ maxLen) :
    Calls Try.prog 40 #[.string s] w fun e w' => e = .returned (.tuple #[.int .i64 (cnN s), .bool (dgsB s.data.toList)]) ∧ Below w.heap.size w w' := by
  cases hd : dgsB s.data.toList with
  | false =>
    have HF : Hid (cnN s = 0) := by show _ = _; unfold cnN; rw [hd]; rfl
    have HD := Lib.hid hd
    clear hd
    go_enter Try.func40, Try.ntmps40
    go_wp2_with (first | (go_at_call 64; go_must ((with_reducible refine (sgDigits_b _ false _ hs HD.out).mono ?_); rintro e w' ⟨rfl, rfl⟩)))
    go_ret2
    exact ⟨ret_ib HF.out.symm rfl, Below.refl _ _⟩
  | true =>
    have HF : Hid (cnN s = ((keysOf (rsAll false s)).length : Int)) := by show _ = _; unfold cnN; rw [hd]; rfl
    have HL := Lib.hid (vals_len false s hd)
    have HD := Lib.hid hd
    clear hd
    go_enter Try.func40, Try.ntmps40
    go_wp2_with (first | (go_at_call 64; go_must ((with_reducible refine (sgDigits_b _ true _ hs HD.out).mono ?_); rintro e w' ⟨rfl, rfl⟩)) | (go_at_call 66; go_must ((with_reducible refine (nums_any s false _ HD.out).mono ?_); rintro e w1 ⟨v, rfl, zs, hz, hp, hso, b1⟩; have HZ := Lib.hid hz; have HP := Lib.hid hp; have HSO := Lib.hid hso; have HZL : Hid (zs.length ≤ 100000) := (by show _ ≤ _; rw [hp.length_eq]; have := HL.out; omega); clear hz hp hso)) | (go_at_call 65; go_must ((with_reducible refine (once_any _ zs _ _ HZ.out HZL.out).mono ?_); rintro e w2 ⟨u, rfl, hu, b2⟩; have HU : Hid (∃ ao cap, u = .slice ao (keysOf (rsAll false s)).length cap) := (by rw [← once_keys HP.out HSO.out]; rcases hu.form with ⟨ao, cap, h1, _⟩ | ⟨g, cap, h1, _⟩; exact ⟨_, _, h1⟩; exact ⟨_, _, h1⟩); obtain ⟨ao, cap, rfl⟩ := HU.out; clear hu HU)))
    go_ret2
    exact ⟨ret_ib HF.out.symm rfl, chain b1 b2⟩
theorem iCn_any (s : ByteArray) (w : World) (hs : s.size ≤ maxLen) :
    Calls Try.prog 41 #[.string s] w fun e w' => e = .returned (.tuple #[.int .i64 (cnN s), .bool (dgsB s.data.toList)]) ∧ Below w.heap.size w w' := by
  cases hd : dgsB s.data.toList with
  | false =>
    have HF : Hid (cnN s = 0) := by show _ = _; unfold cnN; rw [hd]; rfl
    have HD := Lib.hid hd
    clear hd
    go_enter Try.func41, Try.ntmps41
    go_wp2_with (first | (go_at_call 59; go_must ((with_reducible refine (digs_b _ false _ hs HD.out).mono ?_); rintro e w' ⟨rfl, rfl⟩)))
    go_ret2
    exact ⟨ret_ib HF.out.symm rfl, Below.refl _ _⟩
  | true =>
    have HF : Hid (cnN s = ((keysOf (rsAll false s)).length : Int)) := by show _ = _; unfold cnN; rw [hd]; rfl
    have HD := Lib.hid hd
    have HS : Hid ((⟨#[42, 43, 45, 32]⟩ : ByteArray) = sbs false) := rfl
    clear hd
    go_enter Try.func41, Try.ntmps41
    go_wp2_with (first | (go_at_call 59; go_must ((with_reducible refine (digs_b _ true _ hs HD.out).mono ?_); rintro e w' ⟨rfl, rfl⟩)) | (go_at_call 61; go_must ((with_reducible refine (tal_any s _ false _ HD.out HS.out).mono ?_); rintro e w1 ⟨b, n, rfl, htal, hn5, hbw, b1⟩; have hlen := tal_len htal 3; clear htal)))
    go_ret2
    exact ⟨ret_ib HF.out.symm rfl, b1⟩
theorem FnExactCountNumbers_law (s : ByteArray) (hs : s.size ≤ maxLen) (w : World) :
    Calls Try.prog 14 #[.string s] w fun e w' => e = .returned (.bool true) ∧ Below w.heap.size w w' := by
  have hm := hs
  unfold maxLen at hs
  by_cases hb : s.size ≤ 1048576
  · go_enter Try.func14, Try.ntmps14
    go_wp2_with (first | (go_at_call 40; go_must ((with_reducible refine (sCn_any _ _ hm).mono ?_); rintro e w1 ⟨rfl, b1⟩)) | (go_at_call 41; go_must ((with_reducible refine (iCn_any _ _ hm).mono ?_); rintro e w2 ⟨rfl, b2⟩)))
    go_ret
    exact ⟨rfl, chain b1 b2⟩
  · go_enter Try.func14, Try.ntmps14
    go_wp2_with fail
    go_ret
    exact ⟨rfl, Below.refl _ _⟩
end Go.Proofs.Ytlgleghofiflaaa
