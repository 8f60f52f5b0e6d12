/-
  The law of NumbersMade.
-/
import Derived.Test.YtlgleghofiflaabSgKeys
import Derived.Test.YtlgleghofiflaabSgSi
namespace Go.Proofs.Ytlgleghofiflaab
open Go.RowKit

/-- What both answer. -/
def nmL (s : ByteArray) : List Int := if dgsB s.data.toList then srt (keysOf (rsAll true s)) else []
theorem nmL_len (s : ByteArray) : (nmL s).length ≤ 1000000 := by
  unfold nmL
  split
  · rename_i h
    rw [(srt_perm _).length_eq]
    have := (keys_le true s h).2
    omega
  · simp
theorem vals_len5 (plain : Bool) (s : ByteArray) (h : dgsB s.data.toList = true) : (vals plain s).length ≤ 4096 := by
  obtain ⟨h1, h2, _⟩ := dgs_len h
  have hsl : s.data.toList.length = s.size := by simp
  unfold vals
  rw [List.length_map]
  exact allK_len_le _ _ _ (by omega)
theorem sNm_any (s : ByteArray) (w : World) (hs : s.size ≤ maxLen) :
    Calls Try.prog 11 #[.string s] w fun e w' => ∃ v, e = .returned (.tuple #[v, .bool (dgsB s.data.toList)]) ∧ Ints w.heap.size (nmL s) v w' ∧ Below w.heap.size w w' := by
  cases hd : dgsB s.data.toList with
  | false =>
    have HF : Hid (nmL s = []) := by show _ = _; unfold nmL; rw [hd]; rfl
    have HD := Lib.hid hd
    clear hd
    go_enter Try.func11, Try.ntmps11
    go_wp2_with (first | (go_at_call 24; go_must ((with_reducible refine (sgDigits_b _ false _ hs HD.out).mono ?_); rintro e w' ⟨rfl, rfl⟩)))
    go_ret2
    exact ⟨_, rfl, by rw [HF.out]; exact Ints.nil _ _, Below.refl _ _⟩
  | true =>
    have HF : Hid (nmL s = srt (keysOf (rsAll true s))) := by show _ = _; unfold nmL; rw [hd]; rfl
    have HL := Lib.hid (vals_len5 true s hd)
    have HD := Lib.hid hd
    clear hd
    go_enter Try.func11, Try.ntmps11
    go_wp2_with (first | (go_at_call 24; go_must ((with_reducible refine (sgDigits_b _ true _ hs HD.out).mono ?_); rintro e w' ⟨rfl, rfl⟩)) | (go_at_call 25; go_must ((with_reducible refine (nums_any s true _ HD.out).mono ?_); rintro e w1 ⟨v, rfl, zs, hz, hp, hso, b1⟩; have HZ := Lib.hid hz; have HP := Lib.hid hp; have HSO := Lib.hid hso; have HZL : Hid (zs.length ≤ 100000) := (by show _ ≤ _; rw [hp.length_eq]; have := HL.out; omega); clear hz hp hso)) | (go_at_call 28; go_must ((with_reducible refine (once_any _ zs _ _ HZ.out HZL.out).mono ?_); rintro e w2 ⟨u, rfl, hu, b2⟩; have HU := Lib.hid hu; clear hu)))
    go_ret2
    exact ⟨_, rfl, by rw [HF.out, ← srt_once HP.out HSO.out]; exact HU.out.mono b1.size, chain b1 b2⟩
theorem iNm_any (s : ByteArray) (w : World) (hs : s.size ≤ maxLen) :
    Calls Try.prog 12 #[.string s] w fun e w' => ∃ v, e = .returned (.tuple #[v, .bool (dgsB s.data.toList)]) ∧ Ints w.heap.size (nmL s) v w' ∧ Below w.heap.size w w' := by
  cases hd : dgsB s.data.toList with
  | false =>
    have HF : Hid (nmL s = []) := by show _ = _; unfold nmL; rw [hd]; rfl
    have HD := Lib.hid hd
    clear hd
    go_enter Try.func12, Try.ntmps12
    go_wp2_with (first | (go_at_call 26; go_must ((with_reducible refine (digs_b _ false _ hs HD.out).mono ?_); rintro e w' ⟨rfl, rfl⟩)))
    go_ret2
    exact ⟨_, rfl, by rw [HF.out]; exact Ints.nil _ _, Below.refl _ _⟩
  | true =>
    have HF : Hid (nmL s = srt (keysOf (rsAll true s))) := by show _ = _; unfold nmL; rw [hd]; rfl
    have HL : Hid ((keysOf (rsAll true s)).length ≤ 5000) := by show _ ≤ _; have := (keys_le true s hd).2; omega
    have HD := Lib.hid hd
    have HS : Hid ((⟨#[43, 45, 32]⟩ : ByteArray) = sbs true) := rfl
    clear hd
    go_enter Try.func12, Try.ntmps12
    go_wp2_with (first | (go_at_call 26; go_must ((with_reducible refine (digs_b _ true _ hs HD.out).mono ?_); rintro e w' ⟨rfl, rfl⟩)) | (go_at_call 27; go_must ((with_reducible refine (tal_any s _ true _ HD.out HS.out).mono ?_); rintro e w1 ⟨b, n, rfl, htal, hn5, hbw, b1⟩; have HTL := Lib.hid htal; clear htal)) | (go_at_call 29; go_must ((with_reducible refine (numsOf_any b n (rsAll true s) _ HTL.out HL.out).mono ?_); rintro e w2 ⟨u, rfl, hu, b2⟩; have HU := Lib.hid hu; clear hu)))
    go_ret2
    exact ⟨_, rfl, by rw [HF.out]; exact HU.out.mono b1.size, chain b1 b2⟩
set_option maxHeartbeats 800000 in
theorem FnExactNumbersMade_law (s : ByteArray) (hs : s.size ≤ maxLen) (w : World) :
    Calls Try.prog 4 #[.string s] w fun e w' => e = .returned (.bool true) ∧ Below w.heap.size w w' := by
  have hm := hs
  have HL := nmL_len s
  unfold maxLen at hs
  by_cases hb : s.size ≤ 1048576
  · go_enter Try.func4, Try.ntmps4
    go_wp2_with fail
    refine (sNm_any _ _ hm).mono ?_
    rintro e w1 ⟨v0, rfl, i0, b1⟩
    go_wp2_with fail
    refine (iNm_any _ _ hm).mono ?_
    rintro e w2 ⟨g0, rfl, j0, b2⟩
    have i1 := i0.below b2
    go_wp2_with fail
    refine (eqInts_yes _ _ (nmL s) _ _ _ HL j0 i1).mono ?_
    rintro e w' ⟨rfl, q, rfl⟩
    go_wp2_with fail
    refine (mark_any w1.heap.size (nmL s) g0 1 _ HL (by omega) (j0.drewN q)).mono ?_
    rintro e w3 ⟨rfl, k0, b3⟩
    have i3 := (i1.drewN q).apart (.inr i0.own_lt) b3
    go_wp2_with fail
    refine (held_any w1.heap.size (nmL s).length g0 1 _ HL (by omega) k0).mono ?_
    rintro e w' ⟨rfl, rfl⟩
    go_wp2_with fail
    refine (iNm_any _ _ hm).mono ?_
    rintro e w4 ⟨h0, rfl, l0, b4⟩
    have i4 := i3.below b4
    have k4 := k0.below b4
    go_wp2_with fail
    refine (eqInts_yes _ _ (nmL s) _ _ _ HL l0 i4).mono ?_
    rintro e w' ⟨rfl, q2, rfl⟩
    go_wp2_with fail
    refine (held_any w1.heap.size (nmL s).length g0 1 _ HL (by omega) (k4.drewN q2)).mono ?_
    rintro e w' ⟨rfl, rfl⟩
    go_wp2_with fail
    go_ret
    exact ⟨rfl, below_drewN (((below_drewN (b1.trans (b2.mono b1.size)) q).trans (b3.mono b1.size)).trans (b4.mono (by have h1 := b1.size; have h2 := b2.size; have h3 : w2.heap.size ≤ w3.heap.size := b3.size; omega))) _⟩
  · go_enter Try.func4, Try.ntmps4
    go_wp2_with fail
    go_ret
    exact ⟨rfl, Below.refl _ _⟩
end Go.Proofs.Ytlgleghofiflaab
