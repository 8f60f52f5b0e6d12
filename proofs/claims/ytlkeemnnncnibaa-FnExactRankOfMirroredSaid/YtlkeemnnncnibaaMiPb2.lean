/-
  Readings: the law of RankOfMirrored.
-/
import Derived.Test.YtlkeemnnncnibaaMiIm9
import Derived.Test.YtlkeemnnncnibaaMiSp9
namespace Go.Proofs.Ytlkeemnnncnibaa
open Go.RowKit

def rmA (s : ByteArray) : Int := if rdB s then (rb (Io mir) s.data.toList [] : Nat) else 0
theorem rmA_no {s : ByteArray} (h : rdB s = false) : rmA s = 0 := by unfold rmA; rw [h]; rfl
theorem rmA_yes {s : ByteArray} (h : rdB s = true) : rmA s = (rb (Io mir) s.data.toList [] : Nat) := by unfold rmA; rw [h]; rfl
theorem len_of' (s : ByteArray) : s.data.toList.length = s.size := by simp
set_option maxHeartbeats 1000000 in
theorem sRankOfMirrored_any (s : ByteArray) (w : World) (hs : s.size ≤ maxLen) :
    Calls Try.prog 29 #[.string s] w fun e w' => e = .returned (.tuple #[.int .i64 (rmA s), .bool (rdB s)]) ∧ Below w.heap.size w w' := by
  have HG := Lib.hid (fun W => miGood_any s W hs)
  cases hb : rdB s with
  | false =>
    have HA := Lib.hid (rmA_no hb)
    rw [hb] at HG
    clear hb
    go_enter Try.func29, Try.ntmps29
    go_wp2_with (go_at_call 33; (with_reducible refine (HG.out _).mono ?_); rintro e w1 ⟨rfl, rfl⟩)
    go_ret2
    exact ⟨ret_ib HA.out.symm rfl, Below.refl _ _⟩
  | true =>
    rw [hb] at HG
    obtain ⟨h1, h9, hd⟩ := (rdB_iff s).1 hb
    have hmr := mir_rank s.data.toList hd
    rw [len_of'] at hmr
    have hA := rmA_yes hb
    rw [hmr] at hA
    obtain ⟨h, hh⟩ : ∃ h, h = (s.size + 1) / 2 := ⟨_, rfl⟩
    obtain ⟨L, hL⟩ : ∃ L, L = s.data.toList.take ((s.size + 1) / 2) := ⟨_, rfl⟩
    rw [← hL] at hA
    have hLl : L.length = (s.size + 1) / 2 := by rw [hL, List.length_take, len_of']; omega
    have hLd : digB L = true := by rw [hL]; exact digB_take _ _ hd
    have hx : s.extract 0 ((s.size + 1) / 2) = ⟨L.toArray⟩ := by
      have := ext_take' s.data.toList ((s.size + 1) / 2)
      rw [lst] at this
      rw [this, hL]
    have hnum := fun W => tkNumber_any ⟨L.toArray⟩ W (by rw [sz_of]; omega) hLd
    have hmm := fun W => miMirrored_any s.size L W (by omega) hLl
    obtain ⟨H, hH⟩ : ∃ H : ByteArray, H = ⟨L.toArray⟩ := ⟨_, rfl⟩
    have hnum' : ∀ W, Calls Try.prog 53 #[.string H] W fun e w' => e = .returned (.int .i64 ((nu L : Nat) : Int)) ∧ W = w' := by rw [hH]; exact hnum
    rw [← hH] at hmm hx
    obtain ⟨M, hM⟩ : ∃ M : ByteArray, M = ⟨(mirL s.size L).toArray⟩ := ⟨_, rfl⟩
    rw [← hM] at hmm
    have hbl : Op.bytesLess M.toList s.toList = bl (mirL s.size L) s.data.toList := by rw [hM, toL, Go.ByteArray.toList_eq]
    have hnu := nu_9 L (by omega) hLd
    obtain ⟨N, hN⟩ : ∃ N, N = nu L := ⟨_, rfl⟩
    rw [← hN] at hnum' hnu hA
    have hhi : ((s.size : Int) + 1) / 2 = (h : Int) := by omega
    have hx2 : s.extract 0 h = H := by rw [hh]; exact hx
    have hh2 : h ≤ s.size := by omega
    have HN := Lib.hid hnum'
    have HM := Lib.hid hmm
    clear hx hnum hnum' hmm hL hLl hLd hH hM hN hmr hh hb hd
    cases hq : bl (mirL s.size L) s.data.toList with
    | true =>
      rw [hq] at hbl hA
      have HA : Hid ((N : Int) + 1 = rmA s) := by show _ = _; rw [hA]; rfl
      clear hA hq
      go_enter Try.func29, Try.ntmps29
      go_wp2_with (first | (go_at_call 33; (with_reducible refine (HG.out _).mono ?_); rintro e w1 ⟨rfl, rfl⟩) | (go_at_call 53; (with_reducible refine (HN.out _).mono ?_); rintro e w1 ⟨rfl, rfl⟩) | (go_at_call 50; (with_reducible refine (HM.out _).mono ?_); rintro e w1 ⟨rfl, b1⟩))
      go_ret2
      exact ⟨ret_ib HA.out rfl, b1⟩
    | false =>
      rw [hq] at hbl hA
      have HA : Hid ((N : Int) = rmA s) := by show _ = _; rw [hA]; rfl
      clear hA hq
      go_enter Try.func29, Try.ntmps29
      go_wp2_with (first | (go_at_call 33; (with_reducible refine (HG.out _).mono ?_); rintro e w1 ⟨rfl, rfl⟩) | (go_at_call 53; (with_reducible refine (HN.out _).mono ?_); rintro e w1 ⟨rfl, rfl⟩) | (go_at_call 50; (with_reducible refine (HM.out _).mono ?_); rintro e w1 ⟨rfl, b1⟩))
      go_ret2
      exact ⟨ret_ib HA.out rfl, b1⟩
theorem iRankOfMirrored_any (s : ByteArray) (w : World) (hs : s.size ≤ maxLen) :
    Calls Try.prog 30 #[.string s] w fun e w' => e = .returned (.tuple #[.int .i64 (rmA s), .bool (rdB s)]) ∧ Below w.heap.size w w' := by
  have HG := Lib.hid (fun W => iIsReading_any s W hs)
  cases hb : rdB s with
  | false =>
    have HA := Lib.hid (rmA_no hb)
    rw [hb] at HG
    clear hb
    go_enter Try.func30, Try.ntmps30
    go_wp2_with (go_at_call 14; (with_reducible refine (HG.out _).mono ?_); rintro e w1 ⟨rfl, rfl⟩)
    go_ret2
    exact ⟨ret_ib HA.out.symm rfl, Below.refl _ _⟩
  | true =>
    rw [hb] at HG
    obtain ⟨h1, h9, hd⟩ := (rdB_iff s).1 hb
    have HA := Lib.hid (rmA_yes hb)
    have hr := fun W => rankBefore_any _ _ _ (Io mir) s.data.toList W ent_count (cnts_opp mir ⟨#[48, 49, 50, 51, 52, 53, 54, 55, 56, 57]⟩ s.data.toList.length W tbl_mir (by rw [len_of']; exact h9)) hd (by rw [len_of']; exact h9)
    rw [lst] at hr
    have HR := Lib.hid hr
    clear hr hb hd
    go_enter Try.func30, Try.ntmps30
    go_wp2_with (first | (go_at_call 14; (with_reducible refine (HG.out _).mono ?_); rintro e w1 ⟨rfl, rfl⟩) | (go_at_call 54; (refine (HR.out _).mono ?_); rintro e w1 ⟨rfl, b1⟩))
    go_ret2
    exact ⟨ret_ib HA.out.symm rfl, b1⟩
set_option maxHeartbeats 1000000 in
theorem FnExactRankOfMirrored_law (z0 : ByteArray) (hz0 : z0.size ≤ maxLen) (w : World) :
    Calls Try.prog 11 #[.string z0] w fun e w' => e = .returned (.bool true) ∧ Below w.heap.size w w' := by
  have hz0' := hz0
  unfold maxLen at hz0'
  have hs1 : ∀ W, Calls Try.prog 29 #[.string z0] W fun e w' => e = .returned (.tuple #[.int .i64 (rmA z0), .bool (rdB z0)]) ∧ Below W.heap.size W w' := fun W => sRankOfMirrored_any z0 W hz0
  have hi1 : ∀ W, Calls Try.prog 30 #[.string z0] W fun e w' => e = .returned (.tuple #[.int .i64 (rmA z0), .bool (rdB z0)]) ∧ Below W.heap.size W w' := fun W => iRankOfMirrored_any z0 W hz0
  obtain ⟨A0, hA0⟩ : ∃ A0 : Int, A0 = rmA z0 := ⟨_, rfl⟩
  obtain ⟨A1, hA1⟩ : ∃ A1 : Bool, A1 = rdB z0 := ⟨_, rfl⟩
  rw [← hA0, ← hA1] at hs1 hi1
  have HS := Lib.hid hs1
  have HI := Lib.hid hi1
  clear hs1 hi1 hA0 hA1
  by_cases hb0 : (z0.size : Int) ≤ 1048576
  case neg =>
    go_enter Try.func11, Try.ntmps11
    go_wp2
    go_ret
    exact ⟨rfl, Below.refl _ _⟩
  case pos =>
    go_enter Try.func11, Try.ntmps11
    go_wp2_with (first | (go_at_call 29; (with_reducible refine (HS.out _).mono ?_); rintro e w1 ⟨rfl, b1⟩) | (go_at_call 30; (with_reducible refine (HI.out _).mono ?_); rintro e w2 ⟨rfl, b2⟩))
    go_ret
    exact ⟨rfl, chain b1 b2⟩
end Go.Proofs.Ytlkeemnnncnibaa
