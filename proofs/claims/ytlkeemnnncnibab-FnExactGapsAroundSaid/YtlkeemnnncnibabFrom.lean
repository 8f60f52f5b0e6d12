/-
  Contract of tkFrom: how many lucky tickets begin with some digits.
-/
import Derived.Test.YtlkeemnnncnibabCntOf
import Derived.Test.YtlkeemnnncnibabComp
import Derived.Deep.QuietTactic
import Derived.BigQuiet
import Derived.Deep.RegionWith
import Derived.Deep.DrawnRows
import Derived.WalkSpells
namespace Go.Proofs.Ytlkeemnnncnibab
open Go.RowKit
set_option maxRecDepth 100000

theorem ways_at (x : Int) (D : Nat) (hx : x = (D : Int)) (hD : D ≤ 12) (w : World) :
    Calls Try.prog 87 #[.int .i64 x] w fun e w' => ∃ g, e = .returned (.slice (some ⟨g, 0, none⟩) (9 * D + 1) (9 * D + 1)) ∧ IRow w' g (9 * D + 1) (W D) ∧ w.heap.size ≤ g ∧ Below w.heap.size w w' := by
  subst hx; exact ways_any D hD w
/-- Sums of the first digits, and of those behind them. -/
def dsL (h : Nat) (s : ByteArray) : Int := dsum (s.data.toList.take h)
def dsR (h : Nat) (s : ByteArray) : Int := dsum (s.data.toList.drop h)
def dsA (s : ByteArray) : Int := dsum s.data.toList
theorem sum_lo (s : ByteArray) (h : Nat) (w : World) (hs : s.size ≤ 1000) (hd : digB s.data.toList = true) :
    Calls Try.prog 88 #[.string (s.extract 0 h)] w fun e w' => e = .returned (.int .i64 (dsL h s)) ∧ w = w' := by
  have e : (s.extract 0 h).data.toList = s.data.toList.take h := by simp [ByteArray.data_extract]
  refine (tkSum_any _ _ (by simp [ByteArray.size_extract]; omega) (by rw [e]; exact digB_take _ _ hd)).mono fun e' w' ⟨h1, h2⟩ => ⟨by rw [h1, e]; rfl, h2⟩
theorem sum_hi (s : ByteArray) (h : Nat) (w : World) (hs : s.size ≤ 1000) (hd : digB s.data.toList = true) :
    Calls Try.prog 88 #[.string (s.extract h s.size)] w fun e w' => e = .returned (.int .i64 (dsR h s)) ∧ w = w' := by
  have e : (s.extract h s.size).data.toList = s.data.toList.drop h := by
    simp [ByteArray.data_extract]
    exact List.take_of_length_le (by simp)
  refine (tkSum_any _ _ (by simp [ByteArray.size_extract]; omega) (by rw [e]; exact digB_drop _ _ hd)).mono fun e' w' ⟨h1, h2⟩ => ⟨by rw [h1, e]; rfl, h2⟩
theorem sum_all (s : ByteArray) (w : World) (hs : s.size ≤ 1000) (hd : digB s.data.toList = true) :
    Calls Try.prog 88 #[.string s] w fun e w' => e = .returned (.int .i64 (dsA s)) ∧ w = w' := tkSum_any s w hs hd

set_option maxHeartbeats 1000000 in
theorem from_high (h : Nat) (s : ByteArray) (w : World) (hh : h ≤ 6) (h1 : h < s.size) (h2 : s.size ≤ 2 * h) (hd : digB s.data.toList = true) :
    Calls Try.prog 72 #[.int .i64 (2 * (h : Int)), .string s] w fun e w' => e = .returned (.int .i64 (comp h s.data.toList)) ∧ Below w.heap.size w w' := by
  have HD := Lib.hid hd; clear hd
  have E : Hid (Wi (2 * h - s.size) (dsL h s - dsR h s) = comp h s.data.toList) := by
    have := comp_high h s.data.toList (by simpa using h1)
    show Wi _ _ = _
    simpa [dsL, dsR] using this
  have hL := dsum_bd (s.data.toList.take h) (digB_take _ _ HD.out)
  have hR := dsum_bd (s.data.toList.drop h) (digB_drop _ _ HD.out)
  have hll : (s.data.toList.take h).length ≤ h := List.length_take_le _ _
  have hrl : (s.data.toList.drop h).length ≤ s.size := by simp
  have hL1 : 0 ≤ dsL h s ∧ dsL h s ≤ 1000 := by unfold dsL; omega
  have hR1 : 0 ≤ dsR h s ∧ dsR h s ≤ 1000 := by unfold dsR; omega
  clear hL hR hll hrl
  obtain ⟨hL1, hL2⟩ := hL1
  obtain ⟨hR1, hR2⟩ := hR1
  have HX : Hid ((2 * (h : Int) - s.size) = ((2 * h - s.size : Nat) : Int)) := by show _ = _; omega
  have HY : Hid (2 * h - s.size ≤ 12) := by show _ ≤ _; omega
  have HZ : Hid (s.size ≤ 1000) := by show _ ≤ _; omega
  have hb1 : (0 : Int) ≤ (h : Int) := by omega
  have hb2 : (h : Int) ≤ (s.size : Int) := by omega
  have hw1 : IntKind.i64.wrap (2 * (h : Int) - s.size) = 2 * (h : Int) - s.size := IntWalk.i64_in _ (by omega)
  have hw2 : IntKind.i64.wrap (dsL h s - dsR h s) = dsL h s - dsR h s := IntWalk.i64_in _ (by omega)
  go_enter Try.func72, Try.ntmps72
  go_wp2
  go_region_with (first | (go_at_call 87; go_must ((with_reducible refine (ways_at _ (2 * h - s.size) HX.out HY.out _).mono ?_); rintro e w1 ⟨g, rfl, hrow, hg, hb⟩; have H1 := chain' (w := w) (by go_grown) hb; clear hb)) | (go_at_call 88; go_must (first | ((with_reducible refine (sum_lo s h _ HZ.out HD.out).mono ?_); rintro e w' ⟨rfl, rfl⟩) | ((with_reducible refine (sum_hi s h _ HZ.out HD.out).mono ?_); rintro e w' ⟨rfl, rfl⟩))) | (go_at_call 86; go_must ((with_reducible refine (tkOf_any _ _ _ _ hrow).mono ?_); rintro e w' ⟨rfl, rfl⟩)))
  all_goals clear hw1 hw2
  all_goals go_wp2
  all_goals go_ret
  all_goals exact ⟨ret_int E.out, by go_grown⟩
end Go.Proofs.Ytlkeemnnncnibab
