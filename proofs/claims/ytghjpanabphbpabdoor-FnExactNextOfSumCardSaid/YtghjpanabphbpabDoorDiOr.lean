/-
  Least numbers: the model's search for a number of a sum by its rank.
-/
import Derived.Test.YtghjpanabphbpabDoorLeNos
import Derived.Test.YtghjpanabphbpabDoorDiOs
namespace Go.Proofs.YtghjpanabphbpabDoor
open Go.RowKit
set_option maxRecDepth 100000

set_option maxHeartbeats 1000000 in
theorem diOfRank_any (u r : Int) (w : World) (hu0 : 0 ≤ u) (hu1 : u ≤ 9223372036854775807) :
    Calls Tryd.prog 29 #[.int .i64 u, .int .i64 r] w fun e w' => (∃ (h : Int) (ok : Bool), e = .returned (.tuple #[.int .i64 h, .bool ok]) ∧ LeastIs (moB u r) 1 1000000000000 h ok) ∧ Below w.heap.size w w' := by
  by_cases hc : uc u 1000000000000 ≤ r
  · have HR : Hid (LeastIs (moB u r) 1 1000000000000 0 false) := .inr ⟨rfl, rfl, fun x hx1 hx2 => by
      have := uc_mono (s := u) (a := x) (b := 1000000000000) hx2 (by omega)
      unfold moB
      rw [decide_eq_false_iff_not]; omega⟩
    go_enter Tryd.func29, Tryd.ntmps29
    go_wp2_with (go_at_call 31; refine (diOfSum_any 1000000000000 u _ (by omega) (by omega) hu0 hu1).mono ?_; rintro e w1 ⟨rfl, b1⟩)
    go_ret2
    exact ⟨⟨0, false, rfl, HR.out⟩, b1⟩
  · go_enter Tryd.func29, Tryd.ntmps29
    go_wp2_with (go_at_call 31; refine (diOfSum_any 1000000000000 u _ (by omega) (by omega) hu0 hu1).mono ?_; rintro e w1 ⟨rfl, b1⟩)
    have HCC := Lib.hid hc
    clear hc
    go_loopw [6, 7] (fun l h wr => ∃ lo hi : Int, l = .int .i64 lo ∧ h = .int .i64 hi ∧ 1 ≤ lo ∧ lo ≤ hi ∧ hi ≤ 1000000000000 ∧ Hid (r < uc u hi ∧ ∀ x, 1 ≤ x → x < lo → uc u x ≤ r) ∧ Below w.heap.size w wr) (fun l h _ => (intOf h - intOf l).toNat)
    case atStart => exact ⟨1, 1000000000000, rfl, rfl, by omega, by omega, by omega, ⟨by have := HCC.out; omega, fun x a b => by omega⟩, b1⟩
    case round =>
      obtain ⟨lo, hi, rfl, rfl, hlo, hlh, hhi, HK, hb⟩ := hrel
      by_cases hlt : lo < hi
      · obtain ⟨q, hq⟩ : ∃ q, q = (lo + hi) / 2 := ⟨_, rfl⟩
        have hm1 : lo ≤ q := by omega
        have hm2 : q < hi := by omega
        have hr : ((lo + hi) / 2 : Int) = q := hq.symm
        have hq0 : 0 ≤ q := by omega
        have hq9 : q ≤ 1000000000000 := by omega
        clear hq
        by_cases hc : r < uc u q
        · go_wp2_with (go_at_call 31; refine (diOfSum_any q u _ hq0 hq9 hu0 hu1).mono ?_; rintro e w2 ⟨rfl, b2⟩)
          go_roundw
          case rel => exact ⟨lo, q, rfl, rfl, by omega, by omega, by omega, ⟨hc, HK.out.2⟩, hb.trans (b2.mono hb.size)⟩
          case measure => simp [intOf]; omega
        · go_wp2_with (go_at_call 31; refine (diOfSum_any q u _ hq0 hq9 hu0 hu1).mono ?_; rintro e w2 ⟨rfl, b2⟩)
          go_roundw
          case rel => exact ⟨q + 1, hi, rfl, rfl, by omega, by omega, by omega, ⟨HK.out.1, fun x a b => by have := uc_mono (s := u) (a := x) (b := q) (by omega) (by omega); omega⟩, hb.trans (b2.mono hb.size)⟩
          case measure => simp [intOf]; omega
      · have HR : Hid (LeastIs (moB u r) 1 1000000000000 lo true) := .inl ⟨rfl, hlo, by omega, by unfold moB; rw [decide_eq_true_eq, show lo = hi by omega]; exact HK.out.1, fun x a b => by unfold moB; rw [decide_eq_false_iff_not]; have := HK.out.2 x a b; omega⟩
        go_wp2
        go_ret2
        first | exact ⟨⟨lo, true, rfl, HR.out⟩, hb⟩ | exact ⟨⟨lo, .inr ⟨rfl, HR.out⟩⟩, hb⟩
end Go.Proofs.YtghjpanabphbpabDoor
