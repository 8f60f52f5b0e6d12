/-
  The law of LuckyDigits.
-/
import Derived.Test.YtapeohnjjmokkabLdigB
namespace Go.Proofs.Ytapeohnjjmokkab
open Go.RowKit

theorem sLd_any (s : ByteArray) (w : World) (hm : s.size ≤ maxLen) :
    Calls Try.prog 28 #[.string s] w fun e w' => ∃ v, e = .returned (.tuple #[v, .bool (goodB s)]) ∧ Ints w.heap.size (ldig s) v w' ∧ Below w.heap.size w w' := by
  cases hg : goodB s with
  | true => exact sLd_yes s w hm hg
  | false =>
    have E := Lib.hid (ldig_no s hg)
    go_enter Try.func28, Try.ntmps28
    go_wp2_with (first | (go_at_call 30; go_must ((with_reducible refine (tkGood_any _ _ hm).mono ?_); rintro e w' ⟨rfl, rfl⟩)))
    go_ret2
    exact ⟨_, rfl, by rw [E.out]; exact Ints.nil _ _, Below.refl _ _⟩
set_option maxHeartbeats 1000000 in
theorem FnExactLuckyDigits_law (s : ByteArray) (hs : s.size ≤ maxLen) (w : World) :
    Calls Try.prog 10 #[.string s] w fun e w' => e = .returned (.bool true) ∧ Below w.heap.size w w' := by
  have hm := hs
  have hn := ldig_len s
  unfold maxLen at hs
  by_cases hb : s.size ≤ 1048576
  · go_enter Try.func10, Try.ntmps10
    go_wp2_with fail
    refine (sLd_any s _ hm).mono ?_
    rintro e w1 ⟨v0, rfl, i0, b1⟩
    go_wp2_with fail
    refine (iLd_any s _ hm).mono ?_
    rintro e w2 ⟨g0, rfl, j0, b2⟩
    have i1 := i0.below b2
    go_wp2_with fail
    refine (eqInts_yes _ _ (ldig s) _ _ _ hn j0 i1).mono ?_
    rintro e w' ⟨rfl, q, rfl⟩
    go_wp2_with fail
    refine (mark_any w1.heap.size (ldig s) g0 1 _ hn (by omega) (j0.drewN q)).mono ?_
    rintro e w3 ⟨rfl, k0, b3⟩
    have i3 := (i1.drewN q).apart (.inr i0.own_lt) b3
    go_wp2_with fail
    refine (held_any w1.heap.size (ldig s).length g0 1 _ hn (by omega) k0).mono ?_
    rintro e w' ⟨rfl, rfl⟩
    go_wp2_with fail
    refine (iLd_any s _ hm).mono ?_
    rintro e w4 ⟨h0, rfl, l0, b4⟩
    have i4 := i3.below b4
    have k4 := k0.below b4
    go_wp2_with fail
    refine (eqInts_yes _ _ (ldig s) _ _ _ hn l0 i4).mono ?_
    rintro e w' ⟨rfl, q2, rfl⟩
    go_wp2_with fail
    refine (held_any w1.heap.size (ldig s).length g0 1 _ hn (by omega) (k4.drewN q2)).mono ?_
    rintro e w' ⟨rfl, rfl⟩
    go_wp2_with fail
    go_ret
    exact ⟨rfl, below_drewN (((below_drewN (b1.trans (b2.mono b1.size)) q).trans (b3.mono b1.size)).trans (b4.mono (by have h1 := b1.size; have h2 := b2.size; have h3 : w2.heap.size ≤ w3.heap.size := b3.size; omega))) _⟩
  · go_enter Try.func10, Try.ntmps10
    go_wp2_with fail
    go_ret
    exact ⟨rfl, by go_grown⟩
end Go.Proofs.Ytapeohnjjmokkab
