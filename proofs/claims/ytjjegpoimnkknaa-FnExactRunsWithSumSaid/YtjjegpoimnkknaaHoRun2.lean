/-
  One more run is searched.
-/
import Derived.Test.YtjjegpoimnkknaaHoRun
namespace Go.Proofs.Ytjjegpoimnkknaa
open Go.RowKit

theorem runB_iff (s t : Int) (m : Nat) : runB s t m = true ↔ (m : Int) ≤ rst s t m ∧ rst s t m % (m : Int) = 0 := by
  unfold runB; rw [Bool.and_eq_true, decide_eq_true_eq, decide_eq_true_eq]
set_option maxHeartbeats 2000000 in
theorem srch_any (s t : Int) (m b2 b3 b5 b6 : Nat) (w : World) (H : SrSt w s t m b2 b3 b5 b6) (h1 : 1 ≤ s) (h2 : s ≤ 1000000) (ht : t = 1 ∨ t = 2) (hm : m ≤ 1500) (hmono : ∀ k : Nat, 1 ≤ k → k ≤ m → (k : Int) ≤ rst s t k) :
    Calls Try.prog 73 #[.pointer (some ⟨b6, 0, none⟩), .pointer (some ⟨b5, 0, none⟩), .pointer (some ⟨b3, 0, none⟩)] w fun e w' => w.grownBy w' (some b6) ∧ ((runs s t m = [] ∧ e = .returned (.tuple #[.slice none 0 0, .bool false])) ∨ ∃ (k g : Nat) (x y : Int), runs s t m = (x, y) :: runs s t k ∧ k ≤ m ∧ e = .returned (.tuple #[.slice (some ⟨g, 0, none⟩) 2 2, .bool true]) ∧ Blk w' g (ivs [x, y]) 3 ∧ w.heap.size ≤ g ∧ SrSt w' s t k b2 b3 b5 b6) := by
  have HH := Lib.hid H
  have HT := Lib.hid ht
  have HM := Lib.hid hmono
  have ht1 : 1 ≤ t := by omega
  have ht2 : t ≤ 2 := by omega
  have hb6 := H.lt.2.2.2
  clear H ht hmono
  go_enter Try.func73, Try.ntmps73
  go_wp2
  go_loopg [] m (fun k wr => k ≤ m ∧ Hid (runs s t k = runs s t m) ∧ Hid (SrSt wr s t k b2 b3 b5 b6) ∧ Hid (w.grownBy wr (some b6)) ∧ w.heap.size ≤ wr.heap.size)
  case atStart => exact ⟨Nat.le_refl _, rfl, HH.out, gb_refl _ _, Nat.le_refl _⟩
  case round =>
    obtain ⟨hk, HR, HS, HG, hsz⟩ := hrel
    have c3 := HS.out.c3
    have c5 := HS.out.c5
    have c6 := HS.out.c6
    have f6 := HS.out.f6
    have hl6 := HS.out.lt.2.2.2
    by_cases hge : 2 ≤ gk
    · have hg1 : (2 : Int) ≤ (gk : Int) := by omega
      have HC := Lib.hid (restFor_any s t gk b2 b3 wr HS.out.c2 HS.out.c3 h1 h2 HT.out (by omega) (by omega))
      have hr1 := HM.out gk (by omega) hk
      have hr2 := rst_le s t gk (by omega) (by omega)
      obtain ⟨r, hr⟩ : ∃ r, r = rst s t (gk : Int) := ⟨_, rfl⟩
      rw [← hr] at HC hr1 hr2
      have HRR := Lib.hid hr
      obtain ⟨j, hj⟩ : ∃ j : Nat, j + 1 = gk := ⟨gk - 1, by omega⟩
      have HJ := Lib.hid hj
      have hji : (gk : Int) - 1 = (j : Int) := by omega
      clear hr hj
      by_cases hmod : r % (gk : Int) = 0
      · obtain ⟨q, hq⟩ : ∃ q, r / (gk : Int) = q := ⟨_, rfl⟩
        have hq0 : 0 ≤ q := by rw [← hq]; exact Int.ediv_nonneg (by omega) (by omega)
        have hq1 : q ≤ 1000000 := by
          rw [← hq]
          exact Int.le_trans (Int.ediv_le_self _ (by omega)) (by omega)
        have hp0 : 0 ≤ (j : Int) * t := Int.mul_nonneg (by omega) (by omega)
        have hp1 : (j : Int) * t ≤ 1500 * 2 := Int.mul_le_mul (by omega) ht2 (by omega) (by omega)
        have HL : Hid (runs s t gk = (q, q + (j : Int) * t) :: runs s t j) := by
          show _ = _
          have hb : runB s t (j + 1) = true := by
            rw [HJ.out, runB_iff, ← HRR.out]; exact ⟨hr1, hmod⟩
          have := runs_yes s t j (by have := HJ.out; omega) hb
          rw [HJ.out] at this
          rw [this]
          unfold runP
          rw [← HRR.out, hq, hji, Int.mul_comm t]
        have c3' := (HS.out.set (j : Int)).c3
        have c6' := (HS.out.set (j : Int)).c6
        subst hq
        go_wp2_with (go_at_call 72; refine HC.out.mono ?_; rintro e w' ⟨rfl, rfl⟩)
        have hS := (HS.out.set (j : Int))
        have hG := gb_set HG.out (.int .i64 (j : Int))
        have hB : Below (wr.setCell ⟨b6, 0, none⟩ (.int .i64 (j : Int))).heap.size (wr.setCell ⟨b6, 0, none⟩ (.int .i64 (j : Int))) ((wr.setCell ⟨b6, 0, none⟩ (.int .i64 (j : Int))).alloc (.cells #[.int .i64 (r / (gk : Int)), .int .i64 (r / (gk : Int) + (j : Int) * t)] 3)) := by go_grown
        have hbl := Blk.new (wr.setCell ⟨b6, 0, none⟩ (.int .i64 (j : Int))) #[.int .i64 (r / (gk : Int)), .int .i64 (r / (gk : Int) + (j : Int) * t)] 3
        go_ret2
        refine ⟨gb_below hG hB, .inr ⟨j, wr.heap.size, r / (gk : Int), r / (gk : Int) + (j : Int) * t, by rw [← HR.out]; exact HL.out, by have := HJ.out; omega, ?_, ?_, hsz, hS.keep hB⟩⟩
        · simp
        · have e : (wr.setCell ⟨b6, 0, none⟩ (.int .i64 (j : Int))).heap.size = wr.heap.size := by simp [World.setCell]
          rw [e] at hbl
          exact hbl
      · obtain ⟨z, hz⟩ : ∃ z, r % (gk : Int) = z := ⟨_, rfl⟩
        have hz0 : (z == 0) = false := by rw [← hz]; simpa using hmod
        have HL : Hid (runs s t gk = runs s t j) := by
          show _ = _
          have hb : runB s t (j + 1) = false := by
            rw [Bool.eq_false_iff, HJ.out, ne_eq, runB_iff, ← HRR.out]
            exact fun h => hmod h.2
          have := runs_no s t j (by have := HJ.out; omega) hb
          rwa [HJ.out] at this
        clear hmod
        go_wp2_with (go_at_call 72; refine HC.out.mono ?_; rintro e w' ⟨rfl, rfl⟩)
        go_roundg j
        case measure => have := HJ.out; omega
        case rel => exact ⟨by have := HJ.out; omega, HL.out.symm.trans HR.out, HS.out.set _, gb_set HG.out _, by simp [World.setCell]; exact hsz⟩
    · have HN : Hid (runs s t m = []) := by
        show _ = _
        rw [← HR.out]
        rcases (by omega : gk = 0 ∨ gk = 1) with e | e <;> rw [e]
        · rfl
        · exact runs_one s t
      have hlt : ¬ (2 : Int) ≤ (gk : Int) := by omega
      go_wp2
      go_ret2
      exact ⟨HG.out, .inl ⟨HN.out, rfl⟩⟩
end Go.Proofs.Ytjjegpoimnkknaa
