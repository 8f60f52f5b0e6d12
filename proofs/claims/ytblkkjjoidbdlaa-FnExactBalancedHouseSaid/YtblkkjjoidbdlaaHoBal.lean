/-
  The law of BalancedHouse.
-/
import Derived.Test.YtblkkjjoidbdlaaHoLst
namespace Go.Proofs.Ytblkkjjoidbdlaa
open Go.RowKit

theorem hoBalanced_any (a b : Int) (w : World) (hs : stB a b = true) :
    Calls Try.prog 19 #[.int .i64 a, .int .i64 b] w fun e w' => (∃ h : Int, BalAns (sqr a b) h (decide (0 < h)) ∧ e = .returned (.int .i64 h)) ∧ w = w' := by
  obtain ⟨h1, h2, h3⟩ := (stB_iff a b).1 hs
  obtain ⟨k1, k2⟩ := sm_bd 1 b (by omega) (by omega) (by omega)
  obtain ⟨k3, k4⟩ := sm_bd 1 (a - 1) (by omega) (by omega) (by omega)
  have HQ0 : Hid (0 ≤ sm 1 b + sm 1 (a - 1)) := by show _ ≤ _; omega
  have HQ1 : Hid (sm 1 b + sm 1 (a - 1) ≤ 8000000000000) := by show _ ≤ _; omega
  have HP : Hid (a * a ≤ sqr a b) := (sqr_lo a b h1 h2).1
  have HSQ : Hid (sqr a b = sm 1 b + sm 1 (a - 1)) := rfl
  go_enter Try.func19, Try.ntmps19
  go_wp2_with (go_at_call 27; refine (hoSum_any _ _ _ (by omega) (by omega) (by omega) (by omega)).mono ?_; rintro e w' ⟨rfl, rfl⟩)
  refine (hoRoot_any _ _ HQ0.out HQ1.out).mono ?_
  rintro e w' ⟨⟨r, hr0, hr1, hr2, hr3, rfl⟩, rfl⟩
  have HR2 := Lib.hid hr2
  have HR3 := Lib.hid hr3
  have hp1 := sq_nn r
  have hp2 : r * r ≤ 3000000 * 3000000 := sq_le hr0 hr1
  clear hr2 hr3
  by_cases heq : r * r = sm 1 b + sm 1 (a - 1)
  · have HE := Lib.hid heq
    have hq : (r * r == sm 1 b + sm 1 (a - 1)) = true := by simpa using heq
    clear heq
    go_wp2
    go_ret
    refine ⟨⟨r, ?_, rfl⟩, rfl⟩
    have hpos : 0 < r := by
      by_cases h : r = 0
      · have e1 := HE.out
        have e2 := HP.out
        rw [HSQ.out] at e2
        have e3 := sq_le (show (0 : Int) ≤ 1 by omega) h1
        subst h
        omega
      · omega
    exact .inl ⟨by simpa using hpos, hpos, by rw [HSQ.out]; exact HE.out⟩
  · have HE := Lib.hid heq
    have hq : (r * r == sm 1 b + sm 1 (a - 1)) = false := by simpa using heq
    clear heq
    go_wp2
    go_ret
    refine ⟨⟨0, ?_, rfl⟩, rfl⟩
    have := bal_root (n := sqr a b) hr0 (by rw [HSQ.out]; exact HR2.out) (by rw [HSQ.out]; exact HR3.out) (by rw [HSQ.out]; exact HE.out)
    simpa using this
theorem sBal_yes (a b : Int) (w : World) (hs : stB a b = true) :
    Calls Try.prog 8 #[.int .i64 a, .int .i64 b] w fun e w' => (∃ (h : Int) (ok : Bool), BalAns (sqr a b) h ok ∧ e = .returned (.tuple #[.int .i64 h, .bool ok])) ∧ w = w' := by
  have HS := Lib.hid hs
  go_enter Try.func8, Try.ntmps8
  go_wp2_with (go_at_call 18; refine (hoStreet_any _ _ _).mono ?_; rintro e w' ⟨rfl, rfl⟩)
  refine (hoBalanced_any _ _ _ HS.out).mono ?_
  rintro e w' ⟨⟨h, hb, rfl⟩, rfl⟩
  have HB := Lib.hid hb
  clear hb
  go_wp2
  go_ret2
  exact ⟨⟨h, _, HB.out, rfl⟩, rfl⟩
theorem sBal_no (a b : Int) (w : World) (hs : stB a b = false) :
    Calls Try.prog 8 #[.int .i64 a, .int .i64 b] w fun e w' => e = .returned (.tuple #[.int .i64 0, .bool false]) ∧ w = w' := by
  go_enter Try.func8, Try.ntmps8
  go_wp2_with (go_at_call 18; refine (hoStreet_any _ _ _).mono ?_; rintro e w' ⟨rfl, rfl⟩)
  go_ret2
  exact ⟨rfl, rfl⟩
theorem bl1_any (h a : Int) (b2 : Nat) (w : World) (c : w.cell? ⟨b2, 0, none⟩ = some (.int .i64 a)) (h1 : 0 ≤ a) (h2 : a ≤ 1000000) (h3 : a ≤ h) (h4 : h ≤ 1000000) :
    Calls Try.prog 21 #[.int .i64 h, .pointer (some ⟨b2, 0, none⟩)] w fun e w' => e = .returned (.int .i64 (sm a (h - 1))) ∧ Below w.heap.size w w' := by
  go_enter Try.func21, Try.ntmps21
  go_wp2_with (go_at_call 22; refine (sumOf_any _ _ _ (by omega) (by omega) (by omega) (by omega)).mono ?_; rintro e w1 ⟨rfl, b1⟩)
  go_ret
  exact ⟨rfl, b1⟩
theorem bl2_any (h b : Int) (b3 : Nat) (w : World) (c : w.cell? ⟨b3, 0, none⟩ = some (.int .i64 b)) (h1 : 0 ≤ h) (h2 : h ≤ b) (h3 : b ≤ 1000000) :
    Calls Try.prog 23 #[.int .i64 h, .pointer (some ⟨b3, 0, none⟩)] w fun e w' => e = .returned (.int .i64 (sm (h + 1) b)) ∧ Below w.heap.size w w' := by
  go_enter Try.func23, Try.ntmps23
  go_wp2_with (go_at_call 22; refine (sumOf_any _ _ _ (by omega) (by omega) (by omega) (by omega)).mono ?_; rintro e w1 ⟨rfl, b1⟩)
  go_ret
  exact ⟨rfl, b1⟩
/-- The four cells of the closures. -/
structure Bl4 (w : World) (a b : Int) (b2 b3 b6 b7 : Nat) : Prop where
  c2 : w.cell? ⟨b2, 0, none⟩ = some (.int .i64 a)
  c3 : w.cell? ⟨b3, 0, none⟩ = some (.int .i64 b)
  c6 : w.cell? ⟨b6, 0, none⟩ = some (.func (.func 21) #[] #[.pointer (some ⟨b2, 0, none⟩)])
  c7 : w.cell? ⟨b7, 0, none⟩ = some (.func (.func 23) #[] #[.pointer (some ⟨b3, 0, none⟩)])
  lt : b2 < w.heap.size ∧ b3 < w.heap.size ∧ b6 < w.heap.size ∧ b7 < w.heap.size
theorem Bl4.keep {w w' : World} {a b : Int} {b2 b3 b6 b7 : Nat} (h : Bl4 w a b b2 b3 b6 b7) (k : Below w.heap.size w w') : Bl4 w' a b b2 b3 b6 b7 := by
  obtain ⟨h1, h2, h3, h4, l1, l2, l3, l4⟩ := h
  have := k.size
  exact ⟨(k.cell (p := ⟨b2, 0, none⟩) l1).trans h1, (k.cell (p := ⟨b3, 0, none⟩) l2).trans h2, (k.cell (p := ⟨b6, 0, none⟩) l3).trans h3, (k.cell (p := ⟨b7, 0, none⟩) l4).trans h4, by omega, by omega, by omega, by omega⟩
/-- The program's test. -/
def balB (a b h : Int) : Bool := decide (sm a (h - 1) ≥ sm (h + 1) b)
set_option maxHeartbeats 2000000 in
theorem bl3_any (h a b : Int) (b2 b3 b6 b7 : Nat) (w : World) (H : Bl4 w a b b2 b3 b6 b7) (h1 : 0 ≤ a) (h2 : a ≤ h) (h3 : h ≤ b) (h4 : b ≤ 1000000) :
    Calls Try.prog 25 #[.int .i64 h, .pointer (some ⟨b6, 0, none⟩), .pointer (some ⟨b7, 0, none⟩)] w fun e w' => e = .returned (.bool (balB a b h)) ∧ Below w.heap.size w w' := by
  have HZ : Hid (balB a b h = decide (sm a (h - 1) ≥ sm (h + 1) b)) := rfl
  have HH := Lib.hid H
  have e6 := H.c6
  have e7 := H.c7
  go_enter Try.func25, Try.ntmps25
  go_wp2
  go_region_with (first | (go_at_call 21; have B0 : Below w.heap.size w _ := (by go_grown); (with_reducible refine (bl1_any h a b2 _ (HH.out.keep (by go_grown)).c2 h1 (by omega) h2 (by omega)).mono ?_); rintro e w1 ⟨rfl, b1⟩; have B1 : Below w.heap.size w w1 := chain (w := w) (by go_grown) b1; have d6 := (HH.out.keep B1).c6; have d7 := (HH.out.keep B1).c7) | (go_at_call 23; (with_reducible refine (bl2_any h b b3 _ (HH.out.keep (by go_grown)).c3 (by omega) h3 h4).mono ?_); rintro e w1 ⟨rfl, b1⟩; have B1 : Below w.heap.size w w1 := chain (w := w) (by go_grown) b1; have d6 := (HH.out.keep B1).c6; have d7 := (HH.out.keep B1).c7))
  all_goals go_wp2
  all_goals go_ret
  all_goals exact ⟨ret_bool (by rw [HZ.out]), by go_grown⟩
end Go.Proofs.Ytblkkjjoidbdlaa
