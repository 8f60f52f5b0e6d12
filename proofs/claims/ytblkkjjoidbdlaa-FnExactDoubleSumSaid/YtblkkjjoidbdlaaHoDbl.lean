/-
  The law of DoubleSum.
-/
import Derived.Test.YtblkkjjoidbdlaaHoLst
import Derived.Laws.EntriesVeiled
namespace Go.Proofs.Ytblkkjjoidbdlaa
open Go.RowKit

theorem sm_bd1 (a b : Int) (ha : 1 ≤ a) (hb : a - 1 ≤ b) (hb' : b ≤ 1000000) : 0 ≤ sm a b ∧ sm a b ≤ 500000500000 := by
  have h0 := (sm_bd a b (by omega) hb (by omega)).1
  have h1 := sm_mono a b 1000000 (by omega) hb hb'
  have h2 := two_sm a 1000000
  have h3 := sq_le (show (0 : Int) ≤ 1 by omega) ha
  have h4 : a * 1 ≤ a * a := Int.mul_le_mul_of_nonneg_left ha (by omega)
  omega
theorem sDbl_yes (a b : Int) (w : World) (hs : stB a b = true) :
    Calls Try.prog 16 #[.int .i64 a, .int .i64 b] w fun e w' => (∃ (h : Int) (ok : Bool), DblAns (twi a b) h ok ∧ e = .returned (.tuple #[.int .i64 h, .bool ok])) ∧ w = w' := by
  obtain ⟨h1, h2, h3⟩ := (stB_iff a b).1 hs
  obtain ⟨k1, k2⟩ := sm_bd1 a b (by omega) (by omega) (by omega)
  obtain ⟨k3, k4⟩ := sm_bd1 1 (a - 1) (by omega) (by omega) (by omega)
  have HQ0 : Hid (0 ≤ sm a b + 2 * sm 1 (a - 1)) := by show _ ≤ _; omega
  have HQ1 : Hid (sm a b + 2 * sm 1 (a - 1) ≤ 8000000000000) := by show _ ≤ _; omega
  have HT : Hid (twi a b = sm a b + 2 * sm 1 (a - 1)) := rfl
  go_enter Try.func16, Try.ntmps16
  go_wp2_with (first | (go_at_call 18; refine (hoStreet_any _ _ _).mono ?_; rintro e w' ⟨rfl, rfl⟩) | (go_at_call 27; refine (hoSum_any _ _ _ (by omega) (by omega) (by omega) (by omega)).mono ?_; rintro e w' ⟨rfl, rfl⟩))
  refine (hoRoot_any _ _ HQ0.out HQ1.out).mono ?_
  rintro e w' ⟨⟨r, hr0, hr1, hr2, hr3, rfl⟩, rfl⟩
  have HR2 := Lib.hid hr2
  have HR3 := Lib.hid hr3
  have hx : r * (r + 1) = r * r + r := by grind
  have hp1 : 0 ≤ r * (r + 1) := by have := sq_nn r; omega
  have hp2 : r * (r + 1) ≤ 10000000000000 := by have := sq_le hr0 hr1; omega
  have HX := Lib.hid hx
  clear hr2 hr3 hx
  by_cases heq : r * (r + 1) = sm a b + 2 * sm 1 (a - 1)
  · have HE : Hid (r * r + r = twi a b) := by show _ = _; rw [HT.out, ← heq, HX.out]
    have hq : (r * (r + 1) == sm a b + 2 * sm 1 (a - 1)) = true := by simpa using heq
    have hev := dbl_even HE.out
    have hfr := dbl_first h1 h2 hr0 HE.out
    go_wp2
    go_ret2
    exact ⟨⟨r, true, .inl ⟨rfl, hr0, HE.out⟩, rfl⟩, rfl⟩
  · have HE : Hid (r * r + r ≠ twi a b) := by show _ ≠ _; rw [HT.out, ← HX.out]; exact heq
    have hq : (r * (r + 1) == sm a b + 2 * sm 1 (a - 1)) = false := by simpa using heq
    have hans : Hid (DblAns (twi a b) 0 false) := dbl_root hr0 (by rw [HT.out]; exact HR2.out) (by rw [HT.out]; exact HR3.out) HE.out
    by_cases hev : sm a b % 2 = 0
    · go_wp2
      go_ret2
      exact ⟨⟨0, false, hans.out, rfl⟩, rfl⟩
    · have hev1 : sm a b % 2 = 1 := by omega
      clear hev
      go_wp2
      go_ret2
      exact ⟨⟨0, false, hans.out, rfl⟩, rfl⟩
theorem sDbl_no (a b : Int) (w : World) (hs : stB a b = false) :
    Calls Try.prog 16 #[.int .i64 a, .int .i64 b] w fun e w' => e = .returned (.tuple #[.int .i64 0, .bool false]) ∧ w = w' := by
  go_enter Try.func16, Try.ntmps16
  go_wp2_with (go_at_call 18; refine (hoStreet_any _ _ _).mono ?_; rintro e w' ⟨rfl, rfl⟩)
  go_ret2
  exact ⟨rfl, rfl⟩
theorem db1_any (h a : Int) (b2 : Nat) (w : World) (c : w.cell? ⟨b2, 0, none⟩ = some (.int .i64 a)) (h1 : 1 ≤ a) (h3 : a ≤ h) (h4 : h ≤ 1000000) :
    Calls Try.prog 34 #[.int .i64 h, .pointer (some ⟨b2, 0, none⟩)] w fun e w' => e = .returned (.int .i64 (2 * sm a h)) ∧ Below w.heap.size w w' := by
  obtain ⟨k1, k2⟩ := sm_bd1 a h (by omega) (by omega) (by omega)
  go_enter Try.func34, Try.ntmps34
  go_wp2_with (go_at_call 22; refine (sumOf_any _ _ _ (by omega) (by omega) (by omega) (by omega)).mono ?_; rintro e w1 ⟨rfl, b1⟩)
  go_ret
  exact ⟨rfl, b1⟩
/-- The three cells of the closures. -/
structure Db3 (w : World) (a s : Int) (b2 b6 b7 : Nat) : Prop where
  c2 : w.cell? ⟨b2, 0, none⟩ = some (.int .i64 a)
  c6 : w.cell? ⟨b6, 0, none⟩ = some (.int .i64 s)
  c7 : w.cell? ⟨b7, 0, none⟩ = some (.func (.func 34) #[] #[.pointer (some ⟨b2, 0, none⟩)])
  lt : b2 < w.heap.size ∧ b6 < w.heap.size ∧ b7 < w.heap.size
theorem Db3.keep {w w' : World} {a s : Int} {b2 b6 b7 : Nat} (h : Db3 w a s b2 b6 b7) (k : Below w.heap.size w w') : Db3 w' a s b2 b6 b7 := by
  obtain ⟨h1, h3, h4, l1, l3, l4⟩ := h
  have := k.size
  exact ⟨(k.cell (p := ⟨b2, 0, none⟩) l1).trans h1, (k.cell (p := ⟨b6, 0, none⟩) l3).trans h3, (k.cell (p := ⟨b7, 0, none⟩) l4).trans h4, by omega, by omega, by omega⟩
/-- The program's test. -/
def dblB (a s h : Int) : Bool := decide (2 * sm a h ≥ s)
set_option maxHeartbeats 2000000 in
theorem db2_any (h a s : Int) (b2 b6 b7 : Nat) (w : World) (H : Db3 w a s b2 b6 b7) (h1' : 1 ≤ a) (h2 : a ≤ h) (h3 : h ≤ 1000000) :
    Calls Try.prog 35 #[.int .i64 h, .pointer (some ⟨b7, 0, none⟩), .pointer (some ⟨b6, 0, none⟩)] w fun e w' => e = .returned (.bool (dblB a s h)) ∧ Below w.heap.size w w' := by
  have HZ : Hid (dblB a s h = decide (2 * sm a h ≥ s)) := rfl
  have HH := Lib.hid H
  have e6 := H.c6
  have e7 := H.c7
  go_enter Try.func35, Try.ntmps35
  go_wp2
  go_region_with (first | (go_at_call 34; (with_reducible refine (db1_any h a b2 _ (HH.out.keep (by go_grown)).c2 h1' (by omega) (by omega)).mono ?_); rintro e w2 ⟨rfl, b2⟩; have B2 : Below w.heap.size w w2 := chain (w := w) (by go_grown) b2; have d6 := (HH.out.keep B2).c6; have d7 := (HH.out.keep B2).c7) | fail)
  all_goals go_wp2
  all_goals go_ret
  all_goals exact ⟨ret_bool (by rw [HZ.out]), by go_grown⟩
theorem dblB_iff (a b x : Int) : dblB a (sm a b) x = decide (twi a b ≤ x * x + x) := by
  unfold dblB; rw [decide_eq_decide]; exact twi_iff a b x
theorem dbl_call (a b : Int) (b2 b6 b7 : Nat) (W : World) (H : Db3 W a (sm a b) b2 b6 b7) (h1 : 1 ≤ a) (h2 : a ≤ b) (h3 : b ≤ 1000000) :
    Calls Try.prog 24 #[.int .i64 a, .int .i64 b, .func (.func 35) #[] #[.pointer (some ⟨b7, 0, none⟩), .pointer (some ⟨b6, 0, none⟩)]] W fun e w' => (∃ h : Int, e = .returned (.tuple #[.int .i64 h, .bool true]) ∧ LeastOf (fun x => decide (twi a b ≤ x * x + x)) a h ∧ h ≤ b) ∧ Db3 w' a (sm a b) b2 b6 b7 ∧ Below W.heap.size W w' := by
  have e49 : ∀ args w, (callFunc 35 args).run Try.prog w = .ok (.enter 35 args) w := enters_of Try.func35 (by kernel_rfl) rfl
  refine (leastIn_any a b 35 _ (dblB a (sm a b)) W (by omega) h2 (by omega) e49 ?_ ?_).mono ?_
  · intro h W' hx hy hW
    exact db2_any h a (sm a b) b2 b6 b7 W' (H.keep hW) (by omega) hx (by omega)
  · intro x y hx hxy hy h
    rw [dblB_iff] at *
    simp only [decide_eq_true_eq] at *
    have := sq_le (show 0 ≤ x by omega) hxy
    omega
  rintro e w' ⟨⟨h, ok, rfl, hl⟩, hb⟩
  have hok : ok = true := by
    rcases hl with ⟨h, _⟩ | ⟨_, _, h⟩
    · exact h
    · have := h b h2 (Int.le_refl _)
      unfold dblB at this
      rw [decide_eq_false_iff_not] at this
      have := sm_bd1 a b h1 (by omega) h3
      omega
  subst hok
  refine ⟨⟨h, rfl, ?_, ?_⟩, H.keep hb, hb⟩
  · have := hl.least
    rwa [show dblB a (sm a b) = fun x => decide (twi a b ≤ x * x + x) from funext (dblB_iff a b)] at this
  · rcases hl with ⟨_, _, h, _⟩ | ⟨h, _⟩
    · exact h
    · cases h
set_option maxHeartbeats 2000000 in
theorem iDbl_yes (a b : Int) (w : World) (hs : stB a b = true) :
    Calls Try.prog 17 #[.int .i64 a, .int .i64 b] w fun e w' => (∃ (h : Int) (ok : Bool), DblAns (twi a b) h ok ∧ e = .returned (.tuple #[.int .i64 h, .bool ok])) ∧ Below w.heap.size w w' := by
  obtain ⟨h1, h2, h3⟩ := (stB_iff a b).1 hs
  go_enter Try.func17, Try.ntmps17
  go_wp2_with (first | (go_at_call 20; refine (isStreet_any _ _ _).mono ?_; rintro e w' ⟨rfl, rfl⟩) | (go_at_call 22; refine (sumOf_any _ _ _ (by omega) (by omega) (by omega) (by omega)).mono ?_; rintro e wx ⟨rfl, bx⟩; have F := (Blk.new w _ _).keep bx; have c0 := F.cell 0; simp at c0; have BX := Lib.hid (chain (w := w) (by go_grown) bx); clear bx; have hlt := F.lt))
  refine (dbl_call a b w.heap.size wx.heap.size (wx.heap.size + 1) _ ?_ h1 h2 h3).mono ?_
  · exact ⟨by simp [go_sem, c0, hlt], by simp [go_sem], by simp [go_sem], by (simp <;> omega), by (simp <;> omega), by (simp <;> omega)⟩
  rintro e w1 ⟨⟨h, rfl, hl, hhb⟩, hbl, b1⟩
  have H1 : Below w.heap.size w w1 := BX.out.trans ((chain (w := wx) (by go_grown) b1).mono BX.out.size)
  have hab : a ≤ h := hl.1
  have HL := Lib.hid hl
  have HH := Lib.hid hbl
  have c6 := hbl.c6
  have c7 := hbl.c7
  have h1' : 1 ≤ a := by omega
  clear hl hbl b1
  by_cases heq : 2 * sm a h = sm a b
  · have HE := Lib.hid heq
    have hq : (2 * sm a h == sm a b) = true := by simpa using heq
    clear heq
    go_wp2
    go_region_with (first | (go_at_call 34; (with_reducible refine (db1_any h a w.heap.size _ (HH.out.keep (by go_grown)).c2 h1' (by omega) (by omega)).mono ?_); rintro e w2 ⟨rfl, b2⟩; have B2 : Below w1.heap.size w1 w2 := chain (w := w1) (by go_grown) b2; have d6 := (HH.out.keep B2).c6; have d7 := (HH.out.keep B2).c7) | fail)
    all_goals go_wp2
    all_goals go_ret2
    all_goals exact ⟨⟨h, true, .inl ⟨rfl, by omega, (twi_eq a b h).1 HE.out⟩, rfl⟩, H1.trans (Below.mono (w := w1) (by go_grown) H1.size)⟩
  · have HE := Lib.hid heq
    have hq : (2 * sm a h == sm a b) = false := by simpa using heq
    clear heq
    go_wp2
    go_region_with (first | (go_at_call 34; (with_reducible refine (db1_any h a w.heap.size _ (HH.out.keep (by go_grown)).c2 h1' (by omega) (by omega)).mono ?_); rintro e w2 ⟨rfl, b2⟩; have B2 : Below w1.heap.size w1 w2 := chain (w := w1) (by go_grown) b2; have d6 := (HH.out.keep B2).c6; have d7 := (HH.out.keep B2).c7) | fail)
    all_goals go_wp2
    all_goals go_ret2
    all_goals exact ⟨⟨0, false, dbl_least h1 h2 HL.out (fun e => HE.out ((twi_eq a b h).2 e)), rfl⟩, H1.trans (Below.mono (w := w1) (by go_grown) H1.size)⟩
theorem iDbl_no (a b : Int) (w : World) (hs : stB a b = false) :
    Calls Try.prog 17 #[.int .i64 a, .int .i64 b] w fun e w' => e = .returned (.tuple #[.int .i64 0, .bool false]) ∧ Below w.heap.size w w' := by
  go_enter Try.func17, Try.ntmps17
  go_wp2_with (go_at_call 20; refine (isStreet_any _ _ _).mono ?_; rintro e w' ⟨rfl, rfl⟩)
  go_ret2
  exact ⟨rfl, by go_grown⟩
theorem FnExactDoubleSum_law (a b : Int) (_h0 : (Lit.int .i64 a).wf = true) (_h1 : (Lit.int .i64 b).wf = true) (w : World) :
    Calls Try.prog 7 #[.int .i64 a, .int .i64 b] w fun e w' => e = .returned (.bool true) ∧ Below w.heap.size w w' := by
  cases hs : stB a b with
  | true =>
    go_enter Try.func7, Try.ntmps7
    go_wp2_with fail
    refine (sDbl_yes _ _ _ hs).mono ?_
    rintro e w' ⟨⟨h, ok, hr, rfl⟩, rfl⟩
    go_wp2_with fail
    refine (iDbl_yes _ _ _ hs).mono ?_
    rintro e w1 ⟨⟨g, op, hr2, rfl⟩, b1⟩
    obtain ⟨e0, e1⟩ := hr.uniq hr2
    subst e0; subst e1
    clear hr hr2
    go_wp2
    go_ret
    exact ⟨rfl, b1⟩
  | false =>
    go_enter Try.func7, Try.ntmps7
    go_wp2_with (first | (go_at_call 16; go_must ((with_reducible refine (sDbl_no _ _ _ hs).mono ?_); rintro e w' ⟨rfl, rfl⟩)) | (go_at_call 17; go_must ((with_reducible refine (iDbl_no _ _ _ hs).mono ?_); rintro e w1 ⟨rfl, b1⟩)))
    go_ret
    exact ⟨rfl, b1⟩
end Go.Proofs.Ytblkkjjoidbdlaa
