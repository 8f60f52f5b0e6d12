/-
  The law of BalancedHouse: the program, and the law.
-/
import Derived.Test.YtblkkjjoidbdlaaHoBal
import Derived.Laws.EntriesVeiled
namespace Go.Proofs.Ytblkkjjoidbdlaa
open Go.RowKit

theorem balB_iff (a b x : Int) : balB a b x = decide (sqr a b ≤ x * x) := by
  unfold balB; rw [decide_eq_decide]; exact bal_iff a b x
theorem bal_call (a b : Int) (b2 b3 b6 b7 : Nat) (W : World) (H : Bl4 W a b b2 b3 b6 b7) (h1 : 1 ≤ a) (h2 : a ≤ b) (h3 : b ≤ 1000000) :
    Calls Try.prog 24 #[.int .i64 a, .int .i64 b, .func (.func 25) #[] #[.pointer (some ⟨b6, 0, none⟩), .pointer (some ⟨b7, 0, none⟩)]] W fun e w' => (∃ h : Int, e = .returned (.tuple #[.int .i64 h, .bool true]) ∧ LeastOf (fun x => decide (sqr a b ≤ x * x)) a h ∧ h ≤ b) ∧ Bl4 w' a b b2 b3 b6 b7 ∧ Below W.heap.size W w' := by
  have e49 : ∀ args w, (callFunc 25 args).run Try.prog w = .ok (.enter 25 args) w := enters_of Try.func25 (by kernel_rfl) rfl
  refine (leastIn_any a b 25 _ (balB a b) W (by omega) h2 (by omega) e49 ?_ ?_).mono ?_
  · intro h W' hx hy hW
    exact bl3_any h a b b2 b3 b6 b7 W' (H.keep hW) (by omega) hx hy h3
  · intro x y hx hxy hy h
    rw [balB_iff] at *
    simp only [decide_eq_true_eq] at *
    exact Int.le_trans h (sq_le (by omega) hxy)
  rintro e w' ⟨⟨h, ok, rfl, hl⟩, hb⟩
  have hok : ok = true := by
    rcases hl with ⟨h, _⟩ | ⟨_, _, h⟩
    · exact h
    · have := h b h2 (Int.le_refl _)
      rw [balB_iff, decide_eq_false_iff_not] at this
      exact absurd (sqr_lo a b h1 h2).2 this
  subst hok
  refine ⟨⟨h, rfl, ?_, ?_⟩, H.keep hb, hb⟩
  · have := hl.least
    rwa [show balB a b = fun x => decide (sqr a b ≤ x * x) from funext (balB_iff a b)] at this
  · rcases hl with ⟨_, _, h, _⟩ | ⟨h, _⟩
    · exact h
    · cases h
set_option maxHeartbeats 2000000 in
theorem iBal_yes (a b : Int) (w : World) (hs : stB a b = true) :
    Calls Try.prog 9 #[.int .i64 a, .int .i64 b] w fun e w' => (∃ (h : Int) (ok : Bool), BalAns (sqr a b) h ok ∧ e = .returned (.tuple #[.int .i64 h, .bool ok])) ∧ Below w.heap.size w w' := by
  obtain ⟨h1, h2, h3⟩ := (stB_iff a b).1 hs
  go_enter Try.func9, Try.ntmps9
  go_wp2_with (go_at_call 20; refine (isStreet_any _ _ _).mono ?_; rintro e w' ⟨rfl, rfl⟩)
  have B0 : Below w.heap.size w ((((w.alloc (.cells #[.int .i64 a] 3)).alloc (.cells #[.int .i64 b] 3)).alloc (.cells #[.func (.func 21) #[] #[.pointer (some ⟨w.heap.size, 0, none⟩)]] 33)).alloc (.cells #[.func (.func 23) #[] #[.pointer (some ⟨w.heap.size + 1, 0, none⟩)]] 33)) := by go_grown
  refine (bal_call a b w.heap.size (w.heap.size + 1) (w.heap.size + 2) (w.heap.size + 3) _ ?_ h1 h2 h3).mono ?_
  · exact ⟨by simp [go_sem], by simp [go_sem], by simp [go_sem], by simp [go_sem], by (simp <;> omega), by (simp <;> omega), by (simp <;> omega), by (simp <;> omega)⟩
  rintro e w1 ⟨⟨h, rfl, hl, hhb⟩, hbl, b1⟩
  have H1 := chain (w := w) B0 b1
  have hab : a ≤ h := hl.1
  have HL := Lib.hid hl
  have HH := Lib.hid hbl
  have c6 := hbl.c6
  have c7 := hbl.c7
  have h1' : 0 ≤ a := by omega
  have h2' : a ≤ h := hab
  have h3' : h ≤ b := hhb
  have h4' : b ≤ 1000000 := h3
  clear hl hbl b1 B0
  by_cases heq : sm a (h - 1) = sm (h + 1) b
  · have HE := Lib.hid heq
    have hq : (sm a (h - 1) == sm (h + 1) b) = true := by simpa using heq
    clear heq
    go_wp2
    go_region_with (first | (go_at_call 21; (with_reducible refine (bl1_any h a w.heap.size _ (HH.out.keep (by go_grown)).c2 h1' (by omega) h2' (by omega)).mono ?_); rintro e w2 ⟨rfl, b2⟩; have B2 : Below w1.heap.size w1 w2 := chain (w := w1) (by go_grown) b2; have d6 := (HH.out.keep B2).c6; have d7 := (HH.out.keep B2).c7) | (go_at_call 23; (with_reducible refine (bl2_any h b (w.heap.size + 1) _ (HH.out.keep (by go_grown)).c3 (by omega) h3' h4').mono ?_); rintro e w2 ⟨rfl, b2⟩; have B2 : Below w1.heap.size w1 w2 := chain (w := w1) (by go_grown) b2; have d6 := (HH.out.keep B2).c6; have d7 := (HH.out.keep B2).c7))
    all_goals go_wp2
    all_goals go_ret2
    all_goals exact ⟨⟨h, true, .inl ⟨rfl, by omega, (bal_eq a b h).1 HE.out⟩, rfl⟩, H1.trans (Below.mono (w := w1) (by go_grown) H1.size)⟩
  · have HE := Lib.hid heq
    have hq : (sm a (h - 1) == sm (h + 1) b) = false := by simpa using heq
    clear heq
    go_wp2
    go_region_with (first | (go_at_call 21; (with_reducible refine (bl1_any h a w.heap.size _ (HH.out.keep (by go_grown)).c2 h1' (by omega) h2' (by omega)).mono ?_); rintro e w2 ⟨rfl, b2⟩; have B2 : Below w1.heap.size w1 w2 := chain (w := w1) (by go_grown) b2; have d6 := (HH.out.keep B2).c6; have d7 := (HH.out.keep B2).c7) | (go_at_call 23; (with_reducible refine (bl2_any h b (w.heap.size + 1) _ (HH.out.keep (by go_grown)).c3 (by omega) h3' h4').mono ?_); rintro e w2 ⟨rfl, b2⟩; have B2 : Below w1.heap.size w1 w2 := chain (w := w1) (by go_grown) b2; have d6 := (HH.out.keep B2).c6; have d7 := (HH.out.keep B2).c7))
    all_goals go_wp2
    all_goals go_ret2
    all_goals exact ⟨⟨0, false, bal_least h1 h2 HL.out (fun e => HE.out ((bal_eq a b h).2 e)), rfl⟩, H1.trans (Below.mono (w := w1) (by go_grown) H1.size)⟩
theorem iBal_no (a b : Int) (w : World) (hs : stB a b = false) :
    Calls Try.prog 9 #[.int .i64 a, .int .i64 b] w fun e w' => e = .returned (.tuple #[.int .i64 0, .bool false]) ∧ Below w.heap.size w w' := by
  go_enter Try.func9, Try.ntmps9
  go_wp2_with (go_at_call 20; refine (isStreet_any _ _ _).mono ?_; rintro e w' ⟨rfl, rfl⟩)
  go_ret2
  exact ⟨rfl, by go_grown⟩
theorem FnExactBalancedHouse_law (a b : Int) (_h0 : (Lit.int .i64 a).wf = true) (_h1 : (Lit.int .i64 b).wf = true) (w : World) :
    Calls Try.prog 3 #[.int .i64 a, .int .i64 b] w fun e w' => e = .returned (.bool true) ∧ Below w.heap.size w w' := by
  cases hs : stB a b with
  | true =>
    go_enter Try.func3, Try.ntmps3
    go_wp2_with fail
    refine (sBal_yes _ _ _ hs).mono ?_
    rintro e w' ⟨⟨h, ok, hr, rfl⟩, rfl⟩
    go_wp2_with fail
    refine (iBal_yes _ _ _ hs).mono ?_
    rintro e w1 ⟨⟨g, op, hr2, rfl⟩, b1⟩
    obtain ⟨e0, e1⟩ := hr.uniq hr2
    subst e0; subst e1
    clear hr hr2
    go_wp2
    go_ret
    exact ⟨rfl, b1⟩
  | false =>
    go_enter Try.func3, Try.ntmps3
    go_wp2_with (first | (go_at_call 8; go_must ((with_reducible refine (sBal_no _ _ _ hs).mono ?_); rintro e w' ⟨rfl, rfl⟩)) | (go_at_call 9; go_must ((with_reducible refine (iBal_no _ _ _ hs).mono ?_); rintro e w1 ⟨rfl, b1⟩)))
    go_ret
    exact ⟨rfl, b1⟩
end Go.Proofs.Ytblkkjjoidbdlaa
