/-
  The least last house for a sum: both sides.
-/
import Derived.Test.YtblkkjjoidbdlaaHoLst
namespace Go.Proofs.Ytblkkjjoidbdlaa
open Go.RowKit

/-- The program's test: has the street up to here the sum? -/
def farB (f s : Int) (l : Int) : Bool := decide (s ≤ sm f l)
set_option maxHeartbeats 1000000 in
theorem lfC_any (f s l : Int) (bf bs : Nat) (w : World) (c0 : w.cell? ⟨bf, 0, none⟩ = some (.int .i64 f)) (c1 : w.cell? ⟨bs, 0, none⟩ = some (.int .i64 s)) (hbs : bs < w.heap.size)
    (h1 : 0 ≤ f) (h2 : f ≤ 2000000) (h3 : f - 1 ≤ l) (h4 : l ≤ 2000000) :
    Calls Try.prog 38 #[.int .i64 l, .pointer (some ⟨bf, 0, none⟩), .pointer (some ⟨bs, 0, none⟩)] w fun e w' => e = .returned (.bool (farB f s l)) ∧ Below w.heap.size w w' := by
  have HZ : Hid (farB f s l = decide (sm f l ≥ s)) := rfl
  go_enter Try.func38, Try.ntmps38
  go_wp2
  go_region_with (go_at_call 22; (with_reducible refine (sumOf_any f l _ h1 h2 h3 h4).mono ?_); rintro e w1 ⟨rfl, b1⟩; have B1 : Below w.heap.size w w1 := chain (w := w) (by go_grown) b1; have d1 := (B1.cell (p := ⟨bs, 0, none⟩) hbs).trans c1)
  all_goals go_wp2
  all_goals go_ret
  all_goals exact ⟨ret_bool (by rw [HZ.out]), by go_grown⟩
theorem lastForSum_any (f s : Int) (w : World) (hf : houB f = true) (hs : s ≤ sm f 1000000) :
    Calls Try.prog 30 #[.int .i64 f, .int .i64 s] w fun e w' => (∃ l : Int, e = .returned (.tuple #[.int .i64 l, .bool true]) ∧ Reach f s l ∧ l ≤ 1000000) ∧ Below w.heap.size w w' := by
  obtain ⟨h1, h2⟩ := (houB_iff f).1 hf
  have HS := Lib.hid hs
  have e74 : ∀ args w, (callFunc 38 args).run Try.prog w = .ok (.enter 38 args) w := enters_of Try.func38 (by kernel_rfl) rfl
  have E74 := Lib.hid e74
  clear e74 hf hs
  go_enter Try.func30, Try.ntmps30
  go_wp2_with fail
  have F0 := (Blk.new w #[.int .i64 f] 3).alloc (.cells #[.int .i64 s] 3)
  have F1 := Blk.new (w.alloc (.cells #[.int .i64 f] 3)) #[.int .i64 s] 3
  have H0 : Below w.heap.size w ((w.alloc (.cells #[.int .i64 f] 3)).alloc (.cells #[.int .i64 s] 3)) := by go_grown
  refine (leastIn_any f 1000000 38 _ (farB f s) _ (by omega) h2 (by omega) E74.out ?_ ?_).mono ?_
  · intro h W hx hy hW
    have c0 := (F0.keep hW).cell 0
    have c1 := (F1.keep hW).cell 0
    have hlt := (F1.keep hW).lt
    simp only [World.size_alloc] at c1 hlt
    exact lfC_any f s h w.heap.size (w.heap.size + 1) W c0 c1 hlt (by omega) (by omega) (by omega) (by omega)
  · intro x y hx hxy hy h
    unfold farB at *
    simp only [decide_eq_true_eq] at *
    exact Int.le_trans h (sm_mono f x y (by omega) (by omega) hxy)
  rintro e w1 ⟨⟨l, ok, rfl, hl⟩, b1⟩
  have H1 := chain (w := w) H0 b1
  have hok : ok = true := by
    rcases hl with ⟨h, _⟩ | ⟨_, _, h⟩
    · exact h
    · have := h 1000000 h2 (Int.le_refl _)
      unfold farB at this
      have hs := HS.out
      simp only [decide_eq_false_iff_not] at this
      exact absurd hs this
  subst hok
  have HL := Lib.hid hl
  clear hl b1 F0 F1
  go_wp2
  go_ret2
  refine ⟨⟨l, rfl, ?_, ?_⟩, H1⟩
  · have hl := HL.out
    obtain ⟨a1, a2, a3⟩ := hl.least
    refine ⟨a1, by unfold farB at a2; simpa using a2, ?_⟩
    rcases a3 with a3 | a3
    · exact .inl a3
    · unfold farB at a3
      simp only [decide_eq_false_iff_not] at a3
      exact .inr (by omega)
  · rcases HL.out with ⟨_, _, h, _⟩ | ⟨h, _⟩
    · exact h
    · cases h
/-- What LastForSum answers. -/
def lfsB (f s : Int) : Bool := houB f && houB s
theorem iLfs_yes (f s : Int) (w : World) (hb : lfsB f s = true) :
    Calls Try.prog 15 #[.int .i64 f, .int .i64 s] w fun e w' => (∃ l : Int, e = .returned (.tuple #[.int .i64 l, .bool true]) ∧ Reach f s l ∧ l ≤ 1000000) ∧ Below w.heap.size w w' := by
  unfold lfsB at hb
  simp only [Bool.and_eq_true] at hb
  obtain ⟨hf, hs⟩ := hb
  have HF := Lib.hid hf
  have HS : Hid (s ≤ sm f 1000000) := by
    show _ ≤ _
    have h1 := (houB_iff f).1 hf
    have h2 := (houB_iff s).1 hs
    have := sm_ge f 1000000 (by omega) (by omega)
    omega
  go_enter Try.func15, Try.ntmps15
  go_wp2_with (first | (go_at_call 32; refine (isHouse_any _ _).mono ?_; rintro e w' ⟨rfl, rfl⟩) | (go_at_call 29; refine (isRunSum_any _ _).mono ?_; rintro e w' ⟨rfl, rfl⟩) | (go_at_call 30; refine (lastForSum_any f s _ HF.out HS.out).mono ?_; rintro e w1 ⟨⟨l, rfl, hr, hl⟩, b1⟩; have HR := Lib.hid hr; clear hr))
  go_ret2
  exact ⟨⟨l, rfl, HR.out, hl⟩, b1⟩
theorem iLfs_no (f s : Int) (w : World) (hb : lfsB f s = false) :
    Calls Try.prog 15 #[.int .i64 f, .int .i64 s] w fun e w' => e = .returned (.tuple #[.int .i64 0, .bool false]) ∧ Below w.heap.size w w' := by
  unfold lfsB at hb
  cases hf : houB f with
  | false =>
    clear hb
    go_enter Try.func15, Try.ntmps15
    go_wp2_with (first | (go_at_call 32; refine (isHouse_any _ _).mono ?_; rintro e w' ⟨rfl, rfl⟩) | (go_at_call 29; refine (isRunSum_any _ _).mono ?_; rintro e w' ⟨rfl, rfl⟩))
    go_ret2
    exact ⟨rfl, Below.refl _ _⟩
  | true =>
    rw [hf, Bool.true_and] at hb
    go_enter Try.func15, Try.ntmps15
    go_wp2_with (first | (go_at_call 32; refine (isHouse_any _ _).mono ?_; rintro e w' ⟨rfl, rfl⟩) | (go_at_call 29; refine (isRunSum_any _ _).mono ?_; rintro e w' ⟨rfl, rfl⟩))
    go_ret2
    exact ⟨rfl, Below.refl _ _⟩

theorem sLfs_yes (f s : Int) (w : World) (hb : lfsB f s = true) :
    Calls Try.prog 14 #[.int .i64 f, .int .i64 s] w fun e w' => (∃ l : Int, e = .returned (.tuple #[.int .i64 l, .bool true]) ∧ Reach f s l) ∧ w = w' := by
  unfold lfsB at hb
  simp only [Bool.and_eq_true] at hb
  obtain ⟨hf, hs⟩ := hb
  obtain ⟨h1, h2⟩ := (houB_iff f).1 hf
  obtain ⟨h3, h4⟩ := (houB_iff s).1 hs
  go_enter Try.func14, Try.ntmps14
  go_wp2_with (first | (go_at_call 31; refine (hoMost_any _ _).mono ?_; rintro e w' ⟨rfl, rfl⟩) | (go_at_call 26; refine (hoAsked_any _ _).mono ?_; rintro e w' ⟨rfl, rfl⟩))
  go_loop [6] (fun v => ∃ l : Int, v = .int .i64 l ∧ f ≤ l ∧ l ≤ 1000000 ∧ Hid (l = f ∨ sm f (l - 1) < s)) (fun v => (1000000 - intOf v).toNat)
  case atStart => exact ⟨f, rfl, Int.le_refl _, h2, (.inl rfl : f = f ∨ sm f (f - 1) < s)⟩
  case round =>
    obtain ⟨l, rfl, hl1, hl2, HL⟩ := hrel
    by_cases hlt : sm f l < s
    · have hll : l + 1 ≤ 1000000 := by have := sm_ge f l h1 hl1; omega
      have HLT := Lib.hid hlt
      go_wp2_with (go_at_call 27; refine (hoSum_any _ _ _ (by omega) (by omega) (by omega) (by omega)).mono ?_; rintro e w' ⟨rfl, rfl⟩)
      go_round
      case rel => exact ⟨l + 1, rfl, by omega, hll, by show _ ∨ _; rw [show l + 1 - 1 = l by omega]; exact .inr HLT.out⟩
      case measure => simp [intOf]; omega
    · have HLT : Hid (s ≤ sm f l) := by show _ ≤ _; omega
      go_wp2_with (go_at_call 27; refine (hoSum_any _ _ _ (by omega) (by omega) (by omega) (by omega)).mono ?_; rintro e w' ⟨rfl, rfl⟩)
      go_ret2
      exact ⟨⟨l, rfl, hl1, HLT.out, HL.out⟩, rfl⟩
theorem sLfs_no (f s : Int) (w : World) (hb : lfsB f s = false) :
    Calls Try.prog 14 #[.int .i64 f, .int .i64 s] w fun e w' => e = .returned (.tuple #[.int .i64 0, .bool false]) ∧ w = w' := by
  unfold lfsB at hb
  cases hf : houB f with
  | false =>
    clear hb
    go_enter Try.func14, Try.ntmps14
    go_wp2_with (first | (go_at_call 31; refine (hoMost_any _ _).mono ?_; rintro e w' ⟨rfl, rfl⟩) | (go_at_call 26; refine (hoAsked_any _ _).mono ?_; rintro e w' ⟨rfl, rfl⟩))
    go_ret2
    exact ⟨rfl, rfl⟩
  | true =>
    rw [hf, Bool.true_and] at hb
    go_enter Try.func14, Try.ntmps14
    go_wp2_with (first | (go_at_call 31; refine (hoMost_any _ _).mono ?_; rintro e w' ⟨rfl, rfl⟩) | (go_at_call 26; refine (hoAsked_any _ _).mono ?_; rintro e w' ⟨rfl, rfl⟩))
    go_ret2
    exact ⟨rfl, rfl⟩
theorem FnExactLastForSum_law (f s : Int) (_h0 : (Lit.int .i64 f).wf = true) (_h1 : (Lit.int .i64 s).wf = true) (w : World) :
    Calls Try.prog 6 #[.int .i64 f, .int .i64 s] w fun e w' => e = .returned (.bool true) ∧ Below w.heap.size w w' := by
  cases hb : lfsB f s with
  | true =>
    have h1 : 1 ≤ f := by unfold lfsB at hb; simp only [Bool.and_eq_true] at hb; exact ((houB_iff f).1 hb.1).1
    go_enter Try.func6, Try.ntmps6
    go_wp2_with (first | (go_at_call 14; go_must ((with_reducible refine (sLfs_yes _ _ _ hb).mono ?_); rintro e w' ⟨⟨l, rfl, hr⟩, rfl⟩; have HR := Lib.hid hr; clear hr)) | (go_at_call 15; go_must ((with_reducible refine (iLfs_yes _ _ _ hb).mono ?_); rintro e w1 ⟨⟨m, rfl, hq, hm⟩, b1⟩; have e0 := HR.out.uniq h1 hq; subst e0; clear hq)))
    go_ret
    exact ⟨rfl, b1⟩
  | false =>
    go_enter Try.func6, Try.ntmps6
    go_wp2_with (first | (go_at_call 14; go_must ((with_reducible refine (sLfs_no _ _ _ hb).mono ?_); rintro e w' ⟨rfl, rfl⟩)) | (go_at_call 15; go_must ((with_reducible refine (iLfs_no _ _ _ hb).mono ?_); rintro e w1 ⟨rfl, b1⟩)))
    go_ret
    exact ⟨rfl, b1⟩
end Go.Proofs.Ytblkkjjoidbdlaa
