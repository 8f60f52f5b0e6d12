/-
  The laws of CountWithout, CounterShows and CountOfCounter.
-/
import Derived.Test.YtdgdjgefjhkpbabDoorDiWo
import Derived.Test.YtdgdjgefjhkpbabDoorDiWs
namespace Go.Proofs.YtdgdjgefjhkpbabDoor
open Go.RowKit

/-- What CountWithout answers. -/
def cwB (n d : Int) : Bool := nuB n && dgtB d
def cwA' (n d : Int) : Int := if cwB n d = true then cw d n else 0
theorem iCw_any (n d : Int) (w : World) (htab : Tab w) :
    Calls Tryd.prog 16 #[.int .i64 n, .int .i64 d] w fun e w' => e = .returned (.tuple #[.int .i64 (cwA' n d), .bool (cwB n d)]) ∧ Below w.heap.size w w' := by
  cases hn : nuB n with
  | true =>
    cases hd : dgtB d with
    | true =>
      obtain ⟨h0, h1⟩ := (nuB_iff n).1 hn
      have HDD := Lib.hid ((dgtB_iff d).1 hd)
      have hb : cwB n d = true := by unfold cwB; rw [hn, hd]; rfl
      have HZ : Hid (cw d n = cwA' n d) := by show _ = _; unfold cwA'; rw [if_pos hb]
      rw [hb]
      clear hb
      have HC := Lib.hid (countWithout_any n d w h0 h1 htab)
      clear htab
      go_enter Tryd.func16, Tryd.ntmps16
      go_wp2_with (first | (go_at_call 23; refine (isWritable_any _ _).mono ?_; rintro e w' ⟨rfl, rfl⟩) | (go_at_call 33; refine (isDigit_any _ _).mono ?_; rintro e w' ⟨rfl, rfl⟩) | (go_at_call 34; refine HC.out.mono ?_; rintro e w1 ⟨rfl, b1⟩))
      go_ret2
      exact ⟨ret_ib HZ.out rfl, b1⟩
    | false =>
      have hb : cwB n d = false := by unfold cwB; rw [hn, hd]; rfl
      have HZ : Hid (0 = cwA' n d) := by show _ = _; unfold cwA'; rw [if_neg (by simp [hb])]
      rw [hb]
      clear hb
      go_enter Tryd.func16, Tryd.ntmps16
      go_wp2_with (first | (go_at_call 23; refine (isWritable_any _ _).mono ?_; rintro e w' ⟨rfl, rfl⟩) | (go_at_call 33; refine (isDigit_any _ _).mono ?_; rintro e w' ⟨rfl, rfl⟩))
      go_ret2
      exact ⟨ret_ib HZ.out rfl, Below.refl _ _⟩
  | false =>
    have hb : cwB n d = false := by unfold cwB; rw [hn]; rfl
    have HZ : Hid (0 = cwA' n d) := by show _ = _; unfold cwA'; rw [if_neg (by simp [hb])]
    rw [hb]
    clear hb
    go_enter Tryd.func16, Tryd.ntmps16
    go_wp2_with (first | (go_at_call 23; refine (isWritable_any _ _).mono ?_; rintro e w' ⟨rfl, rfl⟩))
    go_ret2
    exact ⟨ret_ib HZ.out rfl, Below.refl _ _⟩
theorem sCw_any (n d : Int) (w : World) :
    Calls Tryd.prog 15 #[.int .i64 n, .int .i64 d] w fun e w' => e = .returned (.tuple #[.int .i64 (cwA' n d), .bool (cwB n d)]) ∧ Below w.heap.size w w' := by
  cases hn : nuB n with
  | true =>
    cases hd : dgtB d with
    | true =>
      obtain ⟨h0, h1⟩ := (nuB_iff n).1 hn
      have HDD := Lib.hid ((dgtB_iff d).1 hd)
      have hb : cwB n d = true := by unfold cwB; rw [hn, hd]; rfl
      have HZ : Hid (cw d n = cwA' n d) := by show _ = _; unfold cwA'; rw [if_pos hb]
      rw [hb]
      clear hb
      have HC := Lib.hid (diWithout_any n d w h0 h1 HDD.out)
      go_enter Tryd.func15, Tryd.ntmps15
      go_wp2_with (first | (go_at_call 21; refine (diGood_any _ _).mono ?_; rintro e w' ⟨rfl, rfl⟩) | (go_at_call 31; refine (diDigit_any _ _).mono ?_; rintro e w' ⟨rfl, rfl⟩) | (go_at_call 32; refine HC.out.mono ?_; rintro e w1 ⟨rfl, b1⟩))
      go_ret2
      exact ⟨ret_ib HZ.out rfl, b1⟩
    | false =>
      have hb : cwB n d = false := by unfold cwB; rw [hn, hd]; rfl
      have HZ : Hid (0 = cwA' n d) := by show _ = _; unfold cwA'; rw [if_neg (by simp [hb])]
      rw [hb]
      clear hb
      go_enter Tryd.func15, Tryd.ntmps15
      go_wp2_with (first | (go_at_call 21; refine (diGood_any _ _).mono ?_; rintro e w' ⟨rfl, rfl⟩) | (go_at_call 31; refine (diDigit_any _ _).mono ?_; rintro e w' ⟨rfl, rfl⟩))
      go_ret2
      exact ⟨ret_ib HZ.out rfl, Below.refl _ _⟩
  | false =>
    have hb : cwB n d = false := by unfold cwB; rw [hn]; rfl
    have HZ : Hid (0 = cwA' n d) := by show _ = _; unfold cwA'; rw [if_neg (by simp [hb])]
    rw [hb]
    clear hb
    go_enter Tryd.func15, Tryd.ntmps15
    go_wp2_with (first | (go_at_call 21; refine (diGood_any _ _).mono ?_; rintro e w' ⟨rfl, rfl⟩))
    go_ret2
    exact ⟨ret_ib HZ.out rfl, Below.refl _ _⟩
theorem FnExactCountWithout_law (n d : Int) (_h0 : (Lit.int .i64 n).wf = true) (_h1 : (Lit.int .i64 d).wf = true) (w : World) (htab : Tab w) :
    Calls Tryd.prog 6 #[.int .i64 n, .int .i64 d] w fun e w' => e = .returned (.bool true) ∧ Below w.heap.size w w' := by
  have HT := Lib.hid (fun W hW => iCw_any n d W (htab.keep hW))
  clear htab
  go_enter Tryd.func6, Tryd.ntmps6
  go_wp2_with (first | (go_at_call 15; go_must ((with_reducible refine (sCw_any _ _ _).mono ?_); rintro e w1 ⟨rfl, b1⟩)) | (go_at_call 16; go_must ((refine (HT.out _ b1).mono ?_); rintro e w2 ⟨rfl, b2⟩)))
  go_ret
  exact ⟨rfl, chain b1 b2⟩

/-- Has a counter come so far? -/
def cmB (d c n : Int) : Bool := decide (c ≤ cw d n)
def csB (c d : Int) : Bool := decide (1 ≤ c ∧ c ≤ 1000000) && dgtB d
theorem csC_any (d c n : Int) (bd bc : Nat) (w : World) (F0 : Blk w bd #[.int .i64 d] 3) (F1 : Blk w bc #[.int .i64 c] 3) (h0 : 0 ≤ n) (h1 : n ≤ 1000000000000) (htab : Tab w) :
    Calls Tryd.prog 36 #[.int .i64 n, .pointer (some ⟨bd, 0, none⟩), .pointer (some ⟨bc, 0, none⟩)] w fun e w' => e = .returned (.bool (cmB d c n)) ∧ Below w.heap.size w w' := by
  have HC : Hid (∀ W, Below w.heap.size w W → Calls Tryd.prog 34 #[.int .i64 n, .int .i64 d] W fun e w' => e = .returned (.int .i64 (cw d n)) ∧ Below W.heap.size W w') := fun W hW => countWithout_any n d W h0 h1 (htab.keep hW)
  have HZ : Hid (cmB d c n = decide (cw d n ≥ c)) := rfl
  have HF0 := Lib.hid F0
  have HF1 := Lib.hid F1
  have c0 := F0.cell 0
  have c1 := F1.cell 0
  simp at c0 c1
  clear F0 F1 htab
  go_enter Tryd.func36, Tryd.ntmps36
  go_wp2
  go_region_with (go_at_call 34; (refine (HC.out _ (by go_grown)).mono ?_); rintro e w1 ⟨rfl, b1⟩; have B1 : Below w.heap.size w w1 := chain (w := w) (by go_grown) b1; have e0 := (HF0.out.keep B1).cell 0; have e1 := (HF1.out.keep B1).cell 0; simp at e0 e1)
  all_goals go_wp2
  all_goals go_ret
  all_goals exact ⟨ret_bool (by rw [HZ.out]), by go_grown⟩
theorem csL_any (d c : Int) (bd bc : Nat) (w X : World) (hd : 0 ≤ d ∧ d ≤ 9) (F0 : Blk X bd #[.int .i64 d] 3) (F1 : Blk X bc #[.int .i64 c] 3) (hX : Below w.heap.size w X) (htab : Tab X) :
    Calls Tryd.prog 35 #[.int .i64 1, .int .i64 1000000000000, .func (.func 36) #[] #[.pointer (some ⟨bd, 0, none⟩), .pointer (some ⟨bc, 0, none⟩)]] X fun e w' => (∃ (h : Int) (ok : Bool), e = .returned (.tuple #[.int .i64 h, .bool ok]) ∧ LeastIs (cmB d c) 1 1000000000000 h ok) ∧ Below w.heap.size w w' := by
  refine (leastIn_any 1 1000000000000 36 _ (cmB d c) X (by omega) (by omega) (by omega) (enters_of Tryd.func36 (by kernel_rfl) rfl) ?_ ?_).mono ?_
  · intro h W hx hy hW
    exact csC_any d c h bd bc W (F0.keep hW) (F1.keep hW) (by omega) hy (htab.keep hW)
  · intro x y hx hxy hy h
    unfold cmB at *
    simp only [decide_eq_true_eq] at *
    have := cw_mono (b := d) hd (x := x) (y := y) (by omega) hxy
    omega
  rintro e w1 ⟨h, b1⟩
  exact ⟨h, hX.trans (b1.mono hX.size)⟩
theorem iCs_yes (c d : Int) (w : World) (htab : Tab w) (hb : csB c d = true) :
    Calls Tryd.prog 18 #[.int .i64 c, .int .i64 d] w fun e w' => (∃ (h : Int) (ok : Bool), e = .returned (.tuple #[.int .i64 h, .bool ok]) ∧ LeastIs (cmB d c) 1 1000000000000 h ok) ∧ Below w.heap.size w w' := by
  unfold csB at hb
  simp only [Bool.and_eq_true, decide_eq_true_eq] at hb
  obtain ⟨⟨h1, h2⟩, hd⟩ := hb
  have hdd := (dgtB_iff d).1 hd
  have HL := Lib.hid (fun bd bc X F0 F1 hX => csL_any d c bd bc w X hdd F0 F1 hX (htab.keep hX))
  clear hdd htab
  go_enter Tryd.func18, Tryd.ntmps18
  have F0 := Blk.new (w.alloc (.cells #[.int .i64 c] 3)) #[.int .i64 d] 3
  have F1 := (Blk.new w #[.int .i64 c] 3).alloc (.cells #[.int .i64 d] 3)
  simp only [World.size_alloc] at F0
  have HF0 := Lib.hid F0
  have HF1 := Lib.hid F1
  clear F0 F1
  go_wp2_with (first | (go_at_call 33; refine (isDigit_any _ _).mono ?_; rintro e w' ⟨rfl, rfl⟩) | (go_at_call 35; go_must (refine (HL.out _ _ _ HF0.out HF1.out (by go_grown)).mono ?_; rintro e w1 ⟨⟨h, ok, rfl, hl⟩, b1⟩; have HL2 := Lib.hid hl; clear hl)))
  go_ret2
  exact ⟨⟨h, ok, rfl, HL2.out⟩, b1⟩
theorem iCs_no (c d : Int) (w : World) (hb : csB c d = false) :
    Calls Tryd.prog 18 #[.int .i64 c, .int .i64 d] w fun e w' => e = .returned (.tuple #[.int .i64 0, .bool false]) ∧ Below w.heap.size w w' := by
  by_cases h1 : c < 1
  · clear hb
    go_enter Tryd.func18, Tryd.ntmps18
    go_wp2
    go_ret2
    exact ⟨rfl, by go_grown⟩
  · by_cases h2 : 1000000 < c
    · clear hb
      go_enter Tryd.func18, Tryd.ntmps18
      go_wp2
      go_ret2
      exact ⟨rfl, by go_grown⟩
    · have hd : dgtB d = false := by
        unfold csB at hb
        rw [decide_eq_true (show 1 ≤ c ∧ c ≤ 1000000 by omega), Bool.true_and] at hb
        exact hb
      clear hb
      go_enter Tryd.func18, Tryd.ntmps18
      go_wp2_with (first | (go_at_call 33; refine (isDigit_any _ _).mono ?_; rintro e w' ⟨rfl, rfl⟩))
      go_ret2
      exact ⟨rfl, by go_grown⟩
theorem sCs_no (c d : Int) (w : World) (hb : csB c d = false) :
    Calls Tryd.prog 17 #[.int .i64 c, .int .i64 d] w fun e w' => e = .returned (.tuple #[.int .i64 0, .bool false]) ∧ Below w.heap.size w w' := by
  cases hc : decide (1 ≤ c ∧ c ≤ 1000000) with
  | true =>
    have hd : dgtB d = false := by
      unfold csB at hb
      rwa [hc, Bool.true_and] at hb
    clear hb
    go_enter Tryd.func17, Tryd.ntmps17
    go_wp2_with (first | (go_at_call 26; refine (in_any _ _ _ _).mono ?_; rintro e w' ⟨rfl, rfl⟩) | (go_at_call 31; refine (diDigit_any _ _).mono ?_; rintro e w' ⟨rfl, rfl⟩))
    go_ret2
    exact ⟨rfl, by go_grown⟩
  | false =>
    clear hb
    go_enter Tryd.func17, Tryd.ntmps17
    go_wp2_with (first | (go_at_call 26; refine (in_any _ _ _ _).mono ?_; rintro e w' ⟨rfl, rfl⟩))
    go_ret2
    exact ⟨rfl, by go_grown⟩
set_option maxHeartbeats 1000000 in
theorem sCs_yes (c d : Int) (w : World) (hb : csB c d = true) :
    Calls Tryd.prog 17 #[.int .i64 c, .int .i64 d] w fun e w' => (∃ (h : Int) (ok : Bool), e = .returned (.tuple #[.int .i64 h, .bool ok]) ∧ LeastIs (cmB d c) 1 1000000000000 h ok) ∧ Below w.heap.size w w' := by
  unfold csB at hb
  simp only [Bool.and_eq_true] at hb
  obtain ⟨hc, hd⟩ := hb
  have HCC := Lib.hid (of_decide_eq_true hc)
  have HD := Lib.hid ((dgtB_iff d).1 hd)
  go_enter Tryd.func17, Tryd.ntmps17
  go_wp2_with (first | (go_at_call 26; refine (in_any _ _ _ _).mono ?_; rintro e w' ⟨rfl, rfl⟩) | (go_at_call 31; refine (diDigit_any _ _).mono ?_; rintro e w' ⟨rfl, rfl⟩))
  go_loopw [6, 7] (fun l h wr => ∃ lo hi : Int, l = .int .i64 lo ∧ h = .int .i64 hi ∧ 1 ≤ lo ∧ lo ≤ hi ∧ hi ≤ 1000000000000 ∧ Hid (c ≤ cw d hi ∧ ∀ x, 1 ≤ x → x < lo → cw d x < c) ∧ Below w.heap.size w wr) (fun l h _ => (intOf h - intOf l).toNat)
  case atStart => exact ⟨1, 1000000000000, rfl, rfl, by omega, by omega, by omega, ⟨by have := cw_top d HD.out; have := HCC.out; omega, fun x a b => by omega⟩, Below.refl _ _⟩
  case round =>
    obtain ⟨lo, hi, rfl, rfl, hlo, hlh, hhi, HK, hb⟩ := hrel
    by_cases hlt : lo < hi
    · obtain ⟨q, hq⟩ : ∃ q, q = (lo + hi) / 2 := ⟨_, rfl⟩
      have hm1 : lo ≤ q := by omega
      have hm2 : q < hi := by omega
      have hr : ((lo + hi) / 2 : Int) = q := hq.symm
      have hq0 : 0 ≤ q := by omega
      have hq9 : q ≤ 1000000000000 := by omega
      clear hq
      by_cases hcq : c ≤ cw d q
      · go_wp2_with (go_at_call 32; refine (diWithout_any q d _ hq0 hq9 HD.out).mono ?_; rintro e w2 ⟨rfl, b2⟩)
        go_roundw
        case rel => exact ⟨lo, q, rfl, rfl, by omega, by omega, by omega, ⟨hcq, HK.out.2⟩, hb.trans (b2.mono hb.size)⟩
        case measure => simp [intOf]; omega
      · go_wp2_with (go_at_call 32; refine (diWithout_any q d _ hq0 hq9 HD.out).mono ?_; rintro e w2 ⟨rfl, b2⟩)
        go_roundw
        case rel => exact ⟨q + 1, hi, rfl, rfl, by omega, by omega, by omega, ⟨HK.out.1, fun x a b => by have := cw_mono HD.out (x := x) (y := q) (by omega) (by omega); omega⟩, hb.trans (b2.mono hb.size)⟩
        case measure => simp [intOf]; omega
    · have HR : Hid (LeastIs (cmB d c) 1 1000000000000 lo true) := .inl ⟨rfl, hlo, by omega, by unfold cmB; rw [decide_eq_true_eq, show lo = hi by omega]; exact HK.out.1, fun x a b => by unfold cmB; rw [decide_eq_false_iff_not]; have := HK.out.2 x a b; omega⟩
      go_wp2
      go_ret2
      first | exact ⟨⟨lo, true, rfl, HR.out⟩, hb⟩ | exact ⟨⟨lo, .inr ⟨rfl, HR.out⟩⟩, hb⟩
theorem FnExactCounterShows_law (c d : Int) (_h0 : (Lit.int .i64 c).wf = true) (_h1 : (Lit.int .i64 d).wf = true) (w : World) (htab : Tab w) :
    Calls Tryd.prog 7 #[.int .i64 c, .int .i64 d] w fun e w' => e = .returned (.bool true) ∧ Below w.heap.size w w' := by
  cases hb : csB c d with
  | true =>
    have HT := Lib.hid (fun W hW => iCs_yes c d W (htab.keep hW) hb)
    clear htab
    go_enter Tryd.func7, Tryd.ntmps7
    go_wp2_with (first | (go_at_call 17; go_must ((with_reducible refine (sCs_yes _ _ _ hb).mono ?_); rintro e w1 ⟨⟨l, a, rfl, hr⟩, b1⟩; have HR := Lib.hid hr; clear hr)) | (go_at_call 18; go_must ((refine (HT.out _ b1).mono ?_); rintro e w2 ⟨⟨q, o, rfl, hq⟩, b2⟩; have e0 := (HR.out.uniq hq).1; have e1 := (HR.out.uniq hq).2; subst e0; subst e1; clear hq)))
    go_ret
    exact ⟨rfl, chain b1 b2⟩
  | false =>
    clear htab
    go_enter Tryd.func7, Tryd.ntmps7
    go_wp2_with (first | (go_at_call 17; go_must ((with_reducible refine (sCs_no _ _ _ hb).mono ?_); rintro e w1 ⟨rfl, b1⟩)) | (go_at_call 18; go_must ((with_reducible refine (iCs_no _ _ _ hb).mono ?_); rintro e w2 ⟨rfl, b2⟩)))
    go_ret
    exact ⟨rfl, chain b1 b2⟩

theorem isShown_zero (b : Int) (w : World) (htab : Tab w) :
    Calls Tryd.prog 37 #[.int .i64 0, .int .i64 b] w fun e w' => e = .returned (.bool false) ∧ Below w.heap.size w w' := by
  obtain ⟨s, hs'⟩ := txt_ex 0
  have HC0 := Lib.hid (countsIn_any 0 s w (by omega) (by omega) hs' htab)
  obtain ⟨f, hf⟩ : ∃ f : Nat → Int, f = fun d => dct d s.data.toList := ⟨_, rfl⟩
  rw [← hf] at HC0
  unfold A10 at HC0
  have mixed : Tryd.prog.follows .mixedOrders = true := by kernel_rfl
  clear htab hf hs'
  go_enter Tryd.func37, Tryd.ntmps37
  go_wp2_with (go_at_call 48; refine HC0.out.mono ?_; rintro e w1 ⟨rfl, b1⟩)
  go_region
  all_goals go_wp2
  all_goals go_ret
  all_goals exact ⟨rfl, by first | exact b1.alloc b1.size _ | exact below_drw (b1.alloc b1.size _) | go_grown⟩
/-- What CountOfCounter answers. -/
def ccB (n d : Int) : Bool := decide (1 ≤ n ∧ n ≤ 1000000000000) && dgtB d && !(hs d n)
def ccA (n d : Int) : Int := if ccB n d = true then cw d n else 0
theorem iCc_any (n d : Int) (w : World) (htab : Tab w) :
    Calls Tryd.prog 20 #[.int .i64 n, .int .i64 d] w fun e w' => e = .returned (.tuple #[.int .i64 (ccA n d), .bool (ccB n d)]) ∧ Below w.heap.size w w' := by
  cases hn : nuB n with
  | false =>
    have hb : ccB n d = false := by
      unfold ccB
      have : decide (1 ≤ n ∧ n ≤ 1000000000000) = false := by
        rw [decide_eq_false_iff_not]; intro h
        have := (nuB_iff n).2 ⟨by omega, h.2⟩
        rw [hn] at this; cases this
      rw [this]; rfl
    have HZ : Hid (0 = ccA n d) := by show _ = _; unfold ccA; rw [if_neg (by simp [hb])]
    rw [hb]
    clear hb htab
    go_enter Tryd.func20, Tryd.ntmps20
    go_wp2_with (first | (go_at_call 23; refine (isWritable_any _ _).mono ?_; rintro e w' ⟨rfl, rfl⟩))
    go_ret2
    exact ⟨ret_ib HZ.out rfl, Below.refl _ _⟩
  | true =>
    obtain ⟨h0, h1⟩ := (nuB_iff n).1 hn
    cases hd : dgtB d with
    | false =>
      have hb : ccB n d = false := by unfold ccB; rw [hd, Bool.and_false]; rfl
      have HZ : Hid (0 = ccA n d) := by show _ = _; unfold ccA; rw [if_neg (by simp [hb])]
      rw [hb]
      clear hb htab
      go_enter Tryd.func20, Tryd.ntmps20
      go_wp2_with (first | (go_at_call 23; refine (isWritable_any _ _).mono ?_; rintro e w' ⟨rfl, rfl⟩) | (go_at_call 33; refine (isDigit_any _ _).mono ?_; rintro e w' ⟨rfl, rfl⟩))
      go_ret2
      exact ⟨ret_ib HZ.out rfl, Below.refl _ _⟩
    | true =>
      have hdd := (dgtB_iff d).1 hd
      by_cases hz : n = 0
      · subst hz
        have hb : ccB 0 d = false := rfl
        have HZ : Hid (0 = ccA 0 d) := by show _ = _; unfold ccA; rw [if_neg (by simp [hb])]
        have HS := Lib.hid (isShown_zero d w htab)
        rw [hb]
        clear hb htab hdd
        go_enter Tryd.func20, Tryd.ntmps20
        go_wp2_with (first | (go_at_call 23; refine (isWritable_any _ _).mono ?_; rintro e w' ⟨rfl, rfl⟩) | (go_at_call 33; refine (isDigit_any _ _).mono ?_; rintro e w' ⟨rfl, rfl⟩) | (go_at_call 37; refine HS.out.mono ?_; rintro e w1 ⟨rfl, b1⟩))
        go_ret2
        exact ⟨ret_ib HZ.out rfl, b1⟩
      · have HS := Lib.hid (isShown_any n d w (by omega) h1 hdd htab)
        cases hh : hs d n with
        | true =>
          have hb : ccB n d = false := by unfold ccB; rw [hh, Bool.not_true, Bool.and_false]
          have HZ : Hid (0 = ccA n d) := by show _ = _; unfold ccA; rw [if_neg (by simp [hb])]
          rw [hh] at HS
          rw [hb]
          clear hb htab hdd
          go_enter Tryd.func20, Tryd.ntmps20
          go_wp2_with (first | (go_at_call 23; refine (isWritable_any _ _).mono ?_; rintro e w' ⟨rfl, rfl⟩) | (go_at_call 33; refine (isDigit_any _ _).mono ?_; rintro e w' ⟨rfl, rfl⟩) | (go_at_call 37; refine HS.out.mono ?_; rintro e w1 ⟨rfl, b1⟩))
          go_ret2
          exact ⟨ret_ib HZ.out rfl, b1⟩
        | false =>
          have hb : ccB n d = true := by unfold ccB; rw [hh, hd, decide_eq_true (show 1 ≤ n ∧ n ≤ 1000000000000 by omega)]; rfl
          have HZ : Hid (cw d n = ccA n d) := by show _ = _; unfold ccA; rw [if_pos hb]
          have HC := Lib.hid (fun W hW => countWithout_any n d W h0 h1 (htab.keep hW))
          rw [hh] at HS
          rw [hb]
          clear hb htab hdd
          go_enter Tryd.func20, Tryd.ntmps20
          go_wp2_with (first | (go_at_call 23; refine (isWritable_any _ _).mono ?_; rintro e w' ⟨rfl, rfl⟩) | (go_at_call 33; refine (isDigit_any _ _).mono ?_; rintro e w' ⟨rfl, rfl⟩) | (go_at_call 37; refine HS.out.mono ?_; rintro e w1 ⟨rfl, b1⟩) | (go_at_call 34; refine (HC.out _ b1).mono ?_; rintro e w2 ⟨rfl, b2⟩))
          go_ret2
          exact ⟨ret_ib HZ.out rfl, chain b1 b2⟩
theorem sCc_any (n d : Int) (w : World) :
    Calls Tryd.prog 19 #[.int .i64 n, .int .i64 d] w fun e w' => e = .returned (.tuple #[.int .i64 (ccA n d), .bool (ccB n d)]) ∧ Below w.heap.size w w' := by
  cases hn : decide (1 ≤ n ∧ n ≤ 1000000000000) with
  | false =>
    have hb : ccB n d = false := by unfold ccB; rw [hn]; rfl
    have HZ : Hid (0 = ccA n d) := by show _ = _; unfold ccA; rw [if_neg (by simp [hb])]
    rw [hb]
    clear hb
    go_enter Tryd.func19, Tryd.ntmps19
    go_wp2_with (first | (go_at_call 26; refine (in_any _ _ _ _).mono ?_; rintro e w' ⟨rfl, rfl⟩))
    go_ret2
    exact ⟨ret_ib HZ.out rfl, Below.refl _ _⟩
  | true =>
    have hnn := of_decide_eq_true hn
    obtain ⟨h0, h1⟩ := hnn
    cases hd : dgtB d with
    | false =>
      have hb : ccB n d = false := by unfold ccB; rw [hd, Bool.and_false]; rfl
      have HZ : Hid (0 = ccA n d) := by show _ = _; unfold ccA; rw [if_neg (by simp [hb])]
      rw [hb]
      clear hb
      go_enter Tryd.func19, Tryd.ntmps19
      go_wp2_with (first | (go_at_call 26; refine (in_any _ _ _ _).mono ?_; rintro e w' ⟨rfl, rfl⟩) | (go_at_call 31; refine (diDigit_any _ _).mono ?_; rintro e w' ⟨rfl, rfl⟩))
      go_ret2
      exact ⟨ret_ib HZ.out rfl, Below.refl _ _⟩
    | true =>
      have hdd := (dgtB_iff d).1 hd
      have hst := cw_step hdd (show 0 ≤ n - 1 by omega)
      rw [show n - 1 + 1 = n by omega] at hst
      have HW1 := Lib.hid (fun W => diWithout_any n d W (by omega) h1 hdd)
      have HW2 := Lib.hid (fun W => diWithout_any (n - 1) d W (by omega) (by omega) hdd)
      cases hh : hs d n with
      | true =>
        have hb : ccB n d = false := by unfold ccB; rw [hh, Bool.not_true, Bool.and_false]
        have HZ : Hid (0 = ccA n d) := by show _ = _; unfold ccA; rw [if_neg (by simp [hb])]
        rw [hh, if_pos rfl, Int.add_zero] at hst
        rw [hst] at HW1
        obtain ⟨x, hx⟩ : ∃ x, cw d (n - 1) = x := ⟨_, rfl⟩
        rw [hx] at HW1 HW2
        rw [hb]
        clear hb hdd hst hx
        go_enter Tryd.func19, Tryd.ntmps19
        go_wp2_with (first | (go_at_call 26; refine (in_any _ _ _ _).mono ?_; rintro e w' ⟨rfl, rfl⟩) | (go_at_call 31; refine (diDigit_any _ _).mono ?_; rintro e w' ⟨rfl, rfl⟩) | (go_at_call 32; first | ((with_reducible refine (HW1.out _).mono ?_); rintro e w1 ⟨rfl, b1⟩) | ((with_reducible refine (HW2.out _).mono ?_); rintro e w2 ⟨rfl, b2⟩)))
        go_ret2
        exact ⟨ret_ib HZ.out rfl, chain b1 b2⟩
      | false =>
        have hb : ccB n d = true := by unfold ccB; rw [hh, hd, hn]; rfl
        have HZ : Hid (cw d n = ccA n d) := by show _ = _; unfold ccA; rw [if_pos hb]
        rw [hh, if_neg (by decide)] at hst
        obtain ⟨x, hx⟩ : ∃ x, cw d (n - 1) = x := ⟨_, rfl⟩
        obtain ⟨y, hy⟩ : ∃ y, cw d n = y := ⟨_, rfl⟩
        have hq : (y == x) = false := by rw [← hx, ← hy, hst]; simp; omega
        rw [hy] at HW1 HZ
        rw [hx] at HW2
        rw [hb]
        clear hb hdd hst hx hy
        go_enter Tryd.func19, Tryd.ntmps19
        go_wp2_with (first | (go_at_call 26; refine (in_any _ _ _ _).mono ?_; rintro e w' ⟨rfl, rfl⟩) | (go_at_call 31; refine (diDigit_any _ _).mono ?_; rintro e w' ⟨rfl, rfl⟩) | (go_at_call 32; first | ((with_reducible refine (HW2.out _).mono ?_); rintro e w2 ⟨rfl, b2⟩; have B2 := chain (w := w) b1 b2) | ((with_reducible refine (HW1.out _).mono ?_); rintro e w1 ⟨rfl, b1⟩)))
        go_ret2
        exact ⟨ret_ib HZ.out rfl, chain B2 b1⟩
theorem FnExactCountOfCounter_law (n d : Int) (_h0 : (Lit.int .i64 n).wf = true) (_h1 : (Lit.int .i64 d).wf = true) (w : World) (htab : Tab w) :
    Calls Tryd.prog 8 #[.int .i64 n, .int .i64 d] w fun e w' => e = .returned (.bool true) ∧ Below w.heap.size w w' := by
  have HT := Lib.hid (fun W hW => iCc_any n d W (htab.keep hW))
  clear htab
  go_enter Tryd.func8, Tryd.ntmps8
  go_wp2_with (first | (go_at_call 19; go_must ((with_reducible refine (sCc_any _ _ _).mono ?_); rintro e w1 ⟨rfl, b1⟩)) | (go_at_call 20; go_must ((refine (HT.out _ b1).mono ?_); rintro e w2 ⟨rfl, b2⟩)))
  go_ret
  exact ⟨rfl, chain b1 b2⟩
end Go.Proofs.YtdgdjgefjhkpbabDoor
