/-
  The laws of CountDigit, LeastForCount and SumOfDigitsUpTo.
-/
import Derived.Test.YtdgdjgefjhkpbaaDiLaw
namespace Go.Proofs.Ytdgdjgefjhkpbaa
open Go.RowKit

/-- What CountDigit answers. -/
def cdB (n d : Int) : Bool := nuB n && dgtB d
def cdA (n d : Int) : Int := if cdB n d = true then cn d n else 0
theorem A10_idxI (f : Nat → Int) {d : Int} (h : 0 ≤ d ∧ d ≤ 9) (w : World) : (Instr.index 42 (.agg (A10 f)) (.int .i64 d)).run Try.prog w = .ok (.int .i64 (f d.toNat)) w := by
  have := A10_idx f (k := d.toNat) (by omega) w
  rwa [show ((d.toNat : Nat) : Int) = d by omega] at this
theorem iCd_any (n d : Int) (w : World) :
    Calls Try.prog 17 #[.int .i64 n, .int .i64 d] w fun e w' => e = .returned (.tuple #[.int .i64 (cdA n d), .bool (cdB n d)]) ∧ Below w.heap.size w w' := by
  cases hn : nuB n with
  | true =>
    cases hd : dgtB d with
    | true =>
      obtain ⟨h0, h1⟩ := (nuB_iff n).1 hn
      have hdd := (dgtB_iff d).1 hd
      have hb : cdB n d = true := by unfold cdB; rw [hn, hd]; rfl
      have HZ : Hid (cn d n = cdA n d) := by show _ = _; unfold cdA; rw [if_pos hb]
      rw [hb]
      clear hb
      obtain ⟨C, hC⟩ : ∃ C, C = A10 fun d => cn d n := ⟨_, rfl⟩
      have hix : ∀ W, (Instr.index 42 (.agg C) (.int .i64 d)).run Try.prog W = .ok (.int .i64 (cn d n)) W := fun W => by
        rw [hC, A10_idxI _ hdd W, show ((d.toNat : Nat) : Int) = d by omega]
      have HC : Hid (∀ W, Calls Try.prog 40 #[.int .i64 n] W fun e w' => e = .returned (.agg C) ∧ Below W.heap.size W w') := fun W => by rw [hC]; exact countsUpTo_any n W h0 h1
      clear hC hdd
      go_enter Try.func17, Try.ntmps17
      go_wp2_with (first | (go_at_call 32; refine (isWritable_any _ _).mono ?_; rintro e w' ⟨rfl, rfl⟩) | (go_at_call 39; refine (isDigit_any _ _).mono ?_; rintro e w' ⟨rfl, rfl⟩) | (go_at_call 40; refine (HC.out _).mono ?_; rintro e w1 ⟨rfl, b1⟩))
      go_ret2
      exact ⟨ret_ib HZ.out rfl, b1⟩
    | false =>
      have hb : cdB n d = false := by unfold cdB; rw [hn, hd]; rfl
      have HZ : Hid (0 = cdA n d) := by show _ = _; unfold cdA; rw [if_neg (by simp [hb])]
      rw [hb]
      clear hb
      go_enter Try.func17, Try.ntmps17
      go_wp2_with (first | (go_at_call 32; refine (isWritable_any _ _).mono ?_; rintro e w' ⟨rfl, rfl⟩) | (go_at_call 39; refine (isDigit_any _ _).mono ?_; rintro e w' ⟨rfl, rfl⟩))
      go_ret2
      exact ⟨ret_ib HZ.out rfl, Below.refl _ _⟩
  | false =>
    have hb : cdB n d = false := by unfold cdB; rw [hn]; rfl
    have HZ : Hid (0 = cdA n d) := by show _ = _; unfold cdA; rw [if_neg (by simp [hb])]
    rw [hb]
    clear hb
    go_enter Try.func17, Try.ntmps17
    go_wp2_with (first | (go_at_call 32; refine (isWritable_any _ _).mono ?_; rintro e w' ⟨rfl, rfl⟩))
    go_ret2
    exact ⟨ret_ib HZ.out rfl, Below.refl _ _⟩
theorem sCd_any (n d : Int) (w : World) :
    Calls Try.prog 16 #[.int .i64 n, .int .i64 d] w fun e w' => e = .returned (.tuple #[.int .i64 (cdA n d), .bool (cdB n d)]) ∧ Below w.heap.size w w' := by
  cases hn : nuB n with
  | true =>
    cases hd : dgtB d with
    | true =>
      obtain ⟨h0, h1⟩ := (nuB_iff n).1 hn
      have hdd := Lib.hid ((dgtB_iff d).1 hd)
      have hb : cdB n d = true := by unfold cdB; rw [hn, hd]; rfl
      have HZ : Hid (cn d n = cdA n d) := by show _ = _; unfold cdA; rw [if_pos hb]
      rw [hb]
      clear hb
      go_enter Try.func16, Try.ntmps16
      go_wp2_with (first | (go_at_call 27; refine (diGood_any _ _).mono ?_; rintro e w' ⟨rfl, rfl⟩) | (go_at_call 37; refine (diDigit_any _ _).mono ?_; rintro e w' ⟨rfl, rfl⟩) | (go_at_call 38; refine (diCount_any n d _ h0 h1 hdd.out).mono ?_; rintro e w1 ⟨rfl, b1⟩))
      go_ret2
      exact ⟨ret_ib HZ.out rfl, b1⟩
    | false =>
      have hb : cdB n d = false := by unfold cdB; rw [hn, hd]; rfl
      have HZ : Hid (0 = cdA n d) := by show _ = _; unfold cdA; rw [if_neg (by simp [hb])]
      rw [hb]
      clear hb
      go_enter Try.func16, Try.ntmps16
      go_wp2_with (first | (go_at_call 27; refine (diGood_any _ _).mono ?_; rintro e w' ⟨rfl, rfl⟩) | (go_at_call 37; refine (diDigit_any _ _).mono ?_; rintro e w' ⟨rfl, rfl⟩))
      go_ret2
      exact ⟨ret_ib HZ.out rfl, Below.refl _ _⟩
  | false =>
    have hb : cdB n d = false := by unfold cdB; rw [hn]; rfl
    have HZ : Hid (0 = cdA n d) := by show _ = _; unfold cdA; rw [if_neg (by simp [hb])]
    rw [hb]
    clear hb
    go_enter Try.func16, Try.ntmps16
    go_wp2_with (first | (go_at_call 27; refine (diGood_any _ _).mono ?_; rintro e w' ⟨rfl, rfl⟩))
    go_ret2
    exact ⟨ret_ib HZ.out rfl, Below.refl _ _⟩
theorem FnExactCountDigit_law (n d : Int) (_h0 : (Lit.int .i64 n).wf = true) (_h1 : (Lit.int .i64 d).wf = true) (w : World) :
    Calls Try.prog 6 #[.int .i64 n, .int .i64 d] w fun e w' => e = .returned (.bool true) ∧ Below w.heap.size w w' := by
  go_enter Try.func6, Try.ntmps6
  go_wp2_with (first | (go_at_call 16; go_must ((with_reducible refine (sCd_any _ _ _).mono ?_); rintro e w1 ⟨rfl, b1⟩)) | (go_at_call 17; go_must ((with_reducible refine (iCd_any _ _ _).mono ?_); rintro e w2 ⟨rfl, b2⟩)))
  go_ret
  exact ⟨rfl, chain b1 b2⟩

/-- Is a digit written so often? -/
def oftB (d m n : Int) : Bool := decide (m ≤ cn d n)
theorem lfcC_any (d m n : Int) (bd bm : Nat) (w : World) (hd : 0 ≤ d ∧ d ≤ 9) (F0 : Blk w bd #[.int .i64 d] 3) (F1 : Blk w bm #[.int .i64 m] 3) (h0 : 0 ≤ n) (h1 : n ≤ 1000000000000) :
    Calls Try.prog 41 #[.int .i64 n, .pointer (some ⟨bd, 0, none⟩), .pointer (some ⟨bm, 0, none⟩)] w fun e w' => e = .returned (.bool (oftB d m n)) ∧ Below w.heap.size w w' := by
  obtain ⟨C, hC⟩ : ∃ C, C = A10 fun d => cn d n := ⟨_, rfl⟩
  have hix : ∀ W, (Instr.index 42 (.agg C) (.int .i64 d)).run Try.prog W = .ok (.int .i64 (cn d n)) W := fun W => by
    rw [hC, A10_idxI _ hd W, show ((d.toNat : Nat) : Int) = d by omega]
  have HC : Hid (∀ W, Calls Try.prog 40 #[.int .i64 n] W fun e w' => e = .returned (.agg C) ∧ Below W.heap.size W w') := fun W => by rw [hC]; exact countsUpTo_any n W h0 h1
  have HZ : Hid (oftB d m n = decide (cn d n ≥ m)) := rfl
  have HF0 := Lib.hid F0
  have HF1 := Lib.hid F1
  have c0 := F0.cell 0
  have c1 := F1.cell 0
  simp at c0 c1
  clear hC hd F0 F1
  go_enter Try.func41, Try.ntmps41
  go_wp2
  go_region_with (go_at_call 40; (refine (HC.out _).mono ?_); rintro e w1 ⟨rfl, b1⟩; have B1 : Below w.heap.size w w1 := chain (w := w) (by go_grown) b1; have e0 := (HF0.out.keep B1).cell 0; have e1 := (HF1.out.keep B1).cell 0; simp at e0 e1)
  all_goals go_wp2
  all_goals go_ret
  all_goals exact ⟨ret_bool (by rw [HZ.out]), by go_grown⟩
/-- What LeastForCount answers. -/
def lfcB (d m : Int) : Bool := dgtB d && decide (1 ≤ m ∧ m ≤ 1000000000000)
theorem lfcL_any (d m : Int) (bd bm : Nat) (w X : World) (hd : 0 ≤ d ∧ d ≤ 9) (F0 : Blk X bd #[.int .i64 d] 3) (F1 : Blk X bm #[.int .i64 m] 3) (hX : Below w.heap.size w X) :
    Calls Try.prog 33 #[.int .i64 1, .int .i64 1000000000000, .func (.func 41) #[] #[.pointer (some ⟨bd, 0, none⟩), .pointer (some ⟨bm, 0, none⟩)]] X fun e w' => (∃ (h : Int) (ok : Bool), e = .returned (.tuple #[.int .i64 h, .bool ok]) ∧ LeastIs (oftB d m) 1 1000000000000 h ok) ∧ Below w.heap.size w w' := by
  refine (leastIn_any 1 1000000000000 41 _ (oftB d m) X (by omega) (by omega) (by omega) (enters_of Try.func41 (by kernel_rfl) rfl) ?_ ?_).mono ?_
  · intro h W hx hy hW
    exact lfcC_any d m h bd bm W hd (F0.keep hW) (F1.keep hW) (by omega) hy
  · intro x y hx hxy hy h
    unfold oftB at *
    simp only [decide_eq_true_eq] at *
    have := cn_mono (d := d) hd (a := x) (b := y) (by omega) hxy
    omega
  rintro e w1 ⟨h, b1⟩
  exact ⟨h, hX.trans (b1.mono hX.size)⟩
theorem iLfc_yes (d m : Int) (w : World) (hb : lfcB d m = true) :
    Calls Try.prog 24 #[.int .i64 d, .int .i64 m] w fun e w' => (∃ (h : Int) (ok : Bool), e = .returned (.tuple #[.int .i64 h, .bool ok]) ∧ LeastIs (oftB d m) 1 1000000000000 h ok) ∧ Below w.heap.size w w' := by
  unfold lfcB at hb
  simp only [Bool.and_eq_true, decide_eq_true_eq] at hb
  obtain ⟨hd, h1, h2⟩ := hb
  have hdd := (dgtB_iff d).1 hd
  have hn : nuB m = true := (nuB_iff m).2 ⟨by omega, h2⟩
  have hz : (m == 0) = false := by simp; omega
  have HL := Lib.hid (fun bd bm X F0 F1 hX => lfcL_any d m bd bm w X hdd F0 F1 hX)
  clear hdd
  go_enter Try.func24, Try.ntmps24
  have F0 := (Blk.new w #[.int .i64 d] 3).alloc (.cells #[.int .i64 m] 3)
  have F1 := Blk.new (w.alloc (.cells #[.int .i64 d] 3)) #[.int .i64 m] 3
  simp only [World.size_alloc] at F1
  have HF0 := Lib.hid F0
  have HF1 := Lib.hid F1
  clear F0 F1
  go_wp2_with (first | (go_at_call 32; refine (isWritable_any _ _).mono ?_; rintro e w' ⟨rfl, rfl⟩) | (go_at_call 39; refine (isDigit_any _ _).mono ?_; rintro e w' ⟨rfl, rfl⟩) | (go_at_call 33; go_must (refine (HL.out _ _ _ HF0.out HF1.out (by go_grown)).mono ?_; rintro e w1 ⟨⟨h, ok, rfl, hl⟩, b1⟩; have HL2 := Lib.hid hl; clear hl)))
  go_ret2
  exact ⟨⟨h, ok, rfl, HL2.out⟩, b1⟩
theorem iLfc_no (d m : Int) (w : World) (hb : lfcB d m = false) :
    Calls Try.prog 24 #[.int .i64 d, .int .i64 m] w fun e w' => e = .returned (.tuple #[.int .i64 0, .bool false]) ∧ Below w.heap.size w w' := by
  cases hd : dgtB d with
  | true =>
    cases hn : nuB m with
    | true =>
      have hz : (m == 0) = true := by
        unfold lfcB at hb
        rw [hd, Bool.true_and, decide_eq_false_iff_not] at hb
        have := (nuB_iff m).1 hn
        simp; omega
      clear hb
      go_enter Try.func24, Try.ntmps24
      go_wp2_with (first | (go_at_call 32; refine (isWritable_any _ _).mono ?_; rintro e w' ⟨rfl, rfl⟩) | (go_at_call 39; refine (isDigit_any _ _).mono ?_; rintro e w' ⟨rfl, rfl⟩))
      go_ret2
      exact ⟨rfl, by go_grown⟩
    | false =>
      clear hb
      go_enter Try.func24, Try.ntmps24
      go_wp2_with (first | (go_at_call 32; refine (isWritable_any _ _).mono ?_; rintro e w' ⟨rfl, rfl⟩) | (go_at_call 39; refine (isDigit_any _ _).mono ?_; rintro e w' ⟨rfl, rfl⟩))
      go_ret2
      exact ⟨rfl, by go_grown⟩
  | false =>
    clear hb
    go_enter Try.func24, Try.ntmps24
    go_wp2_with (first | (go_at_call 39; refine (isDigit_any _ _).mono ?_; rintro e w' ⟨rfl, rfl⟩))
    go_ret2
    exact ⟨rfl, by go_grown⟩
theorem sLfc_no (d m : Int) (w : World) (hb : lfcB d m = false) :
    Calls Try.prog 23 #[.int .i64 d, .int .i64 m] w fun e w' => e = .returned (.tuple #[.int .i64 0, .bool false]) ∧ Below w.heap.size w w' := by
  cases hd : dgtB d with
  | true =>
    have hz : decide (1 ≤ m ∧ m ≤ 1000000000000) = false := by
      unfold lfcB at hb
      rwa [hd, Bool.true_and] at hb
    clear hb
    go_enter Try.func23, Try.ntmps23
    go_wp2_with (first | (go_at_call 37; refine (diDigit_any _ _).mono ?_; rintro e w' ⟨rfl, rfl⟩) | (go_at_call 35; refine (in_any _ _ _ _).mono ?_; rintro e w' ⟨rfl, rfl⟩))
    go_ret2
    exact ⟨rfl, by go_grown⟩
  | false =>
    clear hb
    go_enter Try.func23, Try.ntmps23
    go_wp2_with (first | (go_at_call 37; refine (diDigit_any _ _).mono ?_; rintro e w' ⟨rfl, rfl⟩))
    go_ret2
    exact ⟨rfl, by go_grown⟩
set_option maxHeartbeats 1000000 in
theorem sLfc_yes (d m : Int) (w : World) (hb : lfcB d m = true) :
    Calls Try.prog 23 #[.int .i64 d, .int .i64 m] w fun e w' => (∃ (h : Int) (ok : Bool), e = .returned (.tuple #[.int .i64 h, .bool ok]) ∧ LeastIs (oftB d m) 1 1000000000000 h ok) ∧ Below w.heap.size w w' := by
  unfold lfcB at hb
  simp only [Bool.and_eq_true, decide_eq_true_eq] at hb
  obtain ⟨hd, h1, h2⟩ := hb
  have HD := Lib.hid ((dgtB_iff d).1 hd)
  have hdc : decide (1 ≤ m ∧ m ≤ 1000000000000) = true := by simp; omega
  by_cases hc : cn d 1000000000000 < m
  · have HR : Hid (LeastIs (oftB d m) 1 1000000000000 0 false) := .inr ⟨rfl, rfl, fun x hx1 hx2 => by
      have := cn_mono HD.out (a := x) (b := 1000000000000) (by omega) hx2
      unfold oftB
      rw [decide_eq_false_iff_not]; omega⟩
    go_enter Try.func23, Try.ntmps23
    go_wp2_with (first | (go_at_call 37; refine (diDigit_any _ _).mono ?_; rintro e w' ⟨rfl, rfl⟩) | (go_at_call 35; refine (in_any _ _ _ _).mono ?_; rintro e w' ⟨rfl, rfl⟩) | (go_at_call 38; refine (diCount_any 1000000000000 d _ (by omega) (by omega) HD.out).mono ?_; rintro e w1 ⟨rfl, b1⟩))
    go_ret2
    exact ⟨⟨0, false, rfl, HR.out⟩, b1⟩
  · go_enter Try.func23, Try.ntmps23
    go_wp2_with (first | (go_at_call 37; refine (diDigit_any _ _).mono ?_; rintro e w' ⟨rfl, rfl⟩) | (go_at_call 35; refine (in_any _ _ _ _).mono ?_; rintro e w' ⟨rfl, rfl⟩) | (go_at_call 38; refine (diCount_any 1000000000000 d _ (by omega) (by omega) HD.out).mono ?_; rintro e w1 ⟨rfl, b1⟩))
    have HCC := Lib.hid hc
    clear hc
    go_loopw [6, 7] (fun l h wr => ∃ lo hi : Int, l = .int .i64 lo ∧ h = .int .i64 hi ∧ 1 ≤ lo ∧ lo ≤ hi ∧ hi ≤ 1000000000000 ∧ Hid (m ≤ cn d hi ∧ ∀ x, 1 ≤ x → x < lo → cn d x < m) ∧ Below w.heap.size w wr) (fun l h _ => (intOf h - intOf l).toNat)
    case atStart => exact ⟨1, 1000000000000, rfl, rfl, by omega, by omega, by omega, ⟨by have := HCC.out; omega, fun x a b => by omega⟩, b1⟩
    case round =>
      obtain ⟨lo, hi, rfl, rfl, hlo, hlh, hhi, HK, hb⟩ := hrel
      by_cases hlt : lo < hi
      · obtain ⟨q, hq⟩ : ∃ q, q = (lo + hi) / 2 := ⟨_, rfl⟩
        have hm1 : lo ≤ q := by omega
        have hm2 : q < hi := by omega
        have hr : ((lo + hi) / 2 : Int) = q := hq.symm
        have hq0 : 0 ≤ q := by omega
        have hq9 : q ≤ 1000000000000 := by omega
        clear hq
        by_cases hc : m ≤ cn d q
        · go_wp2_with (go_at_call 38; refine (diCount_any q d _ hq0 hq9 HD.out).mono ?_; rintro e w2 ⟨rfl, b2⟩)
          go_roundw
          case rel => exact ⟨lo, q, rfl, rfl, by omega, by omega, by omega, ⟨hc, HK.out.2⟩, hb.trans (b2.mono hb.size)⟩
          case measure => simp [intOf]; omega
        · go_wp2_with (go_at_call 38; refine (diCount_any q d _ hq0 hq9 HD.out).mono ?_; rintro e w2 ⟨rfl, b2⟩)
          go_roundw
          case rel => exact ⟨q + 1, hi, rfl, rfl, by omega, by omega, by omega, ⟨HK.out.1, fun x a b => by have := cn_mono HD.out (a := x) (b := q) (by omega) (by omega); omega⟩, hb.trans (b2.mono hb.size)⟩
          case measure => simp [intOf]; omega
      · have HR : Hid (LeastIs (oftB d m) 1 1000000000000 lo true) := .inl ⟨rfl, hlo, by omega, by unfold oftB; rw [decide_eq_true_eq, show lo = hi by omega]; exact HK.out.1, fun x a b => by unfold oftB; rw [decide_eq_false_iff_not]; have := HK.out.2 x a b; omega⟩
        go_wp2
        go_ret2
        first | exact ⟨⟨lo, true, rfl, HR.out⟩, hb⟩ | exact ⟨⟨lo, .inr ⟨rfl, HR.out⟩⟩, hb⟩
theorem FnExactLeastForCount_law (d m : Int) (_h0 : (Lit.int .i64 d).wf = true) (_h1 : (Lit.int .i64 m).wf = true) (w : World) :
    Calls Try.prog 8 #[.int .i64 d, .int .i64 m] w fun e w' => e = .returned (.bool true) ∧ Below w.heap.size w w' := by
  cases hb : lfcB d m with
  | true =>
    go_enter Try.func8, Try.ntmps8
    go_wp2_with (first | (go_at_call 23; go_must ((with_reducible refine (sLfc_yes _ _ _ hb).mono ?_); rintro e w1 ⟨⟨l, a, rfl, hr⟩, b1⟩; have HR := Lib.hid hr; clear hr)) | (go_at_call 24; go_must ((with_reducible refine (iLfc_yes _ _ _ hb).mono ?_); rintro e w2 ⟨⟨q, c, rfl, hq⟩, b2⟩; have e0 := (HR.out.uniq hq).1; have e1 := (HR.out.uniq hq).2; subst e0; subst e1; clear hq)))
    go_ret
    exact ⟨rfl, chain b1 b2⟩
  | false =>
    go_enter Try.func8, Try.ntmps8
    go_wp2_with (first | (go_at_call 23; go_must ((with_reducible refine (sLfc_no _ _ _ hb).mono ?_); rintro e w1 ⟨rfl, b1⟩)) | (go_at_call 24; go_must ((with_reducible refine (iLfc_no _ _ _ hb).mono ?_); rintro e w2 ⟨rfl, b2⟩)))
    go_ret
    exact ⟨rfl, chain b1 b2⟩

/-- What SumOfDigitsUpTo answers. -/
def sdA (n : Int) : Int := if nuB n = true then dsm (fun d => cn d n) 10 else 0
theorem sudC_any (n : Int) (w : World) (h0 : 0 ≤ n) (h1 : n ≤ 1000000000000) :
    Calls Try.prog 42 #[.int .i64 n] w fun e w' => e = .returned (.int .i64 (dsm (fun d => cn d n) 10)) ∧ Below w.heap.size w w' := by
  obtain ⟨C, hC⟩ : ∃ C, C = A10 fun d => cn d n := ⟨_, rfl⟩
  have HC : Hid (∀ W, Calls Try.prog 40 #[.int .i64 n] W fun e w' => e = .returned (.agg C) ∧ Below W.heap.size W w') := fun W => by rw [hC]; exact countsUpTo_any n W h0 h1
  have HS : Hid (∀ W, Calls Try.prog 43 #[.agg C] W fun e w' => e = .returned (.int .i64 (dsm (fun d => cn d n) 10)) ∧ Below W.heap.size W w') := fun W => by
    rw [hC]; exact sum10_any (fun d => cn d n) 13000000000000 W (by omega) (fun i hi => cn_bd h0 h1 ⟨by omega, by omega⟩)
  obtain ⟨x, hx⟩ : ∃ x, dsm (fun d => cn d n) 10 = x := ⟨_, rfl⟩
  rw [hx] at HS ⊢
  clear hC hx
  go_enter Try.func42, Try.ntmps42
  go_wp2_with (first | (go_at_call 40; refine (HC.out _).mono ?_; rintro e w1 ⟨rfl, b1⟩) | (go_at_call 43; refine (HS.out _).mono ?_; rintro e w2 ⟨rfl, b2⟩))
  go_ret
  exact ⟨rfl, chain b1 b2⟩
theorem iSud_any (n : Int) (w : World) :
    Calls Try.prog 26 #[.int .i64 n] w fun e w' => e = .returned (.tuple #[.int .i64 (sdA n), .bool (nuB n)]) ∧ Below w.heap.size w w' := by
  cases h : nuB n with
  | true =>
    obtain ⟨h0, h1⟩ := (nuB_iff n).1 h
    have HZ : Hid (dsm (fun d => cn d n) 10 = sdA n) := by show _ = _; unfold sdA; rw [if_pos h]
    have HF := Lib.hid (ofW_yes n _ 42 #[] w h (enters_of Try.func42 (by kernel_rfl) rfl) (sudC_any n w h0 h1))
    go_enter Try.func26, Try.ntmps26
    go_wp2_with (go_at_call 29; refine HF.out.mono ?_; rintro e w1 ⟨rfl, b1⟩)
    go_ret2
    exact ⟨ret_ib HZ.out rfl, b1⟩
  | false =>
    have HZ : Hid (0 = sdA n) := by show _ = _; unfold sdA; rw [if_neg (by simp [h])]
    go_enter Try.func26, Try.ntmps26
    go_wp2_with (go_at_call 29; refine (ofW_no n _ w h).mono ?_; rintro e w1 ⟨rfl, b1⟩)
    go_ret2
    exact ⟨ret_ib HZ.out rfl, b1⟩
theorem sSud_any (n : Int) (w : World) :
    Calls Try.prog 25 #[.int .i64 n] w fun e w' => e = .returned (.tuple #[.int .i64 (sdA n), .bool (nuB n)]) ∧ Below w.heap.size w w' := by
  cases h : nuB n with
  | true =>
    obtain ⟨h0, h1⟩ := (nuB_iff n).1 h
    have HZ : Hid (dsm (fun d => cn d n) 10 = sdA n) := by show _ = _; unfold sdA; rw [if_pos h]
    have HB : Hid (∀ k : Nat, k ≤ 10 → 0 ≤ dsm (fun d => cn d n) k ∧ dsm (fun d => cn d n) k ≤ 10 * ((k : Int) * 13000000000000)) := fun k hk => dsm_bd (f := fun d => cn d n) (M := 13000000000000) (fun i hi => cn_bd h0 h1 ⟨by omega, by omega⟩) hk
    go_enter Try.func25, Try.ntmps25
    go_wp2_with (go_at_call 27; refine (diGood_any _ _).mono ?_; rintro e w' ⟨rfl, rfl⟩)
    go_loopw [4, 5] (fun s kv wr => ∃ (k : Nat) (S : Int), 1 ≤ k ∧ k ≤ 10 ∧ kv = .int .i64 k ∧ s = .int .i64 S ∧ Hid (S = dsm (fun d => cn d n) k) ∧ Below w.heap.size w wr) (fun _ kv _ => 10 - (intOf kv).toNat)
    case atStart => exact ⟨1, 0, by omega, by omega, rfl, rfl, by show _ = _; simp [dsm], Below.refl _ _⟩
    case round =>
      obtain ⟨k, S, hk1, hk, rfl, rfl, HS, hb⟩ := hrel
      have hSb := HB.out k hk
      rw [← HS.out] at hSb
      obtain ⟨hS0, hS1⟩ := hSb
      by_cases hlt : k < 10
      · have HS' : Hid (S + (k : Int) * cn (k : Int) n = dsm (fun d => cn d n) (k + 1)) := by show _ = _; rw [dsm, HS.out]
        have HC := Lib.hid (fun W => diCount_any n (k : Int) W h0 h1 ⟨by omega, by omega⟩)
        have hfb := cn_bd (d := (k : Int)) h0 h1 ⟨by omega, by omega⟩
        obtain ⟨x, hx⟩ : ∃ x, cn (k : Int) n = x := ⟨_, rfl⟩
        rw [hx] at HC hfb HS'
        obtain ⟨hx0, hx1⟩ := hfb
        have hp : 0 ≤ (k : Int) * x ∧ (k : Int) * x ≤ 10 * 13000000000000 := ⟨Int.mul_nonneg (by omega) hx0, Int.mul_le_mul (by omega) (by omega) hx0 (by omega)⟩
        obtain ⟨hp0, hp1⟩ := hp
        have hS2 : S ≤ 1300000000000000 := by omega
        clear hx hS1
        go_wp2_with (go_at_call 38; refine (HC.out _).mono ?_; rintro e w2 ⟨rfl, b2⟩)
        go_roundw
        case rel => exact ⟨k + 1, _, by omega, by omega, by go_num, rfl, HS', hb.trans (b2.mono hb.size)⟩
        case measure => simp [intOf]; omega
      · go_wp2
        go_ret2
        exact ⟨ret_ib (by rw [HS.out, show k = 10 by omega]; exact HZ.out) rfl, hb⟩
  | false =>
    have HZ : Hid (0 = sdA n) := by show _ = _; unfold sdA; rw [if_neg (by simp [h])]
    go_enter Try.func25, Try.ntmps25
    go_wp2_with (go_at_call 27; refine (diGood_any _ _).mono ?_; rintro e w' ⟨rfl, rfl⟩)
    go_ret2
    exact ⟨ret_ib HZ.out rfl, Below.refl _ _⟩
theorem FnExactSumOfDigitsUpTo_law (n : Int) (_h0 : (Lit.int .i64 n).wf = true) (w : World) :
    Calls Try.prog 9 #[.int .i64 n] w fun e w' => e = .returned (.bool true) ∧ Below w.heap.size w w' := by
  go_enter Try.func9, Try.ntmps9
  go_wp2_with (first | (go_at_call 25; go_must ((with_reducible refine (sSud_any _ _).mono ?_); rintro e w1 ⟨rfl, b1⟩)) | (go_at_call 26; go_must ((with_reducible refine (iSud_any _ _).mono ?_); rintro e w2 ⟨rfl, b2⟩)))
  go_ret
  exact ⟨rfl, chain b1 b2⟩
end Go.Proofs.Ytdgdjgefjhkpbaa
